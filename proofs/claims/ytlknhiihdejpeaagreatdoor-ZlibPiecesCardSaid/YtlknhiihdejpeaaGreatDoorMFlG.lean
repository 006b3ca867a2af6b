/-
  Package inflate, all streams: the lengths of the code in which a dynamic block's lengths are said.
-/
import Derived.Test.YtlknhiihdejpeaaGreatDoorMZlX
namespace Go.Proofs.YtlknhiihdejpeaaGreatDoor
open Go Go.RowKit

theorem Holds.cells {w : World} {g o : Nat} {l : List UInt8} (hg : g < w.heap.size) (h : ∀ i, (hi : i < l.length) → w.cell? ⟨g, o + i, none⟩ = some (.int .u8 (l[i].toNat : Int))) : Holds w 1 (some ⟨g, o, none⟩) l.length (bvals l) := by
  refine ⟨by rw [bvals_length, Nat.mul_one], fun _ => ⟨_, rfl, hg, fun j u hu => ?_⟩⟩
  rw [add_none]
  by_cases hj : j < l.length
  · rw [bvals_get l j hj] at hu
    rw [h j hj]
    exact hu
  · rw [List.getElem?_eq_none (by rw [bvals_length]; omega)] at hu
    cases hu

/-- So many lengths of the code of lengths have come. -/
def ordS (s : GSt) (A : List UInt8) (n p : Nat) : GSt := { s with own := A, nOwn := n, p := p }
theorem ordS_self (s : GSt) : ordS s s.own s.nOwn s.p = s := rfl
theorem rankN_lt : ∀ n, n < 19 → rankN.getD n 0 < 19 := by decide

theorem Hd.set_own {w : World} {hd : Nat → Value} {s : GSt} {A : List UInt8} {n p r p' : Nat} {b : UInt8} (h : Hd w hd (ordS s A n p)) (hr : r < 19) (hA : A.length = 19) :
    Hd w (fun j => if j = 33 then .int .i64 ((n + 1 : Nat) : Int) else if j = 14 + r then .int .u8 (b.toNat : Int) else hd j) (ordS s (A.set r b) (n + 1) p') ∨ 5 ≤ s.k := by
  by_cases hk : 5 ≤ s.k
  · exact .inr hk
  refine .inl ⟨?_, ?_, ?_, fun i hi => ?_, rfl, fun h5 => absurd h5 hk, fun h6 => absurd (show s.k = 6 from h6) (by omega), fun i hi => ?_, ?_⟩
  · show (if 11 = 33 then _ else if 11 = 14 + r then _ else hd 11) = _
    rw [if_neg (by decide), if_neg (by omega)]; exact h.nl
  · show (if 12 = 33 then _ else if 12 = 14 + r then _ else hd 12) = _
    rw [if_neg (by decide), if_neg (by omega)]; exact h.nd
  · show (if 13 = 33 then _ else if 13 = 14 + r then _ else hd 13) = _
    rw [if_neg (by decide), if_neg (by omega)]; exact h.no
  · have hi2 : i < (A.set r b).length := hi
    rw [List.length_set] at hi2
    have e : (A.set r b)[i]'hi = if r = i then b else A[i] := List.getElem_set ..
    show (if 14 + i = 33 then _ else if 14 + i = 14 + r then _ else hd (14 + i)) = .int .u8 (((A.set r b)[i]'hi).toNat : Int)
    rw [if_neg (by omega), e]
    by_cases hir : r = i
    · rw [if_pos (by omega), if_pos hir]
    · rw [if_neg (by omega), if_neg hir]
      exact h.own i hi2
  · have hi2 : i < s.lens.length := hi
    by_cases h33 : 36 + i = 33
    · omega
    · show (if 36 + i = 33 then _ else if 36 + i = 14 + r then _ else hd (36 + i)) = _
      rw [if_neg h33, if_neg (by omega)]
      exact h.lens i hi
  · show (if 352 = 33 then _ else if 352 = 14 + r then _ else hd 352) = _
    rw [if_neg (by decide), if_neg (by omega)]; exact h.n

theorem Hd.set_tb {w : World} {hd : Nat → Value} {s : GSt} {gt : Nat} (h : Hd w hd s) (h19 : s.own.length = 19) (hT : Tb w gt s.own) :
    Hd w (fun j => if j = 34 then .pointer (some ⟨gt, 0, none⟩) else hd j) { s with k := 5 } := by
  refine ⟨h.nl, h.nd, h.no, fun i hi => ?_, h.nOwn, fun _ => ⟨gt, rfl, hT⟩, fun h6 => absurd (show (5 : Nat) = 6 from h6) (by decide), fun i hi => ?_, h.n⟩
  · have hi2 : i < s.own.length := hi
    show (if 14 + i = 34 then _ else hd (14 + i)) = _
    rw [if_neg (by omega)]; exact h.own i hi
  · show (if 36 + i = 34 then _ else hd (36 + i)) = _
    rw [if_neg (by omega)]; exact h.lens i hi
theorem ordS_nx {L0 D0 : List UInt8} {N most : Nat} (s : GSt) (hk : s.k = 4) (A : List UInt8) (n p : Nat) : (ordS s A n p).nx L0 D0 N most = (p + 3, if n + 1 < s.no then .ok (ordS s (A.set (rankN.getD n 0) (UInt8.ofNat (N / 2 ^ p % 8))) (n + 1) (p + 3))
    else if mayBe (cn (A.set (rankN.getD n 0) (UInt8.ofNat (N / 2 ^ p % 8)))) = true then .ok { ordS s (A.set (rankN.getD n 0) (UInt8.ofNat (N / 2 ^ p % 8))) (n + 1) (p + 3) with k := 5 } else .error 3) := by
  rw [GSt.nx_4 (show (ordS s A n p).k = 4 from hk)]
  rfl
theorem Rn.still {w w' : World} {g gf gw gr : Nat} {K : List Nat} {f : DF} {v vo : Value} {l : List UInt8} {q : Nat} {all x : List UInt8} (h : Rn w g gf gw gr K f v vo l q all x) (ho : Only [] w w') : Rn w' g gf gw gr K f v vo l q all x :=
  h.read ho.of_nil (h.rd.only ho (by simp) (by simp))

def OrdP (f f' : DF) (t : GSt) : Prop := f'.k = f.k ∧ t.k = 5
def OrdQ (f f' : DF) (t : GSt) : Prop := f'.k = f.k ∧ t.k = 4

/-- What holds between two of them. -/
def OrdR (B : List UInt8) (a o : Nat) (l : List UInt8) (g gf gw gr : Nat) (K : List Nat) (f : DF) (v vo : Value) (x : List UInt8) (s : GSt) (w wr : World) (q' : Nat) (f' : DF) (A : List UInt8) (n : Nat) : Prop :=
  n ≤ s.no ∧ A.length = 19 ∧ (∀ b ∈ A, b.toNat ≤ 7) ∧ Rn wr g gf gw gr K f' v vo l q' s.out x ∧ Only [g, gr] w wr ∧ Same f f' ∧ f'.k = f.k ∧ Md wr f' (ordS s A n (8 * o + q')) ∧
    ((n < s.no ∧ Stp B a f.most s (ordS s A n (8 * o + q'))) ∨
      (n = s.no ∧ ∃ t, Stp B a f.most s t ∧ t.k = 4 ∧ t.p + 3 ≤ 8 * a ∧ Nx B f.most t = (t.p + 3, if mayBe (cn A) = true then .ok { ordS s A n (8 * o + q') with k := 5 } else .error 3)))

set_option maxRecDepth 100000 in
set_option maxHeartbeats 8000000 in
theorem lens_any (B : List UInt8) (a o : Nat) (l : List UInt8) (hs : Src B a o l) (g gf gw gr : Nat) (K : List Nat) (f : DF) (v vo : Value) (q : Nat) (x : List UInt8) (s : GSt) (w : World) (h : Rn w g gf gw gr K f v vo l q s.out x) (hk : s.k = 4)
    (hm : Md w f s) (hwf : s.Wf) (hp : s.p = 8 * o + q) (hl : s.out.length ≤ f.most) :
    Calls Tryz.prog 100 #[.pointer (some ⟨g, 11, none⟩), .pointer (some ⟨gr, 0, none⟩)] w (fun e w' => ∃ c : Nat, e = .returned (.int .i64 (c : Int)) ∧ Went B a o l g gf gw gr K f v vo x s (OrdP f) (OrdQ f) w c w') := by
  have hhd := hwf.head (by omega) (by omega)
  have hnow := hwf.now hk
  have HS := hide (And.intro hs (And.intro hk (And.intro hl (And.intro hhd hnow))))
  have HST := hide (show OrdR B a o l g gf gw gr K f v vo x s w w q f s.own s.nOwn from ⟨by omega, hhd.2.2.2.2.2.2.1, hhd.2.2.2.2.2.2.2, h, Only.refl _ _, Same.refl f, rfl, by rw [← hp]; exact hm, .inl ⟨hnow.1, by rw [← hp]; exact .refl s⟩⟩)
  have hno : s.no ≤ 19 := hhd.2.2.2.2.2.1
  clear h hm hp hl hs hk hwf hhd hnow
  go_enter Tryz.func100, Tryz.ntmps100
  go_wp2_with fail
  go_loopw [5] (fun _ wr => ∃ (q' : Nat) (f' : DF) (A : List UInt8) (n : Nat), OrdR B a o l g gf gw gr K f v vo x s w wr q' f' A n) (fun _ wr => 8 * l.length - posOf wr gr)
  case atStart => exact ⟨q, f, s.own, s.nOwn, HST.out⟩
  case round =>
    obtain ⟨q', f', A, n, hn, hA, hA7, hR, ho, hsm, hkk, hM, hcase⟩ := hrel
    have hHd := hM.hd (show 4 ≤ s.k by have := HS.out.2.1; omega) (show s.k ≤ 6 by have := HS.out.2.1; omega)
    have k13 : wr.cell? ⟨g, 13, none⟩ = some (.int .i64 (s.no : Int)) := by rw [hR.on.dec.hd (by decide) (by decide)]; exact congrArg some hHd.no
    have k33 : wr.cell? ⟨g, 33, none⟩ = some (.int .i64 (n : Int)) := by rw [hR.on.dec.hd (by decide) (by decide)]; exact congrArg some hHd.nOwn
    have hpos := posOf_eq hR.rd
    have HR := hide (And.intro hR (And.intro ho (And.intro hsm (And.intro hkk (And.intro hM (And.intro hpos (And.intro hA (And.intro hA7 hHd))))))))
    rcases hcase with ⟨hlt, hst⟩ | ⟨heq, t, hst, htk, hnear, hnx⟩
    · have htab := hM.tab.ranks n (by omega)
      have hlti : (n : Int) < (s.no : Int) := by omega
      have hr19 := rankN_lt n (by omega)
      have hnx := ordS_nx (L0 := fixedL) (D0 := fixedD2) (N := num B) (most := f.most) s HS.out.2.1 A n (8 * o + q')
      generalize hrr : rankN.getD n 0 = r at *
      have hB := bits_gen HS.out.1 gr v q' 3 (by decide) wr.drew (hR.rd.drewN 1)
      have hn19 : n < 19 := by omega
      have HT := hide (And.intro hlt (And.intro hst (And.intro hnx hrr)))
      clear hn hA hA7 hR ho hsm hkk hM hHd hpos hlt hst hnx hrr
      rcases hB with ⟨hfar, hB⟩ | ⟨hnear, hB⟩
      · have HB := hide (And.intro hB hfar)
        clear hB hfar
        go_wp2_with fail
        go_region
        all_goals
          go_wp2_with fail
          refine (HB.out.1).mono ?_
          rintro e w1 ⟨rfl, ho1, hr1⟩
          have H1 := hide (And.intro ho1 hr1)
          clear ho1 hr1
          go_wp2_with fail
          go_ret
          have hR := HR.out.1
          have o1 : Only [gr] wr w1 := ((Only.refl [gr] wr).drew).trans H1.out.1 (by simp)
          refine ⟨2, rfl, q', [], vo, f', by simpa using hR.read o1 H1.out.2, (Since.refl _ _ _).step ((HR.out.2.1.trans o1 (by simp)).weak (by simp)), HR.out.2.2.1, by simpa using HS.out.2.2.1, .inr (.inl ⟨rfl, _, HT.out.2.1.short (by show s.k ≠ 11; have := HS.out.2.1; omega) (by rw [HT.out.2.2.1]; exact HB.out.2), by simp [ordS], hR.mdr HR.out.2.2.2.2.1 o1, .of rfl (by show s.k ≠ 1; have := HS.out.2.1; omega), HR.out.2.2.2.1, HS.out.2.1⟩)⟩
      · obtain ⟨b, hb⟩ : ∃ b, b = num B / 2 ^ (8 * o + q') % 2 ^ 3 := ⟨_, rfl⟩
        have hb8 : b < 8 := by rw [hb]; exact Nat.mod_lt _ (by decide)
        rw [← hb] at hB
        have HB := hide (And.intro hB (And.intro hnear hb))
        clear hB hnear hb
        go_wp2_with fail
        go_region
        all_goals
          go_wp2_with fail
          refine (HB.out.1).mono ?_
          rintro e w1 ⟨rfl, ho1, hr1⟩
          have o1 : Only [gr] wr w1 := ((Only.refl [gr] wr).drew).trans ho1 (by simp)
          have hR1 := HR.out.1.read o1 hr1
          have hM1 := HR.out.1.mdr HR.out.2.2.2.2.1 o1
          have c33 : w1.cell? ⟨g, 33, none⟩ = some (.int .i64 (n : Int)) := by rw [hR1.on.dec.hd (by decide) (by decide)]; exact congrArg some HR.out.2.2.2.2.2.2.2.2.nOwn
          have crk : w1.cell? ⟨0, n, none⟩ = some (.int .u8 (r : Int)) := by have := hM1.tab.ranks n hn19; rw [HT.out.2.2.2] at this; exact this
          have cst : w1.cell? ⟨g, 14 + r, none⟩ = some (f'.hd (14 + r)) := hR1.on.dec.hd (by omega) (by omega)
          have fst : w1.frozen? ⟨g, 14 + r, none⟩ = false := Has.free hR1.on.dec _
          generalize f'.hd (14 + r) = u at cst
          have H1 := hide (And.intro hR1 (And.intro o1 hM1))
          clear hR1 o1 hM1 ho1 hr1 k13 k33 htab
          go_wp2_with fail
          go_region
          all_goals
            have d2 : Dc (w1.setCell ⟨g, 14 + r, none⟩ (.int .u8 (b : Int))).drew g { f' with hd := fun j => if j = 14 + r then .int .u8 (b : Int) else f'.hd j } := Dc.set_hd H1.out.1.on.dec (by omega) (by omega) _
            have o2 : Only [g] w1 (w1.setCell ⟨g, 14 + r, none⟩ (.int .u8 (b : Int))).drew := ((Only.refl [g] w1).setCell (by simp) _).drew
            have k33 : (w1.setCell ⟨g, 14 + r, none⟩ (.int .u8 (b : Int))).drew.cell? ⟨g, 33, none⟩ = some (.int .i64 (n : Int)) := by
              rw [d2.hd (by decide) (by decide)]
              show some (if 33 = 14 + r then _ else f'.hd 33) = _
              rw [if_neg (by omega)]
              exact congrArg some HR.out.2.2.2.2.2.2.2.2.nOwn
            have q33 : (w1.setCell ⟨g, 14 + r, none⟩ (.int .u8 (b : Int))).drew.frozen? ⟨g, 33, none⟩ = false := Has.free d2 33
            have H2 := hide (And.intro d2 o2)
            clear d2 o2 c33 crk cst fst
            generalize (w1.setCell ⟨g, 14 + r, none⟩ (.int .u8 (b : Int))).drew = w2 at *
            go_wp2_with fail
            go_roundw
            case rel =>
              have d3 : Dc (w2.setCell ⟨g, 33, none⟩ (.int .i64 ((n + 1 : Nat) : Int))) g { f' with hd := fun j => if j = 33 then .int .i64 ((n + 1 : Nat) : Int) else if j = 14 + r then .int .u8 (b : Int) else f'.hd j } := Dc.set_hd H2.out.1 (by decide) (by decide) _
              have o3 : Only [g] w1 (w2.setCell ⟨g, 33, none⟩ (.int .i64 ((n + 1 : Nat) : Int))) := H2.out.2.setCell (by simp) _
              have hA := HR.out.2.2.2.2.2.2.1
              have hb7 : (UInt8.ofNat b).toNat = b := by rw [UInt8.toNat_ofNat']; omega
              have hnx := HT.out.2.2.1
              rw [show num B / 2 ^ (8 * o + q') % 8 = b from HB.out.2.2.symm] at hnx
              have hM1 := H1.out.2.2
              have hHd1 : Hd w1 f'.hd (ordS s A n (8 * o + q')) := hM1.hd (show 4 ≤ s.k by have := HS.out.2.1; omega) (show s.k ≤ 6 by have := HS.out.2.1; omega)
              have hHd := hHd1.set_own (p' := 8 * o + (q' + 3)) (b := UInt8.ofNat b) hr19 hA
              rw [hb7] at hHd
              have hk4 := HS.out.2.1
              have hM3 : Md w1 { f' with hd := fun j => if j = 33 then .int .i64 ((n + 1 : Nat) : Int) else if j = 14 + r then .int .u8 (b : Int) else f'.hd j } (ordS s (A.set r (UInt8.ofNat b)) (n + 1) (8 * o + (q' + 3))) :=
                ⟨hM1.last, fun h => absurd (show s.k = 2 from h) (by omega), fun h => absurd (show 7 ≤ s.k from h) (by omega), fun h => absurd (show s.k = 8 ∨ s.k = 10 from h) (by omega), fun h => absurd (show 9 ≤ s.k from h) (by omega), fun _ _ => hHd.resolve_right (by omega), hM1.tab⟩
              refine ⟨q' + 3, { f' with hd := fun j => if j = 33 then .int .i64 ((n + 1 : Nat) : Int) else if j = 14 + r then .int .u8 (b : Int) else f'.hd j }, A.set r (UInt8.ofNat b), n + 1, HT.out.1, by rw [List.length_set]; exact hA, fun c hc => ?_, H1.out.1.cells o3 d3 rfl rfl (H1.out.1.keepX o3), (HR.out.2.1.trans (H1.out.2.1.weak (T := [g, gr]) (by simp)) (by simp)).trans (o3.weak (T := [g, gr]) (by simp)) (by simp), HR.out.2.2.1.trans ⟨rfl, rfl, rfl, rfl, rfl, rfl, rfl, rfl, rfl⟩, HR.out.2.2.2.1, H1.out.1.mdg hM3 o3, ?_⟩
              · rcases List.mem_or_eq_of_mem_set hc with h | h
                · exact HR.out.2.2.2.2.2.2.2.1 c h
                · rw [h, hb7]; omega
              · by_cases hlast : n + 1 < s.no
                · rw [if_pos hlast] at hnx
                  exact .inl ⟨hlast, HT.out.2.1.snoc (show s.k ≠ 11 by omega) (by rw [show 8 * o + (q' + 3) = 8 * o + q' + 3 by omega]; exact hnx) HB.out.2.1⟩
                · rw [if_neg hlast] at hnx
                  exact .inr ⟨by have := HT.out.1; omega, _, HT.out.2.1, hk4, HB.out.2.1, by rw [show 8 * o + (q' + 3) = 8 * o + q' + 3 by omega]; exact hnx⟩
            case measure =>
              have h1 := HR.out.2.2.2.2.2.1
              have h2 := H1.out.1.rd
              have h3 : Rd (w2.setCell ⟨g, 33, none⟩ (.int .i64 ((n + 1 : Nat) : Int))) gr v l (q' + 3) := (H1.out.1.cells (H2.out.2.setCell (by simp) _) (Dc.set_hd H2.out.1 (by decide) (by decide) _) rfl rfl (H1.out.1.keepX (H2.out.2.setCell (by simp) _))).rd
              have h4 := posOf_eq h3
              have h5 := h2.2.2.2
              show 8 * l.length - posOf (w2.setCell ⟨g, 33, none⟩ (.int .i64 ((n + 1 : Nat) : Int))) gr < _
              rw [h4, h1]
              omega
    · have hlti : ¬ (n : Int) < (s.no : Int) := by omega
      have hHA : Holds wr.drew 1 (some ⟨g, 14, none⟩) 19 (bvals A) := by
        have := Holds.cells (w := wr.drew) (g := g) (o := 14) (l := A) (Has.lt hR.on.dec) (fun i hi => by
          show wr.cell? _ = _
          rw [hR.on.dec.hd (by omega) (by omega)]
          exact congrArg some (hHd.own i hi))
        rw [hA] at this
        exact this
      have HT := hide (And.intro heq (And.intro hst (And.intro htk (And.intro hnear hnx))))
      have hfar : far A = false := far_of (fun b hb => by have := hA7 b hb; omega)
      clear hn hA7 hR ho hsm hkk hM hHd hpos hst htk hnear hnx
      by_cases hmay : mayBe (cn A) = true
      · have HN := hide (newT_any (some ⟨g, 14, none⟩) 19 19 A wr.drew hHA hA (by decide) hfar hmay)
        clear hHA hA hfar
        go_wp2_with fail
        go_region
        all_goals
          go_wp2_with fail
          refine (HN.out).mono ?_
          rintro e w1 ⟨gt, rfl, _, hT, ho1⟩
          have hR1 := HR.out.1.still (((Only.refl [] wr).drew).trans ho1 (by simp))
          have q34 : w1.frozen? ⟨g, 34, none⟩ = false := Has.free hR1.on.dec 34
          have c34 : w1.cell? ⟨g, 34, none⟩ = some (f'.hd 34) := hR1.on.dec.hd (by decide) (by decide)
          generalize f'.hd 34 = u at c34
          have H1 := hide (And.intro hR1 (And.intro hT ho1))
          clear hR1 hT ho1 k13 k33
          go_wp2_with fail
          go_ret
          have o1 : Only [] wr w1 := ((Only.refl [] wr).drew).trans H1.out.2.2 (by simp)
          have o2 : Only [g] w1 (w1.setCell ⟨g, 34, none⟩ (.pointer (some ⟨gt, 0, none⟩))) := (Only.refl [g] w1).setCell (by simp) _
          have d2 : Dc (w1.setCell ⟨g, 34, none⟩ (.pointer (some ⟨gt, 0, none⟩))) g { f' with hd := fun j => if j = 34 then .pointer (some ⟨gt, 0, none⟩) else f'.hd j } := Dc.set_hd H1.out.1.on.dec (by decide) (by decide) _
          have hst := HT.out.2.1
          have htk := HT.out.2.2.1
          have hnear := HT.out.2.2.2.1
          have hnx := HT.out.2.2.2.2
          rw [if_pos hmay] at hnx
          have hM1 : Md w1 f' (ordS s A n (8 * o + q')) := HR.out.2.2.2.2.1.keep o1 (Other.nil _)
          have hk4 := HS.out.2.1
          have hHd := (hM1.hd (show 4 ≤ s.k by omega) (show s.k ≤ 6 by omega)).set_tb HR.out.2.2.2.2.2.2.1 H1.out.2.1
          have hM2 : Md w1 { f' with hd := fun j => if j = 34 then .pointer (some ⟨gt, 0, none⟩) else f'.hd j } { ordS s A n (8 * o + q') with k := 5 } :=
            ⟨hM1.last, fun h => absurd (show (5 : Nat) = 2 from h) (by decide), fun h => absurd (show (7 : Nat) ≤ 5 from h) (by decide), fun h => absurd (show (5 : Nat) = 8 ∨ (5 : Nat) = 10 from h) (by decide), fun h => absurd (show (9 : Nat) ≤ 5 from h) (by decide), fun _ _ => hHd, hM1.tab⟩
          exact ⟨0, rfl, q', [], vo, { f' with hd := fun j => if j = 34 then .pointer (some ⟨gt, 0, none⟩) else f'.hd j }, by simpa using H1.out.1.cells o2 d2 rfl rfl (H1.out.1.keepX o2), (Since.refl _ _ _).step ((HR.out.2.1.weak (T := [g, gf, gw, gr]) (by intro k hk _; simp only [List.mem_cons, List.not_mem_nil, or_false] at hk ⊢; omega)).trans ((o1.of_nil (T := [g, gf, gw, gr])).trans (o2.weak (T := [g, gf, gw, gr]) (by simp)) (by simp)) (by simp)), HR.out.2.2.1.trans ⟨rfl, rfl, rfl, rfl, rfl, rfl, rfl, rfl, rfl⟩, by simpa using HS.out.2.2.1, .inl ⟨rfl, _, hst.then_ (.one (by omega) hnx hnear), by simp [ordS], H1.out.1.mdg hM2 o2, .of rfl (by show (5 : Nat) ≠ 1; decide), HR.out.2.2.2.1, rfl⟩⟩
      · have HN := hide (newF_any (some ⟨g, 14, none⟩) 19 19 A wr.drew hHA hA (by decide) (by unfold newE; rw [if_neg (by rw [hA, hfar]; decide), if_neg hmay]; decide))
        have hne : newE A = 3 := by unfold newE; rw [if_neg (by rw [hA, hfar]; decide), if_neg hmay]
        rw [hne] at HN
        clear hHA hA hfar hne
        go_wp2_with fail
        go_region
        all_goals
          go_wp2_with fail
          refine (HN.out).mono ?_
          rintro e w1 ⟨rfl, ho1⟩
          have hR1 := HR.out.1.still (((Only.refl [] wr).drew).trans ho1 (by simp))
          have q34 : w1.frozen? ⟨g, 34, none⟩ = false := Has.free hR1.on.dec 34
          have c34 : w1.cell? ⟨g, 34, none⟩ = some (f'.hd 34) := hR1.on.dec.hd (by decide) (by decide)
          generalize f'.hd 34 = u at c34
          have H1 := hide (And.intro hR1 ho1)
          clear hR1 ho1 k13 k33
          go_wp2_with fail
          go_ret
          have o1 : Only [] wr w1 := ((Only.refl [] wr).drew).trans H1.out.2 (by simp)
          have o2 : Only [g] w1 (w1.setCell ⟨g, 34, none⟩ (.pointer none)) := (Only.refl [g] w1).setCell (by simp) _
          have d2 : Dc (w1.setCell ⟨g, 34, none⟩ (.pointer none)) g { f' with hd := fun j => if j = 34 then .pointer none else f'.hd j } := Dc.set_hd H1.out.1.on.dec (by decide) (by decide) _
          have hst := HT.out.2.1
          have htk := HT.out.2.2.1
          have hnear := HT.out.2.2.2.1
          have hnx := HT.out.2.2.2.2
          rw [if_neg hmay] at hnx
          exact ⟨3, rfl, q', [], vo, { f' with hd := fun j => if j = 34 then .pointer none else f'.hd j }, by simpa using H1.out.1.cells o2 d2 rfl rfl (H1.out.1.keepX o2), (Since.refl _ _ _).step ((HR.out.2.1.weak (T := [g, gf, gw, gr]) (by intro k hk _; simp only [List.mem_cons, List.not_mem_nil, or_false] at hk ⊢; omega)).trans ((o1.of_nil (T := [g, gf, gw, gr])).trans (o2.weak (T := [g, gf, gw, gr]) (by simp)) (by simp)) (by simp)), HR.out.2.2.1.trans ⟨rfl, rfl, rfl, rfl, rfl, rfl, rfl, rfl, rfl⟩, by simpa using HS.out.2.2.1, .inr (.inr ⟨.inl rfl, fun h => by show f'.k ≠ 11; rw [HR.out.2.2.2.1]; exact h, t, hst.bad (by omega) hnx hnear⟩)⟩
end Go.Proofs.YtlknhiihdejpeaaGreatDoor

