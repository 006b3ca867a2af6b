/-
  Package pixel: Fill.
-/
import Derived.Test.YtngaabnmhcncmaaPxY
namespace Go.Proofs.Ytngaabnmhcncmaa
open Go Go.RowKit

/-- What lies within: sides that may be, and either no row at all or some column. -/
theorem wi_le (W H : Nat) (x y p q : Int) : wiL W H x y p q ≤ wiR W H x y p q ∧ wiR W H x y p q ≤ W ∧ wiT W H x y p q ≤ wiB W H x y p q ∧ wiB W H x y p q ≤ H ∧ (wiT W H x y p q < wiB W H x y p q → wiL W H x y p q < wiR W H x y p q) := by
  have h1 := sp_le x p W
  have h2 := sp_le y q H
  unfold wiL wiR wiT wiB
  by_cases h : spL x p W = spR x p W ∨ spL y q H = spR y q H
  · rw [if_pos h, if_pos h, if_pos h, if_pos h]; omega
  · rw [if_neg h, if_neg h, if_neg h, if_neg h]; omega
theorem part_wi (f : Nat → Nat → Px → Px) (W H : Nat) (x y p q : Int) (l : List UInt8) :
    partL f W H x y p q l = rowsF f W (wiL W H x y p q) (wiR W H x y p q - wiL W H x y p q) l (wiT W H x y p q) (wiB W H x y p q - wiT W H x y p q) := by
  unfold partL wiL wiR wiT wiB
  by_cases h : spL x p W = spR x p W ∨ spL y q H = spR y q H
  · rw [if_pos h, if_pos h, if_pos h, if_pos h]
    rcases h with h | h
    · rw [h, Nat.sub_self, rowsF_none]; rfl
    · rw [h, Nat.sub_self]; rfl
  · rw [if_neg h, if_neg h, if_neg h, if_neg h]

/-- While a new matrix is filled: it lies at block mb, its row of bytes m in a block ahead of that, what lies within at block ab; the result at block tc. -/
structure PSt (w0 : World) (mb ab tc : Nat) (W H : Nat) (A1 : Option Addr) (n c1 : Nat) (ar : Array Value) (m : List UInt8) (wr : World) : Prop where
  mlen : m.length = n
  own : wr.ownsRow w0.heap.size 5 1 (.slice A1 n c1) n (bvals m)
  res : Has wr tc 24 #[.int .i64 0, .int .i64 0, .slice none 0 0]
  mat : Has wr mb 24 #[.int .i64 (W : Int), .int .i64 (H : Int), .slice A1 n c1]
  area : Has wr ab 79 ar
  only : Only [] w0 wr
theorem PSt.put {w0 : World} {mb ab tc W H g n c1 : Nat} {ar : Array Value} {m m' : List UInt8} {wr wr' : World} (h : PSt w0 mb ab tc W H (some ⟨g, 0, none⟩) n c1 ar m wr) (ht : tc < w0.heap.size) (hg : w0.heap.size ≤ g ∧ g < mb ∧ mb < ab)
    (hl : m'.length = m.length) (ho : wr'.ownsRow w0.heap.size 5 1 (.slice (some ⟨g, 0, none⟩) n c1) n (bvals m')) (hx : Only [g] wr wr') : PSt w0 mb ab tc W H (some ⟨g, 0, none⟩) n c1 ar m' wr' :=
  ⟨hl.trans h.mlen, ho, h.res.only hx (by simp; omega), h.mat.only hx (by simp; omega), h.area.only hx (by simp; omega), h.only.trans hx (by intro i hi hlt; simp at hi; omega)⟩
theorem PSt.keep {w0 : World} {mb ab tc W H n c1 : Nat} {A1 : Option Addr} {ar : Array Value} {m : List UInt8} {wr wr' : World} (h : PSt w0 mb ab tc W H A1 n c1 ar m wr) (hx : Only [] wr wr') : PSt w0 mb ab tc W H A1 n c1 ar m wr' :=
  ⟨h.mlen, own_keep h.own hx (by simp), h.res.only hx (by simp), h.mat.only hx (by simp), h.area.only hx (by simp), h.only.trans hx (by simp)⟩
theorem PSt.cells {w0 : World} {mb ab tc W H n c1 : Nat} {A1 : Option Addr} {ar : Array Value} {m : List UInt8} {wr : World} (h : PSt w0 mb ab tc W H A1 n c1 ar m wr) : wr.cell? ⟨mb, 0, none⟩ = some (.int .i64 (W : Int)) ∧ wr.cell? ⟨mb, 1, none⟩ = some (.int .i64 (H : Int)) ∧ wr.cell? ⟨mb, 2, none⟩ = some (.slice A1 n c1) :=
  ⟨h.mat.cell 0, h.mat.cell 1, h.mat.cell 2⟩
theorem PSt.areas {w0 : World} {mb ab tc W H n c1 a b e f : Nat} {A1 : Option Addr} {m : List UInt8} {wr : World} (h : PSt w0 mb ab tc W H A1 n c1 #[.int .i64 (a : Int), .int .i64 (b : Int), .int .i64 (e : Int), .int .i64 (f : Int)] m wr) :
    wr.cell? ⟨ab, 0, none⟩ = some (.int .i64 (a : Int)) ∧ wr.cell? ⟨ab, 1, none⟩ = some (.int .i64 (b : Int)) ∧ wr.cell? ⟨ab, 2, none⟩ = some (.int .i64 (e : Int)) ∧ wr.cell? ⟨ab, 3, none⟩ = some (.int .i64 (f : Int)) :=
  ⟨h.area.cell 0, h.area.cell 1, h.area.cell 2, h.area.cell 3⟩
/-- The result is stored: it is the call's own. -/
theorem PSt.fin {w w0 : World} {mb ab tc W H n c1 : Nat} {A1 : Option Addr} {ar : Array Value} {m : List UInt8} {wr w4 : World} (h : PSt w0 mb ab tc W H A1 n c1 ar m wr) (o0 : Only [] w w0) (hw : w.heap.size ≤ tc) (ht : tc < w0.heap.size) (ho : Only [tc] wr w4) : Own w4 w.heap.size W H (mval W H A1 n c1) m ∧ Only [] w w4 := by
  have hl := h.mlen
  have hown := h.own
  have h1 := h.only
  subst hl
  refine ⟨⟨A1, c1, rfl, own_mono (own_keep hown ho ?_) o0.size⟩, (o0.trans h1 (S := []) (by simp)).trans ho (by intro i hi hlt; simp at hi; omega)⟩
  intro b hb hm
  cases A1 with
  | none => cases hb
  | some ad =>
    have := (own_block hown ad rfl).1
    have hb' : ad.block = b := by injection hb
    simp at hm
    omega

set_option maxRecDepth 100000 in
set_option maxHeartbeats 8000000 in
theorem fill_any (W H : Nat) (A : Option Addr) (n c : Nat) (l : List UInt8) (x y p q : Int) (cx : Px) (w : World) (hb : Holds w 1 A n (bvals l)) (hl : l.length = n) (hok : okM W H n) (hA : A = none → c = 0 ∧ n = 0)
    (hx : -9223372036854775808 ≤ x ∧ x ≤ 9223372036854775807) (hy : -9223372036854775808 ≤ y ∧ y ≤ 9223372036854775807) (hp : -9223372036854775808 ≤ p ∧ p ≤ 9223372036854775807) (hq : -9223372036854775808 ≤ q ∧ q ≤ 9223372036854775807) :
    Calls Try.prog 28 #[mval W H A n c, .int .i64 x, .int .i64 y, .int .i64 p, .int .i64 q, cx.val] w fun e w' => ∃ v, e = .returned v ∧ Own w' w.heap.size W H v (partL (fun _ _ _ => cx) W H x y p q l) ∧ Only [] w w' := by
  have hn4 := hok.le
  have hsd := hok.side
  obtain ⟨w0, hw0⟩ : ∃ w0, w0 = ((w.alloc (.cells #[.int .i64 (W : Int), .int .i64 (H : Int), .slice A n c] 24)).alloc (.cells cx.cells 41)).alloc (.cells #[.int .i64 0, .int .i64 0, .slice none 0 0] 24) := ⟨_, rfl⟩
  have o0 : Only [] w w0 := by rw [hw0]; exact (((Only.refl [] w).alloc _).alloc _).alloc _
  have s0 : w0.heap.size = w.heap.size + 3 := by rw [hw0]; simp
  have hm0 : Has w0 w.heap.size 24 #[.int .i64 (W : Int), .int .i64 (H : Int), .slice A n c] := by rw [hw0]; exact ((Has.new w _ _).alloc _).alloc _
  have hc1 : Has w0 (w.heap.size + 1) 41 cx.cells := by rw [hw0]; exact (Has.new' _ _ _ _ (by simp)).alloc _
  have hz : Has w0 (w.heap.size + 1 + 1) 24 #[.int .i64 0, .int .i64 0, .slice none 0 0] := by rw [hw0]; exact Has.new' _ _ _ _ (by simp)
  have HL := hide (like_any W H A n c l w0 (hb.keep o0 (by simp)) hl (by omega) hA)
  have HW := hide (fun w => within_any W H A n c x y p q w hok hx hy hp hq)
  have hle := wi_le W H x y p q
  have hdef := part_wi (fun _ _ _ => cx) W H x y p q l
  generalize partL (fun _ _ _ => cx) W H x y p q l = R at *
  generalize wiL W H x y p q = a at *
  generalize wiR W H x y p q = b at *
  generalize wiT W H x y p q = e at *
  generalize wiB W H x y p q = f at *
  subst hl
  have HI := hide (And.intro hok (And.intro hle (And.intro hdef (And.intro hsd hn4))))
  have hm0c := hide hm0
  have a0 := hm0.cell 0
  have a1 := hm0.cell 1
  have a2 := hm0.cell 2
  simp only [List.getElem?_toArray, List.getElem?_cons_zero, List.getElem?_cons_succ] at a0 a1 a2
  show Calls Try.prog 28 #[.agg #[.int .i64 W, .int .i64 H, .slice A l.length c], .int .i64 x, .int .i64 y, .int .i64 p, .int .i64 q, .agg cx.cells] w _
  clear hok hn4 hb hle hdef hx hy hp hq hsd hm0 hA
  go_enter Try.func28, Try.ntmps28
  go_wp2_with fail
  rw [← hw0]
  refine (HL.out).mono ?_
  rintro e1 w1 ⟨v, rfl, ⟨A1, c1, rfl, how⟩, ho1⟩
  unfold mval
  have hmm := (hm0c.out.only ho1 (by simp)).alloc (.cells #[.int .i64 (W : Int), .int .i64 (H : Int), .slice A1 l.length c1] 24)
  have b0 := hmm.cell 0
  have b1 := hmm.cell 1
  have b2 := hmm.cell 2
  simp only [List.getElem?_toArray, List.getElem?_cons_zero, List.getElem?_cons_succ] at b0 b1 b2
  have HS0 := hide (And.intro how (And.intro hz (And.intro hc1 (And.intro o0 ho1))))
  have HW := hide (HW.out (w1.alloc (.cells #[.int .i64 (W : Int), .int .i64 (H : Int), .slice A1 l.length c1] 24)))
  clear hz hc1 o0 ho1 HL hw0 a0 a1 a2 how hmm hm0c
  go_wp2_with fail
  refine (HW.out).mono ?_
  rintro e2 w2 ⟨rfl, ho2⟩
  unfold aval
  obtain ⟨how, hz, hc1, o0, ho1⟩ := HS0.out
  have oa := (Only.refl [] w1).alloc (.cells #[.int .i64 (W : Int), .int .i64 (H : Int), .slice A1 l.length c1] 24)
  have hs2 := ho2.size
  have hs1 := ho1.size
  have ob := (Only.refl [] w2).alloc (.cells #[.int .i64 (a : Int), .int .i64 (b : Int), .int .i64 (e : Int), .int .i64 (f : Int)] 79)
  have oc := (oa.trans ho2 (S := []) (by simp)).trans ob (S := []) (by simp)
  have hS : PSt w0 w1.heap.size w2.heap.size (w.heap.size + 1 + 1) W H A1 l.length c1 #[.int .i64 (a : Int), .int .i64 (b : Int), .int .i64 (e : Int), .int .i64 (f : Int)] l (w2.alloc (.cells #[.int .i64 (a : Int), .int .i64 (b : Int), .int .i64 (e : Int), .int .i64 (f : Int)] 79)) :=
    ⟨rfl, own_keep how oc (by simp), (hz.only ho1 (by simp)).only oc (by simp), ((Has.new w1 _ _).only ho2 (by simp)).only ob (by simp), Has.new w2 _ _, ho1.trans oc (by simp)⟩
  simp only [World.size_alloc] at hs2
  have HS := hide (And.intro hS (And.intro hc1 (And.intro o0 (And.intro hs1 (And.intro how (And.intro hs2 (own_cap how)))))))
  obtain ⟨r0, r1, r2, r3⟩ := hS.areas
  clear hS HS0 how hz hc1 o0 ho1 ho2 oa ob oc hs1 hs2 b0 b1 b2 HW
  go_wp2_with fail
  go_loopw [15] (fun i wr => ∃ (j : Nat) (m : List UInt8), (e ≤ j ∧ j ≤ f) ∧ i = .int .i64 j ∧ PSt w0 w1.heap.size w2.heap.size (w.heap.size + 1 + 1) W H A1 l.length c1 #[.int .i64 (a : Int), .int .i64 (b : Int), .int .i64 (e : Int), .int .i64 (f : Int)] m wr ∧ rowsF (fun _ _ _ => cx) W a (b - a) m j (f - j) = R) (fun i _ => f - (intOf i).toNat)
  case atStart => exact ⟨e, l, ⟨Nat.le_refl _, HI.out.2.1.2.2.1⟩, rfl, HS.out.1, HI.out.2.2.1.symm⟩
  case round =>
    obtain ⟨j, m, hj, rfl, S, hd⟩ := hrel
    have hjw : j ≤ 16384 := by have := HI.out; omega
    by_cases hlt : j < f
    · obtain ⟨K, hK⟩ : ∃ K, K = b - a := ⟨_, rfl⟩
      obtain ⟨F, hF⟩ : ∃ F, F = j * W + a := ⟨_, rfl⟩
      have hab : a < b := HI.out.2.1.2.2.2.2 (by omega)
      have hfit := HI.out.1.fit (x := b - 1) (y := j) (by have := HI.out; omega) (by have := HI.out; omega)
      have hbk : b = a + K := by omega
      obtain ⟨g, rfl, hg0, hg1⟩ := own_at S.own (by omega)
      have hg2 : g < w1.heap.size := by
        obtain ⟨g', hg', _, hg2⟩ := own_at HS.out.2.2.2.2.1 (by omega)
        injection hg' with h; injection h with h; omega
      have hcap := HS.out.2.2.2.2.2.2.1
      have HR := hide (fun w => row_any W H (some ⟨g, 0, none⟩) l.length c1 j a K w (by have := HI.out.2.2.2.1; omega) (by omega) (by have := HI.out; omega) (by omega))
      rw [← hbk] at HR
      obtain ⟨R1, hR1⟩ : ∃ R1, R1 = rowF (fun _ _ => cx) (j * W) m a K := ⟨_, rfl⟩
      have T0 := IsTail.start (some ⟨g, 0, none⟩) (4 * F) K
      rw [← hK] at hd
      rw [← hF] at HR
      have HT := hide T0
      obtain ⟨v0, hv0⟩ : ∃ v0, v0 = rowV (some ⟨g, 0, none⟩) (4 * F) (4 * K) := ⟨_, rfl⟩
      rw [← hv0] at HR HT
      have HS2 := hide (And.intro hd (And.intro hlt (And.intro hR1 (And.intro hK (And.intro hF (And.intro hg0 (And.intro hg2 (And.intro hfit hbk))))))))
      have HSS := hide S
      obtain ⟨m0, m1, m2⟩ := S.cells
      obtain ⟨r0, r1, r2, r3⟩ := S.areas
      clear hd S hR1 hab hfit hg0 hg1 hg2 hcap T0 hv0 hbk hK hF
      go_wp2_with fail
      refine (HR.out _).mono ?_
      rintro e4 w4 ⟨rfl, ho4⟩
      have S4 := hide (HSS.out.keep ho4)
      clear HR ho4 m0 m1 m2 r0 r1 r2 r3
      go_wp2_with fail
      go_loopw [16] (fun pv wr => ∃ (u q : Nat) (X : Option Addr) (m' : List UInt8), u ≤ K ∧ IsTail (some ⟨g, 0, none⟩) (4 * F) K u pv X q ∧ PSt w0 w1.heap.size w2.heap.size (w.heap.size + 1 + 1) W H (some ⟨g, 0, none⟩) l.length c1 #[.int .i64 (a : Int), .int .i64 (b : Int), .int .i64 (e : Int), .int .i64 (f : Int)] m' wr ∧ rowF (fun _ _ => cx) (j * W) m' (a + u) (K - u) = R1) (fun pv _ => slen pv)
      case atStart => exact ⟨0, _, _, m, Nat.zero_le _, HT.out, S4.out, HS2.out.2.2.1.symm⟩
      case round =>
        obtain ⟨u, q, X, m', hu, T, S, hd⟩ := hrel
        have hpv := T.val
        have hq := T.len
        by_cases hkb : u < K
        · obtain ⟨X', q', hT', hrun1⟩ := T.step hkb
          have hX := T.addr hkb
          obtain ⟨hd2, hlt2, hR1, hK, hF, hg0, hg2, hfit, hbk⟩ := HS2.out
          rw [Option.map_some, add_zero_of, show 4 * F + 4 * u = 4 * (j * W + (a + u)) by omega] at hX
          have HP := hide (fun w (h : w.ownsRow w0.heap.size 5 1 (.slice (some ⟨g, 0, none⟩) l.length c1) l.length (bvals m')) => lay_any g (j * W + (a + u)) l.length c1 q q w0.heap.size m' cx w h S.mlen (by omega) (by omega))
          have hnext : rowF (fun _ _ => cx) (j * W) (put4 m' (j * W + (a + u)) cx) (a + (u + 1)) (K - (u + 1)) = R1 := by
            rw [show K - u = (K - (u + 1)) + 1 by omega, rowF] at hd
            exact hd
          have hcc := HS.out.2.1.only S.only (by simp)
          have hq0 : 0 < q := by omega
          have HK := hide (And.intro S (And.intro hnext (And.intro hT' (And.intro hg0 (And.intro hg2 (And.intro hq hT'.len))))))
          subst hpv
          subst hX
          clear S hd hfit hnext T hT' hd2 hlt2 hR1 hK hF hg0 hg2 hbk hq
          go_wp2_with (refine wpList_load_row rfl 41 (.tmp 11) rfl (w.heap.size + 1) rfl 41 cx.cells (0, 0) _ hcc Try.underlying41 rfl (by kernel_rfl) ?_)
          refine (HP.out _ HK.out.1.own).mono ?_
          rintro e4 w5 ⟨rfl, how5, ho5⟩
          have S5 := HK.out.1.put (by have := HS.out; omega) ⟨HK.out.2.2.2.1, HK.out.2.2.2.2.1, by have := HS.out; omega⟩ (put4_length _ _ _) how5 ho5
          have H5 := hide S5
          clear S5 how5 ho5 hcc
          go_wp2_with fail
          go_roundw
          case rel => exact ⟨u + 1, q', X', _, hkb, HK.out.2.2.1, H5.out, HK.out.2.1⟩
          case measure => have := HK.out.2.2.2.2.2.1; have := HK.out.2.2.2.2.2.2; simp [slen]; omega
        · obtain rfl : u = K := by omega
          rw [Nat.sub_self] at hd
          have hd : m' = R1 := hd
          subst hd
          have hq0 : q = 0 := by omega
          subst hq0
          subst hpv
          have HK := hide S
          clear S T hq
          go_wp2_with fail
          go_roundw
          case rel =>
            refine ⟨j + 1, _, ⟨by omega, hlt⟩, by go_num, HK.out, ?_⟩
            have hd := HS2.out.1
            rw [← HS2.out.2.2.2.1]
            rw [show f - j = (f - (j + 1)) + 1 by omega, rowsF, ← HS2.out.2.2.1] at hd
            exact hd
          case measure => simp [intOf]; omega
    · obtain rfl : j = f := by omega
      rw [Nat.sub_self] at hd
      have hd : m = R := hd
      subst hd
      obtain ⟨m0, m1, m2⟩ := S.cells
      obtain ⟨r0, r1, r2, r3⟩ := S.areas
      have hres := S.res
      have HS3 := hide S
      clear S hlt
      go_wp2_with (refine list_store_row' rfl 24 (.tmp 12) (.tmp 48) rfl (w.heap.size + 1 + 1) #[.int .i64 (W : Int), .int .i64 (H : Int), .slice A1 l.length c1] rfl rfl 24 _ hres (by kernel_rfl) rfl (mat_one _ _ _ _ _) ?_; intro w4 hT4 hO4)
      obtain ⟨h1, h2⟩ := HS3.out.fin HS.out.2.2.1 (by omega) (by omega) hO4
      exact bodyPost_ret (results_cell_row Try.results28 _ _ (w.heap.size + 1 + 1) 24 _ (0, 0) _ rfl hT4 Try.underlying24 rfl (by kernel_rfl)) rfl ⟨_, rfl, h1, h2⟩
end Go.Proofs.Ytngaabnmhcncmaa
