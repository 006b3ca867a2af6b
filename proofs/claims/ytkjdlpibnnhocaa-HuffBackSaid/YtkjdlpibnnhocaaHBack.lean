/-
  Proves: for all lengths and numbers, HuffBack tells true, and leaves all that was there as it was.
-/
import Derived.Test.YtkjdlpibnnhocaaHufK
import Derived.Test.YtkjdlpibnnhocaaHufQ
import Derived.Test.YtkjdlpibnnhocaaLaw
import Derived.Test.YtkjdlpibnnhocaaOpen
namespace Go.Proofs.Ytkjdlpibnnhocaa
open Go Go.RowKit
theorem Wr.only {w w' : World} {g : Nat} {v : Value} {N n : Nat} {S : List Nat} (h : Wr w g v N n) (ho : Only S w w') (hg : g ∉ S) (hv : ∀ b, v.ownBlock = some b → b ∉ S) : Wr w' g v N n := by
  obtain ⟨l, rest, cnt, ⟨h1, h2, h3⟩, hc⟩ := h
  exact ⟨l, rest, cnt, ⟨h1.only ho hg, own_keep h2 ho hv, h3⟩, hc⟩
theorem Wr.has {w : World} {g : Nat} {v : Value} {N n : Nat} (h : Wr w g v N n) : (∃ cs, Has w g 82 cs) ∧ ∃ l, w.ownsRow 0 5 1 v l.length (bvals l) := by
  obtain ⟨l, rest, cnt, ⟨h1, h2, _⟩, _⟩ := h; exact ⟨⟨_, h1⟩, ⟨l, h2⟩⟩
end Go.Proofs.Ytkjdlpibnnhocaa
namespace Go.Proofs.Ytkjdlpibnnhocaa.hback
open Go Go.RowKit Go.ChangeShapes Go.WideShapes Go.ChangeAt

theorem nilN (w : World) : (binOp .eql 24 (.pointer none) (.pointer none)).run Try.prog w = .ok (.bool true) w := by kernel_rfl
theorem nilW (g : Nat) (w : World) : (binOp .eql 47 (.pointer (some ⟨g, 0, none⟩)) (.pointer none)).run Try.prog w = .ok (.bool false) w := by kernel_rfl
theorem int_info : (Try.prog.info? 3).map (fun i => (i.zero, i.size, i.bytes)) = some (some (.int .i64 0), 1, 8) := by kernel_rfl

/-- Two rows of different types lie apart. -/
theorem own_own {w : World} {base base' e e' size size' n n' : Nat} {v v' : Value} {xs ys : List Value} (h : w.ownsRow base e size v n xs) (h' : w.ownsRow base' e' size' v' n' ys) (hne : e ≠ e') : ∀ b, v.ownBlock = some b → v'.ownBlock ≠ some b := by
  intro b hb hb'
  rcases h.2 with ⟨rfl, _⟩ | ⟨gb, cap, cur, rfl, _, hh, _⟩
  · cases hb
  · have : gb = b := by simpa [Value.ownBlock] using hb
    subst this
    exact own_ne (t := e) (cs := cur) h' hh (fun e => hne e.symm) hb'.symm

/-- The symbols as the program's numbers. -/
def kvals (ks : List Nat) : List Value := ks.map fun (k : Nat) => Value.int .i64 (k : Int)
theorem kvals_length (ks : List Nat) : (kvals ks).length = ks.length := by simp [kvals]
theorem kvals_one (k : Nat) : ∀ u ∈ [Value.int .i64 (k : Int)], u.oneCell' = true := by simp [Value.oneCell']

theorem left_rd (g : Nat) (v : Value) (l : List UInt8) (k : Nat) (w : World) (hR : Rd w g v l k) :
    Calls Try.prog 23 #[.pointer (some ⟨g, 0, none⟩)] w fun e w' => e = .returned (.int .i64 ((8 * l.length - k : Nat) : Int)) ∧ ∃ m, w' = w.drewN m := by
  obtain ⟨A, c, rfl, hc, hA⟩ := own_shape hR.2.1
  exact left_any g l.length c A k w hR.1 hR.2.2.1 hR.2.2.2

theorem tmod_lt (z : Int) (d : Nat) (hd : 0 < d) : (z.tmod (d : Int)).natAbs < d := by
  rw [Int.natAbs_tmod, Int.natAbs_natCast]
  exact Nat.mod_lt _ hd

theorem out (A C : Option Addr) (n c m d : Nat) (w : World) (hn : n ≤ 9223372036854775807) (hm : m ≤ 9223372036854775807) (h : 320 < n ∨ 400 < m ∨ n = 0) :
    Calls Try.prog 4 #[.slice A n c, .slice C m d] w fun e w' => e = .returned (.bool true) ∧ Only [] w w' := by
  have HK := hide (known_any w)
  by_cases h1 : 320 < n
  · have h1' : (320 : Int) < (n : Int) := by omega
    clear h
    go_enter Try.func4, Try.ntmps4
    go_wp2_with fail
    refine (HK.out).mono ?_
    rintro e w1 ⟨rfl, ho⟩
    have HO := hide ho
    clear ho
    go_wp2_with fail
    go_ret
    exact ⟨rfl, HO.out⟩
  · have h1' : ¬ (320 : Int) < (n : Int) := by omega
    by_cases h2 : 400 < m
    · have h2' : (400 : Int) < (m : Int) := by omega
      clear h
      go_enter Try.func4, Try.ntmps4
      go_wp2_with fail
      refine (HK.out).mono ?_
      rintro e w1 ⟨rfl, ho⟩
      have HO := hide ho
      clear ho
      go_wp2_with fail
      go_ret
      exact ⟨rfl, HO.out⟩
    · have h2' : ¬ (400 : Int) < (m : Int) := by omega
      obtain rfl : n = 0 := by omega
      clear h
      go_enter Try.func4, Try.ntmps4
      go_wp2_with fail
      refine (HK.out).mono ?_
      rintro e w1 ⟨rfl, ho⟩
      have HO := hide ho
      clear ho
      go_wp2_with fail
      go_ret
      exact ⟨rfl, HO.out⟩

/-- What the first loop has: the symbols r laid (the last one first), the same in the row of numbers. -/
structure Laid (l : List UInt8) (W : World) (g gw : Nat) (wr : World) (r : List Nat) (vs vw : Value) : Prop where
  own : wr.ownsRow W.heap.size 3 1 vs r.length (kvals r.reverse)
  wrt : Wr wr gw vw (bitsN l r) (bitsL l r)
  tab : Tb wr g l
  since : WSince W gw (.slice none 0 0) wr vw
  some_ : ∀ k ∈ r, ln l k ≠ 0

set_option maxRecDepth 100000 in
set_option maxHeartbeats 8000000 in
theorem core (A C : Option Addr) (n c m d : Nat) (l : List UInt8) (zs : List Int) (w : World) (hb : Holds w 1 A n (bvals l)) (hl : l.length = n) (hz : Holds w 1 C m (zs.map (Value.int .i64))) (hzl : zs.length = m)
    (hwf : ∀ z ∈ zs, (Lit.int .i64 z).wf = true) (hn : n ≤ 320) (hn0 : 0 < n) (hm : m ≤ 400) :
    Calls Try.prog 4 #[.slice A n c, .slice C m d] w fun e w' => e = .returned (.bool true) ∧ Only [] w w' := by
  subst hl
  subst hzl
  have HK := hide (known_any w)
  have hn1 := nilT
  have hn2 := nilN
  have hn3 := nilW
  have hn4 := nilR
  have d1 : ¬ (320 : Int) < (l.length : Int) := by omega
  have d2 : ¬ (400 : Int) < (zs.length : Int) := by omega
  have d3 : ((l.length : Int) == 0) = false := beq_eq_false_iff_ne.2 (by omega)
  have d4 : ¬ (l.length : Int) = 0 := by omega
  have HB := hide (And.intro hn (And.intro hn0 (And.intro hm (And.intro hb (And.intro hz hwf)))))
  clear hb hz hwf hn hn0 hm
  by_cases hE : newE l = 0
  · have hf : far l = false := by
      unfold newE at hE
      cases h : far l with
      | false => rfl
      | true => rw [if_pos (.inr h)] at hE; cases hE
    have hmb : mayBe (cn l) = true := by
      unfold newE at hE
      rw [if_neg (by have := HB.out.1; rw [hf]; rintro (h | h) <;> first | omega | cases h)] at hE
      cases h : mayBe (cn l) with
      | true => rfl
      | false => rw [h] at hE; simp at hE
    have HS := hide (mayBe_le hmb)
    have H15 := hide (ln_far hf)
    have HF := hide (And.intro hf hmb)
    clear hE hf hmb
    go_enter Try.func4, Try.ntmps4
    go_wp2_with fail
    refine (HK.out).mono ?_
    rintro e w1 ⟨rfl, ho1⟩
    have HO1 := hide ho1
    clear ho1
    go_wp2_with fail
    refine (newT_any A l.length c l w1 (HB.out.2.2.2.1.keep HO1.out (by simp)) rfl HB.out.1 HF.out.1 HF.out.2).mono ?_
    rintro e w2 ⟨g, rfl, hg, hT, ho2⟩
    have HT := hide (And.intro hT (HO1.out.trans ho2 (S := []) (by simp)))
    clear hT ho2 hg
    go_wp2_with fail
    refine (newWriter_any w2).mono ?_
    rintro e W ⟨gw, rfl, hgw, hW, hoW⟩
    have HW := hide (And.intro hgw (And.intro hW (HT.out.2.trans hoW (S := []) (by simp))))
    have hTW := HT.out.1.only hoW (by simp)
    have hstart : Laid l W g gw W [] (.slice none 0 0) (.slice none 0 0) := ⟨World.ownsRow_nil W W.heap.size 3 1, hW, hTW, WSince.refl _ _ _, by simp⟩
    have HST := hide hstart
    clear hgw hW hoW hTW hstart
    go_wp2_with fail
    go_loopw [8, 9] (fun vs v wr => ∃ (i : Nat) (r : List Nat) (vs' vw : Value), i ≤ zs.length ∧ v = .int .i64 i ∧ vs = vs' ∧ r.length ≤ i ∧ Laid l W g gw wr r vs' vw) (fun _ v _ => zs.length - (intOf v).toNat)
    case atStart => exact ⟨0, [], _, _, Nat.zero_le _, rfl, rfl, Nat.le_refl _, HST.out⟩
    case round =>
      obtain ⟨i, r, vs', vw, hi, rfl, rfl, hri, hL⟩ := hrel
      have hsz2 : w.heap.size ≤ gw := Nat.le_trans HT.out.2.size HW.out.1
      have hoW : Only [] w wr := HW.out.2.2.trans hL.since.1 (by simp [Value.ownBlock]; omega)
      obtain ⟨Av, cv, rfl, _, _⟩ := own_shape hL.own
      by_cases hlt : i < zs.length
      · obtain ⟨bz, oz, rfl, hcz⟩ := HB.out.2.2.2.2.1.addr (by simp; omega)
        have hcel : wr.cell? ⟨bz, oz + i, none⟩ = some (.int .i64 zs[i]) := by
          have h0 := hcz i _ (by rw [List.getElem?_map, List.getElem?_eq_getElem hlt]; rfl)
          rw [hoW.cell (p := ⟨bz, oz + i, none⟩) (World.block_lt_of_cell? w _ h0) (by simp)]
          exact h0
        have hwz := wf_i64 (HB.out.2.2.2.2.2 zs[i] (List.getElem_mem hlt))
        have htm := tmod_lt zs[i] l.length HB.out.2.1
        generalize zs[i] = z at *
        have HL := hide (And.intro hL hoW)
        clear hcz hL hoW
        obtain ⟨k, hk, hkz⟩ : ∃ k : Nat, k < l.length ∧ (z.tmod (l.length : Int) = (k : Int) ∨ (0 < k ∧ z.tmod (l.length : Int) = -(k : Int))) := by
          refine ⟨(z.tmod (l.length : Int)).natAbs, htm, ?_⟩
          omega
        clear htm
        have HCo := hide (code_any g l (k : Int) wr HL.out.1.tab HB.out.1 H15.out HS.out)
        have hcv : cvI l (k : Int) = if ln l k ≠ 0 then rev (cd l k) (ln l k) else 0 := by unfold cvI; rw [lnI_nat, Int.toNat_natCast]
        rw [lnI_nat] at HCo
        have HCV := hide hcv
        have hcl := cvI_lt HS.out H15.out (k : Int)
        clear hcv
        generalize cvI l (k : Int) = x at *
        obtain ⟨y, hy⟩ : ∃ y, y = ln l k := ⟨_, rfl⟩
        rw [← hy] at HCo
        have hy15 : y ≤ 15 := by rw [hy]; exact H15.out k
        have HY := hide hy
        clear hy
        rcases hkz with hkz | ⟨hk0, hkz⟩
        focus
          go_wp2_with fail
        rotate_left 1
        focus
          have hneg : -(k : Int) < 0 := by omega
          go_wp2_with fail
        all_goals
          refine (HCo.out).mono ?_
          rintro e w3 ⟨rfl, m3, rfl⟩
          have hL3 : Laid l W g gw (wr.drewN m3) r (.slice Av r.length cv) vw := ⟨HL.out.1.own, HL.out.1.wrt.only ((Only.refl [] wr).drewN m3) (by simp) (by simp), HL.out.1.tab.only ((Only.refl [] wr).drewN m3) (by simp), ⟨HL.out.1.since.1.drewN m3, HL.out.1.since.2⟩, HL.out.1.some_⟩
          have HL3 := hide hL3
          clear hL3
          generalize wr.drewN m3 = wa at *
          clear hcel
          rcases Nat.eq_zero_or_pos y with hy0 | hy0
          · have hy0' : (y : Int) = 0 := by omega
            clear hy0 HY
            generalize (y : Int) = yy at *
            subst hy0'
            go_wp2_with fail
            go_roundw
            case rel => exact ⟨i + 1, r, _, vw, hlt, by go_num, rfl, by omega, HL3.out⟩
            case measure => simp [intOf]; omega
          · have hlk : ln l k ≠ 0 := by rw [← HY.out]; omega
            have hxr : x = rev (cd l k) (ln l k) := by rw [HCV.out, if_pos hlk]
            have hxl : x < 2 ^ y := by rw [hxr, HY.out]; exact rev_lt _ _
            have hbl := bitsL_le H15.out r
            have hBt := wBits gw vw (bitsN l r) (bitsL l r) x (y : Int) wa HL3.out.wrt (by omega) (by have := HB.out.2.2.1; omega)
            have eN : laidN (bitsN l r) (bitsL l r) x (y : Int) = bitsN l (k :: r) := by
              unfold laidN
              rw [if_pos (by omega), Int.toNat_natCast, Nat.mod_eq_of_lt hxl, hxr]; rfl
            have eL : laidL (bitsL l r) (y : Int) = bitsL l (k :: r) := by
              unfold laidL
              rw [if_pos (by omega), Int.toNat_natCast, HY.out]; rfl
            rw [eN, eL] at hBt
            have HBt := hide hBt
            have hy0' : (0 : Int) < (y : Int) := by omega
            have HLK := hide hlk
            clear hBt eN eL hxr hxl hbl hlk hy0
            go_wp2_with fail
            refine (HBt.out).mono ?_
            rintro e w5 ⟨rfl, vw5, hW5, hs5⟩
            have hown5 : w5.ownsRow W.heap.size 3 1 (.slice Av r.length cv) r.length (kvals r.reverse) := by
              obtain ⟨⟨cs, hcs⟩, ⟨lb, hlb⟩⟩ := HL3.out.wrt.has
              refine own_keep HL3.out.own hs5.1 (fun b hb hm => ?_)
              rcases List.mem_cons.1 hm with rfl | hm
              · exact own_ne HL3.out.own hcs (by decide) hb.symm
              · have hv : vw.ownBlock = some b := by cases hv : vw.ownBlock with
                  | none => rw [hv] at hm; simp at hm
                  | some j => rw [hv] at hm; simp at hm; rw [hm]
                exact own_own HL3.out.own hlb (by decide) b hb hv
            have hT5 : Tb w5 g l := by
              obtain ⟨⟨cs, hcs⟩, ⟨lb, hlb⟩⟩ := HL3.out.wrt.has
              obtain ⟨S, hD, hTT⟩ := HL3.out.tab
              refine Tb.only ⟨S, hD, hTT⟩ hs5.1 (fun hm => ?_)
              rcases List.mem_cons.1 hm with rfl | hm
              · exact Has.ne hTT hcs (by decide) rfl
              · have hv : vw.ownBlock = some g := by cases hv : vw.ownBlock with
                  | none => rw [hv] at hm; simp at hm
                  | some j => rw [hv] at hm; simp at hm; rw [hm]
                exact own_ne hlb hTT (by decide) hv.symm
            have hs6 : WSince W gw (.slice none 0 0) w5 vw5 := HL3.out.since.trans hs5
            have H5 := hide (And.intro hown5 (And.intro hT5 (And.intro hs6 hW5)))
            have hown6 : (w5.alloc (.cells #[.int .i64 (k : Int)] 3)).ownsRow W.heap.size 3 1 (.slice Av r.length cv) r.length (kvals r.reverse) := own_keep hown5 ((Only.refl [] w5).alloc _) (by simp)
            have hlit6 : Holds (w5.alloc (.cells #[.int .i64 (k : Int)] 3)) 1 (some ⟨w5.heap.size, 0, none⟩) 1 [.int .i64 (k : Int)] := Holds.lit w5 #[.int .i64 (k : Int)] 3
            have hB6 : W.heap.size ≤ (w5.alloc (.cells #[.int .i64 (k : Int)] 3)).heap.size := Nat.le_trans hs6.1.size (by simp)
            have hrm : (r.length + 1) * 8 ≤ 140737488355328 := by have := HB.out.2.2.1; omega
            have H6 := hide (And.intro hown6 (And.intro hlit6 hB6))
            clear hown5 hT5 hs6 hs5 hW5 hown6 hlit6 hB6
            obtain ⟨i0, hi0, hz0, hz1, hz2⟩ := info_of int_info
            go_wp2_with (at_builtin; refine list_append _ rfl (.tmp 77) (.tmp 79) 46 rfl W.heap.size 1 8 Try.underlying46 hi0 hz0 hz1 hz2 rfl (Nat.zero_lt_one) H6.out.1 rfl H6.out.2.1 rfl (kvals_one k) hrm (by decide) H6.out.2.2 ?_; intro A7 c7 w7 hown7 hgrow hat; have H7 := hide (And.intro hown7 hgrow); clear hown7 hgrow hat)
            go_roundw
            case rel =>
              have O7 : Only (Value.slice Av r.length cv).ownBlock.toList (w5.alloc (.cells #[.int .i64 (k : Int)] 3)) w7 := (Only.refl _ _).grown H7.out.2 (fun b hb _ => by rw [hb]; simp)
              have hnot : ∀ b, (Value.slice Av r.length cv).ownBlock ≠ some b → b ∉ (Value.slice Av r.length cv).ownBlock.toList := fun b hb hm => by
                cases hv : (Value.slice Av r.length cv).ownBlock with
                | none => rw [hv] at hm; simp at hm
                | some j => rw [hv] at hm hb; simp at hm; exact hb (by rw [hm])
              obtain ⟨⟨cs, hcs⟩, ⟨lb, hlb⟩⟩ := H5.out.2.2.2.has
              obtain ⟨S, hD, hTT⟩ := H5.out.2.1
              refine ⟨i + 1, k :: r, _, vw5, hlt, by go_num, rfl, by simp; omega, ⟨?_, ?_, ?_, ?_, ?_⟩⟩
              · have h := H7.out.1
                rw [List.reverse_cons, show kvals (r.reverse ++ [k]) = kvals r.reverse ++ [.int .i64 (k : Int)] by simp [kvals]]
                exact h
              · exact (H5.out.2.2.2.only ((Only.refl [] w5).alloc _) (by simp) (by simp)).only O7 (hnot _ (fun h => own_ne H5.out.1 hcs (by decide) h.symm)) (fun b hb => hnot b (fun h => own_own hlb H5.out.1 (by decide) b hb h))
              · exact (Tb.only ⟨S, hD, hTT⟩ ((Only.refl [] w5).alloc _) (by simp)).only O7 (hnot _ (fun h => own_ne H5.out.1 hTT (by decide) h.symm))
              · exact ⟨(H5.out.2.2.1.1.alloc _).grown H7.out.2 (fun b hb hlt2 => by have := (H6.out.1.lt b hb).1; omega), H5.out.2.2.1.2⟩
              · intro q hq
                rcases List.mem_cons.1 hq with rfl | hq
                · exact HLK.out
                · exact HL3.out.some_ q hq
            case measure => simp [intOf]; omega
      · obtain rfl : i = zs.length := by omega
        have hbl := bitsL_le H15.out r
        have h400 := HB.out.2.2.1
        have HL := hide (And.intro hL hoW)
        clear hL hoW
        go_wp2_with fail
        refine (wDone gw vw (bitsN l r) (bitsL l r) wr HL.out.1.wrt (by omega)).mono ?_
        rintro e w5 ⟨rv, bs, rfl, hown5, ho5, hlen5, hnum5⟩
        obtain ⟨A5, c5, rfl, hc5, hA5⟩ := own_shape hown5
        have H5 := hide (And.intro hown5 (And.intro ho5 (And.intro hlen5 hnum5)))
        clear hown5 ho5 hlen5 hnum5
        go_wp2_with fail
        refine (newReader_any A5 bs.length c5 bs w5 (Holds.of_own H5.out.1) rfl (by have := H5.out.2.2.1; omega) (fun h => by have := hA5 h; omega)).mono ?_
        rintro e W2 ⟨gr, vr, rfl, hgr, hvr, hR, hoW2⟩
        have o1 : Only [] wr W2 := H5.out.2.1.trans hoW2 (by simp)
        have hV5 : Holds w5 1 Av r.length (kvals r.reverse) := (Holds.of_own HL.out.1.own).keep H5.out.2.1 (by simp)
        have hV := hV5.keep hoW2 (by simp)
        have hVne : 0 < r.length → ∀ ad, Av = some ad → ad.block ≠ gr := fun h0 ad ha => by have := hV5.blk h0 ad ha; omega
        have hT2 : Tb W2 g l := HL.out.1.tab.only o1 (by simp)
        have hgne : g ≠ gr := by have := HL.out.1.tab.lt; have := H5.out.2.1.size; omega
        have hgw : w.heap.size ≤ gr := by have := HL.out.2.size; have := H5.out.2.1.size; omega
        have H2 := hide (And.intro hR (And.intro hV (And.intro hVne (And.intro hT2 (And.intro hgne (And.intro (HL.out.2.trans o1 (S := []) (by simp)) hgw))))))
        clear hgr hvr hR hoW2 o1 hV5 hV hVne hT2 hgne hgw
        go_wp2_with fail
        go_loopw [14] (fun v w2 => ∃ a b : List Nat, r = a ++ b ∧ v = .int .i64 (b.length : Nat) ∧ Rd w2 gr vr bs (bitsL l b) ∧ Only [gr] W2 w2) (fun v _ => r.length - (intOf v).toNat)
        case atStart => exact ⟨r, [], by simp, rfl, H2.out.1, Only.refl _ _⟩
        case round =>
          obtain ⟨a, b, hab, rfl, hR, ho⟩ := hrel
          have hlen := H5.out.2.2.1
          have hTb := H2.out.2.2.2.1.only ho (by simpa using H2.out.2.2.2.2.1)
          rcases List.eq_nil_or_concat a with rfl | ⟨a', k, rfl⟩
          · obtain rfl : r = b := by simpa using hab
            have hLd := hide (left_rd gr vr bs (bitsL l r) wr hR)
            have h8 : 8 * bs.length - bitsL l r < 8 := by omega
            have HO := hide ho
            clear hab hR ho hlen hTb
            generalize 8 * bs.length - bitsL l r = q at *
            go_wp2_with fail
            refine (hLd.out).mono ?_
            rintro e w6 ⟨rfl, m6, rfl⟩
            go_wp2_with fail
            go_ret
            refine ⟨ret_bool (by simp; omega), ?_⟩
            exact (H2.out.2.2.2.2.2.1.trans HO.out (by simp; have := H2.out.2.2.2.2.2.2; omega)).drewN m6
          · have hr : r = a' ++ k :: b := by rw [hab]; simp
            have hk0 : ln l k ≠ 0 := HL.out.1.some_ k (by rw [hr]; simp)
            have hbl2 : bitsL l b + ln l k ≤ bitsL l r := by
              rw [hr, bitsL_append]
              show _ ≤ (bitsL l b + ln l k) + bitsL l a'
              omega
            have hrd : readM l (num bs) (bitsL l b) (8 * bs.length - bitsL l b) = (k, 0, ln l k) := by
              rw [H5.out.2.2.2, hr]
              exact laid_next HS.out H15.out a' b k _ hk0 (by omega)
            have hRead := hide (read_any g gr vr l bs (bitsL l b) wr hTb hR HB.out.1 H15.out HS.out k 0 (ln l k) hrd)
            have hrl : r.length = a'.length + (b.length + 1) := by rw [hr]; simp
            have hblt : b.length < r.length := by omega
            have hV := fun w3 (ho3 : Only [gr] W2 w3) => H2.out.2.1.keepPos ho3 (fun h0 ad ha _ => by simpa using H2.out.2.2.1 h0 ad ha)
            obtain ⟨bv, ov, hAv, _⟩ := (H2.out.2.1).addr (by rw [kvals_length, List.length_reverse]; omega)
            subst hAv
            have hcellV : ∀ w3, Only [gr] W2 w3 → w3.cell? ⟨bv, ov + b.length, none⟩ = some (.int .i64 (k : Int)) := fun w3 ho3 => by
              obtain ⟨bv', ov', he, hc⟩ := (hV w3 ho3).addr (by rw [kvals_length, List.length_reverse]; omega)
              injection he with he
              injection he with e1 e2
              subst e1 e2
              refine hc _ _ ?_
              rw [hr, List.reverse_append, List.reverse_cons, List.append_assoc]
              unfold kvals
              rw [List.map_append, List.getElem?_append_right (by simp)]
              simp
            have HCV := hide hcellV
            have HR := hide (And.intro hr ho)
            have hblt' : (b.length : Int) < (r.length : Int) := by omega
            clear hab hr hrd hbl2 hk0 hV hcellV hR ho hTb hlen hrl
            obtain ⟨q, hq⟩ : ∃ q, q = b.length := ⟨_, rfl⟩
            rw [← hq] at HCV hblt hblt' ⊢
            have HQ := hide hq
            clear hq
            go_wp2_with fail
            refine (hRead.out).mono ?_
            rintro e w6 ⟨rfl, ho6, hR6⟩
            have ho26 : Only [gr] W2 w6 := HR.out.2.trans ho6 (fun i hi _ => hi)
            have hce := HCV.out w6 ho26
            have H6 := hide (And.intro hR6 ho26)
            clear ho6 hR6 ho26
            go_wp2_with fail
            go_roundw
            case rel => exact ⟨a', k :: b, HR.out.1, by rw [List.length_cons, ← HQ.out]; go_num, H6.out.1, H6.out.2⟩
            case measure => simp [intOf]; omega
  · have HN := hide (fun w1 (ho : Only [] w w1) => newF_any A l.length c l w1 (HB.out.2.2.2.1.keep ho (by simp)) rfl (by have := HB.out.1; omega) hE)
    have hE' : ¬ (newE l : Int) = 0 := by omega
    clear hE
    generalize newE l = q at *
    go_enter Try.func4, Try.ntmps4
    go_wp2_with fail
    refine (HK.out).mono ?_
    rintro e w1 ⟨rfl, ho1⟩
    have HO1 := hide ho1
    clear ho1
    go_wp2_with fail
    refine (HN.out w1 HO1.out).mono ?_
    rintro e w2 ⟨rfl, ho2⟩
    have HO2 := hide (HO1.out.trans ho2 (S := []) (by simp))
    clear ho2
    go_wp2_with fail
    go_ret
    exact ⟨rfl, HO2.out⟩

theorem walk (A C : Option Addr) (n c m d : Nat) (l : List UInt8) (zs : List Int) (w : World) (hb : Holds w 1 A n (bvals l)) (hl : l.length = n) (hz : Holds w 1 C m (zs.map (Value.int .i64))) (hzl : zs.length = m)
    (hwf : ∀ z ∈ zs, (Lit.int .i64 z).wf = true) (hn : n ≤ 9223372036854775807) (hm : m ≤ 9223372036854775807) :
    Calls Try.prog 4 #[.slice A n c, .slice C m d] w fun e w' => e = .returned (.bool true) ∧ Only [] w w' := by
  by_cases h : 320 < n ∨ 400 < m ∨ n = 0
  · exact out A C n c m d w hn hm h
  · exact core A C n c m d l zs w hb hl hz hzl hwf (by omega) (by omega) (by omega)

set_option maxRecDepth 100000 in
theorem lifted (os : Os) (started : os.Started) (H : Type) (enc : TypeId × Value → H) :
    ReturnsInHanded {} Try.checked os 4 .any (Rows.huffBackSpec.pre6 enc Try.prog Try.f4 Rows.huffBackRow.domain false)
      (Rows.huffBackSpec.post enc Try.prog Try.f4 false true false false) := by
  refine returnsInHanded_of_change (C := Try.checked) own_knob started (by kernel_rfl) Try.func4
    (ChangeSpec.witness6 (enc := enc) (C := Try.checked) false ⟨#[], #[.slice none 0 0, .slice none 0 0], []⟩ 8 (by kernel_rfl) (by kernel_rfl) (by kernel_rfl) (by kernel_rfl)) ?_
  intro W base args ds gs before hval0 hW hcnd _
  have hval : ∀ (j : Nat) t v, Try.f4.params[j]? = some t → args[j]? = some v → Value.okWide Try.prog W .any base t v := hval0
  have hW' := hW
  obtain ⟨p, q, hA0, hV, rfl, hfz, hnd⟩ := hW
  have hA : DataW.TrodAll enc Try.prog W 0 (fun _ => true) true Try.f4.params.toList args.toList ds p := hA0
  rw [Try.params4] at hA hval
  obtain ⟨v0, vs0, d0, ds0, p0, q0, hargs, rfl, rfl, h0, r0⟩ := trodAll_cons hA
  obtain ⟨v1, vs1, d1, ds1, p1, q1, rfl, rfl, rfl, h1, r1⟩ := trodAll_cons r0
  obtain ⟨rfl, rfl, rfl⟩ := trodAll_nil r1
  obtain rfl : args = #[v0, v1] := by cases args; simp_all
  obtain ⟨A0, n0, c0, l0, rfl, hc0, cm0, _, hl0, hb0⟩ := open_bytes Try.underlying22 Try.underlying5 (by kernel_rfl) (hval 0 22 v0 rfl rfl) h0
  obtain ⟨A1, n1, c1, l1, rfl, hc1, cm1, _, hl1, hb1, hwf1⟩ := open_nums Try.underlying46 Try.underlying3 (by kernel_rfl) (hval 1 46 v1 rfl rfl) h1
  unfold maxLen at *
  refine (walk A0 A1 n0 c0 n1 c1 l0 l1 W hb0 hl0 hb1 hl1 hwf1 (by omega) (by omega)).mono fun e W' ⟨he, ho⟩ => ?_
  subst he
  exact ⟨_, rfl, law_post rfl hW' (by intro t ht; revert t; exact of_decide_eq_true (by kernel_rfl)) rfl rfl ho⟩

theorem proved : Rows.HuffBackSaid :=
  OpenClaim.holds_of_wide 4 Try.f4 rfl rfl rfl rfl rfl rfl rfl ⟨rfl, rfl, rfl, rfl, rfl⟩ rfl rfl rfl rfl rfl (by kernel_rfl) Try.func4 (by kernel_rfl)
    (of_decide_eq_true (by kernel_rfl)) (by unfold Func.isWrapper; first | (rw [if_pos (by decide +kernel)]; kernel_rfl) | (rw [if_neg (by decide +kernel)]; exact ⟨rfl, rfl⟩))
    (fun os started H enc _ => lifted os started H enc)
end Go.Proofs.Ytkjdlpibnnhocaa.hback
