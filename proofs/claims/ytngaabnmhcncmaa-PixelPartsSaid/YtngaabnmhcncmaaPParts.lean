/-
  Proves: for every matrix, place, size and colour, PixelParts tells true, and leaves all that was there as it was.
-/
import Derived.Test.YtngaabnmhcncmaaPxPp
import Derived.Test.YtngaabnmhcncmaaPxT
import Derived.Test.YtngaabnmhcncmaaPxL
import Derived.Test.YtngaabnmhcncmaaLaw
import Derived.Test.YtngaabnmhcncmaaOpen
namespace Go.Proofs.Ytngaabnmhcncmaa.pparts
open Go Go.RowKit Go.ChangeShapes Go.WideShapes Go.ChangeAt

set_option maxRecDepth 100000 in
set_option maxHeartbeats 8000000 in
/-- Nothing to look at: true is told. -/
theorem out (W H : Int) (A : Option Addr) (n c : Nat) (x y p q : Int) (cx : Px) (w : World) (h : 16384 < n ∨ rightB W H n = false ∨ x < 0 ∨ y < 0 ∨ 100 < x ∨ 100 < y) :
    Calls Try.prog 8 #[mval W H A n c, .int .i64 x, .int .i64 y, .int .i64 p, .int .i64 q, cx.val] w fun e w' => e = .returned (.bool true) ∧ Only [] w w' := by
  show Calls Try.prog 8 #[.agg #[.int .i64 W, .int .i64 H, .slice A n c], .int .i64 x, .int .i64 y, .int .i64 p, .int .i64 q, .agg cx.cells] w _
  have HK := hide (fun w => known_any w)
  have HF := hide (fun w => few_any W H A n c w)
  have HO := hide (fun w => of_any W H A n c w)
  have HR := hide (fun w => tRight_any W H A n c w)
  obtain ⟨w0, hw0⟩ : ∃ w0, w0 = (w.alloc (.cells #[.int .i64 W, .int .i64 H, .slice A n c] 24)).alloc (.cells cx.cells 41) := ⟨_, rfl⟩
  have o0 : Only [] w w0 := by rw [hw0]; exact ((Only.refl [] w).alloc _).alloc _
  have hb0 : Has w0 w.heap.size 24 #[.int .i64 W, .int .i64 H, .slice A n c] := by rw [hw0]; exact (Has.new w _ _).alloc _
  by_cases hn : n ≤ 16384
  · rw [decide_eq_true hn] at HF
    cases hr : rightB W H n with
    | false =>
      rw [hr] at HR
      unfold mval at HF HO HR
      clear h hr
      go_enter Try.func8, Try.ntmps8
      go_wp2_with fail
      rw [← hw0]
      clear hw0
      refine (HK.out _).mono ?_
      rintro e w1 ⟨rfl, ho1⟩
      have hb1 := hb0.only ho1 (by simp)
      have b0 := hb1.cell 0
      have b1 := hb1.cell 1
      have b2 := hb1.cell 2
      simp only [List.getElem?_toArray, List.getElem?_cons_zero, List.getElem?_cons_succ] at b0 b1 b2
      go_wp2_with fail
      refine (HF.out _).mono ?_
      rintro e w2 ⟨rfl, ho2⟩
      have hb2 := hb1.only ho2 (by simp)
      have b0 := hb2.cell 0
      have b1 := hb2.cell 1
      have b2 := hb2.cell 2
      simp only [List.getElem?_toArray, List.getElem?_cons_zero, List.getElem?_cons_succ] at b0 b1 b2
      go_wp2_with fail
      refine (HO.out _).mono ?_
      rintro e w3 ⟨rfl, ho3⟩
      go_wp2_with fail
      refine (HR.out _).mono ?_
      rintro e w4 ⟨rfl, ho4⟩
      go_wp2_with fail
      go_ret
      exact ⟨rfl, (((o0.trans ho1 (S := []) (by simp)).trans ho2 (S := []) (by simp)).trans ho3 (S := []) (by simp)).trans ho4 (S := []) (by simp)⟩
    | true =>
      rw [hr] at HR
      unfold mval at HF HO HR
      have h' : x < 0 ∨ (¬ x < 0 ∧ y < 0) ∨ (¬ x < 0 ∧ ¬ y < 0 ∧ 100 < x) ∨ (¬ x < 0 ∧ ¬ y < 0 ∧ ¬ 100 < x ∧ 100 < y) := by
        rcases h with h | h | h
        · omega
        · rw [h] at hr; cases hr
        · omega
      clear h hr hn
      rcases h' with h1 | ⟨h1, h2⟩ | ⟨h1, h2, h3⟩ | ⟨h1, h2, h3, h4⟩
      all_goals
        go_enter Try.func8, Try.ntmps8
        go_wp2_with fail
        rw [← hw0]
        clear hw0
        refine (HK.out _).mono ?_
        rintro e w1 ⟨rfl, ho1⟩
        have hb1 := hb0.only ho1 (by simp)
        have b0 := hb1.cell 0
        have b1 := hb1.cell 1
        have b2 := hb1.cell 2
        simp only [List.getElem?_toArray, List.getElem?_cons_zero, List.getElem?_cons_succ] at b0 b1 b2
        go_wp2_with fail
        refine (HF.out _).mono ?_
        rintro e w2 ⟨rfl, ho2⟩
        have hb2 := hb1.only ho2 (by simp)
        have b0 := hb2.cell 0
        have b1 := hb2.cell 1
        have b2 := hb2.cell 2
        simp only [List.getElem?_toArray, List.getElem?_cons_zero, List.getElem?_cons_succ] at b0 b1 b2
        go_wp2_with fail
        refine (HO.out _).mono ?_
        rintro e w3 ⟨rfl, ho3⟩
        go_wp2_with fail
        refine (HR.out _).mono ?_
        rintro e w4 ⟨rfl, ho4⟩
        have HO4 := hide ((((o0.trans ho1 (S := []) (by simp)).trans ho2 (S := []) (by simp)).trans ho3 (S := []) (by simp)).trans ho4 (S := []) (by simp))
        clear o0 ho1 ho2 ho3 ho4 hb0 hb1 hb2 b0 b1 b2
        go_wp2_with fail
        go_ret
        exact ⟨rfl, HO4.out⟩
  · rw [decide_eq_false hn] at HF
    unfold mval at HF
    clear h hn
    go_enter Try.func8, Try.ntmps8
    go_wp2_with fail
    rw [← hw0]
    clear hw0
    refine (HK.out _).mono ?_
    rintro e w1 ⟨rfl, ho1⟩
    have hb1 := hb0.only ho1 (by simp)
    have b0 := hb1.cell 0
    have b1 := hb1.cell 1
    have b2 := hb1.cell 2
    simp only [List.getElem?_toArray, List.getElem?_cons_zero, List.getElem?_cons_succ] at b0 b1 b2
    go_wp2_with fail
    refine (HF.out _).mono ?_
    rintro e w2 ⟨rfl, ho2⟩
    go_wp2_with fail
    go_ret
    exact ⟨rfl, (o0.trans ho1 (S := []) (by simp)).trans ho2 (S := []) (by simp)⟩
/-- All opaque. -/
theorem opaque_of {l : List UInt8} {K : Nat} (h : ∀ z, z < K → l.getD (4 * z + 3) 0 = 255) : ∀ z, z < K → (at4 l z).a = 255 := fun z hz => h z hz

set_option maxRecDepth 100000 in
set_option maxHeartbeats 8000000 in
theorem core (W H : Nat) (A : Option Addr) (n c : Nat) (l : List UInt8) (x y : Nat) (p q : Int) (cx : Px) (w : World) (hok : okM W H n) (hn : n ≤ 16384) (hl : l.length = n) (hc : n ≤ c) (hA : A = none → c = 0 ∧ n = 0) (hb : Holds w 1 A n (bvals l))
    (hx : x ≤ 100) (hy : y ≤ 100) (hp : -9223372036854775808 ≤ p ∧ p ≤ 9223372036854775807) (hq : -9223372036854775808 ≤ q ∧ q ≤ 9223372036854775807) :
    Calls Try.prog 8 #[mval W H A n c, .int .i64 (x : Int), .int .i64 (y : Int), .int .i64 p, .int .i64 q, cx.val] w fun e w' => e = .returned (.bool true) ∧ Only [] w w' := by
  show Calls Try.prog 8 #[.agg #[.int .i64 W, .int .i64 H, .slice A n c], .int .i64 (x : Int), .int .i64 (y : Int), .int .i64 p, .int .i64 q, .agg cx.cells] w _
  have HK := hide (fun w => known_any w)
  have HF := hide (fun w => few_any W H A n c w)
  rw [decide_eq_true hn] at HF
  have HO := hide (fun w => of_any W H A n c w)
  have HR := hide (fun w => tRight_any W H A n c w)
  rw [hok.right] at HR
  have hl4 : l.length = 4 * (W * H) := hl.trans hok.2
  have HCut := hide (fun w (h : Holds w 1 A n (bvals l)) => cut_any W H A n c l x y p q w h hl hok hc (by omega) (by omega) hp hq)
  have HFill := hide (fun w (h : Holds w 1 A n (bvals l)) => fill_any W H A n c l x y p q cx w h hl hok hA (by omega) (by omega) hp hq)
  have hcok := cut_ok hok x y p q
  have hclen := cutL_length W H x y p q l
  have HDraw := hide (fun w A4 n4 c4 (h : Holds w 1 A n (bvals l)) (h4 : Holds w 1 A4 n4 (bvals (cutL W H x y p q l))) (hl4 : (cutL W H x y p q l).length = n4) (hc4 : n4 ≤ c4) => draw_any W H A n c l (cutW W H x y p q) (cutH W H x y p q) A4 n4 c4 (cutL W H x y p q l) x y w h hl hok hA h4 hl4 (by rw [← hl4, hclen]; exact hcok) hc4 (by omega) (by omega))
  have hdraw := draw_cut W H x y p q l hok hl
  have HCut2 := hide (fun w A6 c6 (h : Holds w 1 A6 (partL (fun _ _ _ => cx) W H x y p q l).length (bvals (partL (fun _ _ _ => cx) W H x y p q l))) (hc6 : (partL (fun _ _ _ => cx) W H x y p q l).length ≤ c6) => cut_any W H A6 _ c6 (partL (fun _ _ _ => cx) W H x y p q l) x y p q w h rfl (by rw [partL_length, hl]; exact hok) hc6 (by omega) (by omega) hp hq)
  have hfin := cut_fill W H x y p q cx l hl4
  have hflen := cutL_length W H x y p q (partL (fun _ _ _ => cx) W H x y p q l)
  generalize cutL W H x y p q (partL (fun _ _ _ => cx) W H x y p q l) = FL at *
  generalize partL (fun _ _ _ => cx) W H x y p q l = PL at *
  generalize cutL W H x y p q l = CL at *
  generalize drawL W H (cutW W H x y p q) (cutH W H x y p q) x y l CL = DL at *
  have hcside := hcok.side
  generalize cutW W H x y p q = k at *
  generalize cutH W H x y p q = g at *
  have HS1 := hide (fun w A1 c1 (h1 : Holds w 1 A1 l.length (bvals l)) (h2 : Holds w 1 A n (bvals l)) (hc1 : l.length ≤ c1) => same_any W H W H A1 A l.length n c1 c l l w h1 h2 rfl hl (by rw [hl]; exact hok) hok hc1 hc)
  rw [sameB_self] at HS1
  obtain ⟨w0, hw0⟩ : ∃ w0, w0 = (w.alloc (.cells #[.int .i64 (W : Int), .int .i64 (H : Int), .slice A n c] 24)).alloc (.cells cx.cells 41) := ⟨_, rfl⟩
  have o0 : Only [] w w0 := by rw [hw0]; exact ((Only.refl [] w).alloc _).alloc _
  have m0 : Mt w0 w.heap.size 24 W H A n c l := by rw [hw0]; exact (Mt.new hb).only ((Only.refl [] _).alloc _)
  have hcol : Has w0 (w.heap.size + 1) 41 cx.cells := by rw [hw0]; exact Has.new' _ _ _ _ (by simp)
  have hsz : w.heap.size < w0.heap.size := by rw [hw0]; simp; omega
  have HM0 := hide (And.intro o0 (And.intro m0 hcol))
  have HI := hide (And.intro hl4 (And.intro hl (And.intro hn (And.intro hdraw (And.intro hfin (And.intro hflen (And.intro hclen hcside)))))))
  have hx1 : ¬ (x : Int) < 0 := by omega
  have hy1 : ¬ (y : Int) < 0 := by omega
  have hx2 : ¬ (100 : Int) < (x : Int) := by omega
  have hy2 : ¬ (100 : Int) < (y : Int) := by omega
  unfold mval at HF HO HR HCut HFill HDraw HCut2 HS1
  clear hok hn hl hc hA hb hx hy hp hq hl4 hcok hclen hdraw hfin hflen o0 m0 hcol hcside hsz
  go_enter Try.func8, Try.ntmps8
  go_wp2_with fail
  rw [← hw0]
  clear hw0
  refine (HK.out _).mono ?_
  rintro e w1 ⟨rfl, ho1⟩
  have m1 := HM0.out.2.1.only ho1
  obtain ⟨b0, b1, b2⟩ := m1.cells
  have HM := hide (And.intro (HM0.out.1.trans ho1 (S := []) (by simp)) (And.intro m1 (HM0.out.2.2.only ho1 (by simp))))
  clear m1 ho1 HM0 HK
  go_wp2_with fail
  refine (HF.out _).mono ?_
  rintro e w2 ⟨rfl, ho2⟩
  have m2 := HM.out.2.1.only ho2
  obtain ⟨b0, b1, b2⟩ := m2.cells
  have HM := hide (And.intro (HM.out.1.trans ho2 (S := []) (by simp)) (And.intro m2 (HM.out.2.2.only ho2 (by simp))))
  clear m2 ho2 HF
  go_wp2_with fail
  refine (HO.out _).mono ?_
  rintro e w3 ⟨rfl, ho3⟩
  go_wp2_with fail
  refine (HR.out _).mono ?_
  rintro e w4 ⟨rfl, ho4⟩
  have m4 := (HM.out.2.1.only ho3).only ho4
  obtain ⟨b0, b1, b2⟩ := m4.cells
  have HM := hide (And.intro ((HM.out.1.trans ho3 (S := []) (by simp)).trans ho4 (S := []) (by simp)) (And.intro m4 ((HM.out.2.2.only ho3 (by simp)).only ho4 (by simp))))
  clear m4 ho3 ho4 HO HR
  go_wp2_with fail
  go_loopw [13] (fun i wr => ∃ k' : Nat, k' ≤ W * H ∧ i = .int .i64 (4 * k' + 3 : Nat) ∧ wr = w4 ∧ ∀ z, z < k' → l.getD (4 * z + 3) 0 = 255) (fun i _ => 4 * (W * H) + 4 - (intOf i).toNat)
  case atStart => exact ⟨0, Nat.zero_le _, rfl, rfl, fun z hz => absurd hz (Nat.not_lt_zero _)⟩
  case round =>
    obtain ⟨k', hk, rfl, rfl, hz⟩ := hrel
    obtain ⟨i, hi⟩ : ∃ i, i = 4 * k' + 3 := ⟨_, rfl⟩
    rw [← hi]
    have hnW : n = 4 * (W * H) := HI.out.2.1.symm.trans HI.out.1
    by_cases hlt : k' < W * H
    · have hin : i < n := by omega
      have hin' : (i : Int) < (n : Int) := by omega
      obtain ⟨bb, oo, rfl, hcell⟩ := HM.out.2.1.row.addr (by rw [bvals_length, HI.out.2.1]; omega)
      have kc := cell_of hcell (i := i) (by rw [HI.out.2.1]; exact hin)
      by_cases h255 : l.getD i 0 = 255
      · have e255 : ((l.getD i 0).toNat : Int) = 255 := by rw [h255]; rfl
        have hnext : ∀ z, z < k' + 1 → l.getD (4 * z + 3) 0 = 255 := fun z h => by
          by_cases e : z = k'
          · subst e; rw [← hi]; exact h255
          · exact hz z (by omega)
        have HZ := hide (And.intro hnext (And.intro hnW (And.intro hlt hi)))
        have hi4 : i ≤ 16384 := by have := HI.out.2.2.1; omega
        rw [e255] at kc
        clear hcell h255 e255 hnext hz hnW hk hlt hi
        go_wp2_with fail
        go_roundw
        case rel =>
          have e4 : 4 * (k' + 1) + 3 = i + 4 := by have := HZ.out.2.2.2; omega
          refine ⟨k' + 1, HZ.out.2.2.1, ?_, by simp, HZ.out.1⟩
          rw [e4]
          go_num
        case measure => have := HZ.out; simp [intOf]; omega
      · have hne : ¬ ((l.getD i 0).toNat : Int) = 255 := fun h => h255 (by
          have h2 : (l.getD i 0).toNat = 255 := by omega
          rw [← UInt8.ofNat_toNat (x := l.getD i 0), h2]; rfl)
        clear hcell h255 hz hnW hk hlt hi
        generalize (l.getD i 0).toNat = bv at *
        go_wp2_with fail
        go_ret
        exact ⟨rfl, HM.out.1⟩
    · have hge : ¬ (i : Int) < (n : Int) := by omega
      have hop := opaque_of (K := W * H) (fun z h => hz z (by omega))
      have hDL : DL = l := HI.out.2.2.2.1 hop
      subst hDL
      clear hz hnW hk hlt hop hi
      go_wp2_with fail
      refine (HCut.out _ HM.out.2.1.row).mono ?_
      rintro e w5 ⟨v, rfl, hown, ho5⟩
      obtain ⟨A5, c5, rfl, hb5, hc5, _⟩ := own_mat hown
      have oa := (Only.refl [] w5).alloc (.cells #[.int .i64 (k : Int), .int .i64 (g : Int), .slice A5 CL.length c5] 24)
      have o5 := (HM.out.1.trans ho5 (S := []) (by simp)).trans oa (S := []) (by simp)
      have m5 := (HM.out.2.1.only ho5).only oa
      have hcol5 := (HM.out.2.2.only ho5 (by simp)).only oa (by simp)
      have q5 : Mt (w5.alloc (.cells #[.int .i64 (k : Int), .int .i64 (g : Int), .slice A5 CL.length c5] 24)) w5.heap.size 24 k g A5 CL.length c5 CL := Mt.new hb5
      obtain ⟨b0, b1, b2⟩ := m5.cells
      obtain ⟨d0, d1, d2⟩ := q5.cells
      have HM5 := hide (And.intro o5 (And.intro m5 (And.intro hcol5 (And.intro q5 hc5))))
      clear o5 m5 hcol5 q5 oa ho5 hown hb5 hc5 HM HCut
      go_wp2_with fail
      refine (HDraw.out _ _ _ _ HM5.out.2.1.row HM5.out.2.2.2.1.row rfl HM5.out.2.2.2.2).mono ?_
      rintro e w6 ⟨v, rfl, hown, ho6⟩
      obtain ⟨A6, c6, rfl, hb6, hc6, _⟩ := own_mat hown
      have oa := (Only.refl [] w6).alloc (.cells #[.int .i64 (W : Int), .int .i64 (H : Int), .slice A6 DL.length c6] 24)
      have o6 := (HM5.out.1.trans ho6 (S := []) (by simp)).trans oa (S := []) (by simp)
      have m6 := (HM5.out.2.1.only ho6).only oa
      have hcol6 := (HM5.out.2.2.1.only ho6 (by simp)).only oa (by simp)
      have q6 := (HM5.out.2.2.2.1.only ho6).only oa
      have r6 : Mt (w6.alloc (.cells #[.int .i64 (W : Int), .int .i64 (H : Int), .slice A6 DL.length c6] 24)) w6.heap.size 24 W H A6 DL.length c6 DL := Mt.new hb6
      obtain ⟨b0, b1, b2⟩ := m6.cells
      have HM6 := hide (And.intro o6 (And.intro m6 (And.intro hcol6 (And.intro q6 (And.intro r6 hc6)))))
      clear o6 m6 q6 r6 oa ho6 hown hb6 hc6 HM5 HDraw d0 d1 d2
      go_wp2_with (refine wpList_load_row rfl 41 (.tmp 11) rfl (w.heap.size + 1) rfl 41 cx.cells (0, 0) _ hcol6 Try.underlying41 rfl (by kernel_rfl) ?_)
      refine (HFill.out _ HM6.out.2.1.row).mono ?_
      rintro e w7 ⟨v, rfl, hown, ho7⟩
      obtain ⟨A7, c7, rfl, hb7, hc7, _⟩ := own_mat hown
      have H7 := hide (And.intro hb7 (And.intro hc7 ho7))
      clear hown hb7 hc7 ho7 HFill hcol6
      go_wp2_with fail
      refine (HCut2.out _ _ _ H7.out.1 H7.out.2.1).mono ?_
      rintro e w8 ⟨v, rfl, hown, ho8⟩
      obtain ⟨A8, c8, rfl, hb8, hc8, _⟩ := own_mat hown
      have oa := (Only.refl [] w8).alloc (.cells #[.int .i64 (k : Int), .int .i64 (g : Int), .slice A8 FL.length c8] 24)
      have ob := (H7.out.2.2.trans ho8 (S := []) (by simp)).trans oa (S := []) (by simp)
      have o8 := HM6.out.1.trans ob (S := []) (by simp)
      have m8 := HM6.out.2.1.only ob
      have hcol8 := HM6.out.2.2.1.only ob (by simp)
      have q8 := HM6.out.2.2.2.1.only ob
      have r8 := HM6.out.2.2.2.2.1.only ob
      have s8 : Mt (w8.alloc (.cells #[.int .i64 (k : Int), .int .i64 (g : Int), .slice A8 FL.length c8] 24)) w8.heap.size 24 k g A8 FL.length c8 FL := Mt.new hb8
      obtain ⟨b0, b1, b2⟩ := m8.cells
      obtain ⟨f0, f1, f2⟩ := r8.cells
      have HM8 := hide (And.intro o8 (And.intro m8 (And.intro hcol8 (And.intro q8 (And.intro r8 (And.intro s8 HM6.out.2.2.2.2.2))))))
      clear o8 m8 hcol8 q8 r8 s8 oa ob ho8 hown hb8 hc8 HM6 H7 HCut2
      go_wp2_with fail
      refine (HS1.out _ _ _ HM8.out.2.2.2.2.1.row HM8.out.2.1.row HM8.out.2.2.2.2.2.2).mono ?_
      rintro e w9 ⟨rfl, ho9⟩
      have q9 := HM8.out.2.2.2.1.only ho9
      have s9 := HM8.out.2.2.2.2.2.1.only ho9
      obtain ⟨d0, d1, d2⟩ := q9.cells
      obtain ⟨f0, f1, f2⟩ := s9.cells
      have HM9 := hide (And.intro (HM8.out.1.trans ho9 (S := []) (by simp)) (And.intro (HM8.out.2.2.1.only ho9 (by simp)) s9))
      clear q9 s9 ho9 HM8 HS1 b0 b1 b2
      go_wp2_with fail
      go_loopw [17] (fun i wr => ∃ j : Nat, j ≤ FL.length ∧ i = .int .i64 j ∧ Only [] w9 wr) (fun i _ => FL.length - (intOf i).toNat)
      case atStart => exact ⟨0, Nat.zero_le _, rfl, Only.refl _ _⟩
      case round =>
        obtain ⟨j, hj, rfl, ho⟩ := hrel
        have s9 := HM9.out.2.2.only ho
        obtain ⟨f0, f1, f2⟩ := s9.cells
        have hcol9 := HM9.out.2.1.only ho (by simp)
        obtain ⟨_, _, _, _, hfin, hflen, hclen, hcside⟩ := HI.out
        have hkg : k * g ≤ 16384 * 16384 := Nat.mul_le_mul hcside.1 hcside.2
        have hjs : j ≤ 4 * (16384 * 16384) := by omega
        by_cases hlt : j < FL.length
        · have hlt' : (j : Int) < (FL.length : Int) := by omega
          obtain ⟨bb, oo, rfl, hcell⟩ := s9.row.addr (by rw [bvals_length]; omega)
          have kc := cell_of hcell (i := j) hlt
          have he := hfin j (by omega)
          rw [he] at kc
          have hr4 : j % 4 < 4 := Nat.mod_lt _ (by omega)
          have hm : (j : Int).tmod 4 = ((j % 4 : Nat) : Int) := by rw [Int.tmod_eq_emod_of_nonneg (by omega)]; omega
          have t1 : 0 ≤ (j : Int).tmod 4 := by omega
          have t2 : (j : Int).tmod 4 < 4 := by omega
          have kd := (hcol9.cell (j % 4)).trans (px_cell cx (j % 4) hr4)
          have HF2 := hide (And.intro hlt ho)
          generalize (cx.at (j % 4)).toNat = bv at *
          clear hcell he s9 hcol9 hfin hflen hclen hj ho hm hkg hcside
          go_wp2_with fail
          refine wp_region_quiet_lit (by kernel_rfl) (by kernel_rfl) ?_
          iterate 10 (go_big_quiet_step (fail))
          refine wpQuiet_nil ?_
          rintro _ ⟨nq, rfl⟩
          go_wp2_with fail
          go_roundw
          case rel => exact ⟨j + 1, by have := HF2.out.1; omega, by go_num, HF2.out.2.drewN nq⟩
          case measure => simp [intOf]; omega
        · obtain rfl : j = FL.length := by omega
          have HO9 := hide (HM9.out.1.trans ho (S := []) (by simp))
          clear s9 hcol9 hfin hflen hclen hlt hj ho hkg hcside
          go_wp2_with fail
          go_ret
          exact ⟨rfl, HO9.out⟩

theorem whole (W H : Int) (A : Option Addr) (n c : Nat) (l : List UInt8) (x y p q : Int) (cx : Px) (w : World) (hl : l.length = n) (hc : n ≤ c) (hA : A = none → c = 0 ∧ n = 0) (hb : Holds w 1 A n (bvals l))
    (hp : -9223372036854775808 ≤ p ∧ p ≤ 9223372036854775807) (hq : -9223372036854775808 ≤ q ∧ q ≤ 9223372036854775807) :
    Calls Try.prog 8 #[mval W H A n c, .int .i64 x, .int .i64 y, .int .i64 p, .int .i64 q, cx.val] w fun e w' => e = .returned (.bool true) ∧ Only [] w w' := by
  by_cases h : 16384 < n ∨ rightB W H n = false ∨ x < 0 ∨ y < 0 ∨ 100 < x ∨ 100 < y
  · exact out W H A n c x y p q cx w h
  · have hr : rightB W H n = true := by cases hx : rightB W H n with
      | true => rfl
      | false => exact absurd (.inr (.inl hx)) h
    obtain ⟨a, b, rfl, rfl, hok⟩ := rightB_ok hr
    obtain ⟨u, rfl⟩ := Int.eq_ofNat_of_zero_le (show 0 ≤ x by omega)
    obtain ⟨v, rfl⟩ := Int.eq_ofNat_of_zero_le (show 0 ≤ y by omega)
    exact core a b A n c l u v p q cx w hok (by omega) hl hc hA hb (by omega) (by omega) hp hq
set_option maxRecDepth 100000 in
theorem lifted (os : Os) (started : os.Started) (H : Type) (enc : TypeId × Value → H) :
    ReturnsInHanded {} Try.checked os 8 .any (Rows.pixelPartsSpec.pre6 enc Try.prog Try.f8 Rows.pixelPartsRow.domain false)
      (Rows.pixelPartsSpec.post enc Try.prog Try.f8 false true false false) := by
  refine returnsInHanded_of_change (C := Try.checked) own_knob started (by kernel_rfl) Try.func8
    (ChangeSpec.witness6 (enc := enc) (C := Try.checked) false ⟨#[], #[.agg #[.int .i64 0, .int .i64 0, .slice none 0 0], .int .i64 0, .int .i64 0, .int .i64 0, .int .i64 0, .agg #[.int .u8 0, .int .u8 0, .int .u8 0, .int .u8 0]], []⟩ 8 (by kernel_rfl) (by kernel_rfl) (by kernel_rfl) (by kernel_rfl)) ?_
  intro W base args ds gs before hval0 hW hcnd _
  have hval : ∀ (j : Nat) t v, Try.f8.params[j]? = some t → args[j]? = some v → Value.okWide Try.prog W .any base t v := hval0
  have hW' := hW
  obtain ⟨p, q, hA0, hV, rfl, hfz, hnd⟩ := hW
  have hA : DataW.TrodAll enc Try.prog W 0 (fun _ => true) true Try.f8.params.toList args.toList ds p := hA0
  rw [Try.params8] at hA hval
  obtain ⟨v0, vs0, d0, ds0, p0, q0, hargs, rfl, rfl, h0, r0⟩ := trodAll_cons hA
  obtain ⟨v1, vs1, d1, ds1, p1, q1, rfl, rfl, rfl, h1, r1⟩ := trodAll_cons r0
  obtain ⟨v2, vs2, d2, ds2, p2, q2, rfl, rfl, rfl, h2, r2⟩ := trodAll_cons r1
  obtain ⟨v3, vs3, d3, ds3, p3, q3, rfl, rfl, rfl, h3, r3⟩ := trodAll_cons r2
  obtain ⟨v4, vs4, d4, ds4, p4, q4, rfl, rfl, rfl, h4, r4⟩ := trodAll_cons r3
  obtain ⟨v5, vs5, d5, ds5, p5, q5, rfl, rfl, rfl, h5, r5⟩ := trodAll_cons r4
  obtain ⟨rfl, rfl, rfl⟩ := trodAll_nil r5
  obtain rfl : args = #[v0, v1, v2, v3, v4, v5] := by cases args; simp_all
  obtain ⟨W0, H0, A0, n0, c0, l0, rfl, hW0, hH0, hc0, cm0, hN0, hl0, hb0⟩ := open_mat (hval 0 24 v0 rfl rfl) h0
  obtain ⟨z1, rfl, rfl, rfl, wf1⟩ := open_int Try.underlying3 (hval 1 3 v1 rfl rfl) h1
  have r1' := wf_i64 wf1
  obtain ⟨z2, rfl, rfl, rfl, wf2⟩ := open_int Try.underlying3 (hval 2 3 v2 rfl rfl) h2
  have r2' := wf_i64 wf2
  obtain ⟨z3, rfl, rfl, rfl, wf3⟩ := open_int Try.underlying3 (hval 3 3 v3 rfl rfl) h3
  have r3' := wf_i64 wf3
  obtain ⟨z4, rfl, rfl, rfl, wf4⟩ := open_int Try.underlying3 (hval 4 3 v4 rfl rfl) h4
  have r4' := wf_i64 wf4
  obtain ⟨x5, rfl⟩ := open_col (hval 5 41 v5 rfl rfl) h5
  unfold maxLen at *
  refine (whole W0 H0 A0 n0 c0 l0 z1 z2 z3 z4 x5 W hl0 hc0 hN0 hb0 r3' r4').mono fun e W' ⟨he, ho⟩ => ?_
  subst he
  exact ⟨_, rfl, law_post rfl hW' (by intro t ht; revert t; exact of_decide_eq_true (by kernel_rfl)) rfl rfl ho⟩

theorem proved : Rows.PixelPartsSaid :=
  OpenClaim.holds_of_wide 8 Try.f8 rfl rfl rfl rfl rfl rfl rfl ⟨rfl, rfl, rfl, rfl, rfl⟩ rfl rfl rfl rfl rfl (by kernel_rfl) Try.func8 (by kernel_rfl)
    (of_decide_eq_true (by kernel_rfl)) (by unfold Func.isWrapper; first | (rw [if_pos (by decide +kernel)]; kernel_rfl) | (rw [if_neg (by decide +kernel)]; exact ⟨rfl, rfl⟩))
    (fun os started H enc _ => lifted os started H enc)
end Go.Proofs.Ytngaabnmhcncmaa.pparts
