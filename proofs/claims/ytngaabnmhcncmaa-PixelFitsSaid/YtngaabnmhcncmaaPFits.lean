/-
  Proves: for every matrix, PixelFits tells true, and leaves all that was there as it was.
-/
import Derived.Test.YtngaabnmhcncmaaPxMt
import Derived.Test.YtngaabnmhcncmaaPxT
import Derived.Test.YtngaabnmhcncmaaPxL
import Derived.Test.YtngaabnmhcncmaaLaw
import Derived.Test.YtngaabnmhcncmaaOpen
namespace Go.Proofs.Ytngaabnmhcncmaa.pfits
open Go Go.RowKit Go.ChangeShapes Go.WideShapes Go.ChangeAt

set_option maxRecDepth 100000 in
set_option maxHeartbeats 8000000 in
/-- Too many bytes, or not right: true is told. -/
theorem out (W H : Int) (A : Option Addr) (n c : Nat) (w : World) (h : 4096 < n ∨ rightB W H n = false) :
    Calls Try.prog 9 #[mval W H A n c] w fun e w' => e = .returned (.bool true) ∧ Only [] w w' := by
  show Calls Try.prog 9 #[.agg #[.int .i64 W, .int .i64 H, .slice A n c]] w _
  have HK := hide (fun w => known_any w)
  have HO := hide (fun w => of_any W H A n c w)
  have HR := hide (fun w => tRight_any W H A n c w)
  have o0 : Only [] w (w.alloc (.cells #[.int .i64 W, .int .i64 H, .slice A n c] 24)) := (Only.refl [] w).alloc _
  have hb0 : Has (w.alloc (.cells #[.int .i64 W, .int .i64 H, .slice A n c] 24)) w.heap.size 24 #[.int .i64 W, .int .i64 H, .slice A n c] := Has.new w _ _
  by_cases hn : 4096 < n
  · have hn' : (4096 : Int) < (n : Int) := by omega
    clear h
    go_enter Try.func9, Try.ntmps9
    go_wp2_with fail
    refine (HK.out _).mono ?_
    rintro e w1 ⟨rfl, ho1⟩
    have hb1 := hb0.only ho1 (by simp)
    have b2 := hb1.cell 2
    simp only [List.getElem?_toArray, List.getElem?_cons_zero, List.getElem?_cons_succ] at b2
    go_wp2_with fail
    go_ret
    exact ⟨rfl, o0.trans ho1 (S := []) (by simp)⟩
  · have hn' : ¬ (4096 : Int) < (n : Int) := by omega
    have hr : rightB W H n = false := by rcases h with h | h; omega; exact h
    rw [hr] at HR
    unfold mval at HO HR
    clear h hn hr
    go_enter Try.func9, Try.ntmps9
    go_wp2_with fail
    refine (HK.out _).mono ?_
    rintro e w1 ⟨rfl, ho1⟩
    have hb1 := hb0.only ho1 (by simp)
    have b0 := hb1.cell 0
    have b1 := hb1.cell 1
    have b2 := hb1.cell 2
    simp only [List.getElem?_toArray, List.getElem?_cons_zero, List.getElem?_cons_succ] at b0 b1 b2
    go_wp2_with fail
    refine (HO.out _).mono ?_
    rintro e w2 ⟨rfl, ho2⟩
    go_wp2_with fail
    refine (HR.out _).mono ?_
    rintro e w3 ⟨rfl, ho3⟩
    go_wp2_with fail
    go_ret
    exact ⟨rfl, ((o0.trans ho1 (S := []) (by simp)).trans ho2 (S := []) (by simp)).trans ho3 (S := []) (by simp)⟩

set_option maxRecDepth 100000 in
set_option maxHeartbeats 8000000 in
theorem core (W H : Nat) (A : Option Addr) (n c : Nat) (l : List UInt8) (w : World) (hok : okM W H n) (hn : n ≤ 4096) (hl : l.length = n) (hc : n ≤ c) (hb : Holds w 1 A n (bvals l)) :
    Calls Try.prog 9 #[mval W H A n c] w fun e w' => e = .returned (.bool true) ∧ Only [] w w' := by
  show Calls Try.prog 9 #[.agg #[.int .i64 W, .int .i64 H, .slice A n c]] w _
  have HK := hide (fun w => known_any w)
  have HO := hide (fun w => of_any W H A n c w)
  have HR := hide (fun w => tRight_any W H A n c w)
  rw [hok.right] at HR
  have hl4 : l.length = 4 * (W * H) := hl.trans hok.2
  have hsd := hok.side
  obtain ⟨hf2, hok2⟩ := fitB_twice hok hn
  have HF1 := hide (fun w (h : Holds w 1 A n (bvals l)) => fit_ok W H A n c l W H w h hl hok hc (fitB_self hok))
  rw [fit_self W H l hl4] at HF1
  obtain ⟨W2, hW2⟩ : ∃ W2, W2 = 2 * W := ⟨_, rfl⟩
  obtain ⟨H2, hH2⟩ : ∃ H2, H2 = 2 * H := ⟨_, rfl⟩
  have V1 := hide (wr_nat (z := 2 * (W : Int)) (n := W2) (by omega) (by omega))
  have V2 := hide (wr_nat (z := 2 * (H : Int)) (n := H2) (by omega) (by omega))
  have hn' : ¬ (4096 : Int) < (n : Int) := by omega
  have o0 : Only [] w (w.alloc (.cells #[.int .i64 W, .int .i64 H, .slice A n c] 24)) := (Only.refl [] w).alloc _
  have m0 : Mt (w.alloc (.cells #[.int .i64 (W : Int), .int .i64 (H : Int), .slice A n c] 24)) w.heap.size 24 W H A n c l := Mt.new hb
  have HS1 := hide (fun w A1 c1 (h1 : Holds w 1 A1 l.length (bvals l)) (h2 : Holds w 1 A n (bvals l)) (hc1 : l.length ≤ c1) => same_any W H W H A1 A l.length n c1 c l l w h1 h2 rfl hl (by rw [hl]; exact hok) hok hc1 hc)
  rw [sameB_self] at HS1
  have HM0 := hide (And.intro o0 m0)
  have HI := hide (And.intro hok (And.intro hl4 (And.intro hl (And.intro hn (And.intro hW2 hH2)))))
  have hf2 : fitB W (W2 : Int) (H2 : Int) = decide (W2 ≤ 16384 ∧ H2 ≤ 16384) := by rw [hW2, hH2]; exact hf2
  have hok2 : W2 ≤ 16384 ∧ H2 ≤ 16384 → okM W2 H2 (4 * n) := by rw [hW2, hH2]; exact hok2
  have HF2 := hide (And.intro hf2 hok2)
  unfold mval at HO HR HF1 HS1
  have HB := hide (And.intro hb hc)
  clear hok hl4 hsd o0 m0 hn hW2 hH2 hf2 hok2 hb hl hc
  go_enter Try.func9, Try.ntmps9
  go_wp2_with fail
  refine (HK.out _).mono ?_
  rintro e w1 ⟨rfl, ho1⟩
  have o1 := HM0.out.1.trans ho1 (S := []) (by simp)
  have m1 := HM0.out.2.only ho1
  obtain ⟨b0, b1, b2⟩ := m1.cells
  have HM := hide (And.intro o1 m1)
  clear o1 m1 ho1 HM0 HK
  go_wp2_with fail
  refine (HO.out _).mono ?_
  rintro e w2 ⟨rfl, ho2⟩
  go_wp2_with fail
  refine (HR.out _).mono ?_
  rintro e w3 ⟨rfl, ho3⟩
  have o3 := (HM.out.1.trans ho2 (S := []) (by simp)).trans ho3 (S := []) (by simp)
  have m3 := (HM.out.2.only ho2).only ho3
  obtain ⟨b0, b1, b2⟩ := m3.cells
  have HM := hide (And.intro o3 m3)
  clear o3 m3 ho2 ho3 HO HR
  go_wp2_with fail
  refine (HF1.out _ HM.out.2.row).mono ?_
  rintro e w4 ⟨v, rfl, hown, ho4⟩
  obtain ⟨A4, c4, rfl, hb4, hc4, _⟩ := own_mat hown
  have oa := (Only.refl [] w4).alloc (.cells #[.int .i64 (W : Int), .int .i64 (H : Int), .slice A4 l.length c4] 24)
  have o4 := (HM.out.1.trans ho4 (S := []) (by simp)).trans oa (S := []) (by simp)
  have m4 := (HM.out.2.only ho4).only oa
  have q4 : Mt (w4.alloc (.cells #[.int .i64 (W : Int), .int .i64 (H : Int), .slice A4 l.length c4] 24)) w4.heap.size 24 W H A4 l.length c4 l := Mt.new hb4
  obtain ⟨b0, b1, b2⟩ := m4.cells
  have HM4 := hide (And.intro o4 (And.intro m4 (And.intro q4 hc4)))
  obtain ⟨v1, y1⟩ := V1.out
  obtain ⟨v2, y2⟩ := V2.out
  clear o4 m4 q4 oa ho4 hown hb4 HM HF1
  by_cases hbig : W2 ≤ 16384 ∧ H2 ≤ 16384
  · have hf2 := HF2.out.1
    rw [decide_eq_true hbig] at hf2
    have hokB := HF2.out.2 hbig
    have HG := hide (fun w (h : Holds w 1 A n (bvals l)) => fit_ok W H A n c l W2 H2 w h HI.out.2.2.1 HI.out.1 HB.out.2 hf2)
    have hlen := fitL_length W H W2 H2 l
    have hback : fitL W2 H2 W H (fitL W H W2 H2 l) = l := by
      have := fit_twice W H l HI.out.2.1
      rw [← HI.out.2.2.2.2.1, ← HI.out.2.2.2.2.2] at this
      exact this
    have hfb : fitB W2 W H = true := by rw [HI.out.2.2.2.2.1]; exact fitB_back HI.out.1
    have hbl : 4 * (W2 * H2) = 4 * n := hokB.2.symm
    rw [hbl] at hlen
    generalize fitL W H W2 H2 l = B at *
    have HG2 := hide (fun w A5 c5 (h : Holds w 1 A5 B.length (bvals B)) (hc5 : B.length ≤ c5) => fit_ok W2 H2 A5 B.length c5 B W H w h rfl (by rw [hlen]; exact hokB) hc5 hfb)
    rw [hback] at HG2
    unfold mval at HG HG2
    have hB := hide (And.intro hlen (And.intro hbig HI.out.2.2.2.1))
    have i1 : (W2 : Int) ≤ 16384 := by omega
    have i2 : (H2 : Int) ≤ 16384 := by omega
    have V3 := hide (wr_nat (z := 4 * (n : Int)) (n := B.length) (by omega) (by have := HI.out.2.2.2.1; omega))
    clear hf2 hokB hlen hback hfb hbl hbig
    go_wp2_with fail
    refine (HG.out _ HM4.out.2.1.row).mono ?_
    rintro e w5 ⟨v, rfl, hown, ho5⟩
    obtain ⟨A5, c5, rfl, hb5, hc5, _⟩ := own_mat hown
    have oa := (Only.refl [] w5).alloc (.cells #[.int .i64 (W2 : Int), .int .i64 (H2 : Int), .slice A5 B.length c5] 24)
    have o5 := (HM4.out.1.trans ho5 (S := []) (by simp)).trans oa (S := []) (by simp)
    have m5 := (HM4.out.2.1.only ho5).only oa
    have q5 := (HM4.out.2.2.1.only ho5).only oa
    have r5 : Mt (w5.alloc (.cells #[.int .i64 (W2 : Int), .int .i64 (H2 : Int), .slice A5 B.length c5] 24)) w5.heap.size 24 W2 H2 A5 B.length c5 B := Mt.new hb5
    obtain ⟨b0, b1, b2⟩ := m5.cells
    obtain ⟨d0, d1, d2⟩ := q5.cells
    have HM5 := hide (And.intro o5 (And.intro m5 (And.intro q5 (And.intro HM4.out.2.2.2 (And.intro r5 hc5)))))
    clear o5 m5 q5 r5 oa ho5 hown hb5 hc5 HM4 HG
    go_wp2_with fail
    refine (HS1.out _ _ _ HM5.out.2.2.1.row HM5.out.2.1.row HM5.out.2.2.2.1).mono ?_
    rintro e w6 ⟨rfl, ho6⟩
    have o6 := HM5.out.1.trans ho6 (S := []) (by simp)
    have m6 := HM5.out.2.1.only ho6
    have r6 := HM5.out.2.2.2.2.1.only ho6
    obtain ⟨b0, b1, b2⟩ := m6.cells
    obtain ⟨d0, d1, d2⟩ := r6.cells
    have HM6 := hide (And.intro o6 (And.intro m6 (And.intro r6 HM5.out.2.2.2.2.2)))
    clear o6 m6 r6 ho6 HM5
    go_wp2_with fail
    refine (HG2.out _ _ _ HM6.out.2.2.1.row HM6.out.2.2.2).mono ?_
    rintro e w7 ⟨v, rfl, hown, ho7⟩
    obtain ⟨A7, c7, rfl, hb7, hc7, _⟩ := own_mat hown
    have oa := (Only.refl [] w7).alloc (.cells #[.int .i64 (W : Int), .int .i64 (H : Int), .slice A7 l.length c7] 24)
    have o7 := (HM6.out.1.trans ho7 (S := []) (by simp)).trans oa (S := []) (by simp)
    have m7 := (HM6.out.2.1.only ho7).only oa
    have r7 := (HM6.out.2.2.1.only ho7).only oa
    have s7 : Mt (w7.alloc (.cells #[.int .i64 (W : Int), .int .i64 (H : Int), .slice A7 l.length c7] 24)) w7.heap.size 24 W H A7 l.length c7 l := Mt.new hb7
    obtain ⟨b0, b1, b2⟩ := m7.cells
    obtain ⟨d0, d1, d2⟩ := r7.cells
    obtain ⟨f0, f1, f2⟩ := s7.cells
    have HM7 := hide (And.intro o7 (And.intro m7 (And.intro r7 (And.intro s7 hc7))))
    clear o7 m7 r7 s7 oa ho7 hown hb7 hc7 HM6 HG2
    go_wp2_with fail
    refine (HS1.out _ _ _ HM7.out.2.2.2.1.row HM7.out.2.1.row HM7.out.2.2.2.2).mono ?_
    rintro e w8 ⟨rfl, ho8⟩
    have m8 := HM7.out.2.1.only ho8
    have r8 := HM7.out.2.2.1.only ho8
    obtain ⟨b0, b1, b2⟩ := m8.cells
    obtain ⟨d0, d1, d2⟩ := r8.cells
    obtain ⟨v3, y3⟩ := V3.out
    have HO8 := hide (HM7.out.1.trans ho8 (S := []) (by simp))
    clear m8 r8 ho8 HM7
    go_wp2_with fail
    go_ret
    exact ⟨by simp, HO8.out⟩
  · have hf2 := HF2.out.1
    rw [decide_eq_false hbig] at hf2
    have HG := hide (fun w => fit_bad W H A n c W2 H2 w HI.out.1 hf2)
    unfold mval at HG
    have HBig := hide hbig
    clear hf2 hbig
    go_wp2_with fail
    refine (HG.out _).mono ?_
    rintro e w5 ⟨v, rfl, hown, ho5⟩
    obtain ⟨A5, c5, rfl, hb5, hc5, _⟩ := own_mat hown
    have oa := (Only.refl [] w5).alloc (.cells #[.int .i64 0, .int .i64 0, .slice A5 0 c5] 24)
    have o5 := (HM4.out.1.trans ho5 (S := []) (by simp)).trans oa (S := []) (by simp)
    have m5 := (HM4.out.2.1.only ho5).only oa
    have q5 := (HM4.out.2.2.1.only ho5).only oa
    obtain ⟨b0, b1, b2⟩ := m5.cells
    obtain ⟨d0, d1, d2⟩ := q5.cells
    have HM5 := hide (And.intro o5 (And.intro m5 (And.intro q5 HM4.out.2.2.2)))
    clear o5 m5 q5 oa ho5 hown hb5 hc5 HM4 HG
    go_wp2_with fail
    refine (HS1.out _ _ _ HM5.out.2.2.1.row HM5.out.2.1.row HM5.out.2.2.2).mono ?_
    rintro e w6 ⟨rfl, ho6⟩
    have o6 := HM5.out.1.trans ho6 (S := []) (by simp)
    have m6 := HM5.out.2.1.only ho6
    obtain ⟨b0, b1, b2⟩ := m6.cells
    have HO6 := hide o6
    clear o6 m6 ho6 HM5
    by_cases i1 : W2 ≤ 16384
    · have i2 : ¬ (H2 : Int) ≤ 16384 := by have := HBig.out; omega
      have i1 : (W2 : Int) ≤ 16384 := by omega
      go_wp2_with fail
      go_ret
      exact ⟨by simp, HO6.out⟩
    · have i1 : ¬ (W2 : Int) ≤ 16384 := by omega
      go_wp2_with fail
      go_ret
      exact ⟨by simp, HO6.out⟩

theorem whole (W H : Int) (A : Option Addr) (n c : Nat) (l : List UInt8) (w : World) (hl : l.length = n) (hc : n ≤ c) (hb : Holds w 1 A n (bvals l)) :
    Calls Try.prog 9 #[mval W H A n c] w fun e w' => e = .returned (.bool true) ∧ Only [] w w' := by
  by_cases h : 4096 < n ∨ rightB W H n = false
  · exact out W H A n c w h
  · have hr : rightB W H n = true := by cases hx : rightB W H n with
      | true => rfl
      | false => exact absurd (.inr hx) h
    obtain ⟨x, y, rfl, rfl, hok⟩ := rightB_ok hr
    exact core x y A n c l w hok (by omega) hl hc hb
set_option maxRecDepth 100000 in
theorem lifted (os : Os) (started : os.Started) (H : Type) (enc : TypeId × Value → H) :
    ReturnsInHanded {} Try.checked os 9 .any (Rows.pixelFitsSpec.pre6 enc Try.prog Try.f9 Rows.pixelFitsRow.domain false)
      (Rows.pixelFitsSpec.post enc Try.prog Try.f9 false true false false) := by
  refine returnsInHanded_of_change (C := Try.checked) own_knob started (by kernel_rfl) Try.func9
    (ChangeSpec.witness6 (enc := enc) (C := Try.checked) false ⟨#[], #[.agg #[.int .i64 0, .int .i64 0, .slice none 0 0]], []⟩ 8 (by kernel_rfl) (by kernel_rfl) (by kernel_rfl) (by kernel_rfl)) ?_
  intro W base args ds gs before hval0 hW hcnd _
  have hval : ∀ (j : Nat) t v, Try.f9.params[j]? = some t → args[j]? = some v → Value.okWide Try.prog W .any base t v := hval0
  have hW' := hW
  obtain ⟨p, q, hA0, hV, rfl, hfz, hnd⟩ := hW
  have hA : DataW.TrodAll enc Try.prog W 0 (fun _ => true) true Try.f9.params.toList args.toList ds p := hA0
  rw [Try.params9] at hA hval
  obtain ⟨v0, vs0, d0, ds0, p0, q0, hargs, rfl, rfl, h0, r0⟩ := trodAll_cons hA
  obtain ⟨rfl, rfl, rfl⟩ := trodAll_nil r0
  obtain rfl : args = #[v0] := by cases args; simp_all
  obtain ⟨W0, H0, A0, n0, c0, l0, rfl, hW0, hH0, hc0, cm0, hA0, hl0, hb0⟩ := open_mat (hval 0 24 v0 rfl rfl) h0
  unfold maxLen at *
  refine (whole W0 H0 A0 n0 c0 l0 W hl0 hc0 hb0).mono fun e W' ⟨he, ho⟩ => ?_
  subst he
  exact ⟨_, rfl, law_post rfl hW' (by intro t ht; revert t; exact of_decide_eq_true (by kernel_rfl)) rfl rfl ho⟩

theorem proved : Rows.PixelFitsSaid :=
  OpenClaim.holds_of_wide 9 Try.f9 rfl rfl rfl rfl rfl rfl rfl ⟨rfl, rfl, rfl, rfl, rfl⟩ rfl rfl rfl rfl rfl (by kernel_rfl) Try.func9 (by kernel_rfl)
    (of_decide_eq_true (by kernel_rfl)) (by unfold Func.isWrapper; first | (rw [if_pos (by decide +kernel)]; kernel_rfl) | (rw [if_neg (by decide +kernel)]; exact ⟨rfl, rfl⟩))
    (fun os started H enc _ => lifted os started H enc)
end Go.Proofs.Ytngaabnmhcncmaa.pfits
