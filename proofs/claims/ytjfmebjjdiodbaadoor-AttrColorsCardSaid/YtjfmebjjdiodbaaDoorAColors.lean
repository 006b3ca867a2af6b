/-
  Proves: for any attribute, any colour and any number AttrColors tells true, and leaves all that was there as it was; the tables start as the program's text lays them.
-/
import Derived.Test.YtjfmebjjdiodbaaDoorAtO
import Derived.Test.YtjfmebjjdiodbaaDoorAqB
namespace Go.Proofs.YtjfmebjjdiodbaaDoor.acolors
open Go Go.RowKit Go.ChangeShapes Go.WideShapes Go.ChangeAt

set_option maxRecDepth 100000 in
set_option maxHeartbeats 4000000 in
theorem core (a : At) (ha : a.Wf) (c n : Int) (hc : I64 c) (w : World) (T : Tab w) :
    Calls Tryd.prog 4 #[a.val, .int .i64 c, .int .i64 n] w fun e w' => e = .returned (.bool true) ∧ Only [] w w' := by
  show Calls Tryd.prog 4 #[.agg #[.int .i64 a.fg, .int .i64 a.bg, .int .i64 a.fl], .int .i64 c, .int .i64 n] w _
  have o0 := (Only.refl [] w).alloc (.cells #[.int .i64 a.fg, .int .i64 a.bg, .int .i64 a.fl] 23)
  have hbox := Has.new w 23 #[.int .i64 a.fg, .int .i64 a.bg, .int .i64 a.fl]
  have HK := hide (known_any _ (T.only o0 (by simp)))
  have HC := hide (fun w T => colors_any a ha w T)
  have HR := hide (fun w => rcolors_any a ha w)
  have H1 := hide (fun w T => color_any c true hc w T)
  have H2 := hide (fun w => rcolor_any c true hc w)
  have H3 := hide (fun w T => color_any c false hc w T)
  have H4 := hide (fun w => rcolor_any c false hc w)
  have H5 := hide (fun w T => basic_any n w T)
  have H6 := hide (fun w => rbasic_any n w)
  have HI := hide (And.intro o0 (And.intro hbox T))
  have q1 := fun w => c3_eq (foreA a) (foreA a) w
  have q2 := fun w => c3_eq (backA a) (backA a) w
  have q3 := fun w => c3_eq (colorA c true) (colorA c true) w
  have q4 := fun w => c3_eq (colorA c false) (colorA c false) w
  have q5 := fun w => c3_eq (basicA n) (basicA n) w
  rw [C3.eqB_self] at q1 q2 q3 q4 q5
  clear o0 T hbox ha hc
  generalize foreA a = f at *
  generalize backA a = b at *
  generalize colorA c true = x at *
  generalize colorA c false = y at *
  generalize basicA n = z at *
  obtain ⟨fr, fg, fb⟩ := f
  obtain ⟨br, bg, bb⟩ := b
  obtain ⟨x0, x1, x2⟩ := x
  obtain ⟨y0, y1, y2⟩ := y
  obtain ⟨z0, z1, z2⟩ := z
  unfold C3.val C3.cells at HC HR H1 H2 H3 H4 H5 H6 q1 q2 q3 q4 q5
  unfold At.val At.cells at HC HR
  go_enter Tryd.func4, Tryd.ntmps4
  go_wp2_with fail
  refine (HK.out).mono ?_
  rintro e w1 ⟨rfl, ho⟩
  obtain ⟨o0, hbox, T⟩ := HI.out
  have o1 := o0.trans ho (S := []) (by simp)
  have hA := hbox.only ho (by simp)
  have m0 : w1.cell? ⟨w.heap.size, 0, none⟩ = some (.int .i64 a.fg) := hA.cell 0
  have m1 : w1.cell? ⟨w.heap.size, 1, none⟩ = some (.int .i64 a.bg) := hA.cell 1
  have m2 : w1.cell? ⟨w.heap.size, 2, none⟩ = some (.int .i64 a.fl) := hA.cell 2
  have HW := hide (And.intro o1 (And.intro hA (T.only o1 (by simp))))
  clear o0 hbox T ho o1 hA HI HK
  go_wp2_with fail
  refine (HC.out _ HW.out.2.2).mono ?_
  rintro e w2 ⟨rfl, ho⟩
  obtain ⟨o1, hA, T⟩ := HW.out
  clear m0 m1 m2
  have oo := ((Only.refl [] w2).alloc (.cells #[.int .u8 fr, .int .u8 fg, .int .u8 fb] 29)).alloc (.cells #[.int .u8 br, .int .u8 bg, .int .u8 bb] 29)
  have oX := (o1.trans ho (S := []) (by simp)).trans oo (S := []) (by simp)
  have hA := (hA.only ho (by simp)).only oo (by simp)
  have hF := (Has.new w2 29 #[.int .u8 fr, .int .u8 fg, .int .u8 fb]).alloc (.cells #[.int .u8 br, .int .u8 bg, .int .u8 bb] 29)
  have hB := Has.new (w2.alloc (.cells #[.int .u8 fr, .int .u8 fg, .int .u8 fb] 29)) 29 #[.int .u8 br, .int .u8 bg, .int .u8 bb]
  simp only [World.size_alloc] at hB
  have T := (T.only ho (by simp)).only oo (by simp)
  have HW := hide (And.intro oX (And.intro hA (And.intro T (And.intro hF hB))))
  clear o1 hA T ho oo oX hF hB HC
  go_upto_region 4 with fail
  obtain ⟨oX, hA, T, hF, hB⟩ := HW.out
  generalize (w2.alloc (.cells #[.int .u8 fr, .int .u8 fg, .int .u8 fb] 29)).alloc (.cells #[.int .u8 br, .int .u8 bg, .int .u8 bb] 29) = V at *
  have m0 : V.cell? ⟨w.heap.size, 0, none⟩ = some (.int .i64 a.fg) := hA.cell 0
  have m1 : V.cell? ⟨w.heap.size, 1, none⟩ = some (.int .i64 a.bg) := hA.cell 1
  have m2 : V.cell? ⟨w.heap.size, 2, none⟩ = some (.int .i64 a.fl) := hA.cell 2
  have HW := hide (And.intro oX (And.intro hA (And.intro T (And.intro hF hB))))
  clear oX hA T hF hB
  go_wp2_with fail
  refine (HR.out _).mono ?_
  rintro e w3 ⟨rfl, ho⟩
  obtain ⟨oX, hA, T, hF, hB⟩ := HW.out
  clear m0 m1 m2
  have oo := ((Only.refl [] w3).alloc (.cells #[.int .u8 fr, .int .u8 fg, .int .u8 fb] 29)).alloc (.cells #[.int .u8 br, .int .u8 bg, .int .u8 bb] 29)
  have oX := (oX.trans ho (S := []) (by simp)).trans oo (S := []) (by simp)
  have hF := (hF.only ho (by simp)).only oo (by simp)
  have hB := (hB.only ho (by simp)).only oo (by simp)
  have gF := (Has.new w3 29 #[.int .u8 fr, .int .u8 fg, .int .u8 fb]).alloc (.cells #[.int .u8 br, .int .u8 bg, .int .u8 bb] 29)
  have gB := Has.new (w3.alloc (.cells #[.int .u8 fr, .int .u8 fg, .int .u8 fb] 29)) 29 #[.int .u8 br, .int .u8 bg, .int .u8 bb]
  simp only [World.size_alloc] at gB
  have T := (T.only ho (by simp)).only oo (by simp)
  have HW := hide (And.intro oX (And.intro T (And.intro hF (And.intro hB (And.intro gF gB)))))
  clear oX hA T ho oo hF hB gF gB HR
  go_upto_region 5 with fail
  obtain ⟨oX, T, hF, hB, gF, gB⟩ := HW.out
  generalize (w3.alloc (.cells #[.int .u8 fr, .int .u8 fg, .int .u8 fb] 29)).alloc (.cells #[.int .u8 br, .int .u8 bg, .int .u8 bb] 29) = U at *
  have c0 : U.cell? ⟨w2.heap.size, 0, none⟩ = some (.int .u8 fr) := hF.cell 0
  have c1 : U.cell? ⟨w2.heap.size, 1, none⟩ = some (.int .u8 fg) := hF.cell 1
  have c2 : U.cell? ⟨w2.heap.size, 2, none⟩ = some (.int .u8 fb) := hF.cell 2
  have d0 : U.cell? ⟨w2.heap.size + 1, 0, none⟩ = some (.int .u8 br) := hB.cell 0
  have d1 : U.cell? ⟨w2.heap.size + 1, 1, none⟩ = some (.int .u8 bg) := hB.cell 1
  have d2 : U.cell? ⟨w2.heap.size + 1, 2, none⟩ = some (.int .u8 bb) := hB.cell 2
  have e0 : U.cell? ⟨w3.heap.size, 0, none⟩ = some (.int .u8 fr) := gF.cell 0
  have e1 : U.cell? ⟨w3.heap.size, 1, none⟩ = some (.int .u8 fg) := gF.cell 1
  have e2 : U.cell? ⟨w3.heap.size, 2, none⟩ = some (.int .u8 fb) := gF.cell 2
  have g0 : U.cell? ⟨w3.heap.size + 1, 0, none⟩ = some (.int .u8 br) := gB.cell 0
  have g1 : U.cell? ⟨w3.heap.size + 1, 1, none⟩ = some (.int .u8 bg) := gB.cell 1
  have g2 : U.cell? ⟨w3.heap.size + 1, 2, none⟩ = some (.int .u8 bb) := gB.cell 2
  have HW := hide (And.intro oX T)
  clear oX T hF hB gF gB
  go_wp2_with fail
  refine (H1.out _ HW.out.2).mono ?_
  rintro e w4 ⟨rfl, ho⟩
  clear c0 c1 c2 d0 d1 d2 e0 e1 e2 g0 g1 g2
  have HW := hide (And.intro (HW.out.1.trans ho (S := []) (by simp)) (HW.out.2.only ho (by simp)))
  clear ho
  go_wp2_with fail
  refine (H2.out _).mono ?_
  rintro e w5 ⟨rfl, ho⟩
  have HW := hide (And.intro (HW.out.1.trans ho (S := []) (by simp)) (HW.out.2.only ho (by simp)))
  clear ho
  go_wp2_with fail
  refine (H3.out _ HW.out.2).mono ?_
  rintro e w6 ⟨rfl, ho⟩
  have HW := hide (And.intro (HW.out.1.trans ho (S := []) (by simp)) (HW.out.2.only ho (by simp)))
  clear ho
  go_wp2_with fail
  refine (H4.out _).mono ?_
  rintro e w7 ⟨rfl, ho⟩
  have HW := hide (And.intro (HW.out.1.trans ho (S := []) (by simp)) (HW.out.2.only ho (by simp)))
  clear ho
  go_wp2_with fail
  refine (H5.out _ HW.out.2).mono ?_
  rintro e w8 ⟨rfl, ho⟩
  have HW := hide (And.intro (HW.out.1.trans ho (S := []) (by simp)) (HW.out.2.only ho (by simp)))
  clear ho
  go_wp2_with fail
  refine (H6.out _).mono ?_
  rintro e w9 ⟨rfl, ho⟩
  go_wp2_with fail
  go_ret
  exact ⟨rfl, HW.out.1.trans ho (by simp)⟩

set_option maxRecDepth 100000 in
theorem lifted (os : Os) (started : os.Started) (H : Type) (enc : TypeId × Value → H) :
    ReturnsInHanded {} Tryd.checked os 4 .any (fun w args => (Rows.attrColorsSpec.pre enc Tryd.prog Tryd.f4 [] false w args ∧ laidMetH Tryd.prog laidB w) ∧ sizedMet enc Tryd.prog Tryd.f4 (OpenSpec.ofChange Rows.attrColorsSpec) false w args)
      (Rows.attrColorsSpec.post enc Tryd.prog Tryd.f4 false true false false) := by
  refine returnsInHanded_of_change_and (C := Tryd.checked) (X := fun w _ => laidMetH Tryd.prog laidB w) (fun _ _ _ hh h => h.of_heap hh) own_knob started (by kernel_rfl) Tryd.func4
    (ChangeSpec.witness_shaped (enc := enc) (C := Tryd.checked) (os := os) (X := fun w _ => laidMetH Tryd.prog laidB w) false (World.doorLaid Tryd.prog 400 os) #[.agg #[.int .i64 0, .int .i64 0, .int .i64 0], .int .i64 0, .int .i64 0] 8 rfl (World.shaped_of_RefB (by kernel_rfl) (by kernel_rfl)) (by kernel_rfl) (by kernel_rfl) (by kernel_rfl) (door_met os _)) ?_
  intro W base args ds gs before hval0 hW _ _ hL _
  have hval : ∀ (j : Nat) t v, Tryd.f4.params[j]? = some t → args[j]? = some v → Value.okWide Tryd.prog W .any base t v := hval0
  have hW' := hW
  obtain ⟨p, q, hA0, hV, rfl, hfz, hnd⟩ := hW
  have hA : DataW.TrodAll enc Tryd.prog W 0 (fun _ => true) true Tryd.f4.params.toList args.toList ds p := hA0
  rw [Tryd.params4] at hA hval
  obtain ⟨v0, vs0, d0, ds0, p0, q0, hargs, rfl, rfl, h0, r0⟩ := trodAll_cons hA
  obtain ⟨v1, vs1, d1, ds1, p1, q1, rfl, rfl, rfl, h1, r1⟩ := trodAll_cons r0
  obtain ⟨v2, vs2, d2, ds2, p2, q2, rfl, rfl, rfl, h2, r2⟩ := trodAll_cons r1
  obtain ⟨rfl, rfl, rfl⟩ := trodAll_nil r2
  obtain rfl : args = #[v0, v1, v2] := by cases args; simp_all
  obtain ⟨a0, rfl, ha0⟩ := open_attr (hval 0 23 v0 rfl rfl) h0
  obtain ⟨z1, rfl, rfl, rfl, wf1⟩ := open_int Tryd.underlying3 (hval 1 3 v1 rfl rfl) h1
  have r1' := wf_i64 wf1
  obtain ⟨z2, rfl, rfl, rfl, _⟩ := open_int Tryd.underlying3 (hval 2 3 v2 rfl rfl) h2
  refine (core a0 ha0 z1 z2 r1' W (tab_of_laid hL)).mono fun e W' ⟨he, ho⟩ => ?_
  subst he
  exact ⟨_, rfl, law_post rfl hW' (by intro t ht; revert t; exact of_decide_eq_true (by kernel_rfl)) rfl rfl ho⟩

theorem holds : Rows.AttrColorsSaid :=
  OpenClaim.holds_of_wide 4 Tryd.f4 rfl rfl rfl rfl rfl rfl rfl ⟨rfl, rfl, rfl, rfl, rfl⟩ rfl rfl rfl rfl rfl (by kernel_rfl) Tryd.func4 (by kernel_rfl)
    (of_decide_eq_true (by kernel_rfl)) (by unfold Func.isWrapper; first | (rw [if_pos (by decide +kernel)]; kernel_rfl) | (rw [if_neg (by decide +kernel)]; exact ⟨rfl, rfl⟩))
    (fun os started H enc _ => lifted os started H enc)

theorem proved : Rows.AttrColorsCardSaid :=
  Claim7.holds_tied_plain_at .later [] Rows.attrColorsCard.laidKinds true Rows.attrColorsCard.stood.harness false
    holds (fun _ h => by cases h) (by kernel_rfl) (fun _ h => by cases h) attrColors_row_tie rfl ⟨rfl, rfl⟩ (by kernel_rfl) rfl
    (fun f fn hf hfn => by
      obtain rfl : f = 4 := Option.some.inj ((show Tryd.prog.funcNamed "phosphor/phosphorlaw12.AttrColors" = some 4 by kernel_rfl).symm.trans hf) |>.symm
      obtain rfl : fn = Tryd.f4 := (Option.some.inj (Tryd.func4.symm.trans hfn)).symm
      exact ⟨by kernel_rfl, fun j t ht => by
        rw [Tryd.params4] at ht
        have hm : t ∈ [23, 3, 3] := by simpa using Array.mem_of_getElem? ht
        have hall : ([23, 3, 3].all fun u => !Tryd.prog.wantsStandIn u) = true := by kernel_rfl
        exact (show Tryd.prog.wantsStandIn t = false by simpa using List.all_eq_true.1 hall t hm)⟩)
    (by kernel_rfl)
end Go.Proofs.YtjfmebjjdiodbaaDoor.acolors
