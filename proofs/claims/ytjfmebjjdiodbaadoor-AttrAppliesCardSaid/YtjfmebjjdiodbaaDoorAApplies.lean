/-
  Proves: for any attribute and any parameters AttrApplies tells true, and leaves all that was there as it was; the tables start as the program's text lays them.
-/
import Derived.Test.YtjfmebjjdiodbaaDoorAtO
import Derived.Test.YtjfmebjjdiodbaaDoorArC
import Derived.Test.YtjfmebjjdiodbaaDoorArR
namespace Go.Proofs.YtjfmebjjdiodbaaDoor.aapplies
open Go Go.RowKit Go.ChangeShapes Go.WideShapes Go.ChangeAt

set_option maxRecDepth 100000 in
theorem out (a : At) (A : Option Addr) (n c : Nat) (w : World) (T : Tab w) (hn : n ≤ 9223372036854775807) (h : 200 < n) :
    Calls Tryd.prog 3 #[a.val, .slice A n c] w fun e w' => e = .returned (.bool true) ∧ Only [] w w' := by
  show Calls Tryd.prog 3 #[.agg #[.int .i64 a.fg, .int .i64 a.bg, .int .i64 a.fl], .slice A n c] w _
  have o0 := (Only.refl [] w).alloc (.cells #[.int .i64 a.fg, .int .i64 a.bg, .int .i64 a.fl] 23)
  have HK := hide (known_any _ (T.only o0 (by simp)))
  have HO := hide o0
  clear o0 T
  go_enter Tryd.func3, Tryd.ntmps3
  go_wp2_with fail
  refine (HK.out).mono ?_
  rintro e w1 ⟨rfl, ho⟩
  go_wp2_with fail
  go_ret
  exact ⟨rfl, HO.out.trans ho (by simp)⟩

set_option maxRecDepth 100000 in
set_option maxHeartbeats 4000000 in
theorem main (a : At) (ha : a.Wf) (A : Option Addr) (n c : Nat) (l : List Int) (w : World) (T : Tab w) (hl : Holds w 1 A n (ivals l)) (hln : l.length = n) (hc : n ≤ c) (h1 : n ≤ 200) :
    Calls Tryd.prog 3 #[a.val, .slice A n c] w fun e w' => e = .returned (.bool true) ∧ Only [] w w' := by
  show Calls Tryd.prog 3 #[.agg #[.int .i64 a.fg, .int .i64 a.bg, .int .i64 a.fl], .slice A n c] w _
  have o0 := (Only.refl [] w).alloc (.cells #[.int .i64 a.fg, .int .i64 a.bg, .int .i64 a.fl] 23)
  have hbox := Has.new w 23 #[.int .i64 a.fg, .int .i64 a.bg, .int .i64 a.fl]
  have HK := hide (known_any _ (T.only o0 (by simp)))
  have HI := hide (And.intro o0 (And.intro hbox (And.intro T (And.intro ha (And.intro hl hln)))))
  clear o0 T hbox ha hl hln
  go_enter Tryd.func3, Tryd.ntmps3
  go_wp2_with fail
  refine (HK.out).mono ?_
  rintro e w1 ⟨rfl, ho⟩
  obtain ⟨o0, hbox, T, ha, hl, hln⟩ := HI.out
  have o1 := o0.trans ho (S := []) (by simp)
  have hb1 := hbox.only ho (by simp)
  have q : ∀ X : Later w1, Tab X.val := fun X => (T.only o1 (by simp)).only X.only (by simp)
  have HA := hide (fun X : Later w1 => apply_any a ha A n c l X.val (q X) ((hl.keep o1 (by simp)).keep X.only (by simp)) hln hc)
  have HB := hide (fun X : Later w1 => rapply_any a ha A n c l X.val ((hl.keep o1 (by simp)).keep X.only (by simp)) hln hc (by omega))
  have HR := hide (fun X : Later w1 => right_any a ha X.val)
  have HQ := hide (fun X : Later w1 => rright_any a X.val)
  have HP := hide (fun X : Later w1 => right_any (applyA a l) (applyA_wf ha l) X.val)
  have heq := fun w => at_eq (applyA a l) (applyA a l) w
  rw [At.eqB_self] at heq
  have hright : rightA a = true → rightA (applyA a l) = true := fun h => applyA_right h l
  have m0 := later_cell (show w1.cell? ⟨w.heap.size, 0, none⟩ = some (.int .i64 a.fg) from hb1.cell 0)
  have m1 := later_cell (show w1.cell? ⟨w.heap.size, 1, none⟩ = some (.int .i64 a.bg) from hb1.cell 1)
  have m2 := later_cell (show w1.cell? ⟨w.heap.size, 2, none⟩ = some (.int .i64 a.fl) from hb1.cell 2)
  have HO := hide o1
  generalize rightA (applyA a l) = vr at *
  generalize applyA a l = R at *
  obtain ⟨s0, s1, s2⟩ := R
  unfold At.val At.cells at HA HB HR HQ HP heq
  generalize rightA a = v at *
  clear o0 hbox T ha hl hln q o1 hb1 ho HI HK
  cases v with
  | true =>
    have hright : vr = true := hright rfl
    subst hright
    go_wp2_with fail
    refine region_later_tail 25 (by kernel_rfl) (by kernel_rfl) ?_
    simp only [List.take_succ_cons, List.take_zero, List.drop_succ_cons, List.drop_zero]
    iterate 2 (go_big_quiet_step (fail))
    go_big_quiet_step ((go_at_call 9; refine later_of (HA.out _)))
    iterate 2 (go_big_quiet_step (fail))
    go_big_quiet_step ((go_at_call 10; refine later_of (HB.out _)))
    iterate 3 (go_big_quiet_step (fail))
    go_big_quiet_step ((go_at_call 11; refine later_of (HR.out _)))
    iterate 1 (go_big_quiet_step (fail))
    go_big_quiet_step ((go_at_call 12; refine later_of (HQ.out _)))
    iterate 4 (go_big_quiet_step (fail))
    go_big_quiet_step ((go_at_call 12; refine later_of (HQ.out _)))
    iterate 4 (go_big_quiet_step (fail))
    go_big_quiet_step ((go_at_call 9; refine later_of (HA.out _)))
    go_big_quiet_step ((go_at_call 11; refine later_of (HP.out _)))
    iterate 2 (go_big_quiet_step (fail))
    refine wpQuiet_nil ?_
    rintro _ ⟨X, rfl⟩
    change wpList _ _ _ _ _ X.val
    go_wp2_with fail
    go_ret
    exact ⟨rfl, HO.out.trans X.only (by simp)⟩
  | false =>
    clear hright
    go_wp2_with fail
    refine region_later_tail 25 (by kernel_rfl) (by kernel_rfl) ?_
    simp only [List.take_succ_cons, List.take_zero, List.drop_succ_cons, List.drop_zero]
    iterate 2 (go_big_quiet_step (fail))
    go_big_quiet_step ((go_at_call 9; refine later_of (HA.out _)))
    iterate 2 (go_big_quiet_step (fail))
    go_big_quiet_step ((go_at_call 10; refine later_of (HB.out _)))
    iterate 3 (go_big_quiet_step (fail))
    go_big_quiet_step ((go_at_call 11; refine later_of (HR.out _)))
    iterate 1 (go_big_quiet_step (fail))
    go_big_quiet_step ((go_at_call 12; refine later_of (HQ.out _)))
    iterate 4 (go_big_quiet_step (fail))
    go_big_quiet_step ((go_at_call 12; refine later_of (HQ.out _)))
    iterate 8 (go_big_quiet_step (fail))
    refine wpQuiet_nil ?_
    rintro _ ⟨X, rfl⟩
    change wpList _ _ _ _ _ X.val
    go_wp2_with fail
    go_ret
    exact ⟨rfl, HO.out.trans X.only (by simp)⟩

theorem core (a : At) (ha : a.Wf) (A : Option Addr) (n c : Nat) (l : List Int) (w : World) (T : Tab w) (hl : Holds w 1 A n (ivals l)) (hln : l.length = n) (hc : n ≤ c) (hn : n ≤ 9223372036854775807) :
    Calls Tryd.prog 3 #[a.val, .slice A n c] w fun e w' => e = .returned (.bool true) ∧ Only [] w w' := by
  by_cases h : 200 < n
  · exact out a A n c w T hn h
  · exact main a ha A n c l w T hl hln hc (by omega)

set_option maxRecDepth 100000 in
theorem lifted (os : Os) (started : os.Started) (H : Type) (enc : TypeId × Value → H) :
    ReturnsInHanded {} Tryd.checked os 3 .any (fun w args => (Rows.attrAppliesSpec.pre enc Tryd.prog Tryd.f3 [] false w args ∧ laidMetH Tryd.prog laidB w) ∧ sizedMet enc Tryd.prog Tryd.f3 (OpenSpec.ofChange Rows.attrAppliesSpec) false w args)
      (Rows.attrAppliesSpec.post enc Tryd.prog Tryd.f3 false true false false) := by
  refine returnsInHanded_of_change_and (C := Tryd.checked) (X := fun w _ => laidMetH Tryd.prog laidB w) (fun _ _ _ hh h => h.of_heap hh) own_knob started (by kernel_rfl) Tryd.func3
    (ChangeSpec.witness_shaped (enc := enc) (C := Tryd.checked) (os := os) (X := fun w _ => laidMetH Tryd.prog laidB w) false (World.doorLaid Tryd.prog 400 os) #[.agg #[.int .i64 0, .int .i64 0, .int .i64 0], .slice none 0 0] 8 rfl (World.shaped_of_RefB (by kernel_rfl) (by kernel_rfl)) (by kernel_rfl) (by kernel_rfl) (by kernel_rfl) (door_met os _)) ?_
  intro W base args ds gs before hval0 hW _ _ hL _
  have hval : ∀ (j : Nat) t v, Tryd.f3.params[j]? = some t → args[j]? = some v → Value.okWide Tryd.prog W .any base t v := hval0
  have hW' := hW
  obtain ⟨p, q, hA0, hV, rfl, hfz, hnd⟩ := hW
  have hA : DataW.TrodAll enc Tryd.prog W 0 (fun _ => true) true Tryd.f3.params.toList args.toList ds p := hA0
  rw [Tryd.params3] at hA hval
  obtain ⟨v0, vs0, d0, ds0, p0, q0, hargs, rfl, rfl, h0, r0⟩ := trodAll_cons hA
  obtain ⟨v1, vs1, d1, ds1, p1, q1, rfl, rfl, rfl, h1, r1⟩ := trodAll_cons r0
  obtain ⟨rfl, rfl, rfl⟩ := trodAll_nil r1
  obtain rfl : args = #[v0, v1] := by cases args; simp_all
  obtain ⟨a0, rfl, ha0⟩ := open_attr (hval 0 23 v0 rfl rfl) h0
  obtain ⟨A1, n1, c1, l1, rfl, hc1, cm1, _, hl1, hb1, hwf1⟩ := open_nums Tryd.underlying24 Tryd.underlying3 (by kernel_rfl) (hval 1 24 v1 rfl rfl) h1
  unfold maxLen at *
  refine (core a0 ha0 A1 n1 c1 l1 W (tab_of_laid hL) hb1 hl1 hc1 (by omega)).mono fun e W' ⟨he, ho⟩ => ?_
  subst he
  exact ⟨_, rfl, law_post rfl hW' (by intro t ht; revert t; exact of_decide_eq_true (by kernel_rfl)) rfl rfl ho⟩

theorem holds : Rows.AttrAppliesSaid :=
  OpenClaim.holds_of_wide 3 Tryd.f3 rfl rfl rfl rfl rfl rfl rfl ⟨rfl, rfl, rfl, rfl, rfl⟩ rfl rfl rfl rfl rfl (by kernel_rfl) Tryd.func3 (by kernel_rfl)
    (of_decide_eq_true (by kernel_rfl)) (by unfold Func.isWrapper; first | (rw [if_pos (by decide +kernel)]; kernel_rfl) | (rw [if_neg (by decide +kernel)]; exact ⟨rfl, rfl⟩))
    (fun os started H enc _ => lifted os started H enc)

theorem proved : Rows.AttrAppliesCardSaid :=
  Claim7.holds_tied_plain_at .later [] Rows.attrAppliesCard.laidKinds true Rows.attrAppliesCard.stood.harness false
    holds (fun _ h => by cases h) (by kernel_rfl) (fun _ h => by cases h) attrApplies_row_tie rfl ⟨rfl, rfl⟩ (by kernel_rfl) rfl
    (fun f fn hf hfn => by
      obtain rfl : f = 3 := Option.some.inj ((show Tryd.prog.funcNamed "phosphor/phosphorlaw12.AttrApplies" = some 3 by kernel_rfl).symm.trans hf) |>.symm
      obtain rfl : fn = Tryd.f3 := (Option.some.inj (Tryd.func3.symm.trans hfn)).symm
      exact ⟨by kernel_rfl, fun j t ht => by
        rw [Tryd.params3] at ht
        have hm : t ∈ [23, 24] := by simpa using Array.mem_of_getElem? ht
        have hall : ([23, 24].all fun u => !Tryd.prog.wantsStandIn u) = true := by kernel_rfl
        exact (show Tryd.prog.wantsStandIn t = false by simpa using List.all_eq_true.1 hall t hm)⟩)
    (by kernel_rfl)
end Go.Proofs.YtjfmebjjdiodbaaDoor.aapplies
