/-
  Proves: for any two attributes AttrParams tells true, and leaves all that was there as it was; the tables start as the program's text lays them.
-/
import Derived.Test.YtjfmebjjdiodbaaDoorAtO
import Derived.Test.YtjfmebjjdiodbaaDoorAtW
import Derived.Test.YtjfmebjjdiodbaaDoorArC
namespace Go.Proofs.YtjfmebjjdiodbaaDoor.aparams
open Go Go.RowKit Go.ChangeShapes Go.WideShapes Go.ChangeAt

set_option maxRecDepth 100000 in
set_option maxHeartbeats 8000000 in
theorem core (a b : At) (ha : a.Wf) (hb : b.Wf) (w : World) (T : Tab w) :
    Calls Tryd.prog 6 #[a.val, b.val] w fun e w' => e = .returned (.bool true) ∧ Only [] w w' := by
  show Calls Tryd.prog 6 #[.agg #[.int .i64 a.fg, .int .i64 a.bg, .int .i64 a.fl], .agg #[.int .i64 b.fg, .int .i64 b.bg, .int .i64 b.fl]] w _
  have o0 := ((Only.refl [] w).alloc (.cells #[.int .i64 a.fg, .int .i64 a.bg, .int .i64 a.fl] 23)).alloc (.cells #[.int .i64 b.fg, .int .i64 b.bg, .int .i64 b.fl] 23)
  have hA := (Has.new w 23 #[.int .i64 a.fg, .int .i64 a.bg, .int .i64 a.fl]).alloc (.cells #[.int .i64 b.fg, .int .i64 b.bg, .int .i64 b.fl] 23)
  have hB := Has.new (w.alloc (.cells #[.int .i64 a.fg, .int .i64 a.bg, .int .i64 a.fl] 23)) 23 #[.int .i64 b.fg, .int .i64 b.bg, .int .i64 b.fl]
  simp only [World.size_alloc] at hB
  have HK := hide (known_any _ (T.only o0 (by simp)))
  have HR := hide (fun w => rright_any a w)
  have HP := hide (fun (h : rightA a = true) w T => params_any a ha h w T)
  have hmake : rightA a = true → applyA b (paramsL a) = a := fun h => params_make a b h
  have hlen : rightA a = true → 1 ≤ (paramsL a).length ∧ (paramsL a).length ≤ 19 := fun h => params_len a h
  have HI := hide (And.intro o0 (And.intro hA (And.intro hB (And.intro T (And.intro ha (And.intro hb (And.intro hmake hlen)))))))
  unfold At.val At.cells at HR HP
  clear o0 hA hB T ha hb hmake hlen
  cases hv : rightA a with
  | false =>
    rw [hv] at HR
    clear hv HP
    go_enter Tryd.func6, Tryd.ntmps6
    go_wp2_with fail
    refine (HK.out).mono ?_
    rintro e w1 ⟨rfl, ho⟩
    obtain ⟨o0, hA, hB, T, ha, hb, hmake, hlen⟩ := HI.out
    have hA := hA.only ho (by simp)
    have o1 := o0.trans ho (S := []) (by simp)
    have m0 : w1.cell? ⟨w.heap.size, 0, none⟩ = some (.int .i64 a.fg) := hA.cell 0
    have m1 : w1.cell? ⟨w.heap.size, 1, none⟩ = some (.int .i64 a.bg) := hA.cell 1
    have m2 : w1.cell? ⟨w.heap.size, 2, none⟩ = some (.int .i64 a.fl) := hA.cell 2
    have HO := hide o1
    clear o0 hA hB T ha hb hmake hlen ho o1
    go_wp2_with fail
    refine (HR.out _).mono ?_
    rintro e w2 ⟨rfl, ho⟩
    go_wp2_with fail
    go_ret
    exact ⟨rfl, HO.out.trans ho (by simp)⟩
  | true =>
    have HP := hide (HP.out hv)
    rw [hv] at HR
    have HV := hide hv
    clear hv
    go_enter Tryd.func6, Tryd.ntmps6
    go_wp2_with fail
    refine (HK.out).mono ?_
    rintro e w1 ⟨rfl, ho⟩
    obtain ⟨o0, hA, hB, T, ha, hb, hmake, hlen⟩ := HI.out
    have hA := hA.only ho (by simp)
    have hB := hB.only ho (by simp)
    have o1 := o0.trans ho (S := []) (by simp)
    have m0 : w1.cell? ⟨w.heap.size, 0, none⟩ = some (.int .i64 a.fg) := hA.cell 0
    have m1 : w1.cell? ⟨w.heap.size, 1, none⟩ = some (.int .i64 a.bg) := hA.cell 1
    have m2 : w1.cell? ⟨w.heap.size, 2, none⟩ = some (.int .i64 a.fl) := hA.cell 2
    have HO := hide (And.intro o1 (And.intro hA (And.intro hB (And.intro T (And.intro ha (And.intro hb (And.intro (hmake HV.out) (hlen HV.out))))))))
    clear o0 hA hB T ha hb hmake hlen ho o1 HI HK HV
    go_wp2_with fail
    refine (HR.out _).mono ?_
    rintro e w2 ⟨rfl, ho⟩
    obtain ⟨o1, hA, hB, T, ha, hb, hmake, hlen⟩ := HO.out
    have hA := hA.only ho (by simp)
    have hB := hB.only ho (by simp)
    have o1 := o1.trans ho (S := []) (by simp)
    clear m0 m1 m2
    have m0 : w2.cell? ⟨w.heap.size, 0, none⟩ = some (.int .i64 a.fg) := hA.cell 0
    have m1 : w2.cell? ⟨w.heap.size, 1, none⟩ = some (.int .i64 a.bg) := hA.cell 1
    have m2 : w2.cell? ⟨w.heap.size, 2, none⟩ = some (.int .i64 a.fl) := hA.cell 2
    have HO := hide (And.intro o1 (And.intro hA (And.intro hB (And.intro T (And.intro ha (And.intro hb (And.intro hmake hlen)))))))
    have T2 := T.only o1 (by simp)
    have HT := hide T2
    clear hA hB T ha hb hmake hlen ho o1 T2 HR
    go_wp2_with fail
    refine (HP.out _ HT.out).mono ?_
    rintro e w3 ⟨A, n, c, rfl, hln, hc, hl, ho⟩
    obtain ⟨o1, hA, hB, T, ha, hb, hmake, hlen⟩ := HO.out
    have hA := hA.only ho (by simp)
    have hB := hB.only ho (by simp)
    have o3 := o1.trans ho (S := []) (by simp)
    obtain ⟨bk, of, rfl, hcell⟩ := hl.addr (by rw [ivals_length]; omega)
    have z0 : w3.cell? ⟨bk, of, none⟩ = some (.int .i64 0) := by
      have := hcell 0 (.int .i64 0) (by unfold paramsL; rfl)
      rwa [Nat.add_zero] at this
    have q : ∀ X : Later w3, Tab X.val := fun X => (T.only o3 (by simp)).only X.only (by simp)
    have HA1 := hide (fun X : Later w3 => apply_any b hb _ n c (paramsL a) X.val (q X) (hl.keep X.only (by simp)) hln hc)
    have HA2 := hide (fun X : Later w3 => rapply_any b hb _ n c (paramsL a) X.val (hl.keep X.only (by simp)) hln hc (by omega))
    rw [hmake] at HA1 HA2
    have heq := fun w => at_eq a a w
    rw [At.eqB_self] at heq
    unfold At.val At.cells at HA1 HA2 heq
    have n1 : (1 : Int) ≤ (n : Int) := by omega
    have n2 : (n : Int) ≤ 19 := by omega
    have n3 : (0 : Int) < (n : Int) := by omega
    have n4 : 1 ≤ n := by omega
    have n5 : n ≤ 19 := by omega
    have n6 : 0 < n := by omega
    have z0 := later_cell z0
    clear m0 m1 m2
    have m0 := later_cell (show w3.cell? ⟨w.heap.size, 0, none⟩ = some (.int .i64 a.fg) from hA.cell 0)
    have m1 := later_cell (show w3.cell? ⟨w.heap.size, 1, none⟩ = some (.int .i64 a.bg) from hA.cell 1)
    have m2 := later_cell (show w3.cell? ⟨w.heap.size, 2, none⟩ = some (.int .i64 a.fl) from hA.cell 2)
    have k0 := later_cell (show w3.cell? ⟨w.heap.size + 1, 0, none⟩ = some (.int .i64 b.fg) from hB.cell 0)
    have k1 := later_cell (show w3.cell? ⟨w.heap.size + 1, 1, none⟩ = some (.int .i64 b.bg) from hB.cell 1)
    have k2 := later_cell (show w3.cell? ⟨w.heap.size + 1, 2, none⟩ = some (.int .i64 b.fl) from hB.cell 2)
    have HQ := hide o3
    clear o1 hA hB T ha hb hmake hlen ho o3 hcell hl hln hc q HO HT HP
    go_wp2_with fail
    refine region_later_tail 28 (by kernel_rfl) (by kernel_rfl) ?_
    simp only [List.take_succ_cons, List.take_zero, List.drop_succ_cons, List.drop_zero]
    iterate 17 (go_big_quiet_step (fail))
    go_big_quiet_step ((go_at_call 9; refine later_of (HA1.out _)))
    iterate 6 (go_big_quiet_step (fail))
    go_big_quiet_step ((go_at_call 10; refine later_of (HA2.out _)))
    iterate 3 (go_big_quiet_step (fail))
    refine wpQuiet_nil ?_
    rintro _ ⟨X, rfl⟩
    change wpList _ _ _ _ _ X.val
    go_wp2_with fail
    go_ret
    exact ⟨rfl, HQ.out.trans X.only (by simp)⟩

set_option maxRecDepth 100000 in
theorem lifted (os : Os) (started : os.Started) (H : Type) (enc : TypeId × Value → H) :
    ReturnsInHanded {} Tryd.checked os 6 .any (fun w args => (Rows.attrParamsSpec.pre enc Tryd.prog Tryd.f6 [] false w args ∧ laidMetH Tryd.prog laidB w) ∧ sizedMet enc Tryd.prog Tryd.f6 (OpenSpec.ofChange Rows.attrParamsSpec) false w args)
      (Rows.attrParamsSpec.post enc Tryd.prog Tryd.f6 false true false false) := by
  refine returnsInHanded_of_change_and (C := Tryd.checked) (X := fun w _ => laidMetH Tryd.prog laidB w) (fun _ _ _ hh h => h.of_heap hh) own_knob started (by kernel_rfl) Tryd.func6
    (ChangeSpec.witness_shaped (enc := enc) (C := Tryd.checked) (os := os) (X := fun w _ => laidMetH Tryd.prog laidB w) false (World.doorLaid Tryd.prog 400 os) #[.agg #[.int .i64 0, .int .i64 0, .int .i64 0], .agg #[.int .i64 0, .int .i64 0, .int .i64 0]] 8 rfl (World.shaped_of_RefB (by kernel_rfl) (by kernel_rfl)) (by kernel_rfl) (by kernel_rfl) (by kernel_rfl) (door_met os _)) ?_
  intro W base args ds gs before hval0 hW _ _ hL _
  have hval : ∀ (j : Nat) t v, Tryd.f6.params[j]? = some t → args[j]? = some v → Value.okWide Tryd.prog W .any base t v := hval0
  have hW' := hW
  obtain ⟨p, q, hA0, hV, rfl, hfz, hnd⟩ := hW
  have hA : DataW.TrodAll enc Tryd.prog W 0 (fun _ => true) true Tryd.f6.params.toList args.toList ds p := hA0
  rw [Tryd.params6] at hA hval
  obtain ⟨v0, vs0, d0, ds0, p0, q0, hargs, rfl, rfl, h0, r0⟩ := trodAll_cons hA
  obtain ⟨v1, vs1, d1, ds1, p1, q1, rfl, rfl, rfl, h1, r1⟩ := trodAll_cons r0
  obtain ⟨rfl, rfl, rfl⟩ := trodAll_nil r1
  obtain rfl : args = #[v0, v1] := by cases args; simp_all
  obtain ⟨a0, rfl, ha0⟩ := open_attr (hval 0 23 v0 rfl rfl) h0
  obtain ⟨a1, rfl, ha1⟩ := open_attr (hval 1 23 v1 rfl rfl) h1
  refine (core a0 a1 ha0 ha1 W (tab_of_laid hL)).mono fun e W' ⟨he, ho⟩ => ?_
  subst he
  exact ⟨_, rfl, law_post rfl hW' (by intro t ht; revert t; exact of_decide_eq_true (by kernel_rfl)) rfl rfl ho⟩

theorem holds : Rows.AttrParamsSaid :=
  OpenClaim.holds_of_wide 6 Tryd.f6 rfl rfl rfl rfl rfl rfl rfl ⟨rfl, rfl, rfl, rfl, rfl⟩ rfl rfl rfl rfl rfl (by kernel_rfl) Tryd.func6 (by kernel_rfl)
    (of_decide_eq_true (by kernel_rfl)) (by unfold Func.isWrapper; first | (rw [if_pos (by decide +kernel)]; kernel_rfl) | (rw [if_neg (by decide +kernel)]; exact ⟨rfl, rfl⟩))
    (fun os started H enc _ => lifted os started H enc)

theorem proved : Rows.AttrParamsCardSaid :=
  Claim7.holds_tied_plain_at .later [] Rows.attrParamsCard.laidKinds true Rows.attrParamsCard.stood.harness false
    holds (fun _ h => by cases h) (by kernel_rfl) (fun _ h => by cases h) attrParams_row_tie rfl ⟨rfl, rfl⟩ (by kernel_rfl) rfl
    (fun f fn hf hfn => by
      obtain rfl : f = 6 := Option.some.inj ((show Tryd.prog.funcNamed "phosphor/phosphorlaw12.AttrParams" = some 6 by kernel_rfl).symm.trans hf) |>.symm
      obtain rfl : fn = Tryd.f6 := (Option.some.inj (Tryd.func6.symm.trans hfn)).symm
      exact ⟨by kernel_rfl, fun j t ht => by
        rw [Tryd.params6] at ht
        have hm : t ∈ [23, 23] := by simpa using Array.mem_of_getElem? ht
        have hall : ([23, 23].all fun u => !Tryd.prog.wantsStandIn u) = true := by kernel_rfl
        exact (show Tryd.prog.wantsStandIn t = false by simpa using List.all_eq_true.1 hall t hm)⟩)
    (by kernel_rfl)
end Go.Proofs.YtjfmebjjdiodbaaDoor.aparams
