/-
  Proves: for any attribute, any parameters and any place AttrParts tells true, and leaves all that was there as it was; the tables start as the program's text lays them.
-/
import Derived.Test.YtjfmebjjdiodbaaDoorAtO
namespace Go.Proofs.YtjfmebjjdiodbaaDoor.aparts
open Go Go.RowKit Go.ChangeShapes Go.WideShapes Go.ChangeAt

/-- Parted anywhere. -/
theorem parts (a : At) (l : List Int) (k : Nat) (h1 : 1 ≤ k) (h2 : k < l.length) (hp : Plain l) : applyA (applyA a (l.take k)) (l.drop k) = applyA a l := by
  have n1 : l.take k ≠ [] := List.length_pos_iff.1 (by rw [List.length_take]; omega)
  have n2 : l.drop k ≠ [] := List.length_pos_iff.1 (by rw [List.length_drop]; omega)
  have n3 : l ≠ [] := fun h => by rw [h] at h2; simp at h2
  have e : ∀ (b : At) (m : List Int), Plain m → allA b m = m.foldl oneA b := fun b m hm => by
    have := allA_plain b m [] hm
    rw [List.append_nil, allA_nil] at this
    exact this
  unfold applyA
  rw [if_neg n1, if_neg n2, if_neg n3, e _ _ hp, e _ _ (fun n hn => hp n (List.mem_of_mem_take hn)), e _ _ (fun n hn => hp n (List.mem_of_mem_drop hn)), ← List.foldl_append, List.take_append_drop]

theorem applyA_wf {a : At} (ha : a.Wf) (l : List Int) : (applyA a l).Wf := by
  unfold applyA
  split
  · exact At.zero_wf
  · exact runA_wf _ ha _

set_option maxRecDepth 100000 in
theorem out (a : At) (A : Option Addr) (n c : Nat) (z : Int) (w : World) (T : Tab w) (hn : n ≤ 9223372036854775807) (h : 200 < n ∨ z < 1 ∨ (n : Int) ≤ z) :
    Calls Tryd.prog 7 #[a.val, .slice A n c, .int .i64 z] w fun e w' => e = .returned (.bool true) ∧ Only [] w w' := by
  show Calls Tryd.prog 7 #[.agg #[.int .i64 a.fg, .int .i64 a.bg, .int .i64 a.fl], .slice A n c, .int .i64 z] w _
  have o0 := (Only.refl [] w).alloc (.cells #[.int .i64 a.fg, .int .i64 a.bg, .int .i64 a.fl] 23)
  have HK := hide (known_any _ (T.only o0 (by simp)))
  have HO := hide o0
  clear o0 T
  by_cases k1 : 200 < n
  · clear h
    go_enter Tryd.func7, Tryd.ntmps7
    go_wp2_with fail
    refine (HK.out).mono ?_
    rintro e w1 ⟨rfl, ho⟩
    go_wp2_with fail
    go_ret
    exact ⟨rfl, HO.out.trans ho (by simp)⟩
  · by_cases k2 : z < 1
    · clear h
      go_enter Tryd.func7, Tryd.ntmps7
      go_wp2_with fail
      refine (HK.out).mono ?_
      rintro e w1 ⟨rfl, ho⟩
      go_wp2_with fail
      go_ret
      exact ⟨rfl, HO.out.trans ho (by simp)⟩
    · have k3 : (n : Int) ≤ z := by omega
      clear h
      go_enter Tryd.func7, Tryd.ntmps7
      go_wp2_with fail
      refine (HK.out).mono ?_
      rintro e w1 ⟨rfl, ho⟩
      go_wp2_with fail
      go_ret
      exact ⟨rfl, HO.out.trans ho (by simp)⟩

set_option maxRecDepth 100000 in
set_option maxHeartbeats 4000000 in
theorem main (a : At) (ha : a.Wf) (A : Option Addr) (n c : Nat) (l : List Int) (k : Nat) (w : World) (T : Tab w) (hl : Holds w 1 A n (ivals l)) (hln : l.length = n) (hc : n ≤ c) (h1 : n ≤ 200) (h2 : 1 ≤ k) (h3 : k < n) :
    Calls Tryd.prog 7 #[a.val, .slice A n c, .int .i64 k] w fun e w' => e = .returned (.bool true) ∧ Only [] w w' := by
  obtain ⟨b, o, rfl, hcell⟩ := hl.addr (by rw [ivals_length]; omega)
  show Calls Tryd.prog 7 #[.agg #[.int .i64 a.fg, .int .i64 a.bg, .int .i64 a.fl], .slice (some ⟨b, o, none⟩) n c, .int .i64 k] w _
  have hblk := hl.blk (by omega) _ rfl
  have o0 := (Only.refl [] w).alloc (.cells #[.int .i64 a.fg, .int .i64 a.bg, .int .i64 a.fl] 23)
  have hbox := Has.new w 23 #[.int .i64 a.fg, .int .i64 a.bg, .int .i64 a.fl]
  have HK := hide (known_any _ (T.only o0 (by simp)))
  have HO := hide (And.intro o0 (And.intro hbox (And.intro T (And.intro ha (And.intro hl (And.intro hln (And.intro hcell hblk)))))))
  have k1 : (k : Int) < (n : Int) := by omega
  have k2 : ¬ (k : Int) < 1 := by omega
  have k3 : decide (200 < (n : Int)) = false := decide_eq_false (by omega)
  have k4 : decide ((k : Int) < 1) = false := decide_eq_false k2
  clear k2
  clear o0 T hbox ha hl hln hcell hblk
  go_enter Tryd.func7, Tryd.ntmps7
  go_wp2_with fail
  refine (HK.out).mono ?_
  rintro e w1 ⟨rfl, ho⟩
  obtain ⟨o0, hbox, T, ha, hl, hln, hcell, hblk⟩ := HO.out
  have o1 := o0.trans ho (S := []) (by simp)
  have hbox := hbox.only ho (by simp)
  have HO := hide (And.intro o1 (And.intro hbox (And.intro (T.only o1 (by simp)) (And.intro ha (And.intro (hl.keep o1 (by simp)) (And.intro hln (And.intro hcell hblk)))))))
  clear o0 T hbox ha hl hln hcell hblk ho o1 HK
  go_wp2_with fail
  go_loopw [7] (fun i wr => ∃ j : Nat, j ≤ n ∧ i = .int .i64 j ∧ wr = w1 ∧ Hid (Plain (l.take j))) (fun i _ => n - (intOf i).toNat)
  case atStart => exact ⟨0, by omega, rfl, rfl, hide (fun x hx => by simp at hx)⟩
  case round =>
    obtain ⟨j, hj, rfl, rfl, hp⟩ := hrel
    by_cases hlt : j < n
    · have hjl : j < l.length := by have := HO.out.2.2.2.2.2.1; omega
      have cj : wr.cell? ⟨b, o + j, none⟩ = some (.int .i64 (l.getD j 0)) := (HO.out.1.cell (p := ⟨b, o + j, none⟩) HO.out.2.2.2.2.2.2.2 (by simp)).trans (HO.out.2.2.2.2.2.2.1 _ _ (ivals_get l j hjl))
      have hsnoc : l.getD j 0 ≠ 38 → l.getD j 0 ≠ 48 → Plain (l.take (j + 1)) := fun h1 h2 x hx => by
        rw [List.take_succ_eq_append_getElem hjl] at hx
        rcases List.mem_append.1 hx with h | h
        · exact hp.out x h
        · simp at h
          rw [h]
          simp [hjl] at h1 h2
          exact ⟨h1, h2⟩
      have HP := hide hsnoc
      generalize l.getD j 0 = x at *
      have hlti : (j : Int) < (n : Int) := by omega
      clear hsnoc hjl hp
      by_cases x38 : x = 38
      · subst x38
        go_wp2_with fail
        go_ret
        exact ⟨rfl, HO.out.1⟩
      · by_cases x48 : x = 48
        · subst x48
          clear x38 HP
          go_wp2_with fail
          go_ret
          exact ⟨rfl, HO.out.1⟩
        · have hx := hide (HP.out x38 x48)
          have y38 : (x == 38) = false := beq_eq_false_iff_ne.2 x38
          have y48 : (x == 48) = false := beq_eq_false_iff_ne.2 x48
          clear x38 x48 HP
          go_wp2_with fail
          go_roundw
          case rel => exact ⟨j + 1, hlt, by go_num, trivial, hx⟩
          case measure => simp [intOf]; omega
    · obtain rfl : j = n := by omega
      have hpl : Plain l := by have := hp.out; rwa [List.take_of_length_le (by have := HO.out.2.2.2.2.2.1; omega)] at this
      obtain ⟨o0, hbox, T, ha, hl, hln, hcell, hblk⟩ := HO.out
      obtain ⟨A1, c1, hr1, hl1, hc1, _⟩ := run_ifrom hl hln hc k (by omega)
      have hr2 := run_iupto (some ⟨b, o, none⟩) j c k (by omega)
      have hl2 := hl.iupto k (by omega)
      have q : ∀ X : Later wr, Tab X.val := fun X => T.only X.only (by simp)
      have HA1 := hide (fun X : Later wr => apply_any a ha (some ⟨b, o, none⟩) k c (l.take k) X.val (q X) (hl2.keep X.only (by simp)) (by rw [List.length_take]; omega) (by omega))
      have HA2 := hide (fun X : Later wr => apply_any (applyA a (l.take k)) (applyA_wf ha _) A1 (j - k) c1 (l.drop k) X.val (q X) (hl1.keep X.only (by simp)) (by rw [List.length_drop, hln]) hc1)
      have HA3 := hide (fun X : Later wr => apply_any a ha (some ⟨b, o, none⟩) j c l X.val (q X) (hl.keep X.only (by simp)) hln hc)
      rw [parts a l k h2 (by omega) hpl] at HA2
      have heq := fun w => at_eq (applyA a l) (applyA a l) w
      rw [At.eqB_self] at heq
      have m0 := later_cell (show wr.cell? ⟨w.heap.size, 0, none⟩ = some (.int .i64 a.fg) from hbox.cell 0)
      have m1 := later_cell (show wr.cell? ⟨w.heap.size, 1, none⟩ = some (.int .i64 a.bg) from hbox.cell 1)
      have m2 := later_cell (show wr.cell? ⟨w.heap.size, 2, none⟩ = some (.int .i64 a.fl) from hbox.cell 2)
      have HO2 := hide o0
      generalize applyA a l = R at *
      generalize applyA a (l.take k) = R1 at *
      unfold At.val At.cells at HA1 HA2 HA3 heq
      clear hpl o0 hbox T ha hl hln hcell hblk hl1 hc1 hl2 q HO hp
      go_wp2_with fail
      refine region_later_tail 13 (by kernel_rfl) (by kernel_rfl) ?_
      simp only [List.take_succ_cons, List.take_zero, List.drop_succ_cons, List.drop_zero]
      iterate 4 (go_big_quiet_step (fail))
      go_big_quiet_step ((go_at_call 9; refine later_of (HA1.out _)))
      iterate 3 (go_big_quiet_step (fail))
      go_big_quiet_step ((go_at_call 9; refine later_of (HA2.out _)))
      iterate 2 (go_big_quiet_step (fail))
      go_big_quiet_step ((go_at_call 9; refine later_of (HA3.out _)))
      iterate 1 (go_big_quiet_step (fail))
      refine wpQuiet_nil ?_
      rintro _ ⟨X, rfl⟩
      change wpList _ _ _ _ _ X.val
      go_wp2_with fail
      go_ret
      exact ⟨rfl, HO2.out.trans X.only (by simp)⟩

theorem core (a : At) (ha : a.Wf) (A : Option Addr) (n c : Nat) (l : List Int) (z : Int) (w : World) (T : Tab w) (hl : Holds w 1 A n (ivals l)) (hln : l.length = n) (hc : n ≤ c) (hn : n ≤ 9223372036854775807) :
    Calls Tryd.prog 7 #[a.val, .slice A n c, .int .i64 z] w fun e w' => e = .returned (.bool true) ∧ Only [] w w' := by
  by_cases h : 200 < n ∨ z < 1 ∨ (n : Int) ≤ z
  · exact out a A n c z w T hn h
  · obtain ⟨k, rfl⟩ : ∃ k : Nat, z = k := ⟨z.toNat, by omega⟩
    exact main a ha A n c l k w T hl hln hc (by omega) (by omega) (by omega)

set_option maxRecDepth 100000 in
theorem lifted (os : Os) (started : os.Started) (H : Type) (enc : TypeId × Value → H) :
    ReturnsInHanded {} Tryd.checked os 7 .any (fun w args => (Rows.attrPartsSpec.pre enc Tryd.prog Tryd.f7 [] false w args ∧ laidMetH Tryd.prog laidB w) ∧ sizedMet enc Tryd.prog Tryd.f7 (OpenSpec.ofChange Rows.attrPartsSpec) false w args)
      (Rows.attrPartsSpec.post enc Tryd.prog Tryd.f7 false true false false) := by
  refine returnsInHanded_of_change_and (C := Tryd.checked) (X := fun w _ => laidMetH Tryd.prog laidB w) (fun _ _ _ hh h => h.of_heap hh) own_knob started (by kernel_rfl) Tryd.func7
    (ChangeSpec.witness_shaped (enc := enc) (C := Tryd.checked) (os := os) (X := fun w _ => laidMetH Tryd.prog laidB w) false (World.doorLaid Tryd.prog 400 os) #[.agg #[.int .i64 0, .int .i64 0, .int .i64 0], .slice none 0 0, .int .i64 0] 8 rfl (World.shaped_of_RefB (by kernel_rfl) (by kernel_rfl)) (by kernel_rfl) (by kernel_rfl) (by kernel_rfl) (door_met os _)) ?_
  intro W base args ds gs before hval0 hW _ _ hL _
  have hval : ∀ (j : Nat) t v, Tryd.f7.params[j]? = some t → args[j]? = some v → Value.okWide Tryd.prog W .any base t v := hval0
  have hW' := hW
  obtain ⟨p, q, hA0, hV, rfl, hfz, hnd⟩ := hW
  have hA : DataW.TrodAll enc Tryd.prog W 0 (fun _ => true) true Tryd.f7.params.toList args.toList ds p := hA0
  rw [Tryd.params7] at hA hval
  obtain ⟨v0, vs0, d0, ds0, p0, q0, hargs, rfl, rfl, h0, r0⟩ := trodAll_cons hA
  obtain ⟨v1, vs1, d1, ds1, p1, q1, rfl, rfl, rfl, h1, r1⟩ := trodAll_cons r0
  obtain ⟨v2, vs2, d2, ds2, p2, q2, rfl, rfl, rfl, h2, r2⟩ := trodAll_cons r1
  obtain ⟨rfl, rfl, rfl⟩ := trodAll_nil r2
  obtain rfl : args = #[v0, v1, v2] := by cases args; simp_all
  obtain ⟨a0, rfl, ha0⟩ := open_attr (hval 0 23 v0 rfl rfl) h0
  obtain ⟨A1, n1, c1, l1, rfl, hc1, cm1, _, hl1, hb1, hwf1⟩ := open_nums Tryd.underlying24 Tryd.underlying3 (by kernel_rfl) (hval 1 24 v1 rfl rfl) h1
  obtain ⟨z2, rfl, rfl, rfl, _⟩ := open_int Tryd.underlying3 (hval 2 3 v2 rfl rfl) h2
  unfold maxLen at *
  refine (core a0 ha0 A1 n1 c1 l1 z2 W (tab_of_laid hL) hb1 hl1 hc1 (by omega)).mono fun e W' ⟨he, ho⟩ => ?_
  subst he
  exact ⟨_, rfl, law_post rfl hW' (by intro t ht; revert t; exact of_decide_eq_true (by kernel_rfl)) rfl rfl ho⟩

theorem holds : Rows.AttrPartsSaid :=
  OpenClaim.holds_of_wide 7 Tryd.f7 rfl rfl rfl rfl rfl rfl rfl ⟨rfl, rfl, rfl, rfl, rfl⟩ rfl rfl rfl rfl rfl (by kernel_rfl) Tryd.func7 (by kernel_rfl)
    (of_decide_eq_true (by kernel_rfl)) (by unfold Func.isWrapper; first | (rw [if_pos (by decide +kernel)]; kernel_rfl) | (rw [if_neg (by decide +kernel)]; exact ⟨rfl, rfl⟩))
    (fun os started H enc _ => lifted os started H enc)

theorem proved : Rows.AttrPartsCardSaid :=
  Claim7.holds_tied_plain_at .later [] Rows.attrPartsCard.laidKinds true Rows.attrPartsCard.stood.harness false
    holds (fun _ h => by cases h) (by kernel_rfl) (fun _ h => by cases h) attrParts_row_tie rfl ⟨rfl, rfl⟩ (by kernel_rfl) rfl
    (fun f fn hf hfn => by
      obtain rfl : f = 7 := Option.some.inj ((show Tryd.prog.funcNamed "phosphor/phosphorlaw12.AttrParts" = some 7 by kernel_rfl).symm.trans hf) |>.symm
      obtain rfl : fn = Tryd.f7 := (Option.some.inj (Tryd.func7.symm.trans hfn)).symm
      exact ⟨by kernel_rfl, fun j t ht => by
        rw [Tryd.params7] at ht
        have hm : t ∈ [23, 24, 3] := by simpa using Array.mem_of_getElem? ht
        have hall : ([23, 24, 3].all fun u => !Tryd.prog.wantsStandIn u) = true := by kernel_rfl
        exact (show Tryd.prog.wantsStandIn t = false by simpa using List.all_eq_true.1 hall t hm)⟩)
    (by kernel_rfl)
end Go.Proofs.YtjfmebjjdiodbaaDoor.aparts
