/-
  Proves: for any bytes, either way to pack them, any cut and any number less ZlibFronts tells true, and leaves all that was there as it was.
-/
import Derived.Test.YtopjkmobnmaaaaaDoorMFlM
import Derived.Test.YtopjkmobnmaaaaaDoorMZlY
import Derived.Test.YtopjkmobnmaaaaaDoorMFlL
namespace Go.Proofs.YtopjkmobnmaaaaaDoor.zfronts
open Go Go.RowKit Go.ChangeShapes Go.WideShapes Go.ChangeAt

set_option maxRecDepth 100000 in
set_option maxHeartbeats 8000000 in
theorem out (A : Option Addr) (n c : Nat) (fx : Bool) (cut less : Int) (w : World) (hT : Tab w) (h : 600 < n ∨ (¬ 600 < n ∧ (less < 1 ∨ (¬ less < 1 ∧ (n : Int) < less)))) :
    Calls Tryd.prog 4 #[.slice A n c, .bool fx, .int .i64 cut, .int .i64 less] w fun e w' => e = .returned (.bool true) ∧ Only [] w w' := by
  have HK := hide (knownZ_any w hT)
  rcases h with h | ⟨h, h1 | ⟨h1, h2⟩⟩
  · have hn : (600 : Int) < (n : Int) := by omega
    go_enter Tryd.func4, Tryd.ntmps4
    go_wp2_with fail
    refine (HK.out).mono ?_
    rintro e w1 ⟨rfl, ho1⟩
    go_wp2_with fail
    go_ret
    exact ⟨rfl, ho1⟩
  · have hn : ¬ (600 : Int) < (n : Int) := by omega
    go_enter Tryd.func4, Tryd.ntmps4
    go_wp2_with fail
    refine (HK.out).mono ?_
    rintro e w1 ⟨rfl, ho1⟩
    go_wp2_with fail
    go_ret
    exact ⟨rfl, ho1⟩
  · have hn : ¬ (600 : Int) < (n : Int) := by omega
    go_enter Tryd.func4, Tryd.ntmps4
    go_wp2_with fail
    refine (HK.out).mono ?_
    rintro e w1 ⟨rfl, ho1⟩
    go_wp2_with fail
    go_ret
    exact ⟨rfl, ho1⟩

theorem mod_range (a : Int) (n : Nat) (hn : 0 < n) : ∃ r : Int, a.tmod (n : Int) = r ∧ -(n : Int) < r ∧ r < (n : Int) := by
  refine ⟨_, rfl, ?_, Int.tmod_lt_of_pos a (by omega)⟩
  have h := Int.tmod_lt_of_pos (-a) (show (0 : Int) < (n : Int) by omega)
  rw [Int.neg_tmod] at h
  omega

set_option maxRecDepth 100000 in
set_option maxHeartbeats 8000000 in
theorem core (A : Option Addr) (n c : Nat) (l : List UInt8) (fx : Bool) (cut less : Int) (w : World) (hT : Tab w) (hb : Holds w 1 A n (bvals l)) (hl : l.length = n) (hc : n ≤ c) :
    Calls Tryd.prog 4 #[.slice A n c, .bool fx, .int .i64 cut, .int .i64 less] w fun e w' => e = .returned (.bool true) ∧ Only [] w w' := by
  by_cases h0 : 600 < n ∨ (¬ 600 < n ∧ (less < 1 ∨ (¬ less < 1 ∧ (n : Int) < less)))
  · exact out A n c fx cut less w hT h0
  have hn : ¬ (600 : Int) < (n : Int) := by omega
  have hls1 : ¬ less < 1 := by omega
  have hls2 : ¬ (n : Int) < less := by omega
  obtain ⟨ls, rfl⟩ := Int.eq_ofNat_of_zero_le (show 0 ≤ less by omega)
  have HK := hide (knownZ_any w hT)
  have HB := hide (And.intro hT (And.intro hb (And.intro hl hc)))
  have HP : Hid (∀ w', Only [] w w' → _) := hide (fun w' (ho : Only [] w w') => pack_any fx A n c l w' (hb.keep ho (by simp)) hl hc (by omega))
  have hls3 : 1 ≤ ls ∧ ls ≤ n := by omega
  have hn6 : n ≤ 600 := by omega
  clear hT hb hl hc h0
  go_enter Tryd.func4, Tryd.ntmps4
  go_wp2_with fail
  refine (HK.out).mono ?_
  rintro e w1 ⟨rfl, ho1⟩
  have O1 := hide ho1
  clear ho1
  go_wp2_with fail
  refine (HP.out _ O1.out).mono ?_
  rintro e w2 ⟨v, s, rfl, hpk, hs9, how, ho⟩
  obtain ⟨A1, c1, rfl, hc1, hA1⟩ := own_shape how
  have O2 := hide (And.intro (O1.out.trans ho (S := []) (by simp)) (And.intro (Holds.of_own how) (And.intro hpk (And.intro hc1 hA1))))
  have h6 := hpk.six
  obtain ⟨m, hm⟩ : ∃ m, m = s.length := ⟨_, rfl⟩
  have HM := hide hm
  rw [← hm] at hs9 h6 hc1 ⊢
  have m0 : ¬ (m : Int) = 0 := by omega
  have m1 : ((m : Int) == 0) = false := beq_eq_false_iff_ne.2 m0
  obtain ⟨r, hr, hr1, hr2⟩ := mod_range cut m (by omega)
  have W0 : Hid (IntKind.i64.wrap r = r) := hide (by rw [IntKind.wrap_i64]; omega)
  have HU2 : Hid (∀ w', Only [] w w' → Holds w' 1 A1 m (bvals s) → Calls Tryd.prog 7 #[.slice A1 m c1, .int .i64 ((n - ls : Nat) : Int)] w' fun e w'' => Only [] w' w'' ∧ e = .returned (.tuple #[.slice none 0 0, .int .i64 0, .int .i64 5])) := hide (fun w' ho' hh => unpack_long O2.out.2.2.1 A1 m c1 (n - ls) w' (HB.out.1.only ho' (by simp)) HM.out.symm hh hc1 O2.out.2.2.2.2 (by omega) (by rw [HB.out.2.2.1]; omega) (by omega))
  have HU1 : Hid (∀ w' (k : Nat), Only [] w w' → Holds w' 1 A1 m (bvals s) → k < m → Calls Tryd.prog 7 #[.slice A1 k c1, .int .i64 (n : Int)] w' fun e w'' => Only [] w' w'' ∧ e = .returned (.tuple #[.slice none 0 0, .int .i64 0, .int .i64 2])) := hide (fun w' k ho' hh hk => unpack_front O2.out.2.2.1 k (by rw [← HM.out]; exact hk) A1 c1 n w' (HB.out.1.only ho' (by simp)) (hh.upto k (by omega)) (by omega) O2.out.2.2.2.2 (by omega) (by rw [HB.out.2.2.1]; omega) (by omega))
  have W2 : Hid (Go.RowKit.wrap64 ((n : Int) - (ls : Int)) = ((n - ls : Nat) : Int) ∧ IntKind.i64.wrap ((n : Int) - (ls : Int)) = ((n - ls : Nat) : Int)) := hide ⟨by rw [show (n : Int) - (ls : Int) = ((n - ls : Nat) : Int) by omega]; exact IntWalk.wrap64_in _ ⟨by omega, by omega⟩, by rw [show (n : Int) - (ls : Int) = ((n - ls : Nat) : Int) by omega, IntKind.wrap_i64]; omega⟩
  clear how ho hpk hA1 hm
  by_cases hr0 : r < 0
  · obtain ⟨k, hk⟩ : ∃ k : Nat, r + (m : Int) = (k : Int) := Int.eq_ofNat_of_zero_le (by omega)
    have hkm : k < m := by omega
    have W1 : Hid (Go.RowKit.wrap64 (r + (m : Int)) = (k : Int) ∧ IntKind.i64.wrap (r + (m : Int)) = (k : Int)) := hide ⟨by rw [hk]; exact IntWalk.wrap64_in _ ⟨by omega, by omega⟩, by rw [hk, IntKind.wrap_i64]; omega⟩
    have hup := fun w => run_upto A1 m c1 k (by omega) w
    obtain ⟨v1, u1⟩ := W1.out
    obtain ⟨v2, u2⟩ := W2.out
    have u0 := W0.out
    obtain ⟨q, hq⟩ : ∃ q, q = n - ls := ⟨_, rfl⟩
    rw [← hq] at HU2 v2 u2
    clear W1 W2 W0 hk hls3 hq
    go_wp2_with fail
    refine (HU1.out _ k O2.out.1 (by rw [HM.out]; exact O2.out.2.1) hkm).mono ?_
    rintro e w3 ⟨ho, rfl⟩
    have O3 := hide (And.intro (O2.out.1.trans ho (S := []) (by simp)) (O2.out.2.1.keep ho (by simp)))
    clear ho
    go_wp2_with fail
    refine (HU2.out _ O3.out.1 (by rw [HM.out]; exact O3.out.2)).mono ?_
    rintro e w4 ⟨ho, rfl⟩
    have O4 := hide (O3.out.1.trans ho (S := []) (by simp))
    clear ho
    go_wp2_with fail
    go_ret
    exact ⟨rfl, O4.out⟩
  · obtain ⟨k, rfl⟩ : ∃ k : Nat, r = (k : Int) := Int.eq_ofNat_of_zero_le (by omega)
    have hkm : k < m := by omega
    have hup := fun w => run_upto A1 m c1 k (by omega) w
    obtain ⟨v2, u2⟩ := W2.out
    have u0 := W0.out
    obtain ⟨q, hq⟩ : ∃ q, q = n - ls := ⟨_, rfl⟩
    rw [← hq] at HU2 v2 u2
    clear W2 W0 hls3 hq
    go_wp2_with fail
    refine (HU1.out _ k O2.out.1 (by rw [HM.out]; exact O2.out.2.1) hkm).mono ?_
    rintro e w3 ⟨ho, rfl⟩
    have O3 := hide (And.intro (O2.out.1.trans ho (S := []) (by simp)) (O2.out.2.1.keep ho (by simp)))
    clear ho
    go_wp2_with fail
    refine (HU2.out _ O3.out.1 (by rw [HM.out]; exact O3.out.2)).mono ?_
    rintro e w4 ⟨ho, rfl⟩
    have O4 := hide (O3.out.1.trans ho (S := []) (by simp))
    clear ho
    go_wp2_with fail
    go_ret
    exact ⟨rfl, O4.out⟩
set_option maxRecDepth 100000 in
theorem lifted (os : Os) (started : os.Started) (H : Type) (enc : TypeId × Value → H) :
    ReturnsInHanded {} Tryd.checked os 4 .any (fun w args => (Rows.zlibFrontsSpec.pre enc Tryd.prog Tryd.f4 [] false w args ∧ laidMetH Tryd.prog laidI w) ∧ sizedMet enc Tryd.prog Tryd.f4 (OpenSpec.ofChange Rows.zlibFrontsSpec) false w args)
      (Rows.zlibFrontsSpec.post enc Tryd.prog Tryd.f4 false true false false) := by
  refine returnsInHanded_of_change_and (C := Tryd.checked) (X := fun w _ => laidMetH Tryd.prog laidI w) (fun _ _ _ hh h => h.of_heap hh) own_knob started (by kernel_rfl) Tryd.func4
    (ChangeSpec.witness_shaped (enc := enc) (C := Tryd.checked) (os := os) (X := fun w _ => laidMetH Tryd.prog laidI w) false (World.doorLaid Tryd.prog 400 os) #[.slice none 0 0, .bool false, .int .i64 0, .int .i64 0] 8 rfl (World.shaped_of_RefB (by kernel_rfl) (by kernel_rfl)) (by kernel_rfl) (by kernel_rfl) (by kernel_rfl) (door_met os _)) ?_
  intro W base args ds gs before hval0 hW _ _ hL _
  have hval : ∀ (j : Nat) t v, Tryd.f4.params[j]? = some t → args[j]? = some v → Value.okWide Tryd.prog W .any base t v := hval0
  have hW' := hW
  obtain ⟨p, q, hA0, hV, rfl, hfz, hnd⟩ := hW
  have hA : DataW.TrodAll enc Tryd.prog W 0 (fun _ => true) true Tryd.f4.params.toList args.toList ds p := hA0
  rw [Tryd.params4] at hA hval
  obtain ⟨v0, vs0, d0, ds0, p0, q0, hargs, rfl, rfl, h0, r0⟩ := trodAll_cons hA
  obtain ⟨v1, vs1, d1, ds1, p1, q1, rfl, rfl, rfl, h1, r1⟩ := trodAll_cons r0
  obtain ⟨v2, vs2, d2, ds2, p2, q2, rfl, rfl, rfl, h2, r2⟩ := trodAll_cons r1
  obtain ⟨v3, vs3, d3, ds3, p3, q3, rfl, rfl, rfl, h3, r3⟩ := trodAll_cons r2
  obtain ⟨rfl, rfl, rfl⟩ := trodAll_nil r3
  obtain rfl : args = #[v0, v1, v2, v3] := by cases args; simp_all
  obtain ⟨A0, n0, c0, l0, rfl, hc0, cm0, _, hl0, hb0⟩ := open_bytes Tryd.underlying22 Tryd.underlying5 (by kernel_rfl) (hval 0 22 v0 rfl rfl) h0
  obtain ⟨fx, rfl, rfl, rfl⟩ := open_bool Tryd.underlying4 (hval 1 4 v1 rfl rfl) h1
  obtain ⟨z2, rfl, rfl, rfl, _⟩ := open_int Tryd.underlying3 (hval 2 3 v2 rfl rfl) h2
  obtain ⟨z3, rfl, rfl, rfl, _⟩ := open_int Tryd.underlying3 (hval 3 3 v3 rfl rfl) h3
  refine (core A0 n0 c0 l0 fx z2 z3 W (tab_of_laid hL) hb0 hl0 hc0).mono fun e W' ⟨he, ho⟩ => ?_
  subst he
  exact ⟨_, rfl, law_post rfl hW' (by intro t ht; revert t; exact of_decide_eq_true (by kernel_rfl)) rfl rfl ho⟩

theorem holds : Rows.ZlibFrontsSaid :=
  OpenClaim.holds_of_wide 4 Tryd.f4 rfl rfl rfl rfl rfl rfl rfl ⟨rfl, rfl, rfl, rfl, rfl⟩ rfl rfl rfl rfl rfl (by kernel_rfl) Tryd.func4 (by kernel_rfl)
    (of_decide_eq_true (by kernel_rfl)) (by unfold Func.isWrapper; first | (rw [if_pos (by decide +kernel)]; kernel_rfl) | (rw [if_neg (by decide +kernel)]; exact ⟨rfl, rfl⟩))
    (fun os started H enc _ => lifted os started H enc)

theorem proved : Rows.ZlibFrontsCardSaid :=
  Claim7.holds_tied_plain_at .later [] Rows.zlibFrontsCard.laidKinds true Rows.zlibFrontsCard.stood.harness false
    holds (fun _ h => by cases h) (by kernel_rfl) (fun _ h => by cases h) zlibFronts_row_tie rfl ⟨rfl, rfl⟩ (by kernel_rfl) rfl
    (fun f fn hf hfn => by
      obtain rfl : f = 4 := Option.some.inj ((show Tryd.prog.funcNamed "phosphor/phosphorlaw6.ZlibFronts" = some 4 by kernel_rfl).symm.trans hf) |>.symm
      obtain rfl : fn = Tryd.f4 := (Option.some.inj (Tryd.func4.symm.trans hfn)).symm
      exact ⟨by kernel_rfl, fun j t ht => by
        rw [Tryd.params4] at ht
        have hm : t ∈ [22, 4, 3, 3] := by simpa using Array.mem_of_getElem? ht
        have hall : ([22, 4, 3, 3].all fun u => !Tryd.prog.wantsStandIn u) = true := by kernel_rfl
        exact (show Tryd.prog.wantsStandIn t = false by simpa using List.all_eq_true.1 hall t hm)⟩)
    (by kernel_rfl)
end Go.Proofs.YtopjkmobnmaaaaaDoor.zfronts
