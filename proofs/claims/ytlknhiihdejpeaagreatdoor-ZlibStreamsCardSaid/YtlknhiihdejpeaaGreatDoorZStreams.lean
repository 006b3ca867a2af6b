/-
  Proves: for any bytes, any number, any data and either way to pack them ZlibStreams tells true, and leaves all that was there as it was.
-/
import Derived.Test.YtlknhiihdejpeaaGreatDoorMZlX
import Derived.Test.YtlknhiihdejpeaaGreatDoorMZlV
import Derived.Test.YtlknhiihdejpeaaGreatDoorMRzB
import Derived.Test.YtlknhiihdejpeaaGreatDoorMJoin
namespace Go.Proofs.YtlknhiihdejpeaaGreatDoor.zstreams
open Go Go.RowKit Go.ChangeShapes Go.WideShapes Go.ChangeAt

/-- What Unpack comes to, whatever the cap is. -/
def UX (b : List UInt8) (most : Int) (out : List UInt8) (n c : Nat) : Prop :=
  (0 ≤ most ∧ most ≤ 1073741824 ∧ UT b most.toNat out n c) ∨ ((most < 0 ∨ 1073741824 < most) ∧ out = [] ∧ n = 0 ∧ c = 1)
theorem UX.det {b out out' : List UInt8} {most : Int} {n n' c c' : Nat} (h : UX b most out n c) (h' : UX b most out' n' c') : out = out' ∧ n = n' ∧ c = c' := by
  rcases h with ⟨h1, h2, h⟩ | ⟨h1, rfl, rfl, rfl⟩
  · rcases h' with ⟨_, _, h'⟩ | ⟨h3, _⟩
    · exact h.det h'
    · omega
  · rcases h' with ⟨h2, h3, _⟩ | ⟨_, rfl, rfl, rfl⟩
    · omega
    · exact ⟨rfl, rfl, rfl⟩
def UXR (b : List UInt8) (most : Int) (w : World) (e : Ending) (w' : World) : Prop :=
  ∃ (A : Option Addr) (k : Nat) (out : List UInt8) (n c : Nat), e = .returned (.tuple #[.slice A out.length k, .int .i64 (n : Int), .int .i64 (c : Int)]) ∧ Only [] w w' ∧ Holds w' 1 A out.length (bvals out) ∧ UX b most out n c
theorem progU (most : Int) (A : Option Addr) (n cb : Nat) (b : List UInt8) (w : World) (hT : Tab w) (hb : Holds w 1 A n (bvals b)) (hbl : b.length = n) (hcb : n ≤ cb) (hA0 : A = none → cb = 0) (hn : n ≤ 90000) :
    Calls Tryz.prog 6 #[.slice A n cb, .int .i64 most] w (UXR b most w) := by
  by_cases hm : 0 ≤ most ∧ most ≤ 1073741824
  · obtain ⟨m, rfl⟩ := Int.eq_ofNat_of_zero_le hm.1
    refine (unpack_any m n cb A b w (by omega) hT hb hbl hcb hA0 hn).mono fun e w' h => ?_
    obtain ⟨v, out, k, c, rfl, ho, how, hu⟩ := h.ut
    obtain ⟨A', c', rfl, _, _⟩ := own_shape how
    exact ⟨A', c', out, k, c, rfl, ho, Holds.of_own how, .inl ⟨hm.1, hm.2, hu⟩⟩
  · refine (unpack_bad most A n cb w (by omega)).mono ?_
    rintro e w' ⟨rfl, rfl⟩
    exact ⟨none, 0, [], 0, 1, rfl, Only.refl _ _, Holds.empty _ _ _, .inr ⟨by omega, rfl, rfl, rfl⟩⟩
theorem refU (most : Int) (A : Option Addr) (n cb : Nat) (b : List UInt8) (w : World) (hb : Holds w 1 A n (bvals b)) (hbl : b.length = n) (hcb : n ≤ cb) (hA0 : A = none → cb = 0) (hn : n ≤ 90000) :
    Calls Tryz.prog 7 #[.slice A n cb, .int .i64 most] w (UXR b most w) := by
  by_cases hm : 0 ≤ most ∧ most ≤ 1073741824
  · obtain ⟨m, rfl⟩ := Int.eq_ofNat_of_zero_le hm.1
    refine (rUnpack_any A n cb m b w hb hbl hcb hA0 hn (by omega)).mono fun e w' h => ?_
    obtain ⟨v, out, k, c, rfl, ho, how, hu⟩ := h
    obtain ⟨A', c', rfl, _, _⟩ := own_shape how
    exact ⟨A', c', out, k, c, rfl, ho, Holds.of_own how, .inl ⟨hm.1, hm.2, hu⟩⟩
  · refine (rUnpack_bad most A n cb w (by omega)).mono ?_
    rintro e w' ⟨rfl, rfl⟩
    exact ⟨none, 0, [], 0, 1, rfl, Only.refl _ _, Holds.empty _ _ _, .inr ⟨by omega, rfl, rfl, rfl⟩⟩

/-- A packing's text. -/
def sStrP (fx : Bool) (b : List UInt8) : (Value → Prop) × (Value → World → Prop) := (fun v => ∃ s : List UInt8, v = .string ⟨s.toArray⟩, fun v _ => ∃ s : List UInt8, v = .string ⟨s.toArray⟩ ∧ PackIs fx b s)
theorem sStrP_later (fx : Bool) (b : List UInt8) : ∀ v w w', Only [] w w' → (sStrP fx b).2 v w → (sStrP fx b).2 v w' := fun _ _ _ _ h => h
theorem isVal_later (u : Value) : ∀ v w w', Only [] w w' → (isVal u).2 v w → (isVal u).2 v w' := fun _ _ _ _ h => h

set_option maxRecDepth 100000 in
set_option maxHeartbeats 8000000 in
theorem out (A B : Option Addr) (n c m d : Nat) (fx : Bool) (most : Int) (w : World) (hT : Tab w) (h : 4096 < n ∨ (¬ 4096 < n ∧ 4096 < m) ∨ (¬ 4096 < n ∧ ¬ 4096 < m ∧ 65536 < most ∧ most ≤ 1073741824)) :
    Calls Tryz.prog 3 #[.slice A n c, .int .i64 most, .slice B m d, .bool fx] w fun e w' => e = .returned (.bool true) ∧ Only [] w w' := by
  have HK := hide (knownZ_any w hT)
  rcases h with h | ⟨h, h1⟩ | ⟨h, h1, h2, h3⟩
  · have hn : (4096 : Int) < (n : Int) := by omega
    go_enter Tryz.func3, Tryz.ntmps3
    go_wp2_with fail
    refine (HK.out).mono ?_
    rintro e w1 ⟨rfl, ho1⟩
    go_wp2_with fail
    go_ret
    exact ⟨rfl, ho1⟩
  · have hn : ¬ (4096 : Int) < (n : Int) := by omega
    have hm : (4096 : Int) < (m : Int) := by omega
    go_enter Tryz.func3, Tryz.ntmps3
    go_wp2_with fail
    refine (HK.out).mono ?_
    rintro e w1 ⟨rfl, ho1⟩
    go_wp2_with fail
    go_ret
    exact ⟨rfl, ho1⟩
  · have hn : ¬ (4096 : Int) < (n : Int) := by omega
    have hm : ¬ (4096 : Int) < (m : Int) := by omega
    go_enter Tryz.func3, Tryz.ntmps3
    go_wp2_with fail
    refine (HK.out).mono ?_
    rintro e w1 ⟨rfl, ho1⟩
    go_wp2_with fail
    go_ret
    exact ⟨rfl, ho1⟩

set_option maxRecDepth 100000 in
set_option maxHeartbeats 16000000 in
theorem core (A B : Option Addr) (n c m d : Nat) (l data : List UInt8) (most : Int) (fx : Bool) (w : World) (hT : Tab w) (hb : Holds w 1 A n (bvals l)) (hl : l.length = n) (hc : n ≤ c) (hA0 : A = none → c = 0) (hd : Holds w 1 B m (bvals data)) (hdl : data.length = m) (hdc : m ≤ d) :
    Calls Tryz.prog 3 #[.slice A n c, .int .i64 most, .slice B m d, .bool fx] w fun e w' => e = .returned (.bool true) ∧ Only [] w w' := by
  by_cases h0 : 4096 < n ∨ (¬ 4096 < n ∧ 4096 < m) ∨ (¬ 4096 < n ∧ ¬ 4096 < m ∧ 65536 < most ∧ most ≤ 1073741824)
  · exact out A B n c m d fx most w hT h0
  have hn : ¬ (4096 : Int) < (n : Int) := by omega
  have hm : ¬ (4096 : Int) < (m : Int) := by omega
  have HK := hide (knownZ_any w hT)
  have HU1 : Hid (∀ w', Only [] w w' → _) := hide (fun w' (ho : Only [] w w') => progU most A n c l w' (hT.only ho (by simp)) (hb.keep ho (by simp)) hl hc hA0 (by omega))
  have HU2 : Hid (∀ w', Only [] w w' → _) := hide (fun w' (ho : Only [] w w') => refU most A n c l w' (hb.keep ho (by simp)) hl hc hA0 (by omega))
  have HP1 : Hid (∀ w', Only [] w w' → _) := hide (fun w' (ho : Only [] w w') => packP fx B m d data w' (hd.keep ho (by simp)) hdl hdc (by omega))
  have HP2 : Hid (∀ w', Only [] w w' → _) := hide (fun w' (ho : Only [] w w') => packR fx B m d data w' (hd.keep ho (by simp)) hdl hdc (by omega))
  have hcase : (¬ 65536 < most) ∨ (65536 < most ∧ ¬ most ≤ 1073741824) := by omega
  clear hT hb hl hc hA0 hd hdl hdc h0
  rcases hcase with h65 | ⟨h65, h30⟩
  all_goals
    go_enter Tryz.func3, Tryz.ntmps3
    go_wp2_with fail
    refine (HK.out).mono ?_
    rintro e w1 ⟨rfl, ho1⟩
    have O1 := hide ho1
    clear ho1
    go_wp2_with fail
    refine (HU1.out _ O1.out).mono ?_
    rintro e w2 ⟨A1, c1, x, k, ec, rfl, ho2, hh2, hu2⟩
    have O2 := hide (And.intro (O1.out.trans ho2 (S := []) (by simp)) (And.intro hh2 hu2))
    clear ho2 hh2 hu2
    go_wp2_with fail
    refine (HU2.out _ O2.out.1).mono ?_
    rintro e w3 ⟨A2, c2, x', k', ec', rfl, ho3, hh3, hu3⟩
    obtain ⟨rfl, rfl, rfl⟩ := O2.out.2.2.det hu3
    obtain ⟨q, hq⟩ : ∃ q, q = x.length := ⟨_, rfl⟩
    have O3 := hide (And.intro (O2.out.1.trans ho3 (S := []) (by simp)) (And.intro (O2.out.2.1.keep ho3 (by simp)) hh3))
    rw [← hq] at O3 ⊢
    clear ho3 hh3 hu3 O2 hq
    go_wp2_with fail
    obtain ⟨w4, hw4⟩ : ∃ w4, w4 = w3 := ⟨_, rfl⟩
    rw [← hw4] at O3 ⊢
    clear hw4
    refine region_loose 26 73 (fun i => if i = 1 then some (isVal (.string ⟨x.toArray⟩)) else if i = 3 then some (isVal (.string ⟨x.toArray⟩)) else if i = 18 then some (sLay (PackIs fx data)) else if i = 19 then some (sStrP fx data) else if i = 22 then some (sLay (PackIs fx data)) else if i = 23 then some (sStrP fx data) else if i = 24 then some (isVal (.bool true)) else none) (by kernel_rfl) (by kernel_rfl) (by kernel_rfl) (by rfl) (by rfl) (fun i hi => ?_) (fun i S hS => ?_) ?_
    · have hi : 27 ≤ i := hi
      show (if i = 1 then _ else _) = none
      iterate 7 rw [if_neg (by omega)]
    · repeat' split at hS
      all_goals first | (injection hS with hS; subst hS; first | exact isVal_later _ | exact sLay_later _ | exact sStrP_later _ _) | cases hS
    simp only [List.take_succ_cons, List.take_zero, List.drop_succ_cons, List.drop_zero]
    refine wpLoose_chunk 1 (by kernel_rfl) (by rfl) ?_
    simp only [List.take_succ_cons, List.take_zero, List.drop_succ_cons, List.drop_zero, List.length_cons, List.length_nil, Nat.zero_add]
    go_big_quiet_step (fail)
    refine wpQuiet_nil ?_
    refine wpLoose_step (isVal (.string ⟨x.toArray⟩)) rfl (by rfl) ⟨_, rfl⟩ (fun w' ho hk => ?_) (fun v hv => ?_)
    · have s1 := str_of (O3.out.2.1.keep ho (by simp)) c1
      clear hk
      go_simp
      exact ⟨Only.refl _ _, rfl, trivial⟩
    obtain rfl := hv
    go_simp
    refine wpLoose_chunk 1 (by kernel_rfl) (by rfl) ?_
    simp only [List.take_succ_cons, List.take_zero, List.drop_succ_cons, List.drop_zero, List.length_cons, List.length_nil, Nat.zero_add, Nat.reduceAdd]
    go_big_quiet_step (fail)
    refine wpQuiet_nil ?_
    refine wpLoose_step (isVal (.string ⟨x.toArray⟩)) rfl (by rfl) ⟨_, rfl⟩ (fun w' ho hk => ?_) (fun v hv => ?_)
    · have s1 := str_of (O3.out.2.2.keep ho (by simp)) c2
      clear hk
      go_simp
      exact ⟨Only.refl _ _, rfl, trivial⟩
    obtain rfl := hv
    go_simp
    refine wpLoose_chunk 14 (by kernel_rfl) (by rfl) ?_
    simp only [List.take_succ_cons, List.take_zero, List.drop_succ_cons, List.drop_zero, List.length_cons, List.length_nil, Nat.zero_add, Nat.reduceAdd]
    iterate 14 (go_big_quiet_step (fail))
    refine wpQuiet_nil ?_
    refine wpLoose_step (sLay (PackIs fx data)) rfl (by rfl) ⟨_, none, 0, 0, rfl⟩ (fun w' ho hk => ?_) (fun v hv => ?_)
    · clear hk
      go_simp
      refine ⟨rfl, (HP1.out w' (O3.out.1.trans ho (S := []) (by simp))).mono ?_⟩
      rintro e w5 ⟨v, s, rfl, hp, how, hol⟩
      obtain ⟨Av, cv, rfl, hcv, _⟩ := own_shape how
      exact ⟨_, rfl, hol, ⟨_, _, _, rfl⟩, ⟨s, Av, cv, rfl, hp, Holds.of_own how⟩⟩
    obtain ⟨Av, nv, cv, rfl⟩ := hv
    go_simp
    refine wpLoose_step (sStrP fx data) rfl (by rfl) ⟨_, [], rfl⟩ (fun w' ho hk => ?_) (fun v hv => ?_)
    · have k18 := hk _ (Array.mem_of_getElem? (i := 0) (by rfl)) (by rfl)
      have k18 : (sLay (PackIs fx data)).1 (.slice Av nv cv) ∧ (sLay (PackIs fx data)).2 (.slice Av nv cv) w' := k18
      obtain ⟨s, A5, c5, he, hp, hB⟩ := k18.2
      injection he with he1 he2 he3
      subst he1; subst he2; subst he3
      have s1 := str_of hB cv
      clear k18 hk
      go_simp
      exact ⟨Only.refl _ _, ⟨s, rfl⟩, s, rfl, hp⟩
    obtain ⟨sa, rfl⟩ := hv
    go_simp
    refine wpLoose_chunk 2 (by kernel_rfl) (by rfl) ?_
    simp only [List.take_succ_cons, List.take_zero, List.drop_succ_cons, List.drop_zero, List.length_cons, List.length_nil, Nat.zero_add, Nat.reduceAdd]
    iterate 2 (go_big_quiet_step (fail))
    refine wpQuiet_nil ?_
    refine wpLoose_step (sLay (PackIs fx data)) rfl (by rfl) ⟨_, none, 0, 0, rfl⟩ (fun w' ho hk => ?_) (fun v hv => ?_)
    · clear hk
      go_simp
      refine ⟨rfl, (HP2.out w' (O3.out.1.trans ho (S := []) (by simp))).mono ?_⟩
      rintro e w5 ⟨v, s, rfl, hp, how, hol⟩
      obtain ⟨Av, cv, rfl, hcv, _⟩ := own_shape how
      exact ⟨_, rfl, hol, ⟨_, _, _, rfl⟩, ⟨s, Av, cv, rfl, hp, Holds.of_own how⟩⟩
    obtain ⟨Aw, nw, cw, rfl⟩ := hv
    go_simp
    refine wpLoose_step (sStrP fx data) rfl (by rfl) ⟨_, [], rfl⟩ (fun w' ho hk => ?_) (fun v hv => ?_)
    · have k18 := hk _ (Array.mem_of_getElem? (i := 0) (by rfl)) (by rfl)
      have k18 : (sLay (PackIs fx data)).1 (.slice Aw nw cw) ∧ (sLay (PackIs fx data)).2 (.slice Aw nw cw) w' := k18
      obtain ⟨s, A5, c5, he, hp, hB⟩ := k18.2
      injection he with he1 he2 he3
      subst he1; subst he2; subst he3
      have s1 := str_of hB cw
      clear k18 hk
      go_simp
      exact ⟨Only.refl _ _, ⟨s, rfl⟩, s, rfl, hp⟩
    obtain ⟨sb, rfl⟩ := hv
    go_simp
    refine wpLoose_step (isVal (.bool true)) rfl (by rfl) ⟨_, rfl⟩ (fun w' ho hk => ?_) (fun v hv => ?_)
    · have k19 := hk _ (Array.mem_of_getElem? (i := 0) (by rfl)) (by rfl)
      have k19 : (sStrP fx data).1 (.string ⟨sa.toArray⟩) ∧ (sStrP fx data).2 (.string ⟨sa.toArray⟩) w' := k19
      have k23 := hk _ (Array.mem_of_getElem? (i := 1) (by rfl)) (by rfl)
      have k23 : (sStrP fx data).1 (.string ⟨sb.toArray⟩) ∧ (sStrP fx data).2 (.string ⟨sb.toArray⟩) w' := k23
      obtain ⟨s, he, hp⟩ := k19.2
      obtain ⟨s', he', hp'⟩ := k23.2
      have e1 : sa = s := by injection he with he; injection he with he; injection he
      have e2 : sb = s' := by injection he' with he; injection he with he; injection he
      subst e1; subst e2
      obtain rfl := hp.inj hp'
      clear k19 k23 hk
      go_simp
      exact ⟨Only.refl _ _, rfl, trivial⟩
    obtain rfl := hv
    go_simp
    refine wpLoose_chunk 1 (by kernel_rfl) (by rfl) ?_
    simp only [List.take_succ_cons, List.take_zero, List.drop_succ_cons, List.drop_zero, List.length_cons, List.length_nil, Nat.zero_add, Nat.reduceAdd]
    go_big_quiet_step (fail)
    refine wpQuiet_nil ?_
    intro w' ho hT
    clear hT
    have HE := hide (O3.out.1.trans ho (S := []) (by simp))
    clear ho
    go_wp2_with fail
    go_ret
    exact ⟨rfl, HE.out⟩

set_option maxRecDepth 100000 in
theorem lifted (os : Os) (started : os.Started) (H : Type) (enc : TypeId × Value → H) :
    ReturnsInHanded {} Tryz.checked os 3 .any (fun w args => (Rows.zlibStreamsSpec.pre enc Tryz.prog Tryz.f3 [] false w args ∧ laidMetH Tryz.prog laidI w) ∧ sizedMet enc Tryz.prog Tryz.f3 (OpenSpec.ofChange Rows.zlibStreamsSpec) false w args)
      (Rows.zlibStreamsSpec.post enc Tryz.prog Tryz.f3 false true false false) := by
  refine returnsInHanded_of_change_and (C := Tryz.checked) (X := fun w _ => laidMetH Tryz.prog laidI w) (fun _ _ _ hh h => h.of_heap hh) own_knob started (by kernel_rfl) Tryz.func3
    (ChangeSpec.witness_shaped (enc := enc) (C := Tryz.checked) (os := os) (X := fun w _ => laidMetH Tryz.prog laidI w) false (World.doorLaid Tryz.prog 400 os) #[.slice none 0 0, .int .i64 0, .slice none 0 0, .bool false] 8 rfl (World.shaped_of_RefB (by kernel_rfl) (by kernel_rfl)) (by kernel_rfl) (by kernel_rfl) (by kernel_rfl) (door_met os _)) ?_
  intro W base args ds gs before hval0 hW _ _ hL _
  have hval : ∀ (j : Nat) t v, Tryz.f3.params[j]? = some t → args[j]? = some v → Value.okWide Tryz.prog W .any base t v := hval0
  have hW' := hW
  obtain ⟨p, q, hA0, hV, rfl, hfz, hnd⟩ := hW
  have hA : DataW.TrodAll enc Tryz.prog W 0 (fun _ => true) true Tryz.f3.params.toList args.toList ds p := hA0
  rw [Tryz.params3] at hA hval
  obtain ⟨v0, vs0, d0, ds0, p0, q0, hargs, rfl, rfl, h0, r0⟩ := trodAll_cons hA
  obtain ⟨v1, vs1, d1, ds1, p1, q1, rfl, rfl, rfl, h1, r1⟩ := trodAll_cons r0
  obtain ⟨v2, vs2, d2, ds2, p2, q2, rfl, rfl, rfl, h2, r2⟩ := trodAll_cons r1
  obtain ⟨v3, vs3, d3, ds3, p3, q3, rfl, rfl, rfl, h3, r3⟩ := trodAll_cons r2
  obtain ⟨rfl, rfl, rfl⟩ := trodAll_nil r3
  obtain rfl : args = #[v0, v1, v2, v3] := by cases args; simp_all
  obtain ⟨A0, n0, c0, l0, rfl, hc0, cm0, hN0, hl0, hb0⟩ := open_bytes Tryz.underlying22 Tryz.underlying5 (by kernel_rfl) (hval 0 22 v0 rfl rfl) h0
  obtain ⟨z1, rfl, rfl, rfl, _⟩ := open_int Tryz.underlying3 (hval 1 3 v1 rfl rfl) h1
  obtain ⟨A2, n2, c2, l2, rfl, hc2, cm2, _, hl2, hb2⟩ := open_bytes Tryz.underlying22 Tryz.underlying5 (by kernel_rfl) (hval 2 22 v2 rfl rfl) h2
  obtain ⟨fx, rfl, rfl, rfl⟩ := open_bool Tryz.underlying4 (hval 3 4 v3 rfl rfl) h3
  refine (core A0 A2 n0 c0 n2 c2 l0 l2 z1 fx W (tab_of_laid hL) hb0 hl0 hc0 (fun h => (hN0 h).1) hb2 hl2 hc2).mono fun e W' ⟨he, ho⟩ => ?_
  subst he
  exact ⟨_, rfl, law_post rfl hW' (by intro t ht; revert t; exact of_decide_eq_true (by kernel_rfl)) rfl rfl ho⟩

theorem holds : Rows.ZlibStreamsSaid :=
  OpenClaim.holds_of_wide 3 Tryz.f3 rfl rfl rfl rfl rfl rfl rfl ⟨rfl, rfl, rfl, rfl, rfl⟩ rfl rfl rfl rfl rfl (by kernel_rfl) Tryz.func3 (by kernel_rfl)
    (of_decide_eq_true (by kernel_rfl)) (by unfold Func.isWrapper; first | (rw [if_pos (by decide +kernel)]; kernel_rfl) | (rw [if_neg (by decide +kernel)]; exact ⟨rfl, rfl⟩))
    (fun os started H enc _ => lifted os started H enc)

theorem proved : Rows.ZlibStreamsCardSaid :=
  Claim7.holds_tied_plain_at .later [] Rows.zlibStreamsCard.laidKinds true Rows.zlibStreamsCard.stood.harness false
    holds (fun _ h => by cases h) (by kernel_rfl) (fun _ h => by cases h) zlibStreams_row_tie rfl ⟨rfl, rfl⟩ (by kernel_rfl) rfl
    (fun f fn hf hfn => by
      obtain rfl : f = 3 := Option.some.inj ((show Tryz.prog.funcNamed "phosphor/phosphorlaw6.ZlibStreams" = some 3 by kernel_rfl).symm.trans hf) |>.symm
      obtain rfl : fn = Tryz.f3 := (Option.some.inj (Tryz.func3.symm.trans hfn)).symm
      exact ⟨by kernel_rfl, fun j t ht => by
        rw [Tryz.params3] at ht
        have hm : t ∈ [22, 3, 22, 4] := by simpa using Array.mem_of_getElem? ht
        have hall : ([22, 3, 22, 4].all fun u => !Tryz.prog.wantsStandIn u) = true := by kernel_rfl
        exact (show Tryz.prog.wantsStandIn t = false by simpa using List.all_eq_true.1 hall t hm)⟩)
    (by kernel_rfl)
end Go.Proofs.YtlknhiihdejpeaaGreatDoor.zstreams
