/-
  Proves: for any filter, rows and step FilterRows tells true, and leaves all that was there as it was.
-/
import Derived.Test.YtopjkmobnmaaaaaFiN
import Derived.Test.YtopjkmobnmaaaaaFiS
import Derived.Test.YtopjkmobnmaaaaaLaw
import Derived.Test.YtopjkmobnmaaaaaOpen
namespace Go.Proofs.Ytopjkmobnmaaaaa.frows
open Go Go.RowKit Go.ChangeShapes Go.WideShapes Go.ChangeAt

theorem flip_row (un : Bool) {k s : Int} {l u : List UInt8} (h : fErr k s l.length u.length = 0) : (flR un k s l u).length = l.length ∧ flR (!un) k s (flR un k s l u) u = l ∧ flR un k s l u = fl un k.toNat s.toNat u l l.length := by
  obtain ⟨x, y, rfl, rfl, _, hs1, _, _⟩ := fErr_zero h
  have e : flR un (x : Int) (y : Int) l u = fl un x y u l l.length := by
    unfold flR
    rw [if_pos h, Int.toNat_natCast, Int.toNat_natCast]
  refine ⟨by rw [e, fl_length], ?_, by rw [e, Int.toNat_natCast, Int.toNat_natCast]⟩
  have hl : (fl un x y u l l.length).length = l.length := fl_length _ _ _ _ _ _
  rw [e]
  unfold flR
  rw [hl, if_pos h, Int.toNat_natCast, Int.toNat_natCast]
  exact flip_flip un x y u l hs1

set_option maxRecDepth 100000 in
set_option maxHeartbeats 8000000 in
theorem big (k s : Int) (A B : Option Addr) (n c m d : Nat) (w : World) (h : 2048 < n ∨ (¬ 2048 < n ∧ 2048 < m)) :
    Calls Try.prog 3 #[.int .i64 k, .slice A n c, .slice B m d, .int .i64 s] w fun e w' => e = .returned (.bool true) ∧ Only [] w w' := by
  have HK := hide (known_any w)
  rcases h with h | ⟨h, h'⟩
  · have hn : (2048 : Int) < (n : Int) := by omega
    go_enter Try.func3, Try.ntmps3
    go_wp2_with fail
    refine (HK.out).mono ?_
    rintro e w1 ⟨rfl, ho1⟩
    go_wp2_with fail
    go_ret
    exact ⟨rfl, ho1⟩
  · have hn : ¬ (2048 : Int) < (n : Int) := by omega
    have hm : (2048 : Int) < (m : Int) := by omega
    go_enter Try.func3, Try.ntmps3
    go_wp2_with fail
    refine (HK.out).mono ?_
    rintro e w1 ⟨rfl, ho1⟩
    go_wp2_with fail
    go_ret
    exact ⟨rfl, ho1⟩

set_option maxRecDepth 100000 in
set_option maxHeartbeats 8000000 in
theorem core (k s : Int) (A B : Option Addr) (n c m d : Nat) (l u : List UInt8) (w : World) (hb : Holds w 1 A n (bvals l)) (hl : l.length = n) (hu : Holds w 1 B m (bvals u)) (hul : u.length = m) :
    Calls Try.prog 3 #[.int .i64 k, .slice A n c, .slice B m d, .int .i64 s] w fun e w' => e = .returned (.bool true) ∧ Only [] w w' := by
  by_cases h0 : 2048 < n ∨ (¬ 2048 < n ∧ 2048 < m)
  · exact big k s A B n c m d w h0
  have hn : ¬ (2048 : Int) < (n : Int) := by omega
  have hm : ¬ (2048 : Int) < (m : Int) := by omega
  have dn : decide (2048 < n) = false := decide_eq_false (by omega)
  have dm : decide (2048 < m) = false := decide_eq_false (by omega)
  have HK := hide (known_any w)
  have HB := hide (And.intro hb (And.intro hl (And.intro hu hul)))
  have H1 : Hid (∀ w' : World, Only [] w w' → _) := hide (fun w' (ho : Only [] w w') => undo_any k s A B n c m d l u w' (hb.keep ho (by simp)) hl (hu.keep ho (by simp)) hul (by omega))
  have H2 : Hid (∀ w' : World, Only [] w w' → _) := hide (fun w' (ho : Only [] w w') => both_undo k s A B n c m d l u w' (hb.keep ho (by simp)) hl (hu.keep ho (by simp)) hul (by omega))
  have H3 : Hid (∀ w' : World, Only [] w w' → _) := hide (fun w' (ho : Only [] w w') => do_any k s A B n c m d l u w' (hb.keep ho (by simp)) hl (hu.keep ho (by simp)) hul (by omega))
  have H4 : Hid (∀ w' : World, Only [] w w' → _) := hide (fun w' (ho : Only [] w w') => both_do k s A B n c m d l u w' (hb.keep ho (by simp)) hl (hu.keep ho (by simp)) hul (by omega))
  obtain ⟨P, hP⟩ : ∃ P, P = flR true k s l u := ⟨_, rfl⟩
  obtain ⟨Q, hQ⟩ : ∃ Q, Q = flR false k s l u := ⟨_, rfl⟩
  rw [← hP] at H1 H2
  rw [← hQ] at H3 H4
  have hF : Hid (fErr k s n m = 0 → P.length = n ∧ Q.length = n ∧ flR true k s Q u = l ∧ flR false k s P u = l) := hide (fun h => by
    rw [← hl, ← hul] at h
    have f1 := flip_row true h
    have f2 := flip_row false h
    rw [hP, hQ]
    exact ⟨f1.1.trans hl, f2.1.trans hl, f2.2.1, f1.2.1⟩)
  clear hP hQ hb hl hu hul h0
  rcases fErr_one k s n m with hf | hf
  · have hF2 := hide (hF.out hf)
    have HU : Hid (∀ w' A' c', Only [] w w' → Holds w' 1 A' n (bvals Q) → Calls Try.prog 9 #[.int .i64 k, .slice A' n c', .slice B m d, .int .i64 s] w' fun e w'' => ∃ v, e = .returned (.tuple #[v, .int .i64 0]) ∧ w''.ownsRow w'.heap.size 5 1 v n (bvals l) ∧ Only [] w' w'') := hide (fun w' A' c' ho hq => by
      have h := undo_any k s A' B n c' m d Q u w' hq hF2.out.2.1 (HB.out.2.2.1.keep ho (by simp)) HB.out.2.2.2 (by omega)
      rw [hf, hF2.out.2.2.1, HB.out.2.1] at h
      exact h)
    have HD : Hid (∀ w' A' c', Only [] w w' → Holds w' 1 A' n (bvals P) → Calls Try.prog 11 #[.int .i64 k, .slice A' n c', .slice B m d, .int .i64 s] w' fun e w'' => ∃ v, e = .returned (.tuple #[v, .int .i64 0]) ∧ w''.ownsRow w'.heap.size 5 1 v n (bvals l) ∧ Only [] w' w'') := hide (fun w' A' c' ho hq => by
      have h := do_any k s A' B n c' m d P u w' hq hF2.out.1 (HB.out.2.2.1.keep ho (by simp)) HB.out.2.2.2 (by omega)
      rw [hf, hF2.out.2.2.2, HB.out.2.1] at h
      exact h)
    rw [hf, hF2.out.1] at H1 H2
    rw [hf, hF2.out.2.1] at H3 H4
    clear hF
    go_enter Try.func3, Try.ntmps3
    go_wp2_with fail
    refine (HK.out).mono ?_
    rintro e w1 ⟨rfl, ho1⟩
    have O1 := hide ho1
    clear ho1
    go_wp2_with fail
    refine (H1.out _ O1.out).mono ?_
    rintro e w2 ⟨v, rfl, how, ho⟩
    obtain ⟨A1, c1, rfl, _, _⟩ := own_shape how
    have O2 := hide (And.intro (O1.out.trans ho (S := []) (by simp)) (Holds.of_own how))
    clear ho how O1
    go_wp2_with fail
    refine (H2.out _ O2.out.1).mono ?_
    rintro e w3 ⟨v, rfl, how, ho⟩
    obtain ⟨A2, c2, rfl, _, _⟩ := own_shape how
    have O3 := hide (And.intro (O2.out.1.trans ho (S := []) (by simp)) (And.intro (O2.out.2.keep ho (by simp)) (Holds.of_own how)))
    clear ho how O2
    go_wp2_with fail
    refine (H3.out _ O3.out.1).mono ?_
    rintro e w4 ⟨v, rfl, how, ho⟩
    obtain ⟨A3, c3, rfl, _, _⟩ := own_shape how
    have O4 := hide (And.intro (O3.out.1.trans ho (S := []) (by simp)) (And.intro (O3.out.2.1.keep ho (by simp)) (And.intro (O3.out.2.2.keep ho (by simp)) (Holds.of_own how))))
    clear ho how O3
    go_wp2_with fail
    refine (H4.out _ O4.out.1).mono ?_
    rintro e w5 ⟨v, rfl, how, ho⟩
    obtain ⟨A4, c4, rfl, _, _⟩ := own_shape how
    have O5 := hide (And.intro (O4.out.1.trans ho (S := []) (by simp)) (And.intro (O4.out.2.1.keep ho (by simp)) (And.intro (O4.out.2.2.1.keep ho (by simp)) (And.intro (O4.out.2.2.2.keep ho (by simp)) (Holds.of_own how)))))
    clear ho how O4
    have s1 := str_of O5.out.2.1 c1
    have s2 := str_of O5.out.2.2.1 c2
    have s3 := str_of O5.out.2.2.2.1 c3
    have s4 := str_of O5.out.2.2.2.2 c4
    go_wp2_with fail
    clear s1 s2 s3 s4
    refine (HU.out _ _ _ O5.out.1 O5.out.2.2.2.1).mono ?_
    rintro e w6 ⟨v, rfl, how, ho⟩
    obtain ⟨A6, c6, rfl, _, _⟩ := own_shape how
    have O6 := hide (And.intro (O5.out.1.trans ho (S := []) (by simp)) (And.intro (O5.out.2.1.keep ho (by simp)) (Holds.of_own how)))
    clear ho how O5
    go_wp2_with fail
    refine (HD.out _ _ _ O6.out.1 O6.out.2.1).mono ?_
    rintro e w7 ⟨v, rfl, how, ho⟩
    obtain ⟨A7, c7, rfl, _, _⟩ := own_shape how
    have O7 := hide (O6.out.1.trans ho (S := []) (by simp))
    have s1 := str_of (O6.out.2.2.keep ho (by simp)) c6
    have s2 := str_of (Holds.of_own how) c7
    have s3 := str_of (HB.out.1.keep O7.out (by simp)) c
    clear ho how O6
    go_wp2_with fail
    go_ret
    exact ⟨by simp, O7.out⟩
  · rw [hf] at H1 H2 H3 H4
    clear hF
    go_enter Try.func3, Try.ntmps3
    go_wp2_with fail
    refine (HK.out).mono ?_
    rintro e w1 ⟨rfl, ho1⟩
    have O1 := hide ho1
    clear ho1
    go_wp2_with fail
    refine (H1.out _ O1.out).mono ?_
    rintro e w2 ⟨v, rfl, how, ho⟩
    obtain ⟨A1, c1, rfl, _, _⟩ := own_shape how
    have O2 := hide (And.intro (O1.out.trans ho (S := []) (by simp)) (Holds.of_own how))
    clear ho how O1
    go_wp2_with fail
    refine (H2.out _ O2.out.1).mono ?_
    rintro e w3 ⟨v, rfl, how, ho⟩
    obtain ⟨A2, c2, rfl, _, _⟩ := own_shape how
    have O3 := hide (And.intro (O2.out.1.trans ho (S := []) (by simp)) (And.intro (O2.out.2.keep ho (by simp)) (Holds.of_own how)))
    clear ho how O2
    go_wp2_with fail
    refine (H3.out _ O3.out.1).mono ?_
    rintro e w4 ⟨v, rfl, how, ho⟩
    obtain ⟨A3, c3, rfl, _, _⟩ := own_shape how
    have O4 := hide (And.intro (O3.out.1.trans ho (S := []) (by simp)) (And.intro (O3.out.2.1.keep ho (by simp)) (And.intro (O3.out.2.2.keep ho (by simp)) (Holds.of_own how))))
    clear ho how O3
    go_wp2_with fail
    refine (H4.out _ O4.out.1).mono ?_
    rintro e w5 ⟨v, rfl, how, ho⟩
    obtain ⟨A4, c4, rfl, _, _⟩ := own_shape how
    have O5 := hide (And.intro (O4.out.1.trans ho (S := []) (by simp)) (And.intro (O4.out.2.1.keep ho (by simp)) (And.intro (O4.out.2.2.1.keep ho (by simp)) (And.intro (O4.out.2.2.2.keep ho (by simp)) (Holds.of_own how)))))
    clear ho how O4
    have s1 := str_of O5.out.2.1 c1
    have s2 := str_of O5.out.2.2.1 c2
    have s3 := str_of O5.out.2.2.2.1 c3
    have s4 := str_of O5.out.2.2.2.2 c4
    go_wp2_with fail
    go_ret
    exact ⟨rfl, O5.out.1⟩
set_option maxRecDepth 100000 in
theorem lifted (os : Os) (started : os.Started) (H : Type) (enc : TypeId × Value → H) :
    ReturnsInHanded {} Try.checked os 3 .any (Rows.filterRowsSpec.pre6 enc Try.prog Try.f3 Rows.filterRowsRow.domain false)
      (Rows.filterRowsSpec.post enc Try.prog Try.f3 false true false false) := by
  refine returnsInHanded_of_change (C := Try.checked) own_knob started (by kernel_rfl) Try.func3
    (ChangeSpec.witness6 (enc := enc) (C := Try.checked) false ⟨#[], #[.int .i64 0, .slice none 0 0, .slice none 0 0, .int .i64 0], []⟩ 8 (by kernel_rfl) (by kernel_rfl) (by kernel_rfl) (by kernel_rfl)) ?_
  intro W base args ds gs before hval0 hW hcnd _
  have hval : ∀ (j : Nat) t v, Try.f3.params[j]? = some t → args[j]? = some v → Value.okWide Try.prog W .any base t v := hval0
  have hW' := hW
  obtain ⟨p, q, hA0, hV, rfl, hfz, hnd⟩ := hW
  have hA : DataW.TrodAll enc Try.prog W 0 (fun _ => true) true Try.f3.params.toList args.toList ds p := hA0
  rw [Try.params3] at hA hval
  obtain ⟨v0, vs0, d0, ds0, p0, q0, hargs, rfl, rfl, h0, r0⟩ := trodAll_cons hA
  obtain ⟨v1, vs1, d1, ds1, p1, q1, rfl, rfl, rfl, h1, r1⟩ := trodAll_cons r0
  obtain ⟨v2, vs2, d2, ds2, p2, q2, rfl, rfl, rfl, h2, r2⟩ := trodAll_cons r1
  obtain ⟨v3, vs3, d3, ds3, p3, q3, rfl, rfl, rfl, h3, r3⟩ := trodAll_cons r2
  obtain ⟨rfl, rfl, rfl⟩ := trodAll_nil r3
  obtain rfl : args = #[v0, v1, v2, v3] := by cases args; simp_all
  obtain ⟨z0, rfl, rfl, rfl, _⟩ := open_int Try.underlying3 (hval 0 3 v0 rfl rfl) h0
  obtain ⟨A1, n1, c1, l1, rfl, hc1, cm1, hA1, hl1, hb1⟩ := open_bytes Try.underlying22 Try.underlying5 (by kernel_rfl) (hval 1 22 v1 rfl rfl) h1
  obtain ⟨A2, n2, c2, l2, rfl, hc2, cm2, hA2, hl2, hb2⟩ := open_bytes Try.underlying22 Try.underlying5 (by kernel_rfl) (hval 2 22 v2 rfl rfl) h2
  obtain ⟨z3, rfl, rfl, rfl, _⟩ := open_int Try.underlying3 (hval 3 3 v3 rfl rfl) h3
  unfold maxLen at *
  refine (core z0 z3 A1 A2 n1 c1 n2 c2 l1 l2 W hb1 hl1 hb2 hl2).mono fun e W' ⟨he, ho⟩ => ?_
  subst he
  exact ⟨_, rfl, law_post rfl hW' (by intro t ht; revert t; exact of_decide_eq_true (by kernel_rfl)) rfl rfl ho⟩

theorem proved : Rows.FilterRowsSaid :=
  OpenClaim.holds_of_wide 3 Try.f3 rfl rfl rfl rfl rfl rfl rfl ⟨rfl, rfl, rfl, rfl, rfl⟩ rfl rfl rfl rfl rfl (by kernel_rfl) Try.func3 (by kernel_rfl)
    (of_decide_eq_true (by kernel_rfl)) (by unfold Func.isWrapper; first | (rw [if_pos (by decide +kernel)]; kernel_rfl) | (rw [if_neg (by decide +kernel)]; exact ⟨rfl, rfl⟩))
    (fun os started H enc _ => lifted os started H enc)
end Go.Proofs.Ytopjkmobnmaaaaa.frows
