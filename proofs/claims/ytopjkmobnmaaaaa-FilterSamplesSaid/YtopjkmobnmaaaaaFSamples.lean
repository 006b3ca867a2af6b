/-
  Proves: for any row, depth, number of samples and any numbers of a row FilterSamples tells true, and leaves all that was there as it was.
-/
import Derived.Test.YtopjkmobnmaaaaaFiN
import Derived.Test.YtopjkmobnmaaaaaFiT
import Derived.Test.YtopjkmobnmaaaaaLaw
import Derived.Test.YtopjkmobnmaaaaaOpen
namespace Go.Proofs.Ytopjkmobnmaaaaa.fsamples
open Go Go.RowKit Go.ChangeShapes Go.WideShapes Go.ChangeAt

set_option maxRecDepth 100000 in
set_option maxHeartbeats 8000000 in
theorem core (d n x s : Int) (A : Option Addr) (m c : Nat) (l : List UInt8) (w : World) (hb : Holds w 1 A m (bvals l)) (hl : l.length = m) :
    Calls Try.prog 5 #[.slice A m c, .int .i64 d, .int .i64 n, .int .i64 x, .int .i64 s] w fun e w' => e = .returned (.bool true) ∧ Only [] w w' := by
  have HK := hide (known_any w)
  by_cases hm : 2048 < m
  · have hn : (2048 : Int) < (m : Int) := by omega
    clear hb hl
    go_enter Try.func5, Try.ntmps5
    go_wp2_with fail
    refine (HK.out).mono ?_
    rintro e w1 ⟨rfl, ho1⟩
    go_wp2_with fail
    go_ret
    exact ⟨rfl, ho1⟩
  · have hn : ¬ (2048 : Int) < (m : Int) := by omega
    have dm : decide (2048 < m) = false := decide_eq_false hm
    have H1 : Hid (∀ w' : World, Only [] w w' → _) := hide (fun w' (ho : Only [] w w') => samples_any d n A m c l w' (hb.keep ho (by simp)) hl (by omega))
    have H2 : Hid (∀ w' : World, Only [] w w' → _) := hide (fun w' (ho : Only [] w w') => refSamples_any d n A m c l w' (hb.keep ho (by simp)) hl (by omega))
    have HR := hide (fun w => row_len x s d w)
    have HR2 := hide (fun w => refRow_any x s d w)
    have hlen : (smR l d n).length ≤ 100000 := by
      unfold smR
      split
      · rename_i h
        obtain ⟨a, b, rfl, rfl, h1, h2, h3⟩ := sErr_zero h
        rw [smps_length, Int.toNat_natCast]
        have : b ≤ b * a := Nat.le_mul_of_pos_right _ (by omega)
        omega
      · simp
    obtain ⟨L, hL⟩ : ∃ L, L = smR l d n := ⟨_, rfl⟩
    rw [← hL] at H1 H2 hlen
    obtain ⟨q, hq⟩ : ∃ q, q = L.length := ⟨_, rfl⟩
    rw [← hq] at H1 H2 hlen
    generalize sErr d n m = f at *
    generalize rowI x s d = r at *
    have HL := hide hq
    clear hb hl hL hq
    go_enter Try.func5, Try.ntmps5
    go_wp2_with fail
    refine (HK.out).mono ?_
    rintro e w1 ⟨rfl, ho1⟩
    have O1 := hide ho1
    clear ho1
    go_wp2_with fail
    refine (H1.out _ O1.out).mono ?_
    rintro e w2 ⟨v, rfl, how, ho⟩
    obtain ⟨A1, c1, rfl, _, _⟩ := own_shape how
    have O2 := hide (And.intro (O1.out.trans ho (S := []) (by simp)) (Holds.of_own how))
    clear ho how O1
    go_wp2_with fail
    refine (H2.out _ O2.out.1).mono ?_
    rintro e w3 ⟨v, rfl, how, ho⟩
    obtain ⟨A2, c2, rfl, _, _⟩ := own_shape how
    have O3 := hide (And.intro (O2.out.1.trans ho (S := []) (by simp)) (And.intro (O2.out.2.keep ho (by simp)) (Holds.of_own how)))
    clear ho how O2
    go_wp2_with fail
    refine (HR.out _).mono ?_
    rintro e w4 ⟨rfl, rfl⟩
    go_wp2_with fail
    refine (HR2.out _).mono ?_
    rintro e w4 ⟨rfl, rfl⟩
    go_wp2_with fail
    go_loopw [15] (fun i wr => ∃ j k : Nat, j ≤ q ∧ i = .int .i64 j ∧ wr = w4.drewN k) (fun i _ => q - (intOf i).toNat)
    case atStart => exact ⟨0, 0, Nat.zero_le _, rfl, rfl⟩
    case round =>
      obtain ⟨j, k, hj, rfl, rfl⟩ := hrel
      by_cases hlt : j < q
      · obtain ⟨b1, o1, rfl, hc1⟩ := O3.out.2.1.addr (by rw [svals_length, ← HL.out]; omega)
        obtain ⟨b2, o2, rfl, hc2⟩ := O3.out.2.2.addr (by rw [svals_length, ← HL.out]; omega)
        have k1 : w4.cell? ⟨b1, o1 + j, none⟩ = some (.int .i64 (L.getD j 0 : Nat)) := hc1 j _ (svals_get L j (by rw [← HL.out]; exact hlt))
        have k2 : w4.cell? ⟨b2, o2 + j, none⟩ = some (.int .i64 (L.getD j 0 : Nat)) := hc2 j _ (svals_get L j (by rw [← HL.out]; exact hlt))
        have HQ := hide hlt
        clear hc1 hc2
        generalize L.getD j 0 = y at *
        go_wp2_with fail
        go_quiet (fail)
        go_wp2_with fail
        go_roundw
        case rel => exact ⟨j + 1, k + nq, HQ.out, by go_num, rfl⟩
        case measure => simp [intOf]; omega
      · obtain rfl : j = q := by omega
        go_wp2_with fail
        go_ret
        exact ⟨rfl, O3.out.1.drewN k⟩
set_option maxRecDepth 100000 in
theorem lifted (os : Os) (started : os.Started) (H : Type) (enc : TypeId × Value → H) :
    ReturnsInHanded {} Try.checked os 5 .any (Rows.filterSamplesSpec.pre6 enc Try.prog Try.f5 Rows.filterSamplesRow.domain false)
      (Rows.filterSamplesSpec.post enc Try.prog Try.f5 false true false false) := by
  refine returnsInHanded_of_change (C := Try.checked) own_knob started (by kernel_rfl) Try.func5
    (ChangeSpec.witness6 (enc := enc) (C := Try.checked) false ⟨#[], #[.slice none 0 0, .int .i64 0, .int .i64 0, .int .i64 0, .int .i64 0], []⟩ 8 (by kernel_rfl) (by kernel_rfl) (by kernel_rfl) (by kernel_rfl)) ?_
  intro W base args ds gs before hval0 hW hcnd _
  have hval : ∀ (j : Nat) t v, Try.f5.params[j]? = some t → args[j]? = some v → Value.okWide Try.prog W .any base t v := hval0
  have hW' := hW
  obtain ⟨p, q, hA0, hV, rfl, hfz, hnd⟩ := hW
  have hA : DataW.TrodAll enc Try.prog W 0 (fun _ => true) true Try.f5.params.toList args.toList ds p := hA0
  rw [Try.params5] at hA hval
  obtain ⟨v0, vs0, d0, ds0, p0, q0, hargs, rfl, rfl, h0, r0⟩ := trodAll_cons hA
  obtain ⟨v1, vs1, d1, ds1, p1, q1, rfl, rfl, rfl, h1, r1⟩ := trodAll_cons r0
  obtain ⟨v2, vs2, d2, ds2, p2, q2, rfl, rfl, rfl, h2, r2⟩ := trodAll_cons r1
  obtain ⟨v3, vs3, d3, ds3, p3, q3, rfl, rfl, rfl, h3, r3⟩ := trodAll_cons r2
  obtain ⟨v4, vs4, d4, ds4, p4, q4, rfl, rfl, rfl, h4, r4⟩ := trodAll_cons r3
  obtain ⟨rfl, rfl, rfl⟩ := trodAll_nil r4
  obtain rfl : args = #[v0, v1, v2, v3, v4] := by cases args; simp_all
  obtain ⟨A0, n0, c0, l0, rfl, hc0, cm0, hA0, hl0, hb0⟩ := open_bytes Try.underlying22 Try.underlying5 (by kernel_rfl) (hval 0 22 v0 rfl rfl) h0
  obtain ⟨z1, rfl, rfl, rfl, _⟩ := open_int Try.underlying3 (hval 1 3 v1 rfl rfl) h1
  obtain ⟨z2, rfl, rfl, rfl, _⟩ := open_int Try.underlying3 (hval 2 3 v2 rfl rfl) h2
  obtain ⟨z3, rfl, rfl, rfl, _⟩ := open_int Try.underlying3 (hval 3 3 v3 rfl rfl) h3
  obtain ⟨z4, rfl, rfl, rfl, _⟩ := open_int Try.underlying3 (hval 4 3 v4 rfl rfl) h4
  unfold maxLen at *
  refine (core z1 z2 z3 z4 A0 n0 c0 l0 W hb0 hl0).mono fun e W' ⟨he, ho⟩ => ?_
  subst he
  exact ⟨_, rfl, law_post rfl hW' (by intro t ht; revert t; exact of_decide_eq_true (by kernel_rfl)) rfl rfl ho⟩

theorem proved : Rows.FilterSamplesSaid :=
  OpenClaim.holds_of_wide 5 Try.f5 rfl rfl rfl rfl rfl rfl rfl ⟨rfl, rfl, rfl, rfl, rfl⟩ rfl rfl rfl rfl rfl (by kernel_rfl) Try.func5 (by kernel_rfl)
    (of_decide_eq_true (by kernel_rfl)) (by unfold Func.isWrapper; first | (rw [if_pos (by decide +kernel)]; kernel_rfl) | (rw [if_neg (by decide +kernel)]; exact ⟨rfl, rfl⟩))
    (fun os started H enc _ => lifted os started H enc)
end Go.Proofs.Ytopjkmobnmaaaaa.fsamples
