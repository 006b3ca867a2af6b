/-
  Proves: for any row and depth FilterBits tells true, and leaves all that was there as it was.
-/
import Derived.Test.YtopjkmobnmaaaaaFiN
import Derived.Test.YtopjkmobnmaaaaaFiT
import Derived.Test.YtopjkmobnmaaaaaLaw
import Derived.Test.YtopjkmobnmaaaaaOpen
namespace Go.Proofs.Ytopjkmobnmaaaaa.fbits
open Go Go.RowKit Go.ChangeShapes Go.WideShapes Go.ChangeAt

set_option maxRecDepth 100000 in
set_option maxHeartbeats 8000000 in
theorem out (d : Int) (A : Option Addr) (m c : Nat) (w : World) (h : 2048 < m ∨ (¬ 2048 < m ∧ isDep d = false)) :
    Calls Try.prog 7 #[.slice A m c, .int .i64 d] w fun e w' => e = .returned (.bool true) ∧ Only [] w w' := by
  have HK := hide (known_any w)
  rcases h with hm | ⟨hm, hd⟩
  · have hn : (2048 : Int) < (m : Int) := by omega
    go_enter Try.func7, Try.ntmps7
    go_wp2_with fail
    refine (HK.out).mono ?_
    rintro e w1 ⟨rfl, ho1⟩
    go_wp2_with fail
    go_ret
    exact ⟨rfl, ho1⟩
  · have hn : ¬ (2048 : Int) < (m : Int) := by omega
    have hno : ¬ (d = 1 ∨ d = 2 ∨ d = 4 ∨ d = 8 ∨ d = 16) := fun h => by rw [(isDep_iff d).2 h] at hd; exact absurd hd (by simp)
    have h1 : ¬ d = 1 := by omega
    have h2 : ¬ d = 2 := by omega
    have h3 : ¬ d = 4 := by omega
    have h4 : ¬ d = 8 := by omega
    have h5 : ¬ d = 16 := by omega
    have b1 : (d != 1) = true := by rw [bne, beq_eq_false_iff_ne.2 h1]; rfl
    have b2 : (d != 2) = true := by rw [bne, beq_eq_false_iff_ne.2 h2]; rfl
    have b3 : (d != 4) = true := by rw [bne, beq_eq_false_iff_ne.2 h3]; rfl
    have b4 : (d != 8) = true := by rw [bne, beq_eq_false_iff_ne.2 h4]; rfl
    have b5 : (d != 16) = true := by rw [bne, beq_eq_false_iff_ne.2 h5]; rfl
    clear hno hd
    go_enter Try.func7, Try.ntmps7
    go_wp2_with fail
    refine (HK.out).mono ?_
    rintro e w1 ⟨rfl, ho1⟩
    go_wp2_with fail
    go_ret
    exact ⟨rfl, ho1⟩

set_option maxRecDepth 100000 in
set_option maxHeartbeats 8000000 in
theorem core (d : Int) (A : Option Addr) (m c : Nat) (l : List UInt8) (w : World) (hb : Holds w 1 A m (bvals l)) (hl : l.length = m) :
    Calls Try.prog 7 #[.slice A m c, .int .i64 d] w fun e w' => e = .returned (.bool true) ∧ Only [] w w' := by
  by_cases h0 : 2048 < m ∨ (¬ 2048 < m ∧ isDep d = false)
  · exact out d A m c w h0
  have hm : ¬ 2048 < m := by omega
  have hd : isDep d = true := by
    cases hx : isDep d with
    | true => rfl
    | false => exact absurd (.inr ⟨hm, hx⟩) h0
  have hd4 := (isDep_iff d).1 hd
  obtain ⟨x, rfl⟩ := Int.eq_ofNat_of_zero_le (show 0 ≤ d by omega)
  have hd5 : x = 1 ∨ x = 2 ∨ x = 4 ∨ x = 8 ∨ x = 16 := by omega
  have HK := hide (known_any w)
  obtain ⟨q, hq⟩ : ∃ q, q = 8 * m / x := ⟨_, rfl⟩
  have hqx : q * x ≤ 8 * m := by rw [hq]; exact Nat.div_mul_le_self _ _
  have hq8 : q ≤ 8 * m := by rw [hq]; exact Nat.div_le_self _ _
  have hE : sErr (x : Int) (q : Int) m = 0 := by
    unfold sErr
    rw [if_pos ⟨hd, by omega⟩, Int.toNat_natCast, Int.toNat_natCast, if_neg (by omega)]
  have hR : smR l (x : Int) (q : Int) = smps l x q := by unfold smR; rw [hl, hE, if_pos rfl, Int.toNat_natCast, Int.toNat_natCast]
  have hE2 : sErr (x : Int) ((q + 1 : Nat) : Int) m = 2 := by
    unfold sErr
    rw [if_pos ⟨hd, by omega⟩, Int.toNat_natCast, Int.toNat_natCast, if_pos (by omega)]
  have H1 : Hid (∀ w' : World, Only [] w w' → Calls Try.prog 14 #[.slice A m c, .int .i64 (x : Int), .int .i64 (q : Int)] w' fun e w'' => ∃ v, e = .returned (.tuple #[v, .int .i64 0]) ∧ w''.ownsRow w'.heap.size 3 1 v q (svals (smps l x q)) ∧ Only [] w' w'') := hide (fun w' (ho : Only [] w w') => by
    have h := samples_any (x : Int) (q : Int) A m c l w' (hb.keep ho (by simp)) hl (by omega)
    rw [hE, hR, smps_length] at h
    exact h)
  have H2 : Hid (∀ w' : World, Only [] w w' → Calls Try.prog 14 #[.slice A m c, .int .i64 (x : Int), .int .i64 ((q + 1 : Nat) : Int)] w' fun e w'' => ∃ v, e = .returned (.tuple #[v, .int .i64 2]) ∧ Only [] w' w'') := hide (fun w' (ho : Only [] w w') => by
    have h := samples_any (x : Int) ((q + 1 : Nat) : Int) A m c l w' (hb.keep ho (by simp)) hl (by omega)
    rw [hE2] at h
    exact h.mono fun e w'' ⟨v, h1, _, h3⟩ => ⟨v, h1, h3⟩)
  have HB := hide (And.intro hb (And.intro hl (And.intro hqx hd5)))
  have hn : ¬ (2048 : Int) < (m : Int) := by omega
  have dm : decide (2048 < m) = false := decide_eq_false hm
  have W1 := hide (wr64 (z := 8 * (m : Int)) (n := 8 * m) (by omega) (by omega))
  have W2 : Hid (((8 * m : Nat) : Int).tdiv (x : Int) = (q : Int)) := hide (by rw [hq]; exact (Int.ofNat_tdiv (8 * m) x).symm)
  have W3 := hide (wr64 (z := (q : Int)) (n := q) rfl (by omega))
  have W4 := hide (wr64 (z := (q : Int) + 1) (n := q + 1) (by omega) (by omega))
  obtain ⟨t, ht⟩ : ∃ t, t = 8 * m := ⟨_, rfl⟩
  rw [← ht] at W1 W2
  obtain ⟨u, hu⟩ : ∃ u, u = q + 1 := ⟨_, rfl⟩
  rw [← hu] at H2 W4
  have x0 : ¬ (x : Int) = 0 := by omega
  have x1 : ((x : Int) == 0) = false := beq_eq_false_iff_ne.2 x0
  have hx9 : x ≤ 16 := by omega
  have hq9 : q ≤ 100000 := by omega
  have W5 : Hid (IntKind.u64.wrap (x : Int) = (x : Int)) := hide (IntWalk.u64_in _ ⟨by omega, by omega⟩)
  have W6 := hide (wr64 (z := (2 : Int) ^ x) (n := 2 ^ x) (Int.natCast_pow 2 x).symm (by have := Nat.pow_le_pow_right (n := 2) (i := x) (j := 16) (by omega) (by omega); omega))
  have m3 : min x 64 = x := by omega
  obtain ⟨M, hM⟩ : ∃ M, M = 2 ^ x := ⟨_, rfl⟩
  rw [← hM] at W6
  have HM := hide hM
  obtain ⟨v1, u1⟩ := W1.out
  have v2 := W2.out
  obtain ⟨v3, u3⟩ := W3.out
  obtain ⟨v4, u4⟩ := W4.out
  have v5 := W5.out
  obtain ⟨v6, u6⟩ := W6.out
  have H5 := hide hd5
  have hx0 : ¬ (x : Int) < 0 := by omega
  have key : (((x : Int) != 1) = false) ∨ (((x : Int) != 1) = true ∧ (((x : Int) != 2) = false ∨ (((x : Int) != 2) = true ∧ (((x : Int) != 4) = false ∨ (((x : Int) != 4) = true ∧ (((x : Int) != 8) = false ∨ (((x : Int) != 8) = true ∧ ((x : Int) != 16) = false))))))) := by
    rcases hd5 with rfl | rfl | rfl | rfl | rfl <;> decide
  clear hb hl hqx hd5 hq hq8 hE hR hE2 hd4 hd h0 ht hu hm hM W1 W2 W3 W4 W5 W6
  rcases key with k1 | ⟨k1, k2 | ⟨k2, k3 | ⟨k3, k4 | ⟨k4, k5⟩⟩⟩⟩
  all_goals
    go_enter Try.func7, Try.ntmps7
    go_wp2_with fail
    refine (HK.out).mono ?_
    rintro e w1 ⟨rfl, ho1⟩
    have O1 := hide ho1
    clear ho1
    go_wp2_with fail
    refine (H1.out _ O1.out).mono ?_
    rintro e w2 ⟨v, rfl, how, ho⟩
    obtain ⟨A1, c1, rfl, _, _⟩ := own_shape how
    have O2 := hide (And.intro (O1.out.trans ho (S := []) (by simp)) (Holds.of_own how))
    clear ho how O1
    go_wp2_with fail
    go_loopw [8] (fun i wr => ∃ j : Nat, j ≤ q ∧ i = .int .i64 j ∧ wr = w2) (fun i _ => q - (intOf i).toNat)
    case atStart => exact ⟨0, Nat.zero_le _, rfl, rfl⟩
    case round =>
      obtain ⟨j, hj, rfl, rfl⟩ := hrel
      by_cases hlt : j < q
      · obtain ⟨b1, o1, rfl, hc1⟩ := O2.out.2.addr (by rw [svals_length, smps_length]; omega)
        have c0 := hc1 j _ (svals_get (smps l x q) j (by rw [smps_length]; exact hlt))
        rw [smps_get _ _ _ _ hlt] at c0
        have hy := smp_lt l x j x
        obtain ⟨y, hye⟩ : ∃ y, y = smp l x j x := ⟨_, rfl⟩
        rw [← hye] at c0 hy
        have hyM : ¬ (M : Int) ≤ (y : Int) := by rw [HM.out]; omega
        have hyN : decide (M ≤ y) = false := decide_eq_false (by omega)
        have HJ := hide (And.intro hlt (And.intro hye hc1))
        clear hc1 hy hye
        go_wp2_with fail
        go_loopw [9, 10] (fun v k wb => ∃ p : Nat, p ≤ x ∧ k = .int .i64 p ∧ v = .int .i64 (smp l x j p : Nat) ∧ wb = wr) (fun _ k _ => x - (intOf k).toNat)
        case atStart => exact ⟨0, Nat.zero_le _, rfl, rfl, rfl⟩
        case round =>
          obtain ⟨p, hp, rfl, rfl, rfl⟩ := hrel
          by_cases hpx : p < x
          · obtain ⟨hb, hl, hqx, hd5⟩ := HB.out
            have hjx : j * x + x ≤ 8 * m := by
              have h2 := Nat.mul_le_mul_right x (show j + 1 ≤ q by omega)
              rw [Nat.add_mul] at h2
              omega
            obtain ⟨f, hf⟩ : ∃ f, f = j * x := ⟨_, rfl⟩
            obtain ⟨z, hz⟩ : ∃ z, z = f + p := ⟨_, rfl⟩
            obtain ⟨h, hh⟩ : ∃ h, h = z / 8 := ⟨_, rfl⟩
            obtain ⟨r, hr⟩ : ∃ r, r = z % 8 := ⟨_, rfl⟩
            obtain ⟨b, hb7⟩ : ∃ b, b = 7 - r := ⟨_, rfl⟩
            obtain ⟨bb, oo, rfl, hc⟩ := (hb.keep O2.out.1 (by simp)).addr (by rw [bvals_length]; omega)
            have d0 := cell8 hc (i := h) (by omega)
            have hbit : bitAt l (j * x + p) = (l.getD h 0).toNat / 2 ^ b % 2 := by unfold bitAt; rw [← hf, ← hz, ← hh, ← hr, ← hb7]
            obtain ⟨v, hv⟩ : ∃ v, v = smp l x j p := ⟨_, rfl⟩
            have hvlt : v < 65536 := by
              have h1 := smp_lt l x j p
              have h2 : 2 ^ p ≤ 2 ^ 16 := Nat.pow_le_pow_right (by omega) (by omega)
              omega
            rw [← hv]
            have hx8 := (l.getD h 0).toNat_lt
            obtain ⟨e, he⟩ : ∃ e, e = (l.getD h 0).toNat := ⟨_, rfl⟩
            rw [← he] at d0 hbit hx8
            obtain ⟨s, hs⟩ : ∃ s, s = e / 2 ^ b := ⟨_, rfl⟩
            have hse : s ≤ e := by rw [hs]; exact Nat.div_le_self _ _
            have eD : (e : Int) / 2 ^ b = (s : Int) := by rw [hs]; simp
            rw [← hs] at hbit
            obtain ⟨o, ho⟩ : ∃ o, o = s % 2 := ⟨_, rfl⟩
            have hand := i64_one s (by omega)
            rw [← ho] at hbit hand
            obtain ⟨u, hu⟩ : ∃ u, u = 2 * v := ⟨_, rfl⟩
            obtain ⟨a, ha⟩ : ∃ a, a = u + o := ⟨_, rfl⟩
            have hsm : smp l x j (p + 1) = a := by rw [smp_succ, hbit, ← hv, ha, hu]
            have HS := hide (And.intro hsm hpx)
            have W1 := hide (wr64 (z := (j : Int) * (x : Int)) (n := f) (by rw [hf]; exact (Int.natCast_mul j x).symm) (by omega))
            have W2 := hide (wr64 (z := (f : Int) + (p : Int)) (n := z) (by omega) (by omega))
            have W3 := hide (wr64 (z := (h : Int)) (n := h) rfl (by omega))
            have W4 : Hid ((z : Int).tdiv 8 = (h : Int)) := hide (by rw [hh]; exact (Int.ofNat_tdiv z 8).symm)
            have W5 : Hid ((z : Int).tmod 8 = (r : Int)) := hide (by rw [hr]; exact (Int.ofNat_tmod z 8).symm)
            have W6 := hide (wr64 (z := 7 - (r : Int)) (n := b) (by omega) (by omega))
            have W7 : Hid (IntKind.u64.wrap (b : Int) = (b : Int)) := hide (IntWalk.u64_in _ ⟨by omega, by omega⟩)
            have W8 := hide (wr64 (z := (s : Int)) (n := s) rfl (by omega))
            have W9 := hide (wr64 (z := 2 * (v : Int)) (n := u) (by omega) (by omega))
            have W10 := hide (wr64 (z := (u : Int) + (o : Int)) (n := a) (by omega) (by omega))
            have W11 : Hid (IntKind.u8.wrap (s : Int) = (s : Int)) := hide (by rw [IntKind.wrap_u8]; omega)
            have m1 : min b 64 = b := by omega
            have m2 : min b 8 = b := by omega
            have i0 : h < m := by omega
            have hbn : ¬ (b : Int) < 0 := by omega
            clear hb hl hqx hd5 hjx hf hz hh hr hb7 hc hbit hv hvlt hx8 he hs hse ho hu ha hsm
            clear x0 x1 m3 v5 v6 u6 hyM hyN c0
            obtain ⟨q1, g1⟩ := W1.out
            obtain ⟨q2, g2⟩ := W2.out
            obtain ⟨q3, g3⟩ := W3.out
            have q4 := W4.out
            have q5 := W5.out
            obtain ⟨q6, g6⟩ := W6.out
            have q7 := W7.out
            obtain ⟨q8, g8⟩ := W8.out
            obtain ⟨q9, g9⟩ := W9.out
            obtain ⟨q10, g10⟩ := W10.out
            have q11 := W11.out
            clear W1 W2 W3 W4 W5 W6 W7 W8 W9 W10 W11
            go_wp2_with fail
            go_roundw
            case rel => exact ⟨p + 1, HS.out.2, by go_num, by rw [HS.out.1], by trivial⟩
            case measure => simp [intOf]; omega
          · obtain rfl : p = x := by omega
            rw [← HJ.out.2.1]
            go_wp2_with fail
            go_roundw
            case rel => exact ⟨j + 1, HJ.out.1, by go_num, by trivial⟩
            case measure => simp [intOf]; omega
      · obtain rfl : j = q := by omega
        go_wp2_with fail
        refine (H2.out _ O2.out.1).mono ?_
        rintro e w3 ⟨v, rfl, ho⟩
        have O3 := hide (O2.out.1.trans ho (S := []) (by simp))
        clear ho
        go_wp2_with fail
        go_ret
        exact ⟨rfl, O3.out⟩
set_option maxRecDepth 100000 in
theorem lifted (os : Os) (started : os.Started) (H : Type) (enc : TypeId × Value → H) :
    ReturnsInHanded {} Try.checked os 7 .any (Rows.filterBitsSpec.pre6 enc Try.prog Try.f7 Rows.filterBitsRow.domain false)
      (Rows.filterBitsSpec.post enc Try.prog Try.f7 false true false false) := by
  refine returnsInHanded_of_change (C := Try.checked) own_knob started (by kernel_rfl) Try.func7
    (ChangeSpec.witness6 (enc := enc) (C := Try.checked) false ⟨#[], #[.slice none 0 0, .int .i64 0], []⟩ 8 (by kernel_rfl) (by kernel_rfl) (by kernel_rfl) (by kernel_rfl)) ?_
  intro W base args ds gs before hval0 hW hcnd _
  have hval : ∀ (j : Nat) t v, Try.f7.params[j]? = some t → args[j]? = some v → Value.okWide Try.prog W .any base t v := hval0
  have hW' := hW
  obtain ⟨p, q, hA0, hV, rfl, hfz, hnd⟩ := hW
  have hA : DataW.TrodAll enc Try.prog W 0 (fun _ => true) true Try.f7.params.toList args.toList ds p := hA0
  rw [Try.params7] at hA hval
  obtain ⟨v0, vs0, d0, ds0, p0, q0, hargs, rfl, rfl, h0, r0⟩ := trodAll_cons hA
  obtain ⟨v1, vs1, d1, ds1, p1, q1, rfl, rfl, rfl, h1, r1⟩ := trodAll_cons r0
  obtain ⟨rfl, rfl, rfl⟩ := trodAll_nil r1
  obtain rfl : args = #[v0, v1] := by cases args; simp_all
  obtain ⟨A0, n0, c0, l0, rfl, hc0, cm0, hA0, hl0, hb0⟩ := open_bytes Try.underlying22 Try.underlying5 (by kernel_rfl) (hval 0 22 v0 rfl rfl) h0
  obtain ⟨z1, rfl, rfl, rfl, _⟩ := open_int Try.underlying3 (hval 1 3 v1 rfl rfl) h1
  unfold maxLen at *
  refine (core z1 A0 n0 c0 l0 W hb0 hl0).mono fun e W' ⟨he, ho⟩ => ?_
  subst he
  exact ⟨_, rfl, law_post rfl hW' (by intro t ht; revert t; exact of_decide_eq_true (by kernel_rfl)) rfl rfl ho⟩

theorem proved : Rows.FilterBitsSaid :=
  OpenClaim.holds_of_wide 7 Try.f7 rfl rfl rfl rfl rfl rfl rfl ⟨rfl, rfl, rfl, rfl, rfl⟩ rfl rfl rfl rfl rfl (by kernel_rfl) Try.func7 (by kernel_rfl)
    (of_decide_eq_true (by kernel_rfl)) (by unfold Func.isWrapper; first | (rw [if_pos (by decide +kernel)]; kernel_rfl) | (rw [if_neg (by decide +kernel)]; exact ⟨rfl, rfl⟩))
    (fun os started H enc _ => lifted os started H enc)
end Go.Proofs.Ytopjkmobnmaaaaa.fbits
