/-
  Package pixel: Scale at its three types, and the document's.
-/
import Derived.Test.YtngaabnmhcncmaaPxM
import Derived.Test.YtngaabnmhcncmaaInt
namespace Go.Proofs.Ytngaabnmhcncmaa
open Go Go.RowKit

/-- What v of f is of t. -/
def scN (v f t : Int) : Int := if f < 1 ∨ v < 0 ∨ f < v ∨ t < 0 ∨ (0 < v ∧ 1073741824 / v < t) then 0 else (v * t + f / 2) / f

theorem mul_two (v t : Int) : mulGo 1 [v, t] = if v < 0 ∨ 1099511627776 < v ∨ t < 0 ∨ (0 < v ∧ 1099511627776 / v < t) then (0, false) else (v * t, true) := by
  by_cases h1 : v < 0 ∨ (0 < (1 : Int) ∧ 1099511627776 / 1 < v)
  · rw [mulGo_no h1, if_pos]
    rcases h1 with h | ⟨_, h⟩
    · exact .inl h
    · exact .inr (.inl (by omega))
  · rw [mulGo_yes h1, Int.one_mul]
    by_cases h2 : t < 0 ∨ (0 < v ∧ 1099511627776 / v < t)
    · rw [mulGo_no h2, if_pos (.inr (.inr h2))]
    · rw [mulGo_yes h2, if_neg]
      · rfl
      · rintro (h | h | h)
        · exact h1 (.inl h)
        · exact h1 (.inr ⟨by omega, by omega⟩)
        · exact h2 h

theorem div_lt_iff {v t M : Int} (hv : 0 < v) : M / v < t ↔ M < v * t := by
  rw [Int.ediv_lt_iff_lt_mul hv, Int.mul_comm]

theorem scN_no {v f t : Int} (h : (mulGo 1 [v, t]).2 = false) : scN v f t = 0 := by
  rw [mul_two] at h
  split at h
  · rename_i hc
    unfold scN
    by_cases h0 : f < 1 ∨ v < 0 ∨ f < v ∨ t < 0 ∨ (0 < v ∧ 1073741824 / v < t)
    · rw [if_pos h0]
    · rw [if_neg h0]
      have hv : 0 < v := by
        rcases hc with h | h | h | ⟨h, _⟩ <;> omega
      have h1 : ¬ (1073741824 < v * t) := fun h => h0 (.inr (.inr (.inr (.inr ⟨hv, (div_lt_iff hv).2 h⟩))))
      have ht : 0 ≤ t := by omega
      have ht0 : t = 0 := by
        rcases hc with h | h | h | ⟨_, h⟩
        · omega
        · by_cases hp : 0 < t
          · exfalso
            have : v * 1 ≤ v * t := Int.mul_le_mul_of_nonneg_left (by omega) (by omega)
            omega
          · omega
        · omega
        · have := (div_lt_iff hv).1 h; omega
      subst ht0
      rw [Int.mul_zero, Int.zero_add]
      exact Int.ediv_eq_zero_of_lt (by omega) (by omega)
  · simp at h

theorem scN_yes {v f t : Int} (h : (mulGo 1 [v, t]).2 = true) : (mulGo 1 [v, t]).1 = v * t ∧ 0 ≤ v ∧ 0 ≤ t ∧ 0 ≤ v * t ∧ v * t ≤ 1099511627776 ∧ scN v f t = if 1073741824 < v * t ∨ f < 1 ∨ f < v then 0 else (v * t + f / 2) / f := by
  rw [mul_two] at h ⊢
  split at h
  · simp at h
  · rename_i hc
    rw [if_neg hc]
    have hv : 0 ≤ v := by omega
    have ht : 0 ≤ t := by omega
    have hm : 0 ≤ v * t := Int.mul_nonneg hv ht
    refine ⟨rfl, hv, ht, hm, ?_, ?_⟩
    · by_cases hp : 0 < v
      · exact Int.not_lt.1 (fun h => hc (.inr (.inr (.inr ⟨hp, (div_lt_iff hp).2 h⟩))))
      · rw [show v = 0 by omega, Int.zero_mul]; omega
    · unfold scN
      by_cases h1 : 1073741824 < v * t
      · have hp : 0 < v := by
          by_cases hp : 0 < v
          · exact hp
          · rw [show v = 0 by omega, Int.zero_mul] at h1; omega
        rw [if_pos (.inr (.inr (.inr (.inr ⟨hp, (div_lt_iff hp).2 h1⟩)))), if_pos (.inl h1)]
      · by_cases h2 : f < 1 ∨ f < v
        · rw [if_pos (by omega), if_pos (.inr h2)]
        · rw [if_neg (c := f < 1 ∨ v < 0 ∨ f < v ∨ t < 0 ∨ (0 < v ∧ 1073741824 / v < t)), if_neg (by omega)]
          rintro (h | h | h | h | ⟨hp, h⟩)
          · exact h2 (.inl h)
          · omega
          · exact h2 (.inr h)
          · omega
          · exact h1 ((div_lt_iff hp).1 h)

theorem scN_le {v f t : Int} (ht : 0 ≤ t) : 0 ≤ scN v f t ∧ scN v f t ≤ t := by
  unfold scN
  split
  · omega
  · rename_i h
    have hv : 0 ≤ v := by omega
    have hm : 0 ≤ v * t := Int.mul_nonneg hv ht
    have hf : 0 < f := by omega
    constructor
    · exact Int.ediv_nonneg (by omega) (by omega)
    · have h1 : v * t ≤ f * t := Int.mul_le_mul_of_nonneg_right (by omega) ht
      have h2 : (v * t + f / 2) / f < t + 1 := by
        rw [Int.ediv_lt_iff_lt_mul hf, Int.add_mul, Int.one_mul, Int.mul_comm t]
        omega
      omega

set_option maxRecDepth 100000 in
set_option maxHeartbeats 4000000 in
theorem refScale_any (v f t : Int) (w : World) (hv : -9223372036854775808 ≤ v ∧ v ≤ 9223372036854775807) (hf : -9223372036854775808 ≤ f ∧ f ≤ 9223372036854775807) (ht : -9223372036854775808 ≤ t ∧ t ≤ 9223372036854775807) :
    Calls Try.prog 39 #[.int .i64 v, .int .i64 f, .int .i64 t] w fun e w' => e = .returned (.int .i64 (scN v f t)) ∧ w' = w := by
  by_cases h1 : f < 1
  · have hs : scN v f t = 0 := by unfold scN; rw [if_pos (.inl h1)]
    rw [hs]; clear hs
    go_enter Try.func39, Try.ntmps39
    go_wp2_with fail
    go_ret
    exact ⟨rfl, rfl⟩
  by_cases h2 : v < 0
  · have hs : scN v f t = 0 := by unfold scN; rw [if_pos (.inr (.inl h2))]
    rw [hs]; clear hs
    go_enter Try.func39, Try.ntmps39
    go_wp2_with fail
    go_ret
    exact ⟨rfl, rfl⟩
  by_cases h3 : f < v
  · have hs : scN v f t = 0 := by unfold scN; rw [if_pos (.inr (.inr (.inl h3)))]
    rw [hs]; clear hs
    go_enter Try.func39, Try.ntmps39
    go_wp2_with fail
    go_ret
    exact ⟨rfl, rfl⟩
  by_cases h4 : t < 0
  · have hs : scN v f t = 0 := by unfold scN; rw [if_pos (.inr (.inr (.inr (.inl h4))))]
    rw [hs]; clear hs
    go_enter Try.func39, Try.ntmps39
    go_wp2_with fail
    go_ret
    exact ⟨rfl, rfl⟩
  by_cases h5 : 0 < v
  · by_cases h6 : 1073741824 / v < t
    · have hs : scN v f t = 0 := by unfold scN; rw [if_pos (.inr (.inr (.inr (.inr ⟨h5, h6⟩))))]
      rw [hs]; clear hs
      go_enter Try.func39, Try.ntmps39
      go_wp2_with fail
      go_ret
      exact ⟨rfl, rfl⟩
    · have hs : scN v f t = (v * t + f / 2) / f := by unfold scN; rw [if_neg (by omega)]
      have hm : 0 ≤ v * t := Int.mul_nonneg (by omega) (by omega)
      have hm2 : v * t ≤ 1073741824 := Int.not_lt.1 (fun h => h6 ((div_lt_iff h5).2 h))
      have ew : wrap64 (v * t) = v * t := IntWalk.wrap64_in _ ⟨by omega, by omega⟩
      have HS := hide hs
      clear hs
      go_enter Try.func39, Try.ntmps39
      go_wp2_with fail
      go_ret
      rw [HS.out]
      exact ⟨rfl, rfl⟩
  · obtain rfl : v = 0 := by omega
    have hs : scN 0 f t = (0 * t + f / 2) / f := by unfold scN; rw [if_neg (by omega)]
    rw [Int.zero_mul] at hs
    have HS := hide hs
    clear hs
    go_enter Try.func39, Try.ntmps39
    go_wp2_with fail
    go_ret
    rw [HS.out]
    exact ⟨by simp, rfl⟩

set_option maxRecDepth 100000 in
set_option maxHeartbeats 4000000 in
theorem scaleI_any (v f t : Int) (w : World) (hv : -9223372036854775808 ≤ v ∧ v ≤ 9223372036854775807) (hf : -9223372036854775808 ≤ f ∧ f ≤ 9223372036854775807) (ht : -9223372036854775808 ≤ t ∧ t ≤ 9223372036854775807) :
    Calls Try.prog 38 #[.int .i64 v, .int .i64 f, .int .i64 t] w fun e w' => e = .returned (.int .i64 (scN v f t)) ∧ Only [] w w' := by
  have HM := hide (mul_any (some ⟨w.heap.size, 0, none⟩) 2 2 [v, t] (w.alloc (.cells #[.int .i64 v, .int .i64 t] 3)) (Holds.lit w #[.int .i64 v, .int .i64 t] 3) rfl (by omega) (by intro z hz; simp only [List.mem_cons, List.not_mem_nil, or_false] at hz; omega))
  have hno := @scN_no v f t
  have hyes := @scN_yes v f t
  generalize mulGo 1 [v, t] = r at *
  obtain ⟨x, ok⟩ := r
  cases ok with
  | false =>
    have HS := hide (hno rfl)
    clear hno hyes
    go_enter Try.func38, Try.ntmps38
    go_wp2_with fail
    refine (HM.out).mono ?_
    rintro e w1 ⟨rfl, rfl⟩
    go_wp2_with fail
    go_ret
    rw [HS.out]
    exact ⟨rfl, (Only.refl [] w).alloc _⟩
  | true =>
    obtain ⟨hx, hv0, ht0, hm0, hm1, hs⟩ := hyes rfl
    have hle := scN_le (v := v) (f := f) ht0
    obtain rfl : x = v * t := hx
    clear hno hyes
    generalize v * t = x at *
    by_cases h1 : 1073741824 < x
    · rw [if_pos (.inl h1)] at hs
      have HS := hide hs
      clear hs hle
      go_enter Try.func38, Try.ntmps38
      go_wp2_with fail
      refine (HM.out).mono ?_
      rintro e w1 ⟨rfl, rfl⟩
      go_wp2_with fail
      go_ret
      rw [HS.out]
      exact ⟨rfl, (Only.refl [] w).alloc _⟩
    by_cases h2 : f < 1
    · rw [if_pos (.inr (.inl h2))] at hs
      have HS := hide hs
      clear hs hle
      go_enter Try.func38, Try.ntmps38
      go_wp2_with fail
      refine (HM.out).mono ?_
      rintro e w1 ⟨rfl, rfl⟩
      go_wp2_with fail
      go_ret
      rw [HS.out]
      exact ⟨rfl, (Only.refl [] w).alloc _⟩
    by_cases h3 : f < v
    · rw [if_pos (.inr (.inr h3))] at hs
      have HS := hide hs
      clear hs hle
      go_enter Try.func38, Try.ntmps38
      go_wp2_with fail
      refine (HM.out).mono ?_
      rintro e w1 ⟨rfl, rfl⟩
      go_wp2_with fail
      go_ret
      rw [HS.out]
      exact ⟨rfl, (Only.refl [] w).alloc _⟩
    rw [if_neg (by omega)] at hs
    have HS := hide (And.intro hs hle)
    clear hs hle
    go_enter Try.func38, Try.ntmps38
    go_wp2_with fail
    refine (HM.out).mono ?_
    rintro e w1 ⟨rfl, rfl⟩
    go_wp2_with fail
    go_ret
    refine ⟨?_, (Only.refl [] w).alloc _⟩
    have h := HS.out.1
    have h2 := HS.out.2
    rw [h] at h2
    rw [h]
    exact rfl
set_option maxRecDepth 100000 in
set_option maxHeartbeats 4000000 in
theorem scaleB_any (v f t : Int) (w : World) (hv : 0 ≤ v ∧ v ≤ 255) (hf : 0 ≤ f ∧ f ≤ 255) (ht : 0 ≤ t ∧ t ≤ 255) :
    Calls Try.prog 40 #[.int .u8 v, .int .u8 f, .int .u8 t] w fun e w' => e = .returned (.int .u8 (scN v f t)) ∧ Only [] w w' := by
  have HM := hide (mul_any (some ⟨w.heap.size, 0, none⟩) 2 2 [v, t] (w.alloc (.cells #[.int .i64 v, .int .i64 t] 3)) (Holds.lit w #[.int .i64 v, .int .i64 t] 3) rfl (by omega) (by intro z hz; simp only [List.mem_cons, List.not_mem_nil, or_false] at hz; omega))
  have hno := @scN_no v f t
  have hyes := @scN_yes v f t
  generalize mulGo 1 [v, t] = r at *
  obtain ⟨x, ok⟩ := r
  cases ok with
  | false =>
    have HS := hide (hno rfl)
    clear hno hyes
    go_enter Try.func40, Try.ntmps40
    go_wp2_with fail
    refine (HM.out).mono ?_
    rintro e w1 ⟨rfl, rfl⟩
    go_wp2_with fail
    go_ret
    rw [HS.out]
    exact ⟨rfl, (Only.refl [] w).alloc _⟩
  | true =>
    obtain ⟨hx, hv0, ht0, hm0, hm1, hs⟩ := hyes rfl
    have hle := scN_le (v := v) (f := f) ht0
    obtain rfl : x = v * t := hx
    clear hno hyes
    generalize v * t = x at *
    by_cases h1 : 1073741824 < x
    · rw [if_pos (.inl h1)] at hs
      have HS := hide hs
      clear hs hle
      go_enter Try.func40, Try.ntmps40
      go_wp2_with fail
      refine (HM.out).mono ?_
      rintro e w1 ⟨rfl, rfl⟩
      go_wp2_with fail
      go_ret
      rw [HS.out]
      exact ⟨rfl, (Only.refl [] w).alloc _⟩
    by_cases h2 : f < 1
    · rw [if_pos (.inr (.inl h2))] at hs
      have HS := hide hs
      clear hs hle
      go_enter Try.func40, Try.ntmps40
      go_wp2_with fail
      refine (HM.out).mono ?_
      rintro e w1 ⟨rfl, rfl⟩
      go_wp2_with fail
      go_ret
      rw [HS.out]
      exact ⟨rfl, (Only.refl [] w).alloc _⟩
    by_cases h3 : f < v
    · rw [if_pos (.inr (.inr h3))] at hs
      have HS := hide hs
      clear hs hle
      go_enter Try.func40, Try.ntmps40
      go_wp2_with fail
      refine (HM.out).mono ?_
      rintro e w1 ⟨rfl, rfl⟩
      go_wp2_with fail
      go_ret
      rw [HS.out]
      exact ⟨rfl, (Only.refl [] w).alloc _⟩
    rw [if_neg (by omega)] at hs
    have HS := hide (And.intro hs hle)
    have hw1 : ((x + f / 2) / f) % 256 = (x + f / 2) / f := by rw [← hs]; omega
    have hw2 : IntKind.u8.wrap ((x + f / 2) / f) = (x + f / 2) / f := by rw [IntKind.wrap_u8]; exact hw1
    clear hs hle
    go_enter Try.func40, Try.ntmps40
    go_wp2_with fail
    refine (HM.out).mono ?_
    rintro e w1 ⟨rfl, rfl⟩
    go_wp2_with fail
    go_ret
    refine ⟨?_, (Only.refl [] w).alloc _⟩
    have h := HS.out.1
    have h2 := HS.out.2
    rw [h] at h2
    rw [h]
    first | exact rfl | (rw [hw1]; exact rfl) | (simp only [hw1, hw2]; exact rfl)
set_option maxRecDepth 100000 in
set_option maxHeartbeats 4000000 in
theorem scaleH_any (v f t : Int) (w : World) (hv : 0 ≤ v ∧ v ≤ 65535) (hf : 0 ≤ f ∧ f ≤ 65535) (ht : 0 ≤ t ∧ t ≤ 65535) :
    Calls Try.prog 41 #[.int .u16 v, .int .u16 f, .int .u16 t] w fun e w' => e = .returned (.int .u16 (scN v f t)) ∧ Only [] w w' := by
  have HM := hide (mul_any (some ⟨w.heap.size, 0, none⟩) 2 2 [v, t] (w.alloc (.cells #[.int .i64 v, .int .i64 t] 3)) (Holds.lit w #[.int .i64 v, .int .i64 t] 3) rfl (by omega) (by intro z hz; simp only [List.mem_cons, List.not_mem_nil, or_false] at hz; omega))
  have hno := @scN_no v f t
  have hyes := @scN_yes v f t
  generalize mulGo 1 [v, t] = r at *
  obtain ⟨x, ok⟩ := r
  cases ok with
  | false =>
    have HS := hide (hno rfl)
    clear hno hyes
    go_enter Try.func41, Try.ntmps41
    go_wp2_with fail
    refine (HM.out).mono ?_
    rintro e w1 ⟨rfl, rfl⟩
    go_wp2_with fail
    go_ret
    rw [HS.out]
    exact ⟨rfl, (Only.refl [] w).alloc _⟩
  | true =>
    obtain ⟨hx, hv0, ht0, hm0, hm1, hs⟩ := hyes rfl
    have hle := scN_le (v := v) (f := f) ht0
    obtain rfl : x = v * t := hx
    clear hno hyes
    generalize v * t = x at *
    by_cases h1 : 1073741824 < x
    · rw [if_pos (.inl h1)] at hs
      have HS := hide hs
      clear hs hle
      go_enter Try.func41, Try.ntmps41
      go_wp2_with fail
      refine (HM.out).mono ?_
      rintro e w1 ⟨rfl, rfl⟩
      go_wp2_with fail
      go_ret
      rw [HS.out]
      exact ⟨rfl, (Only.refl [] w).alloc _⟩
    by_cases h2 : f < 1
    · rw [if_pos (.inr (.inl h2))] at hs
      have HS := hide hs
      clear hs hle
      go_enter Try.func41, Try.ntmps41
      go_wp2_with fail
      refine (HM.out).mono ?_
      rintro e w1 ⟨rfl, rfl⟩
      go_wp2_with fail
      go_ret
      rw [HS.out]
      exact ⟨rfl, (Only.refl [] w).alloc _⟩
    by_cases h3 : f < v
    · rw [if_pos (.inr (.inr h3))] at hs
      have HS := hide hs
      clear hs hle
      go_enter Try.func41, Try.ntmps41
      go_wp2_with fail
      refine (HM.out).mono ?_
      rintro e w1 ⟨rfl, rfl⟩
      go_wp2_with fail
      go_ret
      rw [HS.out]
      exact ⟨rfl, (Only.refl [] w).alloc _⟩
    rw [if_neg (by omega)] at hs
    have HS := hide (And.intro hs hle)
    have hw1 : ((x + f / 2) / f) % 65536 = (x + f / 2) / f := by rw [← hs]; omega
    have hw2 : IntKind.u16.wrap ((x + f / 2) / f) = (x + f / 2) / f := by rw [IntKind.wrap_u16]; exact hw1
    clear hs hle
    go_enter Try.func41, Try.ntmps41
    go_wp2_with fail
    refine (HM.out).mono ?_
    rintro e w1 ⟨rfl, rfl⟩
    go_wp2_with fail
    go_ret
    refine ⟨?_, (Only.refl [] w).alloc _⟩
    have h := HS.out.1
    have h2 := HS.out.2
    rw [h] at h2
    rw [h]
    first | exact rfl | (rw [hw1]; exact rfl) | (simp only [hw1, hw2]; exact rfl)
end Go.Proofs.Ytngaabnmhcncmaa
