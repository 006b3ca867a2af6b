/-
  Package bits as package huff uses it: turned round, read, laid (the texts of stage 1, without what that package's other callers want).
-/
import Derived.Test.YtglkfgpefpebmaaDoorClone
import Derived.Test.YtglkfgpefpebmaaDoorMulP
import Derived.Test.YtglkfgpefpebmaaDoorWriteA
import Derived.Test.YtglkfgpefpebmaaDoorReadD
import Derived.Test.YtglkfgpefpebmaaDoorWriteB
import Derived.Deep.QuietTactic
import Derived.BigQuiet
import Derived.Deep.RegionWith
import Derived.Deep.RegionHeld3
namespace Go.Proofs.YtglkfgpefpebmaaDoor
open Go Go.RowKit

/-- Reverse, with its guard. -/
def revI (v : Nat) (n : Int) : Nat := if 0 ≤ n ∧ n ≤ 32 then rev v n.toNat else 0

set_option maxHeartbeats 1000000 in
theorem reverse_no (v : Nat) (n : Int) (w : World) (h : ¬ (0 ≤ n ∧ n ≤ 32)) :
    Calls Tryd.prog 71 #[.int .u32 v, .int .i64 n] w fun e w' => e = .returned (.int .u32 0) ∧ w = w' := by
  by_cases h1 : n < 0
  · clear h
    go_enter Tryd.func71, Tryd.ntmps71
    go_wp2
    go_ret
    exact ⟨rfl, rfl⟩
  · have h2 : 32 < n := by omega
    clear h
    go_enter Tryd.func71, Tryd.ntmps71
    go_wp2
    go_ret
    exact ⟨rfl, rfl⟩

set_option maxHeartbeats 1000000 in
theorem reverse_yes (v n : Nat) (w : World) (hv : v < 4294967296) (hn : n ≤ 32) :
    Calls Tryd.prog 71 #[.int .u32 v, .int .i64 n] w fun e w' => e = .returned (.int .u32 (rev v n : Nat)) ∧ w = w' := by
  go_enter Tryd.func71, Tryd.ntmps71
  go_wp2
  go_loop [0, 5, 13] (fun x b i => ∃ j : Nat, j ≤ n ∧ i = .int .i64 j ∧ b = .int .u32 (rev v j : Nat) ∧ x = .int .u32 ((v / 2 ^ j : Nat) : Int)) (fun _ _ i => n - (intOf i).toNat)
  case atStart => exact ⟨0, Nat.zero_le _, rfl, rfl, by simp⟩
  case round =>
    obtain ⟨j, hj, rfl, rfl, rfl⟩ := hrel
    by_cases hlt : j < n
    · have hr := rev_lt v j
      have hp : 2 ^ j ≤ 2147483648 := Nat.pow_le_pow_right (n := 2) (i := j) (j := 31) (by omega) (by omega)
      have hx : v / 2 ^ j ≤ v := Nat.div_le_self _ _
      obtain ⟨R, hR⟩ : ∃ R, R = rev v j := ⟨_, rfl⟩
      obtain ⟨X, hX⟩ : ∃ X, X = v / 2 ^ j := ⟨_, rfl⟩
      have hs : rev v (j + 1) = 2 * R + X % 2 := by rw [hR, hX]; rfl
      have hd : v / 2 ^ (j + 1) = X / 2 := by rw [hX, Nat.pow_succ, Nat.div_div_eq_div_mul]
      rw [← hR, ← hX]
      rw [← hR] at hr
      rw [← hX] at hx
      have H := hide (And.intro hs hd)
      have eA := u32_and1 X (by omega)
      have eO := u32_orbit R X (by omega)
      clear hs hd hR hX
      go_wp2
      go_round
      case rel => exact ⟨j + 1, hlt, by go_num, by rw [H.out.1]; rfl, by rw [H.out.2]; rfl⟩
      case measure => simp [intOf]; omega
    · obtain rfl : j = n := by omega
      clear hlt
      go_wp2
      go_ret
      exact ⟨rfl, rfl⟩

set_option maxHeartbeats 1000000 in
theorem refReverse_no (v : Nat) (n : Int) (w : World) (h : ¬ (0 ≤ n ∧ n ≤ 32)) :
    Calls Tryd.prog 47 #[.int .u32 v, .int .i64 n] w fun e w' => e = .returned (.int .u32 0) ∧ w = w' := by
  by_cases h1 : n < 0
  · clear h
    go_enter Tryd.func47, Tryd.ntmps47
    go_wp2
    go_ret
    exact ⟨rfl, rfl⟩
  · have h2 : 32 < n := by omega
    clear h
    go_enter Tryd.func47, Tryd.ntmps47
    go_wp2
    go_ret
    exact ⟨rfl, rfl⟩

set_option maxHeartbeats 1000000 in
theorem refReverse_yes (v n : Nat) (w : World) (hv : v < 4294967296) (hn : n ≤ 32) :
    Calls Tryd.prog 47 #[.int .u32 v, .int .i64 n] w fun e w' => e = .returned (.int .u32 (rev v n : Nat)) ∧ w = w' := by
  go_enter Tryd.func47, Tryd.ntmps47
  go_wp2
  go_loop [5, 6] (fun b i => ∃ j : Nat, j ≤ n ∧ i = .int .i64 j ∧ b = .int .u32 (rev v j : Nat)) (fun _ i => n - (intOf i).toNat)
  case atStart => exact ⟨0, Nat.zero_le _, rfl, rfl⟩
  case round =>
    obtain ⟨j, hj, rfl, rfl⟩ := hrel
    by_cases hlt : j < n
    · have hr := rev_lt v j
      have hp : 2 ^ j ≤ 2147483648 := Nat.pow_le_pow_right (n := 2) (i := j) (j := 31) (by omega) (by omega)
      have hx : v / 2 ^ j ≤ v := Nat.div_le_self _ _
      obtain ⟨R, hR⟩ : ∃ R, R = rev v j := ⟨_, rfl⟩
      obtain ⟨X, hX⟩ : ∃ X, X = v / 2 ^ j := ⟨_, rfl⟩
      have hs : rev v (j + 1) = 2 * R + X % 2 := by rw [hR, hX]; rfl
      rw [← hR]
      rw [← hR] at hr
      rw [← hX] at hx
      have H := hide hs
      have eD : (v : Int) / 2 ^ j = (X : Int) := by rw [hX]; simp
      have eA := u32_and1 X (by omega)
      have eO := u32_orbit R X (by omega)
      clear hs hR hX
      go_wp2
      go_round
      case rel => exact ⟨j + 1, hlt, by go_num, by rw [H.out]; rfl⟩
      case measure => simp [intOf]; omega
    · obtain rfl : j = n := by omega
      clear hlt
      go_wp2
      go_ret
      exact ⟨rfl, rfl⟩

theorem reverse_any (v : Nat) (n : Int) (w : World) (hv : v < 4294967296) :
    Calls Tryd.prog 71 #[.int .u32 v, .int .i64 n] w fun e w' => e = .returned (.int .u32 (revI v n : Nat)) ∧ w = w' := by
  unfold revI
  by_cases h : 0 ≤ n ∧ n ≤ 32
  · rw [if_pos h]
    obtain ⟨k, rfl⟩ := Int.eq_ofNat_of_zero_le h.1
    exact reverse_yes v k w hv (by omega)
  · rw [if_neg h]; exact reverse_no v n w h

theorem refReverse_any (v : Nat) (n : Int) (w : World) (hv : v < 4294967296) :
    Calls Tryd.prog 47 #[.int .u32 v, .int .i64 n] w fun e w' => e = .returned (.int .u32 (revI v n : Nat)) ∧ w = w' := by
  unfold revI
  by_cases h : 0 ≤ n ∧ n ≤ 32
  · rw [if_pos h]
    obtain ⟨k, rfl⟩ := Int.eq_ofNat_of_zero_le h.1
    exact refReverse_yes v k w hv (by omega)
  · rw [if_neg h]; exact refReverse_no v n w h
























end Go.Proofs.YtglkfgpefpebmaaDoor
