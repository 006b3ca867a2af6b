/-
  Package pixel: which sides may be, what of a part lies within.
-/
import Derived.Test.YtngaabnmhcncmaaProg
import Derived.Test.YtngaabnmhcncmaaPxP
import Derived.Test.YtngaabnmhcncmaaMem
import Derived.Test.YtngaabnmhcncmaaInt
import Derived.StillTailTactics
import Derived.Deep.QuietTactic
import Derived.BigQuiet
namespace Go.Proofs.Ytngaabnmhcncmaa
open Go Go.RowKit

/-- May a matrix have these sides? -/
def mayI (x y : Int) : Bool := decide ((x = 0 ∧ y = 0) ∨ ((1 ≤ x ∧ x ≤ 16384) ∧ (1 ≤ y ∧ y ≤ 16384) ∧ x * y ≤ 67108864))

set_option maxRecDepth 100000 in
theorem maySide_any (n : Int) (w : World) : Calls Try.prog 59 #[.int .i64 n] w fun e w' => e = .returned (.bool (decide (1 ≤ n ∧ n ≤ 16384))) ∧ w' = w := by
  by_cases h1 : 1 ≤ n
  · by_cases h2 : n ≤ 16384
    · rw [decide_eq_true (show 1 ≤ n ∧ n ≤ 16384 from ⟨h1, h2⟩)]
      go_enter Try.func59, Try.ntmps59
      go_wp2_with fail
      go_ret
      exact ⟨rfl, rfl⟩
    · rw [decide_eq_false (show ¬ (1 ≤ n ∧ n ≤ 16384) from fun h => h2 h.2)]
      go_enter Try.func59, Try.ntmps59
      go_wp2_with fail
      go_ret
      exact ⟨rfl, rfl⟩
  · rw [decide_eq_false (show ¬ (1 ≤ n ∧ n ≤ 16384) from fun h => h1 h.1)]
    go_enter Try.func59, Try.ntmps59
    go_wp2_with fail
    go_ret
    exact ⟨rfl, rfl⟩

set_option maxRecDepth 100000 in
set_option maxHeartbeats 4000000 in
theorem mayBe_any (x y : Int) (w : World) : Calls Try.prog 42 #[.int .i64 x, .int .i64 y] w fun e w' => e = .returned (.bool (mayI x y)) ∧ w' = w := by
  have key : (x = 0 ∧ y = 0) ∨ (¬ (x = 0 ∧ y = 0) ∧ ((¬ (1 ≤ x ∧ x ≤ 16384)) ∨ ((1 ≤ x ∧ x ≤ 16384) ∧ ((¬ (1 ≤ y ∧ y ≤ 16384)) ∨ (1 ≤ y ∧ y ≤ 16384))))) := by omega
  have HX := hide (maySide_any x)
  have HY := hide (maySide_any y)
  rcases key with ⟨rfl, rfl⟩ | ⟨h0, h1 | ⟨h1, h2⟩⟩
  · have hm : mayI 0 0 = true := by decide
    rw [hm]; clear hm
    go_enter Try.func42, Try.ntmps42
    go_wp2_with fail
    go_ret
    exact ⟨rfl, rfl⟩
  · have hm : mayI x y = false := decide_eq_false (by rintro (h | h); exact h0 h; exact h1 h.1)
    rw [hm]
    rw [decide_eq_false h1] at HX
    clear hm h1 HY
    by_cases hx : x = 0
    · have hy : ¬ y = 0 := fun h => h0 ⟨hx, h⟩
      subst hx
      have hyb : (y == 0) = false := beq_eq_false_iff_ne.2 hy
      clear h0
      go_enter Try.func42, Try.ntmps42
      go_wp2_with fail
      refine (HX.out _).mono ?_
      rintro e w1 ⟨rfl, rfl⟩
      go_wp2_with fail
      go_ret
      exact ⟨rfl, rfl⟩
    · clear h0
      go_enter Try.func42, Try.ntmps42
      go_wp2_with fail
      refine (HX.out _).mono ?_
      rintro e w1 ⟨rfl, rfl⟩
      go_wp2_with fail
      go_ret
      exact ⟨rfl, rfl⟩
  · have hx0 : ¬ x = 0 := by omega
    have hmul : 1 ≤ y ∧ y ≤ 16384 → x * y ≤ 16384 * 16384 ∧ 0 ≤ x * y := fun h => ⟨Int.mul_le_mul h1.2 h.2 (by omega) (by omega), Int.mul_nonneg (by omega) (by omega)⟩
    rw [decide_eq_true h1] at HX
    rcases h2 with h2 | h2
    · have hm : mayI x y = false := decide_eq_false (by rintro (h | h); exact h0 h; exact h2 h.2.1)
      rw [hm]
      rw [decide_eq_false h2] at HY
      clear hm h2 h0 h1 hmul
      go_enter Try.func42, Try.ntmps42
      go_wp2_with fail
      refine (HX.out _).mono ?_
      rintro e w1 ⟨rfl, rfl⟩
      go_wp2_with fail
      refine (HY.out _).mono ?_
      rintro e w1 ⟨rfl, rfl⟩
      go_wp2_with fail
      go_ret
      exact ⟨rfl, rfl⟩
    · have hxy := hmul h2
      have hw : wrap64 (x * y) = x * y := IntWalk.wrap64_in _ ⟨by omega, by omega⟩
      have hm : mayI x y = decide (x * y ≤ 67108864) := by
        unfold mayI
        by_cases h : x * y ≤ 67108864
        · rw [decide_eq_true h, decide_eq_true (.inr ⟨h1, h2, h⟩)]
        · rw [decide_eq_false h, decide_eq_false]
          rintro (h' | h')
          · exact h0 h'
          · exact h h'.2.2
      rw [hm]
      rw [decide_eq_true h2] at HY
      clear hm h2 h0 h1 hmul
      go_enter Try.func42, Try.ntmps42
      go_wp2_with fail
      refine (HX.out _).mono ?_
      rintro e w1 ⟨rfl, rfl⟩
      go_wp2_with fail
      refine (HY.out _).mono ?_
      rintro e w1 ⟨rfl, rfl⟩
      go_wp2_with fail
      all_goals
        go_ret
        refine ⟨?_, rfl⟩
        first | rfl | (simp [*])

/-- Where a part of a side begins, where it is past. -/
def spL (t n : Int) (most : Nat) : Nat := if n < 1 ∨ (most : Int) ≤ t ∨ t ≤ -(min n 1048576) then 0 else (max t 0).toNat
def spR (t n : Int) (most : Nat) : Nat := if n < 1 ∨ (most : Int) ≤ t ∨ t ≤ -(min n 1048576) then 0 else (min (t + min n 1048576) (most : Int)).toNat
theorem sp_le (t n : Int) (most : Nat) : spL t n most ≤ spR t n most ∧ spR t n most ≤ most := by
  unfold spL spR
  split <;> omega

set_option maxRecDepth 100000 in
set_option maxHeartbeats 4000000 in
theorem span_any (t n : Int) (most : Nat) (w : World) (ht : -9223372036854775808 ≤ t ∧ t ≤ 9223372036854775807) (hn : -9223372036854775808 ≤ n ∧ n ≤ 9223372036854775807) (hm : most ≤ 1000000000) :
    Calls Try.prog 61 #[.int .i64 t, .int .i64 n, .int .i64 (most : Int)] w fun e w' => e = .returned (.tuple #[.int .i64 (spL t n most : Nat), .int .i64 (spR t n most : Nat)]) ∧ w' = w := by
  have hL : spL t n most = if n < 1 ∨ (most : Int) ≤ t ∨ t ≤ -(min n 1048576) then 0 else (max t 0).toNat := rfl
  have hR : spR t n most = if n < 1 ∨ (most : Int) ≤ t ∨ t ≤ -(min n 1048576) then 0 else (min (t + min n 1048576) (most : Int)).toNat := rfl
  generalize spL t n most = l at *
  generalize spR t n most = r at *
  obtain ⟨m, hmm⟩ : ∃ m, m = min n 1048576 := ⟨_, rfl⟩
  have em : (if (1048576 : Int) < n then (1048576 : Int) else n) = m := by rw [hmm]; omega
  have em2 : m ≤ 1048576 ∧ (n < 1 ↔ m < 1) ∧ -9223372036854775808 ≤ m := by omega
  rw [← hmm] at hL hR
  by_cases h1 : m < 1
  · rw [if_pos (by omega)] at hL hR
    subst hL; subst hR
    clear hmm
    go_enter Try.func61, Try.ntmps61
    go_wp2_with fail
    go_ret2
    exact ⟨rfl, rfl⟩
  have h1' : ¬ n < 1 := by omega
  by_cases h2 : (most : Int) ≤ t
  · rw [if_pos (by omega)] at hL hR
    subst hL; subst hR
    clear hmm
    go_enter Try.func61, Try.ntmps61
    go_wp2_with fail
    go_ret2
    exact ⟨rfl, rfl⟩
  have ew : wrap64 (-m) = -m := IntWalk.wrap64_in _ ⟨by omega, by omega⟩
  have ew1 : IntKind.i64.wrap (-m) = -m := by rw [IntKind.wrap_i64]; omega
  by_cases h3 : t ≤ -m
  · rw [if_pos (by omega)] at hL hR
    subst hL; subst hR
    clear hmm
    go_enter Try.func61, Try.ntmps61
    go_wp2_with fail
    go_ret2
    exact ⟨rfl, rfl⟩
  rw [if_neg (by omega)] at hL hR
  have es : wrap64 (t + m) = t + m := IntWalk.wrap64_in _ ⟨by omega, by omega⟩
  have es1 : IntKind.i64.wrap (t + m) = t + m := by rw [IntKind.wrap_i64]; omega
  have el : (if t < 0 then (0 : Int) else t) = (l : Int) := by omega
  have er : (if (most : Int) < t + m then (most : Int) else t + m) = (r : Int) := by omega
  have HLR := hide (And.intro hL hR)
  clear hmm hL hR
  go_enter Try.func61, Try.ntmps61
  go_wp2_with fail
  go_ret2
  exact ⟨rfl, rfl⟩

/-- A matrix as a value: its sides, its bytes' row. -/
def mval (W H : Int) (A : Option Addr) (n c : Nat) : Value := .agg #[.int .i64 W, .int .i64 H, .slice A n c]
/-- A matrix that is right: its sides, its bytes. -/
def okM (W H : Nat) (n : Nat) : Prop := ((W = 0 ∧ H = 0) ∨ (1 ≤ W ∧ W ≤ 16384 ∧ 1 ≤ H ∧ H ≤ 16384 ∧ W * H ≤ 67108864)) ∧ n = 4 * (W * H)
def rightB (W H : Int) (n : Nat) : Bool := mayI W H && decide ((n : Int) = W * H * 4)
theorem okM.right {W H n : Nat} (h : okM W H n) : rightB W H n = true := by
  unfold rightB mayI
  obtain ⟨h1, h2⟩ := h
  have e : ((W * H : Nat) : Int) = (W : Int) * (H : Int) := Int.natCast_mul W H
  have e1 : (n : Int) = (W : Int) * (H : Int) * 4 := by rw [← e]; omega
  rw [Bool.and_eq_true, decide_eq_true_iff, decide_eq_true_iff]
  refine ⟨?_, e1⟩
  rcases h1 with h1 | h1
  · exact .inl (by omega)
  · exact .inr ⟨by omega, by omega, by rw [← e]; omega⟩
theorem rightB_ok {W H : Int} {n : Nat} (h : rightB W H n = true) : ∃ x y : Nat, W = x ∧ H = y ∧ okM x y n := by
  unfold rightB mayI at h
  rw [Bool.and_eq_true, decide_eq_true_iff, decide_eq_true_iff] at h
  obtain ⟨h1, h2⟩ := h
  have hW : 0 ≤ W := by omega
  have hH : 0 ≤ H := by omega
  obtain ⟨x, rfl⟩ := Int.eq_ofNat_of_zero_le hW
  obtain ⟨y, rfl⟩ := Int.eq_ofNat_of_zero_le hH
  have e : ((x * y : Nat) : Int) = (x : Int) * (y : Int) := Int.natCast_mul x y
  rw [← e] at h1 h2
  exact ⟨x, y, rfl, rfl, by omega, by omega⟩

set_option maxRecDepth 100000 in
set_option maxHeartbeats 4000000 in
theorem right_any (W H : Int) (A : Option Addr) (n c : Nat) (w : World) :
    Calls Try.prog 19 #[mval W H A n c] w fun e w' => e = .returned (.bool (rightB W H n)) ∧ Only [] w w' := by
  have HM := hide (mayBe_any W H)
  have hr : rightB W H n = (mayI W H && decide ((n : Int) = W * H * 4)) := rfl
  show Calls Try.prog 19 #[.agg #[.int .i64 W, .int .i64 H, .slice A n c]] w _
  rw [hr]
  clear hr
  cases hm : mayI W H with
  | false =>
    rw [hm] at HM
    clear hm
    go_enter Try.func19, Try.ntmps19
    go_wp2_with fail
    refine (HM.out _).mono ?_
    rintro e w1 ⟨rfl, rfl⟩
    go_wp2_with fail
    go_ret
    exact ⟨rfl, (Only.refl [] w).alloc _⟩
  | true =>
    rw [hm] at HM
    unfold mayI at hm
    rw [decide_eq_true_iff] at hm
    have hmul : 0 ≤ W * H ∧ W * H ≤ 67108864 := by
      rcases hm with ⟨rfl, rfl⟩ | h
      · omega
      · exact ⟨Int.mul_nonneg (by omega) (by omega), h.2.2⟩
    have e1 : wrap64 (W * H) = W * H := IntWalk.wrap64_in _ ⟨by omega, by omega⟩
    have e2 : wrap64 (W * H * 4) = W * H * 4 := IntWalk.wrap64_in _ ⟨by omega, by omega⟩
    clear hm
    go_enter Try.func19, Try.ntmps19
    go_wp2_with fail
    refine (HM.out _).mono ?_
    rintro e w1 ⟨rfl, rfl⟩
    go_wp2_with fail
    go_ret
    exact ⟨rfl, (Only.refl [] w).alloc _⟩
end Go.Proofs.Ytngaabnmhcncmaa
