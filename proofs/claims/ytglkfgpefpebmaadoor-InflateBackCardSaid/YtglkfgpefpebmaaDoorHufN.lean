/-
  Reading by codes, plainly: bit by bit, a code's first bit the highest.
-/
import Derived.Test.YtglkfgpefpebmaaDoorHufM
namespace Go.Proofs.YtglkfgpefpebmaaDoor

/-- The number of the n bits that stand in N from k on, the first the highest. -/
def bc (N k : Nat) : Nat → Nat
  | 0 => 0
  | n + 1 => 2 * bc N k n + N / 2 ^ (k + n) % 2
theorem bc_succ (N k n : Nat) : bc N k (n + 1) = 2 * bc N k n + N / 2 ^ (k + n) % 2 := rfl
theorem bc_lt (N k n : Nat) : bc N k n < 2 ^ n := by
  induction n with
  | zero => exact Nat.one_pos
  | succ n ih => rw [bc_succ, Nat.pow_succ]; omega
theorem bc_rev (N k n : Nat) : bc N k n = rev (N / 2 ^ k) n := by
  induction n with
  | zero => rfl
  | succ n ih => rw [bc_succ, rev, ih, Nat.div_div_eq_div_mul, ← Nat.pow_add]

/-- The j-th symbol of length n. -/
def sy (l : List UInt8) (n j : Nat) : Nat := ((List.range l.length).find? fun i => ln l i == n && rk l i n == j).getD 0
theorem sy_eq {l : List UInt8} {i : Nat} (h : ln l i ≠ 0) : sy l (ln l i) (rk l i (ln l i)) = i := by
  unfold sy
  cases hf : (List.range l.length).find? fun k => ln l k == ln l i && rk l k (ln l i) == rk l i (ln l i) with
  | none =>
    rw [List.find?_eq_none] at hf
    have := hf i (List.mem_range.2 (ln_lt h))
    simp at this
  | some j =>
    have := List.find?_some hf
    simp only [Bool.and_eq_true, beq_iff_eq] at this
    show j = i
    refine (rk_inj h this.1.symm ?_).symm
    exact this.2.symm

/-- What Read tells: a symbol, an error, how many bits it passes. r lengths are left, from n on. -/
def scan (l : List UInt8) (N k left : Nat) : Nat → Nat → Nat × Nat × Nat
  | 0, _ => (0, 3, 0)
  | r + 1, n => if left < n then (0, 2, 0) else if bc N k n < Fs (cn l) n + cn l n then (sy l n (bc N k n - Fs (cn l) n), 0, n) else scan l N k left r (n + 1)
/-- All of it. -/
def readM (l : List UInt8) (N k left : Nat) : Nat × Nat × Nat := scan l N k left (Lg (cn l) 15) 1

theorem scan_short {l : List UInt8} {N k left r n : Nat} (h : left < n) : scan l N k left (r + 1) n = (0, 2, 0) := by unfold scan; rw [if_pos h]
theorem scan_hit {l : List UInt8} {N k left r n : Nat} (h : ¬ left < n) (h2 : bc N k n < Fs (cn l) n + cn l n) : scan l N k left (r + 1) n = (sy l n (bc N k n - Fs (cn l) n), 0, n) := by unfold scan; rw [if_neg h, if_pos h2]
theorem scan_next {l : List UInt8} {N k left r n : Nat} (h : ¬ left < n) (h2 : ¬ bc N k n < Fs (cn l) n + cn l n) : scan l N k left (r + 1) n = scan l N k left r (n + 1) := by
  show (if left < n then (0, 2, 0) else if bc N k n < Fs (cn l) n + cn l n then (sy l n (bc N k n - Fs (cn l) n), 0, n) else scan l N k left r (n + 1)) = _
  rw [if_neg h, if_neg h2]
end Go.Proofs.YtglkfgpefpebmaaDoor
