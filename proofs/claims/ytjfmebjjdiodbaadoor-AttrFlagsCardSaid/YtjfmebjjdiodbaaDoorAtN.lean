/-
  What one parameter makes, class by class.
-/
import Derived.Test.YtjfmebjjdiodbaaDoorAtM
namespace Go.Proofs.YtjfmebjjdiodbaaDoor
open Go Go.RowKit

theorem oneA_0 (a : At) : oneA a 0 = At.zero := rfl
theorem oneA_1 (a : At) {n : Int} (h : 1 ≤ n ∧ n ≤ 9) : oneA a n = { a with fl := bits .or .i64 a.fl (flagL.getD n.toNat 0) } := by
  unfold oneA
  rw [if_neg (by omega), if_pos (by omega)]
theorem oneA_22 (a : At) {n : Int} (h : n = 22) : oneA a n = { a with fl := bits .andNot .i64 a.fl 3 } := by
  unfold oneA
  rw [if_neg (by omega), if_neg (by omega), if_pos (by omega)]
theorem oneA_23 (a : At) {n : Int} (h : 23 ≤ n ∧ n ≤ 29) : oneA a n = { a with fl := bits .andNot .i64 a.fl (flagL.getD (n - 20).toNat 0) } := by
  unfold oneA
  rw [if_neg (by omega), if_neg (by omega), if_neg (by omega), if_pos (by omega)]
theorem oneA_30 (a : At) {n : Int} (h : 30 ≤ n ∧ n ≤ 37) : oneA a n = { a with fg := palA (n - 30) } := by
  unfold oneA
  rw [if_neg (by omega), if_neg (by omega), if_neg (by omega), if_neg (by omega), if_pos (by omega)]
theorem oneA_39 (a : At) {n : Int} (h : n = 39) : oneA a n = { a with fg := 0 } := by
  unfold oneA
  rw [if_neg (by omega), if_neg (by omega), if_neg (by omega), if_neg (by omega), if_neg (by omega), if_pos (by omega)]
theorem oneA_40 (a : At) {n : Int} (h : 40 ≤ n ∧ n ≤ 47) : oneA a n = { a with bg := palA (n - 40) } := by
  unfold oneA
  rw [if_neg (by omega), if_neg (by omega), if_neg (by omega), if_neg (by omega), if_neg (by omega), if_neg (by omega), if_pos (by omega)]
theorem oneA_49 (a : At) {n : Int} (h : n = 49) : oneA a n = { a with bg := 0 } := by
  unfold oneA
  rw [if_neg (by omega), if_neg (by omega), if_neg (by omega), if_neg (by omega), if_neg (by omega), if_neg (by omega), if_neg (by omega), if_pos (by omega)]
theorem oneA_90 (a : At) {n : Int} (h : 90 ≤ n ∧ n ≤ 97) : oneA a n = { a with fg := palA (n - 82) } := by
  unfold oneA
  rw [if_neg (by omega), if_neg (by omega), if_neg (by omega), if_neg (by omega), if_neg (by omega), if_neg (by omega), if_neg (by omega), if_neg (by omega), if_pos (by omega)]
theorem oneA_100 (a : At) {n : Int} (h : 100 ≤ n ∧ n ≤ 107) : oneA a n = { a with bg := palA (n - 92) } := by
  unfold oneA
  rw [if_neg (by omega), if_neg (by omega), if_neg (by omega), if_neg (by omega), if_neg (by omega), if_neg (by omega), if_neg (by omega), if_neg (by omega), if_neg (by omega), if_pos (by omega)]
theorem oneA_no (a : At) {n : Int} (h : n < 0 ∨ (10 ≤ n ∧ n ≤ 21) ∨ (50 ≤ n ∧ n ≤ 89) ∨ (98 ≤ n ∧ n ≤ 99) ∨ 108 ≤ n) : oneA a n = a := by
  unfold oneA
  rw [if_neg (by omega), if_neg (by omega), if_neg (by omega), if_neg (by omega), if_neg (by omega), if_neg (by omega), if_neg (by omega), if_neg (by omega), if_neg (by omega), if_neg (by omega)]
/-- The classes. -/
theorem classes (n : Int) : n = 0 ∨ (1 ≤ n ∧ n ≤ 9) ∨ n = 22 ∨ (23 ≤ n ∧ n ≤ 29) ∨ (30 ≤ n ∧ n ≤ 37) ∨ n = 38 ∨ n = 39 ∨ (40 ≤ n ∧ n ≤ 47) ∨ n = 48 ∨ n = 49 ∨ (90 ≤ n ∧ n ≤ 97) ∨ (100 ≤ n ∧ n ≤ 107) ∨
    (n < 0 ∨ (10 ≤ n ∧ n ≤ 21) ∨ (50 ≤ n ∧ n ≤ 89) ∨ (98 ≤ n ∧ n ≤ 99) ∨ 108 ≤ n) := by omega
theorem stepA_one (a : At) {l : List Int} {n : Int} (h : l.getD 0 0 = n) (h1 : n ≠ 38) (h2 : n ≠ 48) : stepA a l = oneA a n ∧ usedA l = 1 := by
  subst h
  unfold stepA usedA
  rw [if_neg h1, if_neg h2, if_neg (fun h => h.elim h1 h2)]
  exact ⟨rfl, rfl⟩
end Go.Proofs.YtjfmebjjdiodbaaDoor
