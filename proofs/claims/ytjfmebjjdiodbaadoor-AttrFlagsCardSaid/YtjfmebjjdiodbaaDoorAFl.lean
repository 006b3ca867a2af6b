/-
  Flags set and unset; a new slice of numbers within a region that draws its order.
-/
import Derived.Test.YtjfmebjjdiodbaaDoorAtO
import Derived.Test.YtjfmebjjdiodbaaDoorAdd
namespace Go.Proofs.YtjfmebjjdiodbaaDoor
open Go Go.RowKit

theorem bv_back (x f : BitVec 64) : (x ||| f) &&& ~~~f = x &&& ~~~f := by
  apply BitVec.eq_of_getLsbD_eq
  intro i hi
  simp only [BitVec.getLsbD_and, BitVec.getLsbD_or, BitVec.getLsbD_not]
  cases x.getLsbD i <;> cases f.getLsbD i <;> simp
theorem not_or (x f : Int) : bits .andNot .i64 (bits .or .i64 x f) f = bits .andNot .i64 x f := by
  rw [bits_not64, bits_or64, BitVec.ofInt_toInt, bv_back, ← bits_not64]
theorem not_or12 (x : Int) : bits .andNot .i64 (bits .or .i64 (bits .or .i64 x 1) 2) 3 = bits .andNot .i64 x 3 := by
  rw [bits_not64, bits_or64, bits_or64, BitVec.ofInt_toInt, BitVec.ofInt_toInt, BitVec.or_assoc, show BitVec.ofInt 64 1 ||| BitVec.ofInt 64 2 = BitVec.ofInt 64 3 by decide, bv_back, ← bits_not64]

/-- A new slice of these numbers. -/
def isRow (B : Nat) (L : List Int) : (Value → Prop) × (Value → World → Prop) :=
  (fun v => ∃ g, v = .slice (some ⟨g, 0, none⟩) L.length L.length, fun v w => ∀ g, v = .slice (some ⟨g, 0, none⟩) L.length L.length → B ≤ g ∧ Holds w 1 (some ⟨g, 0, none⟩) L.length (ivals L))
theorem isRow_later (B : Nat) (L : List Int) : ∀ v w w', Only [] w w' → (isRow B L).2 v w → (isRow B L).2 v w' := fun v w w' ho h g he => ⟨(h g he).1, (h g he).2.keep ho (by simp)⟩
theorem isRow_new {B : Nat} {L : List Int} {w : World} (hB : B ≤ w.heap.size) : Only [] w (w.alloc (.cells (ivals L).toArray 3)) ∧ (isRow B L).1 (.slice (some ⟨w.heap.size, 0, none⟩) L.length L.length) ∧ (isRow B L).2 (.slice (some ⟨w.heap.size, 0, none⟩) L.length L.length) (w.alloc (.cells (ivals L).toArray 3)) :=
  ⟨(Only.refl [] w).alloc _, ⟨_, rfl⟩, fun g he => by
    injection he with he
    injection he with he
    injection he with he
    subst he
    refine ⟨hB, ?_⟩
    have := Holds.lit w (ivals L).toArray 3
    simpa using this⟩
def onL : List Int := [3, 4, 5, 7, 8, 9]
def flL : List Int := [4, 8, 16, 32, 64, 128]
theorem on_set (a : At) : ∀ k, k < 6 → oneA a (onL.getD k 0) = { a with fl := bits .or .i64 a.fl (flL.getD k 0) } ∧ onL.getD k 0 ≠ 38 ∧ onL.getD k 0 ≠ 48 := by
  intro k hk
  rcases (show k = 0 ∨ k = 1 ∨ k = 2 ∨ k = 3 ∨ k = 4 ∨ k = 5 by omega) with rfl | rfl | rfl | rfl | rfl | rfl <;> exact ⟨rfl, by decide, by decide⟩
theorem on_back (a : At) : ∀ k, k < 6 → oneA a (onL.getD k 0 + 20) = { a with fl := bits .andNot .i64 a.fl (flL.getD k 0) } ∧ onL.getD k 0 + 20 ≠ 38 ∧ onL.getD k 0 + 20 ≠ 48 := by
  intro k hk
  rcases (show k = 0 ∨ k = 1 ∨ k = 2 ∨ k = 3 ∨ k = 4 ∨ k = 5 by omega) with rfl | rfl | rfl | rfl | rfl | rfl <;> exact ⟨rfl, by decide, by decide⟩
theorem apply_one (a : At) (n : Int) (h1 : n ≠ 38) (h2 : n ≠ 48) : applyA a [n] = oneA a n := by
  unfold applyA
  rw [if_neg (by simp)]
  have := allA_plain a [n] [] (fun x hx => by simp at hx; rw [hx]; exact ⟨h1, h2⟩)
  rw [List.append_nil, allA_nil] at this
  exact this
theorem apply_12 (a : At) : applyA (applyA a [1, 2]) [22] = { a with fl := bits .andNot .i64 a.fl 3 } := by
  have h1 : applyA a [1, 2] = { a with fl := bits .or .i64 (bits .or .i64 a.fl 1) 2 } := by
    unfold applyA
    rw [if_neg (by simp)]
    have := allA_plain a [1, 2] [] (fun x hx => by simp at hx; rcases hx with rfl | rfl <;> decide)
    rw [List.append_nil, allA_nil] at this
    exact this
  rw [h1, apply_one _ 22 (by decide) (by decide), oneA_22 _ rfl]
  show ({ a with fl := bits .andNot .i64 (bits .or .i64 (bits .or .i64 a.fl 1) 2) 3 } : At) = _
  rw [not_or12]
end Go.Proofs.YtjfmebjjdiodbaaDoor
