/-
  Parts of a slice of bytes: b[k:] and b[:k], wherever it lies.
-/
import Derived.Test.YtngaabnmhcncmaaProg
import Derived.Test.YtngaabnmhcncmaaMem
namespace Go.Proofs.Ytngaabnmhcncmaa
open Go Go.RowKit

theorem bytes_elem : Try.prog.underlying 22 = some (.slice (Try.prog.elem 22)) := by kernel_rfl
theorem bytes_size (w : World) : (sizeOf (Try.prog.elem 22)).run Try.prog w = .ok 1 w := by kernel_rfl

theorem Holds.from {w : World} {A : Option Addr} {n c : Nat} {l : List UInt8} (h : Holds w 1 A n (bvals l)) (hl : l.length = n) (hn : n ≤ c) (k : Nat) (hk : k ≤ n) :
    Holds w 1 (if c = k then A else A.map (·.add (k * 1))) (n - k) (bvals (l.drop k)) := by
  split
  · have e : n - k = 0 := by omega
    rw [e]
    have e2 : l.drop k = [] := List.drop_eq_nil_of_le (by omega)
    rw [e2]
    exact Holds.empty _ _ _
  · have := h.cut (f := k) (m := n - k) (by omega)
    have e : ((bvals l).drop (k * 1)).take ((n - k) * 1) = bvals (l.drop k) := by
      rw [Nat.mul_one, Nat.mul_one, bvals_drop]
      exact List.take_of_length_le (by rw [List.length_drop, bvals_length]; omega)
    rw [e] at this
    exact this

theorem Holds.upto {w : World} {A : Option Addr} {n : Nat} {l : List UInt8} (h : Holds w 1 A n (bvals l)) (k : Nat) (hk : k ≤ n) : Holds w 1 A k (bvals (l.take k)) := by
  have hl := h.1
  rw [bvals_length] at hl
  refine ⟨by rw [bvals_length, List.length_take]; omega, fun hp => ?_⟩
  obtain ⟨ad, e, hb, hc⟩ := h.2 (by omega)
  refine ⟨ad, e, hb, fun j u hu => hc j u ?_⟩
  rw [bvals_take, List.getElem?_take] at hu
  split at hu
  · exact hu
  · cases hu

/-- b[k:]. -/
theorem run_from {w : World} {A : Option Addr} {n c : Nat} {l : List UInt8} (h : Holds w 1 A n (bvals l)) (hl : l.length = n) (hn : n ≤ c) (k : Nat) (hk : k ≤ n) :
    ∃ A' c', (∀ w', (Instr.slice 22 (.slice A n c) (some (.int .i64 k)) none none).run Try.prog w' = .ok (.slice A' (n - k) c') w') ∧ Holds w 1 A' (n - k) (bvals (l.drop k)) ∧ n - k ≤ c' ∧
      (∀ ad', A' = some ad' → ∃ ad, A = some ad ∧ ad'.block = ad.block) := by
  refine ⟨_, c - k, fun w' => ?_, h.from hl hn k hk, by omega, fun ad' he => ?_⟩
  · rw [run_slice_l (w := w') 22 A n c bytes_elem .i64 k (by omega) (by omega), bytes_size]
    simp [sliced, Result.andThen]
  · split at he
    · exact ⟨ad', he, rfl⟩
    · obtain ⟨ad, h1, h2⟩ := Option.map_eq_some_iff.1 he
      exact ⟨ad, h1, by rw [← h2, add_block]⟩
/-- b[:k]. -/
theorem run_upto (A : Option Addr) (n c k : Nat) (hk : k ≤ c) (w : World) :
    (Instr.slice 22 (.slice A n c) none (some (.int .i64 k)) none).run Try.prog w = .ok (.slice A k c) w := by
  rw [run_slice_h (w := w) 22 A n c bytes_elem .i64 k (by omega) (by omega), bytes_size]
  cases A with
  | none => simp [sliced, Result.andThen]
  | some ad => by_cases hc : c = 0 <;> simp [sliced, Result.andThen, hc, Addr.add]
end Go.Proofs.Ytngaabnmhcncmaa
