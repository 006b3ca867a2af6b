/-
  Parts of a slice of ints: l[k:] and b[:k], wherever it lies.
-/
import Derived.Test.YtakeoabeaopamaaProg
import Derived.Test.YtakeoabeaopamaaMem
namespace Go.Proofs.Ytakeoabeaopamaa
open Go Go.RowKit

@[simp] theorem ivals_length (l : List Int) : (ivals l).length = l.length := by simp [ivals]
theorem ivals_drop (l : List Int) (k : Nat) : ivals (l.drop k) = (ivals l).drop k := by simp [ivals]
theorem ivals_take (l : List Int) (k : Nat) : ivals (l.take k) = (ivals l).take k := by simp [ivals]
theorem ivals_append (l m : List Int) : ivals (l ++ m) = ivals l ++ ivals m := by simp [ivals]
theorem ivals_one (l : List Int) : ∀ u ∈ ivals l, u.oneCell' = true := by
  intro u hu
  simp only [ivals, List.mem_map] at hu
  obtain ⟨z, _, rfl⟩ := hu
  rfl

theorem ints_elem : Try.prog.underlying 37 = some (.slice (Try.prog.elem 37)) := by kernel_rfl
theorem ints_size (w : World) : (sizeOf (Try.prog.elem 37)).run Try.prog w = .ok 1 w := by kernel_rfl

theorem Holds.ifrom {w : World} {A : Option Addr} {n c : Nat} {l : List Int} (h : Holds w 1 A n (ivals l)) (hl : l.length = n) (hn : n ≤ c) (k : Nat) (hk : k ≤ n) :
    Holds w 1 (if c = k then A else A.map (·.add (k * 1))) (n - k) (ivals (l.drop k)) := by
  split
  · have e : n - k = 0 := by omega
    rw [e]
    have e2 : l.drop k = [] := List.drop_eq_nil_of_le (by omega)
    rw [e2]
    exact Holds.empty _ _ _
  · have := h.cut (f := k) (m := n - k) (by omega)
    have e : ((ivals l).drop (k * 1)).take ((n - k) * 1) = ivals (l.drop k) := by
      rw [Nat.mul_one, Nat.mul_one, ivals_drop]
      exact List.take_of_length_le (by rw [List.length_drop, ivals_length]; omega)
    rw [e] at this
    exact this

theorem Holds.iupto {w : World} {A : Option Addr} {n : Nat} {l : List Int} (h : Holds w 1 A n (ivals l)) (k : Nat) (hk : k ≤ n) : Holds w 1 A k (ivals (l.take k)) := by
  have hl := h.1
  rw [ivals_length] at hl
  refine ⟨by rw [ivals_length, List.length_take]; omega, fun hp => ?_⟩
  obtain ⟨ad, e, hb, hc⟩ := h.2 (by omega)
  refine ⟨ad, e, hb, fun j u hu => hc j u ?_⟩
  rw [ivals_take, List.getElem?_take] at hu
  split at hu
  · exact hu
  · cases hu

/-- b[k:]. -/
theorem run_ifrom {w : World} {A : Option Addr} {n c : Nat} {l : List Int} (h : Holds w 1 A n (ivals l)) (hl : l.length = n) (hn : n ≤ c) (k : Nat) (hk : k ≤ n) :
    ∃ A' c', (∀ w', (Instr.slice 37 (.slice A n c) (some (.int .i64 k)) none none).run Try.prog w' = .ok (.slice A' (n - k) c') w') ∧ Holds w 1 A' (n - k) (ivals (l.drop k)) ∧ n - k ≤ c' ∧
      (∀ ad', A' = some ad' → ∃ ad, A = some ad ∧ ad'.block = ad.block) := by
  refine ⟨_, c - k, fun w' => ?_, h.ifrom hl hn k hk, by omega, fun ad' he => ?_⟩
  · rw [run_slice_l (w := w') 37 A n c ints_elem .i64 k (by omega) (by omega), ints_size]
    simp [sliced, Result.andThen]
  · split at he
    · exact ⟨ad', he, rfl⟩
    · obtain ⟨ad, h1, h2⟩ := Option.map_eq_some_iff.1 he
      exact ⟨ad, h1, by rw [← h2, add_block]⟩
/-- b[:k]. -/
theorem run_iupto (A : Option Addr) (n c k : Nat) (hk : k ≤ c) (w : World) :
    (Instr.slice 37 (.slice A n c) none (some (.int .i64 k)) none).run Try.prog w = .ok (.slice A k c) w := by
  rw [run_slice_h (w := w) 37 A n c ints_elem .i64 k (by omega) (by omega), ints_size]
  cases A with
  | none => simp [sliced, Result.andThen]
  | some ad => by_cases hc : c = 0 <;> simp [sliced, Result.andThen, hc, Addr.add]
end Go.Proofs.Ytakeoabeaopamaa
