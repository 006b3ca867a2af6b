/-
  Plain facts on places that go round.
-/
import Derived.Test.YtakeoabeaopamaaRnA
namespace Go.Proofs.Ytakeoabeaopamaa
open Go Go.RowKit

theorem slot_at {f n i : Nat} (hf : f < n) (hi : i ≤ n) : (f + i) % n = if f + i < n then f + i else f + i - n := by
  split
  · exact Nat.mod_eq_of_lt (by omega)
  · rw [Nat.mod_eq_sub_mod (by omega)]; exact Nat.mod_eq_of_lt (by omega)
/-- One put into the slot of the first one of a ring that is full. -/
theorem spot_out {f n : Nat} {xs l : List Value} (x : Value) (hx : xs.length = n) (hl : l.length = n) (hf : f < n) (h : ∀ i u, l[i]? = some u → xs[(f + i) % n]? = some u) :
    ∀ i u, (l ++ [x]).tail[i]? = some u → (xs.set f x)[((f + 1) % n + i) % n]? = some u := by
  intro i u hu
  rw [List.getElem?_tail] at hu
  have hi : i + 1 < (l ++ [x]).length := (List.getElem?_eq_some_iff.1 hu).1
  rw [List.length_append, List.length_singleton, hl] at hi
  have e : ((f + 1) % n + i) % n = (f + (i + 1)) % n := by rw [Nat.mod_add_mod]; congr 1; omega
  rw [e, List.getElem?_set]
  have hs := slot_at hf (i := i + 1) (by omega)
  by_cases h1 : i + 1 < n
  · rw [if_neg (by rw [hs]; split <;> omega)]
    rw [List.getElem?_append_left (by omega)] at hu
    exact h _ _ hu
  · have hin : i + 1 = n := by omega
    rw [if_pos (by rw [hs]; split <;> omega), if_pos (by omega)]
    rw [List.getElem?_append_right (by omega)] at hu
    rw [hl, hin, Nat.sub_self] at hu
    simpa using hu
/-- One put into a slot that is free. -/
theorem spot_in {f n : Nat} {xs l : List Value} (x : Value) (hx : xs.length = n) (hl : l.length < n) (hf : f < n) (h : ∀ i u, l[i]? = some u → xs[(f + i) % n]? = some u) :
    ∀ i u, (l ++ [x])[i]? = some u → (xs.set ((f + l.length) % n) x)[(f + i) % n]? = some u := by
  intro i u hu
  have hi : i < (l ++ [x]).length := (List.getElem?_eq_some_iff.1 hu).1
  rw [List.length_append, List.length_singleton] at hi
  have h1 := slot_at hf (i := i) (by omega)
  have h2 := slot_at hf (i := l.length) (by omega)
  rw [List.getElem?_set]
  by_cases h3 : i < l.length
  · rw [if_neg (by rw [h1, h2]; split <;> split <;> omega)]
    rw [List.getElem?_append_left h3] at hu
    exact h _ _ hu
  · obtain rfl : i = l.length := by omega
    rw [if_pos rfl, if_pos (by rw [h1]; split <;> omega)]
    rw [List.getElem?_append_right (Nat.le_refl _), Nat.sub_self] at hu
    simpa using hu
/-- One put behind all slots. -/
theorem spot_more {n : Nat} {xs l : List Value} (x : Value) (hx : xs.length = n) (hl : l.length = n) (h : ∀ i u, l[i]? = some u → xs[(0 + i) % n]? = some u) :
    ∀ i u, (l ++ [x])[i]? = some u → (xs ++ [x])[(0 + i) % (n + 1)]? = some u := by
  intro i u hu
  have hi : i < (l ++ [x]).length := (List.getElem?_eq_some_iff.1 hu).1
  rw [List.length_append, List.length_singleton] at hi
  rw [Nat.zero_add, Nat.mod_eq_of_lt (by omega)]
  by_cases h3 : i < l.length
  · rw [List.getElem?_append_left (by omega)]
    rw [List.getElem?_append_left h3] at hu
    have := h _ _ hu
    rwa [Nat.zero_add, Nat.mod_eq_of_lt (by omega)] at this
  · obtain rfl : i = l.length := by omega
    rw [List.getElem?_append_right (by omega)]
    rw [List.getElem?_append_right (Nat.le_refl _), Nat.sub_self] at hu
    rw [hx, hl, Nat.sub_self]
    exact hu
end Go.Proofs.Ytakeoabeaopamaa
