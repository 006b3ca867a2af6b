/-
  Package ring: a ring that a law's loop pushes into; whole things of a law's loops.
-/
import Derived.Test.YtakeoabeaopamaaRnK
namespace Go.Proofs.Ytakeoabeaopamaa
open Go Go.RowKit

theorem RgV_ri.has {w : World} {B g M k : Nat} {v : Value} {l : List Value} (h : RgV_ri w B g M v l k) : g < w.heap.size ∧ B ≤ g ∧ ∀ b, v.ownBlock = some b → B ≤ b ∧ b ≠ g := by
  obtain ⟨n, c, A, f, xs, rfl, h⟩ := h
  exact ⟨h.box.lt, h.base, fun b hb => ⟨(own_lt h.own hb).2, fun e => own_ne h.own h.box (by decide) (by rw [hb, e])⟩⟩
/-- What a ring of the call's own changes is the call's own. -/
theorem RgV_ri.after {w wr w' : World} {B g M k : Nat} {v v' : Value} {l : List Value} (h : RgV_ri wr B g M v l k) (hT : Tn [g] wr v w' v') (ho : Only [] w wr) (hB : w.heap.size ≤ B) : Only [] w w' :=
  ho.trans hT.only (fun i hi hlt => by
    obtain ⟨_, hg, hv⟩ := h.has
    rcases List.mem_append.1 hi with hi | hi
    · simp at hi; omega
    · cases hv' : v.ownBlock with
      | none => rw [hv'] at hi; simp at hi
      | some j => rw [hv'] at hi; simp at hi; have := (hv j hv').1; omega)
theorem at_v {w : World} {B g M k : Nat} {v : Value} {l : List Value} (h : RgV_ri w B g M v l k) (i : Nat) (u : Value) (hi : l[i]? = some u) :
    Calls Try.prog 17 #[.pointer (some ⟨g, 0, none⟩), .int .i64 i] w fun e w' => e = .returned (.tuple #[u, .bool true]) ∧ Only [] w w' := by
  obtain ⟨n, c, A, f, xs, rfl, h⟩ := h
  exact at_ri h i u hi
theorem none_v {w : World} {B g M k : Nat} {v : Value} {l : List Value} (h : RgV_ri w B g M v l k) (i : Int) (hi : i < 0 ∨ (l.length : Int) ≤ i) :
    Calls Try.prog 17 #[.pointer (some ⟨g, 0, none⟩), .int .i64 i] w fun e w' => e = .returned (.tuple #[(.int .i64 0 : Value), .bool false]) ∧ Only [] w w' := by
  obtain ⟨n, c, A, f, xs, rfl, h⟩ := h
  exact none_ri h i hi
theorem len_v {w : World} {B g M k : Nat} {v : Value} {l : List Value} (h : RgV_ri w B g M v l k) :
    Calls Try.prog 16 #[.pointer (some ⟨g, 0, none⟩)] w fun e w' => e = .returned (.int .i64 (l.length : Nat)) ∧ Only [] w w' := by
  obtain ⟨n, c, A, f, xs, rfl, h⟩ := h
  exact len_ri h
theorem gone_v {w : World} {B g M k : Nat} {v : Value} {l : List Value} (h : RgV_ri w B g M v l k) :
    Calls Try.prog 18 #[.pointer (some ⟨g, 0, none⟩)] w fun e w' => e = .returned (.int .i64 (k : Nat)) ∧ Only [] w w' := by
  obtain ⟨n, c, A, f, xs, rfl, h⟩ := h
  exact gone_ri h
theorem new_v (M : Nat) (hM : M ≤ 65536) (w : World) :
    Calls Try.prog 7 #[.int .i64 M] w fun e w' => ∃ v, e = .returned (.tuple #[.pointer (some ⟨w.heap.size, 0, none⟩), .int .i64 0]) ∧ RgV_ri w' w.heap.size w.heap.size M v [] 0 ∧ Only [] w w' :=
  (new_ri M hM w).mono fun _ _ ⟨he, hR, ho⟩ => ⟨_, he, ⟨_, _, _, _, _, rfl, hR⟩, ho⟩

/-- What is there of a row whose first i have been pushed. -/
def lastV (V : List Value) (M i : Nat) : List Value := (V.take i).drop (i - M)
theorem lastV_len (V : List Value) (M i : Nat) (hi : i ≤ V.length) : (lastV V M i).length = min i M := by unfold lastV; rw [List.length_drop, List.length_take]; omega
theorem lastV_room {V : List Value} {M i : Nat} {u : Value} (hu : V[i]? = some u) (hM : i < M) : lastV V M i ++ [u] = lastV V M (i + 1) := by
  unfold lastV
  rw [show i - M = 0 by omega, show i + 1 - M = 0 by omega, List.drop_zero, List.drop_zero, List.take_add_one, hu]
  rfl
theorem lastV_snoc {V : List Value} {M i : Nat} {u : Value} (hu : V[i]? = some u) : lastV V M i ++ [u] = (V.take (i + 1)).drop (i - M) := by
  have hi : i < V.length := (List.getElem?_eq_some_iff.1 hu).1
  unfold lastV
  rw [List.take_add_one, hu, Option.toList_some, List.drop_append_of_le_length]
  rw [List.length_take]; omega
theorem lastV_out {V : List Value} {M i : Nat} {u : Value} (hu : V[i]? = some u) (hM : M ≤ i) : (lastV V M i ++ [u]).tail = lastV V M (i + 1) := by
  rw [lastV_snoc hu, List.tail_drop]
  unfold lastV
  rw [show i + 1 - M = i - M + 1 by omega]
theorem lastV_head {V : List Value} {M i : Nat} {u : Value} (hu : V[i]? = some u) (hM : M ≤ i) : (lastV V M i ++ [u])[0]? = V[i - M]? := by
  rw [lastV_snoc hu, List.getElem?_drop, List.getElem?_take, if_pos (by omega), Nat.add_zero]
theorem lastV_at {V : List Value} {M j : Nat} (hj : j < min V.length M) : (lastV V M V.length)[j]? = V[V.length - M + j]? := by
  unfold lastV
  rw [List.getElem?_drop, List.getElem?_take, if_pos (by omega)]
theorem ivals_some {L : List Int} {i : Nat} (h : i < L.length) : (ivals L)[i]? = some (.int .i64 L[i]) := by simp [ivals, h]
theorem ivals_len' (L : List Int) : (ivals L).length = L.length := by simp [ivals]
end Go.Proofs.Ytakeoabeaopamaa
