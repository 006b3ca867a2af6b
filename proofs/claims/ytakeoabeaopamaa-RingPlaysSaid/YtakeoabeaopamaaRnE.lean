/-
  Package ring, of numbers: Push, whatever there is.
-/
import Derived.Test.YtakeoabeaopamaaRnD
namespace Go.Proofs.Ytakeoabeaopamaa
open Go Go.RowKit

/-- A ring in a box, whatever its slots are. -/
def RgV_ri (w : World) (B g M : Nat) (v : Value) (l : List Value) (k : Nat) : Prop :=
  ∃ n c A f xs, v = .slice A n c ∧ Rg 48 3 w B g M n c A f xs l k

theorem push_room_ri {w : World} {B g M k : Nat} {v : Value} {l : List Value} (h : RgV_ri w B g M v l k) (x : Int) (hl : l.length < M) :
    Calls Try.prog 9 #[.pointer (some ⟨g, 0, none⟩), (Value.int .i64 x)] w fun e w' => ∃ v', e = .returned (.tuple #[(.int .i64 0 : Value), .bool false]) ∧ RgV_ri w' B g M v' (l ++ [(Value.int .i64 x)]) k ∧ Tn [g] w v w' v' := by
  obtain ⟨n, c, A, f, xs, rfl, h⟩ := h
  by_cases hn : l.length < n
  · exact (push_ri2 h x hn).mono fun e w' ⟨he, hR, hT⟩ => ⟨_, he, ⟨_, _, _, _, _, rfl, hR⟩, hT⟩
  · obtain rfl : l.length = n := by have := h.cnt; omega
    exact (push_ri3 h x hl).mono fun e w' ⟨c', A', he, hR, hT⟩ => ⟨_, he, ⟨_, _, _, _, _, rfl, hR⟩, hT⟩

theorem push_out_ri {w : World} {B g M k : Nat} {v : Value} {l : List Value} (h : RgV_ri w B g M v l k) (x : Int) (y : Value) (hl : ¬ l.length < M) (hy : (l ++ [(Value.int .i64 x)])[0]? = some y) (hk : k ≤ 1000000) :
    Calls Try.prog 9 #[.pointer (some ⟨g, 0, none⟩), (Value.int .i64 x)] w fun e w' => ∃ v', e = .returned (.tuple #[y, .bool true]) ∧ RgV_ri w' B g M v' (l ++ [(Value.int .i64 x)]).tail (k + 1) ∧ Tn [g] w v w' v' := by
  obtain ⟨n, c, A, f, xs, rfl, h⟩ := h
  have hlM : l.length = M := by have := h.cnt; have := h.most; omega
  rcases Nat.eq_zero_or_pos M with h0 | h0
  · subst h0
    obtain rfl : l = [] := List.eq_nil_of_length_eq_zero hlM
    obtain rfl : (Value.int .i64 x) = y := by simpa using hy
    exact (push_ri0 h x hk).mono fun e w' ⟨he, hR, hT⟩ => ⟨_, he, ⟨_, _, _, _, _, rfl, hR⟩, hT⟩
  · have hy' : l[0]? = some y := by rwa [List.getElem?_append_left (by omega)] at hy
    exact (push_ri1 h x y hlM h0 hy' hk).mono fun e w' ⟨he, hR, hT⟩ => ⟨_, he, ⟨_, _, _, _, _, rfl, hR⟩, hT⟩

theorem RgV_ri.only {w w' : World} {B g M k : Nat} {v : Value} {l : List Value} (h : RgV_ri w B g M v l k) (ho : Only [] w w') : RgV_ri w' B g M v l k := by
  obtain ⟨n, c, A, f, xs, rfl, h⟩ := h
  exact ⟨n, c, A, f, xs, rfl, h.only ho (by simp) (by simp)⟩
theorem RgV_ri.len {w : World} {B g M k : Nat} {v : Value} {l : List Value} (h : RgV_ri w B g M v l k) : l.length ≤ M ∧ M ≤ 65536 := by
  obtain ⟨n, c, A, f, xs, rfl, h⟩ := h
  exact ⟨Nat.le_trans h.cnt h.most, h.top⟩
end Go.Proofs.Ytakeoabeaopamaa
