/-
  Package ring, of texts: Push, whatever there is.
-/
import Derived.Test.YtakeoabeaopamaaRnDS
namespace Go.Proofs.Ytakeoabeaopamaa
open Go Go.RowKit

/-- A ring in a box, whatever its slots are. -/
def RgV_rs (w : World) (B g M : Nat) (v : Value) (l : List Value) (k : Nat) : Prop :=
  ∃ n c A f xs, v = .slice A n c ∧ Rg 57 9 w B g M n c A f xs l k

theorem push_room_rs {w : World} {B g M k : Nat} {v : Value} {l : List Value} (h : RgV_rs w B g M v l k) (x : ByteArray) (hl : l.length < M) :
    Calls Try.prog 20 #[.pointer (some ⟨g, 0, none⟩), (Value.string x)] w fun e w' => ∃ v', e = .returned (.tuple #[(.string ByteArray.empty : Value), .bool false]) ∧ RgV_rs w' B g M v' (l ++ [(Value.string x)]) k ∧ Tn [g] w v w' v' := by
  obtain ⟨n, c, A, f, xs, rfl, h⟩ := h
  by_cases hn : l.length < n
  · exact (push_rs2 h x hn).mono fun e w' ⟨he, hR, hT⟩ => ⟨_, he, ⟨_, _, _, _, _, rfl, hR⟩, hT⟩
  · obtain rfl : l.length = n := by have := h.cnt; omega
    exact (push_rs3 h x hl).mono fun e w' ⟨c', A', he, hR, hT⟩ => ⟨_, he, ⟨_, _, _, _, _, rfl, hR⟩, hT⟩

theorem push_out_rs {w : World} {B g M k : Nat} {v : Value} {l : List Value} (h : RgV_rs w B g M v l k) (x : ByteArray) (y : Value) (hl : ¬ l.length < M) (hy : (l ++ [(Value.string x)])[0]? = some y) (hk : k ≤ 1000000) :
    Calls Try.prog 20 #[.pointer (some ⟨g, 0, none⟩), (Value.string x)] w fun e w' => ∃ v', e = .returned (.tuple #[y, .bool true]) ∧ RgV_rs w' B g M v' (l ++ [(Value.string x)]).tail (k + 1) ∧ Tn [g] w v w' v' := by
  obtain ⟨n, c, A, f, xs, rfl, h⟩ := h
  have hlM : l.length = M := by have := h.cnt; have := h.most; omega
  rcases Nat.eq_zero_or_pos M with h0 | h0
  · subst h0
    obtain rfl : l = [] := List.eq_nil_of_length_eq_zero hlM
    obtain rfl : (Value.string x) = y := by simpa using hy
    exact (push_rs0 h x hk).mono fun e w' ⟨he, hR, hT⟩ => ⟨_, he, ⟨_, _, _, _, _, rfl, hR⟩, hT⟩
  · have hy' : l[0]? = some y := by rwa [List.getElem?_append_left (by omega)] at hy
    exact (push_rs1 h x y hlM h0 hy' hk).mono fun e w' ⟨he, hR, hT⟩ => ⟨_, he, ⟨_, _, _, _, _, rfl, hR⟩, hT⟩

theorem RgV_rs.only {w w' : World} {B g M k : Nat} {v : Value} {l : List Value} (h : RgV_rs w B g M v l k) (ho : Only [] w w') : RgV_rs w' B g M v l k := by
  obtain ⟨n, c, A, f, xs, rfl, h⟩ := h
  exact ⟨n, c, A, f, xs, rfl, h.only ho (by simp) (by simp)⟩
theorem RgV_rs.len {w : World} {B g M k : Nat} {v : Value} {l : List Value} (h : RgV_rs w B g M v l k) : l.length ≤ M ∧ M ≤ 65536 := by
  obtain ⟨n, c, A, f, xs, rfl, h⟩ := h
  exact ⟨Nat.le_trans h.cnt h.most, h.top⟩
end Go.Proofs.Ytakeoabeaopamaa
