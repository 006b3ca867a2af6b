/-
  'append(append([]byte{}, x...), y...)': a new row of bytes, and more behind it.
-/
import Derived.Test.YtglkfgpefpebmaaDoorMem
import Derived.Test.YtglkfgpefpebmaaDoorGrow
namespace Go.Proofs.YtglkfgpefpebmaaDoor
open Go Go.RowKit

/-- Onto the empty row that was made just now. -/
theorem list_fresh {ops : Array Oper} {rest : List Oper} {o : Oper} {a : Act} {Q : Exit → Act → World → Prop} (hgd : o.guard = none) (s x : Operand)
    (ho : o.op = .call { callee := .builtin .append, args := #[s, x], argTypes := #[22, 22] }) (w : World) {A : Option Addr} {n c : Nat} {l : List UInt8} (hl : l.length = n) (hb : Holds w 1 A n (bvals l)) (hn : n ≤ 140737488355328)
    (g : Nat) (hg : g = w.heap.size) (hs : a.eval s = .slice (some ⟨g, 0, none⟩) 0 0) (hx : a.eval x = .slice A n c)
    (h : ∀ A' c' w', w'.ownsRow w.heap.size 5 1 (.slice A' n c') n (bvals l) → Only [] w w' → wpList Tryd.prog ops Q rest (a.put o.dst (.slice A' n c')) w') :
    wpList Tryd.prog ops Q (o :: rest) a (w.alloc (.cells #[] 5)) := by
  subst hg
  obtain ⟨i0, hi0, hz0, hz1, hz2⟩ := info_of u8_info
  have hol : (w.alloc (.cells #[] 5)).ownsRow w.heap.size 5 1 (.slice (some ⟨w.heap.size, 0, none⟩) 0 0) 0 [] :=
    ⟨rfl, .inr ⟨w.heap.size, 0, #[], rfl, Nat.le_refl _, Has.new w _ _, Nat.le_refl _, by unfold maxLen; omega, rfl, rfl⟩⟩
  have oa : Only [] w (w.alloc (.cells #[] 5)) := (Only.refl [] w).alloc _
  refine list_append _ hgd s x 22 ho w.heap.size 1 1 Tryd.underlying22 hi0 hz0 hz1 hz2 rfl (Nat.zero_lt_one) hol hs (hb.keep oa (by simp)) hx (bvals_one l) (by omega) (Nat.zero_lt_one) oa.size fun A' c' w' h1 h2 _ => ?_
  rw [Nat.zero_add] at h1 ⊢
  exact h A' c' w' (by simpa using h1) (oa.grown h2 (fun k hk hlt => by injection hk with hk; subst hk; exact absurd hlt (Nat.lt_irrefl _)))

/-- Onto a row that was made since w0. -/
theorem list_more {ops : Array Oper} {rest : List Oper} {o : Oper} {a : Act} {Q : Exit → Act → World → Prop} (hgd : o.guard = none) (s x : Operand)
    (ho : o.op = .call { callee := .builtin .append, args := #[s, x], argTypes := #[22, 22] }) (w0 w : World) {A A1 : Option Addr} {n c n1 c1 : Nat} {l l1 : List UInt8} (_ : l.length = n) (hb : Holds w 1 A n (bvals l)) (hn : n1 + n ≤ 140737488355328)
    (hown : w.ownsRow w0.heap.size 5 1 (.slice A1 n1 c1) n1 (bvals l1)) (ho0 : Only [] w0 w) (hs : a.eval s = .slice A1 n1 c1) (hx : a.eval x = .slice A n c)
    (h : ∀ A' c' w', w'.ownsRow w0.heap.size 5 1 (.slice A' (n1 + n) c') (n1 + n) (bvals (l1 ++ l)) → Only [] w0 w' → wpList Tryd.prog ops Q rest (a.put o.dst (.slice A' (n1 + n) c')) w') :
    wpList Tryd.prog ops Q (o :: rest) a w := by
  obtain ⟨i0, hi0, hz0, hz1, hz2⟩ := info_of u8_info
  refine list_append _ hgd s x 22 ho w0.heap.size 1 1 Tryd.underlying22 hi0 hz0 hz1 hz2 rfl (Nat.zero_lt_one) hown hs hb hx (bvals_one l) (by omega) (Nat.zero_lt_one) ho0.size fun A' c' w' h1 h2 _ => ?_
  exact h A' c' w' (by rw [bvals_append]; exact h1) (ho0.grown h2 (fun k hk hlt => by have := (hown.lt k hk).1; omega))
end Go.Proofs.YtglkfgpefpebmaaDoor
