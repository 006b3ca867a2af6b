/-
  The document's ring: New, Push, Pop.
-/
import Derived.Test.YtakeoabeaopamaaRnL
import Derived.Test.YtakeoabeaopamaaCutI
import Derived.Deep.DeepCutAuto
namespace Go.Proofs.Ytakeoabeaopamaa
open Go Go.RowKit

/-- Onto the empty row that was made just now. -/
theorem list_ifresh {ops : Array Oper} {rest : List Oper} {o : Oper} {a : Act} {Q : Exit → Act → World → Prop} (hgd : o.guard = none) (s x : Operand)
    (ho : o.op = .call { callee := .builtin .append, args := #[s, x], argTypes := #[37, 37] }) (w : World) {A : Option Addr} {n c : Nat} {l : List Int} (hb : Holds w 1 A n (ivals l)) (hn : n * 8 ≤ 140737488355328)
    (g : Nat) (hg : g = w.heap.size) (hs : a.eval s = .slice (some ⟨g, 0, none⟩) 0 0) (hx : a.eval x = .slice A n c)
    (h : ∀ A' c' w', w'.ownsRow w.heap.size 3 1 (.slice A' n c') n (ivals l) → Only [] w w' → wpList Try.prog ops Q rest (a.put o.dst (.slice A' n c')) w') :
    wpList Try.prog ops Q (o :: rest) a (w.alloc (.cells #[] 3)) := by
  subst hg
  obtain ⟨i0, hi0, hz0, hz1, hz2⟩ := info_of int_info
  have hol : (w.alloc (.cells #[] 3)).ownsRow w.heap.size 3 1 (.slice (some ⟨w.heap.size, 0, none⟩) 0 0) 0 [] :=
    ⟨rfl, .inr ⟨w.heap.size, 0, #[], rfl, Nat.le_refl _, Has.new w _ _, Nat.le_refl _, by unfold maxLen; omega, rfl, rfl⟩⟩
  have oa : Only [] w (w.alloc (.cells #[] 3)) := (Only.refl [] w).alloc _
  refine list_append _ hgd s x 37 ho w.heap.size 1 8 Try.underlying37 hi0 hz0 hz1 hz2 rfl (Nat.zero_lt_one) hol hs (hb.keep oa (by simp)) hx (ivals_one l) (by omega) (by decide) oa.size fun A' c' w' h1 h2 _ => ?_
  rw [Nat.zero_add] at h1 ⊢
  exact h A' c' w' (by simpa using h1) (oa.grown h2 (fun k hk hlt => by injection hk with hk; subst hk; exact absurd hlt (Nat.lt_irrefl _)))

/-- The document's ring in its box h. -/
structure Rf (w : World) (B h M n c : Nat) (A : Option Addr) (L : List Int) (k : Nat) : Prop where
  box : Has w h 50 #[.int .i64 M, .slice A n c, .int .i64 k]
  own : w.ownsRow B 3 1 (.slice A n c) n (ivals L)
  base : B ≤ h
  few : n ≤ 65536
def RfV (w : World) (B h M : Nat) (v : Value) (L : List Int) (k : Nat) : Prop := ∃ n c A, v = .slice A n c ∧ Rf w B h M n c A L k
theorem Rf.len {w : World} {B h M n c k : Nat} {A : Option Addr} {L : List Int} (R : Rf w B h M n c A L k) : L.length = n := by have := R.own.1; rw [ivals_len'] at this; omega

theorem Rf.only {w w' : World} {B h M n c k : Nat} {A : Option Addr} {L : List Int} {S : List Nat} (R : Rf w B h M n c A L k) (ho : Only S w w') (hh : h ∉ S) (hS : ∀ b, (Value.slice A n c).ownBlock = some b → b ∉ S) : Rf w' B h M n c A L k :=
  ⟨R.box.only ho hh, own_keep R.own ho hS, R.base, R.few⟩
theorem RfV.only {w w' : World} {B h M k : Nat} {v : Value} {L : List Int} {S : List Nat} (R : RfV w B h M v L k) (ho : Only S w w') (hh : h ∉ S) (hS : ∀ b, v.ownBlock = some b → b ∉ S) : RfV w' B h M v L k := by
  obtain ⟨n, c, A, rfl, R⟩ := R
  exact ⟨n, c, A, rfl, R.only ho hh hS⟩
theorem RfV.has {w : World} {B h M k : Nat} {v : Value} {L : List Int} (R : RfV w B h M v L k) : h < w.heap.size ∧ B ≤ h ∧ ∀ b, v.ownBlock = some b → B ≤ b ∧ b ≠ h ∧ b < w.heap.size := by
  obtain ⟨n, c, A, rfl, R⟩ := R
  exact ⟨R.box.lt, R.base, fun b hb => ⟨(own_lt R.own hb).2, fun e => own_ne R.own R.box (by decide) (by rw [hb, e]), (own_lt R.own hb).1⟩⟩

set_option maxHeartbeats 4000000 in
theorem rnew_v (M : Nat) (hM : M ≤ 65536) (w : World) :
    Calls Try.prog 8 #[.int .i64 M] w fun e w' => e = .returned (.tuple #[.pointer (some ⟨w.heap.size, 0, none⟩), .int .i64 0]) ∧ RfV w' w.heap.size w.heap.size M (.slice none 0 0) [] 0 ∧ Only [] w w' := by
  have k1 : ¬ (M : Int) < 0 := by omega
  have k2 : ¬ (M : Int) > 65536 := by omega
  go_enter Try.func8, Try.ntmps8
  go_wp2_with fail
  go_ret2
  exact ⟨rfl, ⟨0, 0, none, rfl, ⟨Has.new w _ _, ⟨rfl, .inl ⟨rfl, rfl⟩⟩, Nat.le_refl _, Nat.zero_le _⟩⟩, (Only.refl _ _).alloc _⟩
end Go.Proofs.Ytakeoabeaopamaa
