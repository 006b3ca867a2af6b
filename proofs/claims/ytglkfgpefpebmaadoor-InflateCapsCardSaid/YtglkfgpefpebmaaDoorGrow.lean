/-
  What grows: a row of bytes of the call's own, and which blocks may have changed.
-/
import Derived.Test.YtglkfgpefpebmaaDoorProg
import Derived.Test.YtglkfgpefpebmaaDoorMem
import Derived.Test.YtglkfgpefpebmaaDoorClone
namespace Go.Proofs.YtglkfgpefpebmaaDoor
open Go Go.RowKit

/-- From w to w' only the blocks of S and v's own may have changed; v' is at v's block or at a new one. -/
structure Since (S : List Nat) (w : World) (v : Value) (w' : World) (v' : Value) : Prop where
  only : Only (S ++ v.ownBlock.toList) w w'
  own : ∀ b, v'.ownBlock = some b → v.ownBlock = some b ∨ w.heap.size ≤ b
namespace Since
variable {S : List Nat} {w w' w'' : World} {v v' v'' : Value}
theorem refl (S : List Nat) (w : World) (v : Value) : Since S w v w v := ⟨Only.refl _ _, fun _ h => .inl h⟩
theorem trans {T : List Nat} (h : Since S w v w' v') (k : Since T w' v' w'' v'') (hT : ∀ i, i ∈ T → i < w.heap.size → i ∈ S) : Since S w v w'' v'' := by
  refine ⟨h.only.trans k.only ?_, fun b hb => ?_⟩
  · intro i hi hlt
    rcases List.mem_append.1 hi with hi | hi
    · exact List.mem_append.2 (.inl (hT i hi hlt))
    · have hv : v'.ownBlock = some i := by cases hv : v'.ownBlock with
        | none => rw [hv] at hi; simp at hi
        | some j => rw [hv] at hi; simp at hi; rw [hi]
      rcases h.own i hv with h1 | h1
      · rw [h1]; simp
      · omega
  · rcases k.own b hb with h1 | h1
    · exact h.own b h1
    · exact .inr (Nat.le_trans h.only.size h1)
theorem step (h : Since S w v w' v') (ho : Only S w' w'') : Since S w v w'' v' :=
  h.trans (T := S) ⟨ho.weak (fun _ hk _ => List.mem_append.2 (.inl hk)), fun _ h => .inl h⟩ (fun _ h _ => h)
/-- The new row's world, by what append says. -/
theorem grown {o : Obj} (h : Since S w v w' v') (hg : (w'.alloc o).grownBy w'' v'.ownBlock) (hat : v''.ownBlock = v'.ownBlock ∨ v''.ownBlock = some (w'.alloc o).heap.size) : Since S w v w'' v'' := by
  refine h.trans (T := []) ⟨(((Only.refl _ w').alloc o).grown hg (fun _ hk _ => by simp [hk])), fun b hb => ?_⟩ (by simp)
  rcases hat with h | h
  · rw [h] at hb; exact .inl hb
  · rw [h] at hb; injection hb with hb; subst hb; right; simp
theorem grown0 (h : Since S w v w' v') (hg : w'.grownBy w'' v'.ownBlock) (hat : v''.ownBlock = v'.ownBlock ∨ v''.ownBlock = some w'.heap.size) : Since S w v w'' v'' := by
  refine h.trans (T := []) ⟨((Only.refl _ w').grown hg (fun _ hk _ => by simp [hk])), fun b hb => ?_⟩ (by simp)
  rcases hat with h | h
  · rw [h] at hb; exact .inl hb
  · rw [h] at hb; injection hb with hb; subst hb; right; simp
end Since


/-- 'append(s, b)' of one byte: the new row, what may have changed. -/
structure Pushed (wr : World) (B : Nat) (v : Value) (q : List UInt8) (b : UInt8) (w' : World) (v' : Value) : Prop where
  own : w'.ownsRow B 5 1 v' (q.length + 1) (bvals (q ++ [b]))
  since : ∀ S w0 v0, Since S w0 v0 wr v → Since S w0 v0 w' v'
  only : Only v.ownBlock.toList wr w'
theorem Pushed.has {wr w' : World} {B g : Nat} {v v' : Value} {q : List UInt8} {b : UInt8} {t : TypeId} {cs : Array Value} (h : Pushed wr B v q b w' v') (hg : Has wr g t cs) (hn : some g ≠ v.ownBlock) : Has w' g t cs :=
  hg.only h.only (fun hm => hn (by cases hv : v.ownBlock with
    | none => rw [hv] at hm; simp at hm
    | some k => rw [hv] at hm; simp at hm; rw [hm]))

theorem push_made {w w' : World} {A1 A2 : Option Addr} {n cc1 c2 B : Nat} {q : List UInt8} {b : UInt8} (hq : q.length = n)
    (hown : w'.ownsRow B 5 1 (.slice A2 (n + 1) c2) (n + 1) (bvals q ++ [.int .u8 (b.toNat : Int)])) {o : Obj} (hg : (w.alloc o).grownBy w' (Value.slice A1 n cc1).ownBlock)
    (hat : (Value.slice A2 (n + 1) c2).ownBlock = (Value.slice A1 n cc1).ownBlock ∨ (Value.slice A2 (n + 1) c2).ownBlock = some (w.alloc o).heap.size) :
    Pushed w B (.slice A1 n cc1) q b w' (.slice A2 (n + 1) c2) := by
  subst hq
  refine ⟨?_, fun S w0 v0 h => h.grown hg hat, ((Only.refl _ w).alloc o).grown hg (fun _ hk _ => by simp [hk])⟩
  rw [bvals_append]
  exact hown

/-- In a plain region's list. -/
theorem list_push {ops : Array Oper} {rest : List Oper} {o : Oper} {a : Act} {Q : Exit → Act → World → Prop} (hgd : o.guard = none) (s x : Operand)
    (ho : o.op = .call { callee := .builtin .append, args := #[s, x], argTypes := #[22, 22] }) (wr : World) {B : Nat} (hB : B ≤ wr.heap.size) {A1 : Option Addr} {n cc1 : Nat} {q : List UInt8} (b : UInt8) (hq : q.length = n)
    (hown : wr.ownsRow B 5 1 (.slice A1 n cc1) n (bvals q)) (hn : n + 1 ≤ 140737488355328) (g : Nat) (hg : g = wr.heap.size) (hs : a.eval s = .slice A1 n cc1) (hx : a.eval x = .slice (some ⟨g, 0, none⟩) 1 1)
    (h : ∀ A2 c2 w', Pushed wr B (.slice A1 n cc1) q b w' (.slice A2 (n + 1) c2) → wpList Tryd.prog ops Q rest (a.put o.dst (.slice A2 (n + 1) c2)) w') :
    wpList Tryd.prog ops Q (o :: rest) a (wr.alloc (.cells #[.int .u8 (b.toNat : Int)] 5)) := by
  subst hg
  obtain ⟨i0, hi0, hz0, hz1, hz2⟩ := info_of u8_info
  exact list_append _ hgd s x 22 ho B 1 1 Tryd.underlying22 hi0 hz0 hz1 hz2 rfl (Nat.zero_lt_one) (hown.alloc _) hs (Holds.lit wr #[.int .u8 (b.toNat : Int)] 5) hx (by simp [Value.oneCell']) (by simpa using hn) (Nat.zero_lt_one) (by simp; omega)
    fun A' c' w' h1 h2 h3 => h A' c' w' (push_made hq h1 h2 h3)
/-- At a step of a region that draws its order. -/
theorem step_push {ops : Array Oper} {o : Oper} {a : Act} {K : Act → World → Prop} {Q : Exit → Act → World → Prop} {E : Prop} (hgd : o.guard = none) (s x : Operand)
    (ho : o.op = .call { callee := .builtin .append, args := #[s, x], argTypes := #[22, 22] }) (wr : World) {B : Nat} (hB : B ≤ wr.heap.size) {A1 : Option Addr} {n cc1 : Nat} {q : List UInt8} (b : UInt8) (hq : q.length = n)
    (hown : wr.ownsRow B 5 1 (.slice A1 n cc1) n (bvals q)) (hn : n + 1 ≤ 140737488355328) (g : Nat) (hg : g = wr.heap.size) (hs : a.eval s = .slice A1 n cc1) (hx : a.eval x = .slice (some ⟨g, 0, none⟩) 1 1)
    (h : ∀ A2 c2 w', Pushed wr B (.slice A1 n cc1) q b w' (.slice A2 (n + 1) c2) → K (a.put o.dst (.slice A2 (n + 1) c2)) w') :
    if Region.wanted o (yielded ops a.tmps) = true then Oper.wp Tryd.prog o a (wr.alloc (.cells #[.int .u8 (b.toNat : Int)] 5)).drew K Q else E := by
  subst hg
  obtain ⟨i0, hi0, hz0, hz1, hz2⟩ := info_of u8_info
  exact step_append _ hgd s x 22 ho B 1 1 Tryd.underlying22 hi0 hz0 hz1 hz2 rfl (Nat.zero_lt_one) (hown.alloc _) hs (Holds.lit wr #[.int .u8 (b.toNat : Int)] 5) hx (by simp [Value.oneCell']) (by simpa using hn) (Nat.zero_lt_one) (by simp; omega)
    fun A' c' w' h1 h2 h3 => h A' c' w' (push_made hq h1 (o := .cells #[.int .u8 (b.toNat : Int)] 5) ⟨h2.os, h2.tape, h2.output, h2.size, h2.block⟩ h3)
end Go.Proofs.YtglkfgpefpebmaaDoor
