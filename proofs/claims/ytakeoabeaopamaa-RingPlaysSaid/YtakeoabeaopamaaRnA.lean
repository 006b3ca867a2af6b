/-
  Package ring: where a ring's things stand; what may have changed beside it.
-/
import Derived.Test.YtakeoabeaopamaaProg
import Derived.Test.YtakeoabeaopamaaMem
namespace Go.Proofs.Ytakeoabeaopamaa
open Go Go.RowKit

/-- From w to w' only the blocks of S and v's own may have changed; v' is at v's block or at a new one. -/
structure Tn (S : List Nat) (w : World) (v : Value) (w' : World) (v' : Value) : Prop where
  only : Only (S ++ v.ownBlock.toList) w w'
  own : ∀ b, v'.ownBlock = some b → v.ownBlock = some b ∨ w.heap.size ≤ b
namespace Tn
variable {S : List Nat} {w w' w'' : World} {v v' v'' : Value}
theorem refl (S : List Nat) (w : World) (v : Value) : Tn S w v w v := ⟨Only.refl _ _, fun _ h => .inl h⟩
theorem trans {T : List Nat} (h : Tn S w v w' v') (k : Tn T w' v' w'' v'') (hT : ∀ i, i ∈ T → i < w.heap.size → i ∈ S) : Tn S w v w'' v'' := by
  refine ⟨h.only.trans k.only ?_, fun b hb => ?_⟩
  · intro i hi hlt
    rcases List.mem_append.1 hi with hi | hi
    · exact List.mem_append.2 (.inl (hT i hi hlt))
    · have hv : v'.ownBlock = some i := by cases hv : v'.ownBlock with
        | none => rw [hv] at hi; simp at hi
        | some j => rw [hv] at hi; simp at hi; rw [hi]
      rcases h.own i hv with h1 | h1
      · rw [h1]; simp
      · omega
  · rcases k.own b hb with h1 | h1
    · exact h.own b h1
    · exact .inr (Nat.le_trans h.only.size h1)
theorem step (h : Tn S w v w' v') (ho : Only S w' w'') : Tn S w v w'' v' :=
  h.trans (T := S) ⟨ho.weak (fun _ hk _ => List.mem_append.2 (.inl hk)), fun _ h => .inl h⟩ (fun _ h _ => h)
theorem nil (ho : Only S w w') : Tn S w v w' v := (refl S w v).step ho
/-- The new row's world, by what append says. -/
theorem grown0 (h : Tn S w v w' v') (hg : w'.grownBy w'' v'.ownBlock) (hat : v''.ownBlock = v'.ownBlock ∨ v''.ownBlock = some w'.heap.size) : Tn S w v w'' v'' := by
  refine h.trans (T := []) ⟨((Only.refl _ w').grown hg (fun _ hk _ => by simp [hk])), fun b hb => ?_⟩ (by simp)
  rcases hat with h | h
  · rw [h] at hb; exact .inl hb
  · rw [h] at hb; injection hb with hb; subst hb; right; simp
/-- A block that is neither of S nor v's own is kept. -/
theorem keep {g : Nat} {t : TypeId} {cs : Array Value} (h : Tn S w v w' v') (hb : Has w g t cs) (hS : g ∉ S) (hv : some g ≠ v.ownBlock) : Has w' g t cs :=
  hb.only h.only (fun hm => by
    rcases List.mem_append.1 hm with hm | hm
    · exact hS hm
    · exact hv (by cases hv : v.ownBlock with
        | none => rw [hv] at hm; simp at hm
        | some k => rw [hv] at hm; simp at hm; rw [hm]))
/-- Another own row is kept, if it is at another block. -/
theorem keepRow {base e size n : Nat} {u : Value} {xs : List Value} (h : Tn S w v w' v') (hr : w.ownsRow base e size u n xs) (hS : ∀ b, u.ownBlock = some b → b ∉ S ∧ v.ownBlock ≠ some b) : w'.ownsRow base e size u n xs :=
  own_keep hr h.only (fun b hb hm => by
    rcases List.mem_append.1 hm with hm | hm
    · exact (hS b hb).1 hm
    · exact (hS b hb).2 (by cases hv : v.ownBlock with
        | none => rw [hv] at hm; simp at hm
        | some k => rw [hv] at hm; simp at hm; rw [hm]))
end Tn

theorem Only.of_drew {S : List Nat} {w w' : World} (h : Only S w.drew w') : Only S w w' := ⟨h.os, h.tape, h.output, h.size, h.block⟩
theorem Tn.of_drew {S : List Nat} {w w' : World} {v v' : Value} (h : Tn S w.drew v w' v') : Tn S w v w' v' := ⟨h.only.of_drew, h.own⟩

theorem own_lt {w : World} {base e size n b : Nat} {v : Value} {xs : List Value} (h : w.ownsRow base e size v n xs) (hb : v.ownBlock = some b) : b < w.heap.size ∧ base ≤ b := by
  rcases h.2 with ⟨rfl, _⟩ | ⟨gb, cap, cur, rfl, hB, hh, _⟩
  · simp [Value.ownBlock] at hb
  · have e : gb = b := by simpa [Value.ownBlock] using hb
    subst e
    exact ⟨Has.lt (cs := cur) hh, hB⟩

/-- A ring at block g, of at most M things: n slots at A, the first one at f, l there, k gone. -/
structure Rg (tR e : TypeId) (w : World) (B g M n c : Nat) (A : Option Addr) (f : Nat) (xs l : List Value) (k : Nat) : Prop where
  box : Has w g tR #[.int .i64 M, .slice A n c, .int .i64 f, .int .i64 l.length, .int .i64 k]
  own : w.ownsRow B e 1 (.slice A n c) n xs
  base : B ≤ g
  most : n ≤ M
  top : M ≤ 65536
  cnt : l.length ≤ n
  first : f < n ∨ f = 0
  back : n < M → f = 0
  spot : ∀ i u, l[i]? = some u → xs[(f + i) % n]? = some u

theorem Rg.only {tR e : TypeId} {w w' : World} {B g M n c f k : Nat} {A : Option Addr} {xs l : List Value} (h : Rg tR e w B g M n c A f xs l k) {S : List Nat} (ho : Only S w w') (hg : g ∉ S) (hS : ∀ b, (Value.slice A n c).ownBlock = some b → b ∉ S) : Rg tR e w' B g M n c A f xs l k :=
  ⟨h.box.only ho hg, own_keep h.own ho hS, h.base, h.most, h.top, h.cnt, h.first, h.back, h.spot⟩
end Go.Proofs.Ytakeoabeaopamaa
