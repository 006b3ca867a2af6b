/-
  As RgPre, for a function value that has things bound ahead of yield, and for rounds of several things.
-/
import Derived.RangeFuncNested
import Derived.RangeFuncBound
import Derived.RangeFuncLeaves
import Derived.Shelf.Abstract
import Derived.Shelf.RegionOpen
import Derived.WalkKit
import Derived.OwnWalkIn
import Derived.TacticsInMore
import Derived.LoopNIn
import Derived.LoopIn
import Derived.Test.YtakeoabeaopamaaMem
namespace Go.Proofs.Ytakeoabeaopamaa
open Go Go.RowKit Go.Shelf

/-- A function value that calls yield with the things of L, in their order, till one says no. -/
def SeqPs {α : Type} (P : Program) (gf : Nat) (bb lb : Array Value) (L : List α) (enc : α → Array Value) (Kp : World → World → Prop) (w : World) : Prop :=
  ∀ (l : Nat) (J Jx : List α → World → Prop) (W : World), Below w.heap.size w W → AbidesFrom W.heap.size J → AbidesFrom W.heap.size Jx →
    (∀ pre x W1, J pre W1 → pre ++ [x] <+: L → YieldAt Fence.wide 3 P l (enc x) W1 fun e W' =>
      (e = .returned (.bool true) ∧ J (pre ++ [x]) W' ∧ Kp W1 W') ∨ (e = .returned (.bool false) ∧ Jx (pre ++ [x]) W')) →
    J [] W → CallsIn Fence.wide 4 P gf (bb ++ #[.func (.yield l) #[] #[]] ++ lb) W fun e W' => (∃ v, e = .returned v) ∧ (J L W' ∨ ∃ pre, pre <+: L ∧ Jx pre W')

section
variable {P : Program} {α : Type}

/-- How a round's body may be left. -/
def psQ (B : Nat) (Kp : World → World → Prop) (I : List α → World → Prop) (Ix : Code → List α → World → Prop) (xs : List α) (W : World) (e : Exit) (W' : World) : Prop :=
  KeepsFrom B W W' ∧ (match e with
    | .normal => Kp W W' ∧ I xs W'
    | .ret => Ix .ret xs W'
    | .exit id => Ix (.exit id) xs W'
    | .goto t => Ix (.goto t) xs W'
    | .panic _ => False
    | .outgrown => False)

/-- The record of the loop that begins in w. -/
def recPs (fn : FuncId) (tmps : Array Value) (ps : Array Tmp) (assign body : Code) (D : Nat) (st : LoopState) (pe : Option Code) : Loop :=
  { state := st, pending := pe, fn, tmps, params := ps, assign, body, defers := D }

theorem range_ps {g : Operand} {ps : Array Tmp} {assign body : Code} {Q : Exit → Act → World → Prop} {a : Act} {w w0 : World} {gf : Nat} {bb lb : Array Value} (hg : a.eval g = .func (.func gf) bb lb)
    (eg : ∀ args w, (callFunc gf args).run P w = .ok (.enter gf args) w) {L : List α} {enc : α → Array Value} {Kp : World → World → Prop} (hseq : SeqPs P gf bb lb L enc Kp w0) (hps : ∀ x, (enc x).size = ps.size) (hb0 : Below w0.heap.size w0 w)
    (hKt : ∀ {A B C : World}, Kp A B → Kp B C → Kp A C) (hKb : ∀ (W : World) (l : Nat) (o o' : Obj), W.heap[l]? = some o → o.isCells = false → Kp W (W.putObj l o'))
    (I : List α → World → Prop) (Ix : Code → List α → World → Prop) (hI : OwnFrom w.heap.size I) (hIx : ∀ c, OwnFrom w.heap.size (Ix c)) (h0 : I [] w)
    (Ax : α → Act → World → Prop) (hAx : ∀ x a', OwnFrom w.heap.size (fun (_ : Unit) W => Ax x a' W))
    (hassign : ∀ (l : Nat) (pre : List α) (x : α) (W : World) (K : Act → World → Prop), pre ++ [x] <+: L → I pre W → (∀ a' W', KeepsFrom w.heap.size W W' → Kp W W' → I pre W' → Ax x a' W' → K a' W') →
      assign.wpIn (Fence.wide.inRound l) 3 P (Exit.then K (fun _ _ _ => False)) { tmps := (ps.zip (enc x)).foldl (fun t q => t.setIfInBounds q.1 q.2) a.tmps, defers := [] } W)
    (hbody : ∀ (l : Nat) (pre : List α) (x : α) (a' : Act) (W : World), pre ++ [x] <+: L → I pre W → Ax x a' W → body.wpIn (Fence.wide.inRound l) 3 P (fun e _ W' => psQ w.heap.size Kp I Ix (pre ++ [x]) W e W') a' W)
    (hdone : ∀ (D : Nat) (W : World), w.heap.size ≤ D → I L W → W.heap[D]? = some (.deferred (some [])) → Q .normal { a with defers := { target := .collected D, args := #[] } :: a.defers } W)
    (hstop : ∀ (D : Nat) (c : Code) (pre : List α) (W : World), w.heap.size ≤ D → pre <+: L → Ix c pre W → W.heap[D]? = some (.deferred (some [])) → c.wpIn Fence.wide 5 P Q { a with defers := { target := .collected D, args := #[] } :: a.defers } W) :
    (Code.rangeFunc g ps assign body).wpIn Fence.wide 5 P Q a w := by
  refine wpIn_rangeFunc fun fn hfn => ?_
  let D := w.heap.size
  let R := recPs fn a.tmps ps assign body D
  let W1 := (w.alloc (.deferred (some []))).alloc (.loop (R .ready none))
  have hL1 : W1.heap[D + 1]? = some (.loop (R .ready none)) := by
    have := World.alloc_heap_new (w.alloc (.deferred (some []))) (.loop (R .ready none)); rwa [World.size_alloc] at this
  have hD1 : W1.heap[D]? = some (.deferred (some [])) := (Below.heap_alloc _ _ _ (by simp [D])).trans (World.alloc_heap_new w _)
  have hsz1 : W1.heap.size = D + 2 := by simp [W1, D]
  -- the two blocks of book-keeping, as they stand between rounds
  let Bk := fun (st : LoopState) (pe : Option Code) (W : World) => W.heap[D + 1]? = some (.loop (R st pe)) ∧ W.heap[D]? = some (.deferred (some []))
  have keepBk : ∀ {st pe X Y}, KeepsFrom D X Y → Bk st pe X → Bk st pe Y := fun hk hb => ⟨hk.same _ _ (Nat.le_succ _) hb.1 rfl, hk.same _ _ (Nat.le_refl _) hb.2 rfl⟩
  have turnBk : ∀ {st pe st' pe' X}, Bk st pe X → Bk st' pe' (X.putObj (D + 1) (.loop (R st' pe'))) := fun hb =>
    ⟨World.putObj_heap_same (Array.getElem?_eq_some_iff.1 hb.1).1, (World.putObj_heap_other (Nat.ne_of_lt (Nat.lt_succ_self _))).trans hb.2⟩
  have walkBk : ∀ {st pe X Y row}, Bk st pe X → X.grownBy Y row → (∀ r, row = some r → W1.heap.size ≤ r ∧ ∃ o : Obj, X.heap[r]? = some o ∧ o.isWalk = true) → Bk st pe Y := fun hb hgr hr =>
    ⟨(grownBy_keeps hgr (fun r e => (hr r e).2) hb.1 rfl).trans hb.1, (grownBy_keeps hgr (fun r e => (hr r e).2) hb.2 rfl).trans hb.2⟩
  have walkOwn : ∀ {X : World} {row : Option Nat}, (∀ r, row = some r → W1.heap.size ≤ r ∧ ∃ o : Obj, X.heap[r]? = some o ∧ o.isWalk = true) → (∀ r, row = some r → w.heap.size ≤ r ∧ ∃ o : Obj, X.heap[r]? = some o ∧ o.isCells = false) :=
    fun hr r e => by obtain ⟨h1, o, h2, h3⟩ := hr r e; exact ⟨by have : w.heap.size = D := rfl; omega, o, h2, Obj.not_cells_of_walk h3⟩
  have hI1 : I [] W1 := hI.alloc _ (hI.alloc _ h0)
  have hbW : Below w0.heap.size w0 W1 := hb0.trans ((((Below.refl _ w).alloc (Nat.le_refl _) _).alloc (by simp) _).mono hb0.size)
  refine ⟨D + 1, [{ target := .collected D, args := #[] }], W1, { target := .fn (.func gf) lb, args := bb ++ #[.func (.yield (D + 1)) #[] #[]] }, W1, gf, bb ++ #[.func (.yield (D + 1)) #[] #[]] ++ lb, W1,
    run_enterLoop_outer _ _ _ _ _, ?_, fun f' _ => trivial, by simp [invoke, go_sem, eg], fun _ => by omega, ?_⟩
  · simp only [resolve, hg]
    simp [go_sem]
  refine (hseq (D + 1) (fun pre W => I pre W ∧ Bk .ready none W) (fun pre W => ∃ c, Ix c pre W ∧ Bk .done (some c) W) W1 hbW
    (fun s X Y row hs hgr hr => ⟨hI s X Y row hs.1 hgr (walkOwn hr), walkBk hs.2 hgr hr⟩)
    (fun s X Y row hs hgr hr => by obtain ⟨c, h1, h2⟩ := hs; exact ⟨c, hIx c s X Y row h1 hgr (walkOwn hr), walkBk h2 hgr hr⟩) ?_ ⟨hI1, hL1, hD1⟩).mono ?_
  · rintro pre x W ⟨hi, hbk⟩ hpre
    refine ⟨fn, _, assign, body, run_yield hbk.1 (hps x), roundIn_of_wpIn hfn ?_⟩
    refine hassign _ pre x W _ hpre hi ?_
    intro a' Wa hka hKa hia hax
    have hbka := keepBk hka hbk
    refine ⟨_, run_beginRound hbka.1 rfl, ?_⟩
    have hbk2 : Bk .busy none (Wa.putObj (D + 1) (.loop { R .ready none with state := .busy })) := turnBk hbka
    have hK2 : Kp Wa (Wa.putObj (D + 1) (.loop { R .ready none with state := .busy })) := hKb _ _ _ _ hbka.1 rfl
    refine wpIn_mono (hbody _ pre x a' _ hpre (hI.putObj _ hia (Nat.le_succ _) hbka.1 rfl) ((hAx x a').putObj (s := ()) _ hax (Nat.le_succ _) hbka.1 rfl)) ?_
    rintro e a3 W3 ⟨hk3, hp⟩
    have hb3 := keepBk hk3 hbk2
    cases e with
    | normal =>
      exact ⟨_, _, run_endRound none hb3.1, .inl ⟨rfl, ⟨hI.putObj _ hp.2 (Nat.le_succ _) hb3.1 rfl, turnBk hb3⟩, hKt hKa (hKt (hKt hK2 hp.1) (hKb _ _ _ _ hb3.1 rfl))⟩⟩
    | ret => exact ⟨_, _, run_endRound (some .ret) hb3.1, .inr ⟨rfl, .ret, (hIx _).putObj _ hp (Nat.le_succ _) hb3.1 rfl, turnBk hb3⟩⟩
    | exit id => exact ⟨_, _, run_endRound (some (.exit id)) hb3.1, .inr ⟨rfl, .exit id, (hIx _).putObj _ hp (Nat.le_succ _) hb3.1 rfl, turnBk hb3⟩⟩
    | goto t => exact ⟨_, _, run_endRound (some (.goto t)) hb3.1, .inr ⟨rfl, .goto t, (hIx _).putObj _ hp (Nat.le_succ _) hb3.1 rfl, turnBk hb3⟩⟩
    | panic ch => exact hp.elim
    | outgrown => exact hp.elim
  · rintro e W2 ⟨⟨v, rfl⟩, (⟨hi, hb⟩ | ⟨pre, hp, c, hi, hb⟩)⟩
    · exact ⟨none, _, run_endLoop hb.1 (by simp [R, recPs]), hdone _ _ (Nat.le_refl _) (hI.putObj _ hi (Nat.le_succ _) hb.1 rfl) ((World.putObj_heap_other (Nat.ne_of_lt (Nat.lt_succ_self _))).trans hb.2)⟩
    · exact ⟨some c, _, run_endLoop hb.1 (by simp [R, recPs]), hstop _ c pre _ (Nat.le_refl _) hp ((hIx c).putObj _ hi (Nat.le_succ _) hb.1 rfl) ((World.putObj_heap_other (Nat.ne_of_lt (Nat.lt_succ_self _))).trans hb.2)⟩
end
end Go.Proofs.Ytakeoabeaopamaa
