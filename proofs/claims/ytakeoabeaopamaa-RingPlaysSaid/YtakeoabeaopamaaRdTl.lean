/-
  Regions that draw their order within a round, quiet but for their end; a range over a function whose rounds know all slots.
-/
import Derived.Test.YtakeoabeaopamaaTailIn
import Derived.Test.YtakeoabeaopamaaRdIn
namespace Go.Proofs.Ytakeoabeaopamaa
open Go Go.RowKit

section
variable {P : Program} {ops : Array Oper} {md : Region.Mode} {Q : Exit → Act → World → Prop} {la n : Nat}
theorem wpAnyIn_of (hQ : ¬ LetsOut Q) (hnd : ∀ (i : Nat) o c, ops[i]? = some o → o.op ≠ .defer c) : ∀ (f : Nat) (s : Array Bool) (a : Act) (w : World), wpAny P md ops Q f s a w → wpAnyIn (Fence.wide.inRound la) n P md ops Q f s a w := by
  intro f
  induction f with
  | zero => intro s a w h; exact h
  | succ f ih =>
    intro s a w h
    refine ⟨h.1, fun i hi => ?_⟩
    have hi2 := wpOp_mono (fun a' w' h' => ih _ a' w' h') (h.2 i hi)
    unfold wpOp at hi2
    unfold wpOpIn
    cases ho : ops[i]? with
    | none => rw [ho] at hi2; exact hi2
    | some o =>
      rw [ho] at hi2
      simp only at hi2 ⊢
      by_cases hw : Region.wanted o (yielded ops a.tmps) = true
      · rw [if_pos hw] at hi2 ⊢
        rcases hi2 with h1 | h1
        · exact wpIn_of (fun c => hnd i o c ho) h1
        · exact absurd h1.2 hQ
      · rw [if_neg hw] at hi2 ⊢
        exact ⟨fun f _ => trivial, hi2⟩

end

theorem region_later_tail_round {P : Program} {id la m : Nat} {Q : Exit → Act → World → Prop} {a : Act} {w : World} {l : List Oper} (n : Nat) (hm : P.follows .mixedOrders = true) (hB : Region.lexTailB .any l.toArray n = true) (hnd : noDefer l.toArray = true) (hQ : ¬ LetsOut Q)
    (h : wpQuiet P l.toArray (fun w' => ∃ x : Later w, w' = x.val) (fun a' => ∀ w', (∃ x : Later w, w' = x.val) → wpList P l.toArray Q (l.drop n) a' w') (l.take n) a) : (Code.region id l.toArray true).wpIn (Fence.wide.inRound la) m P Q a w := by
  refine wpIn_region_any hm (wpAnyIn_of hQ (noDefer_spec hnd) _ _ _ _ ?_)
  simp only [Region.lexTailB, Bool.and_eq_true, decide_eq_true_eq] at hB
  obtain ⟨⟨⟨⟨hsel, hn⟩, hs⟩, hc⟩, hlex⟩ := hB
  have hn' : n < l.length := by simpa using hn
  have htl : (l.take n).length = n := by simp; omega
  have inv0 : HeadInv .any l.toArray n (Array.replicate l.toArray.size false) :=
    ⟨by simp, fun j oj _ hl => (by rw [getD_replicate_false] at hl; cases hl), fun t _ ht => getD_in (by simpa using ht) (getD_replicate_false _ _)⟩
  have H := HeadQ.lex (md := .any) (g := l.toArray.size - n) hsel hs hc hn (l.take n) 0 _ a (fun j hj => by
    have : j < n := by rwa [htl] at hj
    simp [this]) (by simpa using htl) inv0 (by rw [htl]; exact hlex) h
  have := HeadQ.wp (Q := Q) (g := l.toArray.size - n) (fun s a' w' hw' hL => by
    have := wpAny_of_seq (md := .any) (Q' := Q) (l.drop n) n s a' w' (fun j => by simp [List.getElem?_drop]) (by simpa using hL.1) (hL.2 w' hw')
    simpa using this) _ _ _ w.drew ⟨⟨_, (Only.refl [] w).drew⟩, rfl⟩ H
  rw [htl, show n + (l.toArray.size - n) = l.toArray.size by omega] at this
  exact this

/-- As range_ps; what a round begins with is said by the slots ahead of it. -/
theorem range_at {P : Program} {α : Type} {g : Operand} {ps : Array Tmp} {assign body : Code} {Q : Exit → Act → World → Prop} {a : Act} {w w0 : World} {gf : Nat} {bb lb : Array Value} (hg : a.eval g = .func (.func gf) bb lb)
    (eg : ∀ args w, (callFunc gf args).run P w = .ok (.enter gf args) w) {L : List α} {enc : α → Array Value} {Kp : World → World → Prop} (hseq : SeqPs P gf bb lb L enc Kp w0) (hps : ∀ x, (enc x).size = ps.size) (hb0 : Below w0.heap.size w0 w)
    (hKt : ∀ {A B C : World}, Kp A B → Kp B C → Kp A C) (hKb : ∀ (W : World) (l : Nat) (o o' : Obj), W.heap[l]? = some o → o.isCells = false → Kp W (W.putObj l o'))
    (I : List α → World → Prop) (hI : OwnFrom w.heap.size I) (h0 : I [] w) (after : Array Value → α → Array Value)
    (hassign : ∀ (l : Nat) (pre : List α) (x : α) (W : World) (K : Act → World → Prop), pre ++ [x] <+: L → I pre W → (∀ W', KeepsFrom w.heap.size W W' → Kp W W' → I pre W' → K { tmps := after a.tmps x, defers := [] } W') →
      assign.wpIn (Fence.wide.inRound l) 3 P (Exit.then K (fun _ _ _ => False)) { tmps := (ps.zip (enc x)).foldl (fun t q => t.setIfInBounds q.1 q.2) a.tmps, defers := [] } W)
    (hbody : ∀ (l : Nat) (pre : List α) (x : α) (W : World), pre ++ [x] <+: L → I pre W → body.wpIn (Fence.wide.inRound l) 3 P (fun e _ W' => psQ w.heap.size Kp I (fun _ _ _ => False) (pre ++ [x]) W e W') { tmps := after a.tmps x, defers := [] } W)
    (hdone : ∀ (D : Nat) (W : World), w.heap.size ≤ D → I L W → W.heap[D]? = some (.deferred (some [])) → Q .normal { a with defers := { target := .collected D, args := #[] } :: a.defers } W) :
    (Code.rangeFunc g ps assign body).wpIn Fence.wide 5 P Q a w :=
  range_ps hg eg hseq hps hb0 hKt hKb I (fun _ _ _ => False) hI (fun _ => ownFrom_const _) h0 (fun x a' _ => a' = { tmps := after a.tmps x, defers := [] }) (fun _ _ => ownFrom_const _)
    (fun l pre x W K hp hi hK => hassign l pre x W K hp hi (fun W' h1 h2 h3 => hK _ W' h1 h2 h3 rfl)) (fun l pre x a' W hp hi ha => by subst ha; exact hbody l pre x W hp hi) hdone (fun _ _ _ _ _ _ h _ => h.elim)
end Go.Proofs.Ytakeoabeaopamaa
