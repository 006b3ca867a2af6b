/-
  What a round of a range over a function may lean on and may do: general facts.
-/
import Derived.Test.YtakeoabeaopamaaRgPs
namespace Go.Proofs.Ytakeoabeaopamaa
open Go Go.RowKit

theorem ownFrom_has {β : Type} {B : Nat} (g : β → Nat) (t : β → TypeId) (cs : β → Array Value) : OwnFrom B (fun (s : β) W => Has W (g s) (t s) (cs s)) := fun s X Y row hs hg hr => by
  have hs : Has X (g s) (t s) (cs s) := hs
  show Has Y (g s) (t s) (cs s)
  unfold Has
  rw [hg.block (g s) hs.lt (fun e => by
    obtain ⟨_, o, ho, hc⟩ := hr (g s) e.symm
    have h2 := hs
    unfold Has at h2
    rw [ho] at h2
    injection h2 with h2
    subst h2
    cases hc)]
  exact hs
theorem ownFrom_ex {β γ : Type} {B : Nat} {I : γ → β → World → Prop} (h : ∀ c, OwnFrom B (I c)) : OwnFrom B (fun s W => ∃ c, I c s W) := fun s X Y row hs hg hr => by
  obtain ⟨c, hc⟩ := hs
  exact ⟨c, h c s X Y row hc hg hr⟩
theorem ownFrom_const {β : Type} {B : Nat} (f : β → Prop) : OwnFrom B (fun s (_ : World) => f s) := fun _ _ _ _ hs _ _ => hs
theorem keepsFrom_only {S : List Nat} {B : Nat} {W W' : World} (h : Only S W W') (hS : ∀ k, k ∈ S → ∃ cs t, Has W k t cs) : KeepsFrom B W W' := ⟨h.size, fun k o _ hk hc => by
  rw [h.block k (Array.getElem?_eq_some_iff.1 hk).1 (fun hm => by
    obtain ⟨cs, t, h2⟩ := hS k hm
    unfold Has at h2
    rw [hk] at h2
    injection h2 with h2
    subst h2
    cases hc)]
  exact hk⟩
theorem Only.put {S : List Nat} {w X : World} (h : Only S w X) {D : Nat} (hD : w.heap.size ≤ D) (o : Obj) : Only S w (X.putObj D o) := h.grown (grownBy_putObj' X D o) (fun k e hk => by cases e; omega)
theorem ownFrom_only {β : Type} {B : Nat} {S : List Nat} {w : World} (hB : w.heap.size ≤ B) : OwnFrom B (fun (_ : β) W => Only S w W) := fun s X Y row hs hg hr =>
  ⟨hg.os.trans hs.os, hg.tape.trans hs.tape, hg.output.trans hs.output, Nat.le_trans hs.size hg.size, fun k hk hn => (hg.block k (Nat.lt_of_lt_of_le hk hs.size) (fun e => by
    have := (hr k e.symm).1
    omega)).trans (hs.block k hk hn)⟩


section
variable {P : Program} {ops : Array Oper} {Q : Exit → Act → World → Prop} {la n : Nat}

theorem uponIn_of {o : Oper} {a : Act} {K : Act → World → Prop} {r : Result Next} (h : o.upon P a K Q r) : o.uponIn (Fence.wide.inRound la) n P a K Q r := by
  cases r with
  | halt x w' => cases x <;> simp only [Oper.upon, Oper.uponIn] at h ⊢ <;> exact h
  | ok m w' =>
    cases m <;> simp only [Oper.upon, Oper.uponIn] at h ⊢
    case value v => exact h
    case skip => exact h
    case defer d => exact h
    case enter f args =>
      refine ⟨fun h => absurd h Bool.false_ne_true, ?_⟩
      have := (callsIn_wide (n := n - 1)).2 h
      exact this
    case row row args =>
      refine ⟨fun h => absurd h Bool.false_ne_true, fun c cs _ => ?_⟩
      obtain ⟨v, w', r, s⟩ := h c cs
      exact ⟨v, w', r, stepsIn_wide.2 s⟩

theorem wpIn_of {o : Oper} {a : Act} {K : Act → World → Prop} {w : World} (hnd : ∀ c, o.op ≠ .defer c) (h : o.wp P a w K Q) : o.wpIn (Fence.wide.inRound la) n P a w K Q := by
  refine ⟨fun f _ => trivial, ?_⟩
  show o.uponIn _ n P a K Q ((o.semAt (some la) a.eval).run P w)
  rw [Oper.semAt_some la a.eval o hnd]
  exact uponIn_of h

def noDefer (ops : Array Oper) : Bool := ops.all fun o => match o.op with
  | .defer _ => false
  | _ => true
theorem noDefer_spec (h : noDefer ops = true) : ∀ (i : Nat) o c, ops[i]? = some o → o.op ≠ .defer c := fun i o c hi hc => by
  obtain ⟨hlt, he⟩ := Array.getElem?_eq_some_iff.1 hi
  have := (Array.all_eq_true.1 h) i hlt
  rw [he, hc] at this
  cases this
theorem listIn_of (hnd : ∀ (i : Nat) o c, ops[i]? = some o → o.op ≠ .defer c) (hQ : ¬ LetsOut Q) : ∀ (l : List Oper) (k : Nat) (a : Act) (w : World), (∀ j, l[j]? = ops[k + j]?) → wpList P ops Q l a w → wpListIn (Fence.wide.inRound la) n P ops Q l a w
  | [], _, _, _, _, h => h
  | o :: l, k, a, w, hl, h => by
    have h0 : ops[k]? = some o := by simpa using (hl 0).symm
    have hl' : ∀ j, l[j]? = ops[k + 1 + j]? := fun j => by have := hl (j + 1); simpa [Nat.add_assoc, Nat.add_comm 1 j] using this
    unfold wpList at h
    unfold wpListIn
    split
    · rename_i hw
      rw [if_pos hw] at h
      rcases h with h | h
      · exact Oper.wpIn_mono (fun a' w' h' => listIn_of hnd hQ l (k + 1) a' w' hl' h') (wpIn_of (fun c => hnd k o c h0) h)
      · exact absurd h.2 hQ
    · rename_i hw
      rw [if_neg hw] at h
      exact ⟨fun f _ => trivial, listIn_of hnd hQ l (k + 1) _ w hl' h⟩
/-- A region within a round that holds no calls into rounds: by the plain walk. -/
theorem region_in_round {id : Nat} {l : List Oper} {a : Act} {w : World} (hnd : noDefer l.toArray = true) (hQ : ¬ LetsOut Q) (h : wpList P l.toArray Q l a w) : (Code.region id l.toArray false).wpIn (Fence.wide.inRound la) n P Q a w :=
  wpIn_region_lit (listIn_of (noDefer_spec hnd) hQ l 0 a w (fun j => by simp) h)
end
end Go.Proofs.Ytakeoabeaopamaa
