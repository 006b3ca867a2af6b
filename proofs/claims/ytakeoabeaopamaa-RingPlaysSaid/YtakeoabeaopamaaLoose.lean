/-
  Regions that draw their order and hold calls that tell new memory: what each call tells is known by a rule of its own, whenever it comes up; one walk in the order of the text serves every order.
-/
import Derived.Test.YtakeoabeaopamaaTail
namespace Go.Proofs.Ytakeoabeaopamaa
open Go Go.RowKit

/-- What is known of an operation's value: by itself; in a world, and in all later ones. -/
abbrev Spec := Nat → Option ((Value → Prop) × (Value → World → Prop))
def TT (sp : Spec) (i : Nat) (v : Value) (w : World) : Prop := match sp i with
  | none => True
  | some S => S.1 v ∧ S.2 v w
def dstOf (ops : Array Oper) (i : Nat) : Option Tmp := match ops[i]? with
  | some o => o.dst
  | none => none
def slotOf (ops : Array Oper) (a : Act) (i : Nat) : Value := match dstOf ops i with
  | some d => a.tmps.getD d undef
  | none => undef
/-- An operation that enters no function. -/
def noCall (o : Oper) : Bool := match o.op with
  | .load .. | .move .. | .assign .. | .pick .. | .binOp .. | .unOp .. | .fieldAddr .. | .field .. | .indexAddr .. | .index .. | .slice .. | .extract .. | .convert .. | .build .. => true
  | _ => false
theorem no_enter_v (P : Program) (w : World) (s : Sem Value) (f : FuncId) (args : Array Value) (w' : World) : (do let x ← s; pure (Next.value x) : Sem Next).run P w ≠ .ok (.enter f args) w' := by
  rw [Sem.run_bind]
  cases s.run P w with
  | ok x w1 => simp [Result.andThen]
  | halt h w1 => simp [Result.andThen]
theorem no_enter_b (P : Program) (w : World) (s : Sem Bool) (k : Bool → Value) (f : FuncId) (args : Array Value) (w' : World) : (do let x ← s; pure (Next.value (k x)) : Sem Next).run P w ≠ .ok (.enter f args) w' := by
  rw [Sem.run_bind]
  cases s.run P w with
  | ok x w1 => simp [Result.andThen]
  | halt h w1 => simp [Result.andThen]
theorem noCall_spec {o : Oper} (h : noCall o = true) (P : Program) (ρ : Operand → Value) (w : World) (f : FuncId) (args : Array Value) (w' : World) : (execOp ρ o).run P w ≠ .ok (.enter f args) w' := by
  unfold noCall at h
  unfold execOp
  split at h <;> first | exact absurd h (by decide) | (rename_i e; simp only [e]; first | exact no_enter_v _ _ _ _ _ _ | (simp; done) | exact no_enter_b _ _ _ _ _ _ _)

section
variable {P : Program} {ops : Array Oper} {md : Region.Mode} {sp : Spec} {w0 : World}

def looseUpon (P : Program) (S : (Value → Prop) × (Value → World → Prop)) (w : World) : Result Next → Prop
  | .ok (.value u) w' => Only [] w w' ∧ S.1 u ∧ S.2 u w'
  | .ok (.enter f args) w' => w' = w ∧ Calls P f args w (fun e w'' => ∃ v, e = .returned v ∧ Only [] w w'' ∧ S.1 v ∧ S.2 v w'')
  | _ => False
/-- What an operation that has come up may lean on. -/
def Knows (ops : Array Oper) (md : Region.Mode) (sp : Spec) (o : Oper) (a : Act) (w : World) : Prop := ∀ e ∈ o.after, Region.binds md e = true → TT sp e.on (slotOf ops a e.on) w
def stepL (P : Program) (ops : Array Oper) (md : Region.Mode) (sp : Spec) (w0 : World) (i : Nat) (o : Oper) (a : Act) (K : Act → Prop) : Prop :=
  (sp i = none ∧ noCall o = true ∧ o.quiet P a (fun w' => ∃ x : Later w0, w' = x.val) K) ∨
  (∃ S, sp i = some S ∧ (∃ v, S.1 v) ∧ (∀ w, Only [] w0 w → Knows ops md sp o a w → looseUpon P S w ((execOp a.eval o).run P w)) ∧ ∀ v, S.1 v → K (a.put o.dst v))
def lOp (P : Program) (ops : Array Oper) (md : Region.Mode) (sp : Spec) (w0 : World) (i : Nat) (K : Act → Prop) (a : Act) : Prop := match ops[i]? with
  | none => K a
  | some o => if Region.wanted o (yielded ops a.tmps) = true then stepL P ops md sp w0 i o a K else sp i = none ∧ K (a.put o.dst undef)

theorem stepL_mono {i : Nat} {o : Oper} {a : Act} {K K' : Act → Prop} (h : ∀ a, K a → K' a) (hh : stepL P ops md sp w0 i o a K) : stepL P ops md sp w0 i o a K' := by
  rcases hh with ⟨h1, h2, h3⟩ | ⟨S, h1, h2, h3, h4⟩
  · exact .inl ⟨h1, h2, Oper.quiet_mono h h3⟩
  · exact .inr ⟨S, h1, h2, h3, fun v hv => h _ (h4 v hv)⟩
theorem lOp_mono {i : Nat} {a : Act} {K K' : Act → Prop} (h : ∀ a, K a → K' a) (hh : lOp P ops md sp w0 i K a) : lOp P ops md sp w0 i K' a := by
  unfold lOp at *
  cases ho : ops[i]? with
  | none => simp only [ho] at hh; exact h _ hh
  | some o =>
    simp only [ho] at hh ⊢
    by_cases hw : Region.wanted o (yielded ops a.tmps) = true
    · rw [if_pos hw] at hh ⊢; exact stepL_mono h hh
    · rw [if_neg hw] at hh ⊢; exact ⟨hh.1, h _ hh.2⟩

theorem slot_put {j : Nat} {a : Act} {dst : Option Tmp} {v : Value} (h : ∀ d, dst = some d → dstOf ops j ≠ some d) : slotOf ops (a.put dst v) j = slotOf ops a j := by
  unfold slotOf
  cases hd : dstOf ops j with
  | none => rfl
  | some d' =>
    cases dst with
    | none => rfl
    | some d =>
      have hne : d ≠ d' := fun e => h d rfl (by rw [hd, e])
      show (a.tmps.setIfInBounds d v).getD d' undef = a.tmps.getD d' undef
      simp [Array.getElem?_setIfInBounds_ne hne]
theorem slot_self {i : Nat} {a : Act} {d : Tmp} {v : Value} (h : dstOf ops i = some d) (hd : d < a.tmps.size) : slotOf ops (a.put (some d) v) i = v := by
  unfold slotOf
  rw [h]
  show (a.tmps.setIfInBounds d v).getD d undef = v
  simp [hd]

/-- All slots that are written are apart. -/
def distinctB (ops : Array Oper) : Bool := (List.range ops.size).all fun i => (List.range ops.size).all fun j => i == j || (dstOf ops i).isNone || dstOf ops i != dstOf ops j
theorem distinct_spec (h : distinctB ops = true) {i j : Nat} {d : Tmp} (hi : dstOf ops i = some d) (hij : i ≠ j) : dstOf ops j ≠ some d := fun hj => by
  have lt : ∀ {k : Nat}, dstOf ops k = some d → k < ops.size := fun {k} hk => by
    unfold dstOf at hk
    rcases Nat.lt_or_ge k ops.size with h | h
    · exact h
    · simp [h] at hk
  have h1 := List.all_eq_true.1 (List.all_eq_true.1 h i (List.mem_range.2 (lt hi))) j (List.mem_range.2 (lt hj))
  simp [hi, hj, hij] at h1

theorem knows_put {o : Oper} {a : Act} {w : World} {i : Nat} {oi : Oper} {v : Value} (hd : distinctB ops = true) (hi : ops[i]? = some oi) (hno : ∀ e ∈ o.after, Region.binds md e = true → e.on ≠ i) :
    Knows ops md sp o (a.put oi.dst v) w ↔ Knows ops md sp o a w := by
  have hdi : dstOf ops i = oi.dst := by unfold dstOf; rw [hi]
  have hsl : ∀ e ∈ o.after, Region.binds md e = true → slotOf ops (a.put oi.dst v) e.on = slotOf ops a e.on := fun e he hb => slot_put fun d hdd => distinct_spec hd (i := i) (hdi.trans hdd) (Ne.symm (hno e he hb))
  unfold Knows
  exact ⟨fun h e he hb => by rw [← hsl e he hb]; exact h e he hb, fun h e he hb => by rw [hsl e he hb]; exact h e he hb⟩

/-- A step over, the frame turned at a place that it doesn't look at. -/
theorem stepL_put {i j : Nat} {oi oj : Oper} {a : Act} {v : Value} {K : Act → Prop} (hd : distinctB ops = true) (hsj : ∀ cs b, oj.op ≠ .select cs b) (hi : ops[i]? = some oi) (hap : oi.apart ops oj = true) (hno : ∀ e ∈ oj.after, Region.binds md e = true → e.on ≠ i)
    (h : stepL P ops md sp w0 j oj (a.put oi.dst v) K) : stepL P ops md sp w0 j oj a (fun a' => K (a'.put oi.dst v)) := by
  obtain ⟨h1, h2, h3⟩ := Oper.apart_spec hap
  have hex := execOp_put oj hsj a oi.dst v h1
  rcases h with ⟨e1, e2, u, hq, hk⟩ | ⟨S, e1, e2, e3, e4⟩
  · refine .inl ⟨e1, e2, u, fun w hw => ?_, by show K ((a.put oj.dst u).put oi.dst v); rw [← Act.put_comm a v u h2]; exact hk⟩
    have := hq w hw
    unfold Oper.quietAt at *
    rwa [hex] at this
  · refine .inr ⟨S, e1, e2, fun w ho hk => ?_, fun u hu => by show K ((a.put oj.dst u).put oi.dst v); rw [← Act.put_comm a v u h2]; exact e4 u hu⟩
    have := e3 w ho ((knows_put hd hi hno).2 hk)
    rwa [hex] at this

/-- A quiet value is one. -/
theorem quietAt_one {o : Oper} {a : Act} {w : World} {C : World → Prop} {v v' : Value} (h : o.quietAt P a C w v) (h' : o.quietAt P a C w v') (hn : noCall o = true) : v = v' := by
  unfold Oper.quietAt at *
  have hne := noCall_spec hn P a.eval w
  generalize (execOp a.eval o).run P w = r at *
  cases r with
  | halt x w' => simp only [Oper.quietUpon] at h
  | ok n w' =>
    cases n <;> simp only [Oper.quietUpon] at h h'
    case value u => exact h.2.symm.trans h'.2
    case skip => exact h.2.trans h'.2.symm
    case enter f args => exact absurd rfl (hne f args w')

theorem lOp_swap {i j : Nat} {oi oj : Oper} {a : Act} {G : Act → Prop} (hd : distinctB ops = true) (hsi : ∀ cs b, oi.op ≠ .select cs b) (hsj : ∀ cs b, oj.op ≠ .select cs b) (hi : ops[i]? = some oi) (hj : ops[j]? = some oj)
    (hap : oi.apart ops oj = true) (hno : ∀ e ∈ oj.after, Region.binds md e = true → e.on ≠ i) (hno' : ∀ e ∈ oi.after, Region.binds md e = true → e.on ≠ j)
    (h : lOp P ops md sp w0 i (lOp P ops md sp w0 j G) a) : lOp P ops md sp w0 j (lOp P ops md sp w0 i G) a := by
  obtain ⟨h1, h2, h3⟩ := Oper.apart_spec hap
  have hlj : ∀ K a, lOp P ops md sp w0 j K a = (if Region.wanted oj (yielded ops a.tmps) = true then stepL P ops md sp w0 j oj a K else sp j = none ∧ K (a.put oj.dst undef)) := fun K a => by unfold lOp; simp only [hj]
  have hli : ∀ K a, lOp P ops md sp w0 i K a = (if Region.wanted oi (yielded ops a.tmps) = true then stepL P ops md sp w0 i oi a K else sp i = none ∧ K (a.put oi.dst undef)) := fun K a => by unfold lOp; simp only [hi]
  rw [hli] at h
  rw [hlj]
  -- what comes of i behind a turn of j's slot
  have back : ∀ (b : Act) (u : Value), (Region.wanted oi (yielded ops (b.put oj.dst u).tmps) = true) = (Region.wanted oi (yielded ops b.tmps) = true) := fun b u => by rw [wanted_put oi b oj.dst u h3]
  by_cases wi : Region.wanted oi (yielded ops a.tmps) = true
  · rw [if_pos wi] at h
    rcases h with ⟨e1, e2, v, hq, hk⟩ | ⟨S, e1, ⟨v0, hv0⟩, e3, e4⟩
    · rw [hlj, wanted_put oj a oi.dst v h1] at hk
      have goes : ∀ u, G ((a.put oj.dst u).put oi.dst v) → lOp P ops md sp w0 i G (a.put oj.dst u) := fun u hg => by
        rw [hli, if_pos (by rw [back]; exact wi)]
        refine .inl ⟨e1, e2, v, fun w hw => ?_, hg⟩
        have := hq w hw
        unfold Oper.quietAt at *
        rwa [execOp_put oi hsi a oj.dst u h3]
      by_cases wj : Region.wanted oj (yielded ops a.tmps) = true
      · rw [if_pos wj] at hk ⊢
        rcases stepL_put hd hsj hi hap hno hk with ⟨f1, f2, u, f3, f4⟩ | ⟨T, f1, f2, f3, f4⟩
        · exact .inl ⟨f1, f2, u, f3, goes u f4⟩
        · exact .inr ⟨T, f1, f2, f3, fun u hu => goes u (f4 u hu)⟩
      · rw [if_neg wj] at hk ⊢
        exact ⟨hk.1, goes undef (by rw [← Act.put_comm a v undef h2]; exact hk.2)⟩
    · have goes : ∀ u, (∀ v, S.1 v → G ((a.put oj.dst u).put oi.dst v)) → lOp P ops md sp w0 i G (a.put oj.dst u) := fun u hg => by
        rw [hli, if_pos (by rw [back]; exact wi)]
        refine .inr ⟨S, e1, ⟨v0, hv0⟩, fun w ho hk => ?_, hg⟩
        have := e3 w ho ((knows_put hd hj hno').1 hk)
        rwa [execOp_put oi hsi a oj.dst u h3]
      by_cases wj : Region.wanted oj (yielded ops a.tmps) = true
      · rw [if_pos wj]
        have hall : ∀ v, S.1 v → stepL P ops md sp w0 j oj a (fun a' => G (a'.put oi.dst v)) := fun v hv => by
          have := e4 v hv
          rw [hlj, wanted_put oj a oi.dst v h1, if_pos wj] at this
          exact stepL_put hd hsj hi hap hno this
        rcases hall v0 hv0 with ⟨f1, f2, u, f3, f4⟩ | ⟨T, f1, f2, f3, f4⟩
        · refine .inl ⟨f1, f2, u, f3, goes u fun v hv => ?_⟩
          rcases hall v hv with ⟨g1, g2, u', g3, g4⟩ | ⟨T, g1, _⟩
          · have hw : ∃ x : Later w0, w0 = x.val := ⟨⟨w0, Only.refl [] w0⟩, rfl⟩
            rw [quietAt_one (f3 w0 hw) (g3 w0 hw) f2]
            exact g4
          · rw [f1] at g1; cases g1
        · refine .inr ⟨T, f1, f2, f3, fun u hu => goes u fun v hv => ?_⟩
          rcases hall v hv with ⟨g1, _⟩ | ⟨T', g1, _, _, g4⟩
          · rw [f1] at g1; cases g1
          · rw [f1] at g1
            injection g1 with g1
            subst g1
            exact g4 u hu
      · rw [if_neg wj]
        have h0 := e4 v0 hv0
        rw [hlj, wanted_put oj a oi.dst v0 h1, if_neg wj] at h0
        refine ⟨h0.1, goes undef fun v hv => ?_⟩
        have := e4 v hv
        rw [hlj, wanted_put oj a oi.dst v h1, if_neg wj] at this
        rw [← Act.put_comm a v undef h2]
        exact this.2
  · rw [if_neg wi] at h
    obtain ⟨e1, hk⟩ := h
    rw [hlj, wanted_put oj a oi.dst undef h1] at hk
    have goes : ∀ u, G ((a.put oj.dst u).put oi.dst undef) → lOp P ops md sp w0 i G (a.put oj.dst u) := fun u hg => by
      rw [hli, if_neg (by rw [back]; exact wi)]
      exact ⟨e1, hg⟩
    by_cases wj : Region.wanted oj (yielded ops a.tmps) = true
    · rw [if_pos wj] at hk ⊢
      rcases stepL_put hd hsj hi hap hno hk with ⟨f1, f2, u, f3, f4⟩ | ⟨T, f1, f2, f3, f4⟩
      · exact .inl ⟨f1, f2, u, f3, goes u f4⟩
      · exact .inr ⟨T, f1, f2, f3, fun u hu => goes u (f4 u hu)⟩
    · rw [if_neg wj] at hk ⊢
      exact ⟨hk.1, goes undef (by rw [← Act.put_comm a undef undef h2]; exact hk.2)⟩

theorem lOp_some {i : Nat} {a : Act} {K : Act → Prop} (h : lOp P ops md sp w0 i K a) : ∃ a', K a' := by
  unfold lOp at h
  cases ho : ops[i]? with
  | none => simp only [ho] at h; exact ⟨_, h⟩
  | some o =>
    simp only [ho] at h
    by_cases hw : Region.wanted o (yielded ops a.tmps) = true
    · rw [if_pos hw] at h
      rcases h with ⟨_, _, v, _, hk⟩ | ⟨S, _, ⟨v, hv⟩, _, hk⟩
      · exact ⟨_, hk⟩
      · exact ⟨_, hk v hv⟩
    · rw [if_neg hw] at h; exact ⟨_, h.2⟩

def HeadL (P : Program) (md : Region.Mode) (ops : Array Oper) (sp : Spec) (w0 : World) (n : Nat) (L : Array Bool → Act → Prop) : Nat → Array Bool → Act → Prop
  | 0, s, a => L s a
  | f + 1, s, a => Region.ready md ops s ≠ [] ∧ ∀ i ∈ Region.ready md ops s, i < n ∧ lOp P ops md sp w0 i (HeadL P md ops sp w0 n L f (s.setIfInBounds i true)) a

theorem HeadL.first {n i : Nat} {oi : Oper} {L : Array Bool → Act → Prop} (hd : distinctB ops = true) (hi : ops[i]? = some oi) (hsel : ∀ (j : Nat) (o : Oper) cs b, ops[j]? = some o → o.op ≠ .select cs b)
    (hs : Region.sinkB md ops n = true) (hc : Region.chainB md ops n = true) (hn : n < ops.size) (hin : i < n) (hdone : ∀ s a, L s a → ∀ j ∈ Region.ready md ops s, n ≤ j) :
    ∀ (f : Nat) (s : Array Bool) (a : Act), HeadInv md ops n s →
      (∀ j oj, ops[j]? = some oj → j ≠ i → s.getD j true = false → (∀ e ∈ oj.after, Region.binds md e = true → e.on ≠ i) → oi.apart ops oj = true) →
      i ∈ Region.ready md ops s → lOp P ops md sp w0 i (HeadL P md ops sp w0 n L f (s.setIfInBounds i true)) a → HeadL P md ops sp w0 n L (f + 1) s a := by
  intro f
  induction f with
  | zero =>
    intro s a inv _ hr H
    refine ⟨List.ne_nil_of_mem hr, fun j hj => ?_⟩
    have hlt : j < n := Nat.lt_of_not_le fun h => tail_waits hs hc hn inv _ i rfl hin (mem_ready.1 hr).1 j h hj
    by_cases e : j = i
    · subst e; exact ⟨hlt, H⟩
    · obtain ⟨a', ha'⟩ := lOp_some H
      have := hdone _ _ ha' j (ready_mono hj e); omega
  | succ f ih =>
    intro s a inv hfree hr H
    obtain ⟨hun, oi', hoi', hali⟩ := mem_ready.1 hr
    obtain rfl : oi = oi' := Option.some.inj (hi.symm.trans hoi')
    refine ⟨List.ne_nil_of_mem hr, fun j hj => ?_⟩
    have hlt : j < n := Nat.lt_of_not_le fun h => tail_waits hs hc hn inv _ i rfl hin hun j h hj
    by_cases e : j = i
    · subst e; exact ⟨hlt, H⟩
    · obtain ⟨hjun, oj, hoj, hall⟩ := mem_ready.1 hj
      have hno : ∀ d ∈ oj.after, Region.binds md d = true → d.on ≠ i := fun d hd hb hon => by
        have := hall d hd hb
        rw [hon, getD_both hun] at this
        cases this
      have hno' : ∀ d ∈ oi.after, Region.binds md d = true → d.on ≠ j := fun d hd hb hon => by
        have := hali d hd hb
        rw [hon, getD_both hjun] at this
        cases this
      have h1 := lOp_swap (G := HeadL P md ops sp w0 n L f ((s.setIfInBounds i true).setIfInBounds j true)) hd (fun cs b => hsel i oi cs b hi) (fun cs b => hsel j oj cs b hoj) hi hoj (hfree j oj hoj e hjun hno) hno hno' (lOp_mono (fun a' h' => (h'.2 j (ready_mono hj e)).2) H)
      refine ⟨hlt, lOp_mono (fun a' h3 => ih _ a' (inv.set hj hlt) (fun k ok hk hki hk0 => hfree k ok hk hki ?_) (ready_mono hr (Ne.symm e)) ?_) h1⟩
      · by_cases ejk : j = k
        · subst ejk; exact hjun
        · rwa [getD_set_ne true ejk] at hk0
      · rw [Array.setIfInBounds_comm _ _ e]; exact h3

/-- The walk in the order of the text. -/
def wpLoose (P : Program) (ops : Array Oper) (md : Region.Mode) (sp : Spec) (w0 : World) (R : Act → Prop) : List Oper → Nat → Act → Prop
  | [], _, a => R a
  | o :: rest, k, a => if Region.wanted o (yielded ops a.tmps) = true then stepL P ops md sp w0 k o a (wpLoose P ops md sp w0 R rest (k + 1)) else sp k = none ∧ wpLoose P ops md sp w0 R rest (k + 1) (a.put o.dst undef)

theorem HeadL.lex {n g : Nat} {R : Act → Prop} (hd : distinctB ops = true) (hsel : Region.noSelect ops = true) (hs : Region.sinkB md ops n = true) (hc : Region.chainB md ops n = true) (hn : n < ops.size) :
    ∀ (l : List Oper) (k : Nat) (s : Array Bool) (a : Act), (∀ j, j < l.length → l[j]? = ops[k + j]?) → k + l.length = n → HeadInv md ops n s →
    Region.lexHead md ops g l.length k s = true → wpLoose P ops md sp w0 R l k a → HeadL P md ops sp w0 n (fun s' a' => Region.seqB md ops g n s' = true ∧ R a') l.length s a := by
  intro l
  induction l with
  | nil =>
    intro k s a _ hk _ hB h
    obtain rfl : k = n := by simpa using hk
    exact ⟨by simpa [Region.lexHead] using hB, h⟩
  | cons o l ih =>
    intro k s a hl hk inv hB h
    have h0 : ops[k]? = some o := by simpa using (hl 0 (by simp)).symm
    simp only [List.length_cons, Region.lexHead, Bool.and_eq_true] at hB
    obtain ⟨⟨hr, hf⟩, hB'⟩ := hB
    rw [List.length_cons] at hk
    have hr' : k ∈ Region.ready md ops s := by simpa using hr
    have hst : lOp P ops md sp w0 k (wpLoose P ops md sp w0 R l (k + 1)) a := by unfold lOp; simp only [h0]; exact h
    refine HeadL.first hd h0 (Region.noSelect_spec hsel) hs hc hn (by omega) (fun s' a' hL => seqB_ready hL.1) l.length s a inv (Region.free_spec h0 hf) hr' (lOp_mono (fun a' h' => ih (k + 1) _ a' (fun j hj => ?_) (by omega) (inv.set hr' (by omega)) hB' h') hst)
    have := hl (j + 1) (by simp; omega)
    simpa [Nat.add_assoc, Nat.add_comm 1 j] using this

/-- What holds wherever the walk stands. -/
structure LInv (ops : Array Oper) (md : Region.Mode) (sp : Spec) (w0 : World) (n N : Nat) (s : Array Bool) (a : Act) (w : World) : Prop where
  head : HeadInv md ops n s
  only : Only [] w0 w
  size : a.tmps.size = N
  known : ∀ i, s.getD i false = true → TT sp i (slotOf ops a i) w

theorem put_size (a : Act) (dst : Option Tmp) (v : Value) : (a.put dst v).tmps.size = a.tmps.size := by
  cases dst with
  | none => rfl
  | some d => simp [Act.put]

theorem LInv.step {n N i : Nat} {s : Array Bool} {a : Act} {w w' : World} {o : Oper} {v : Value} (hd : distinctB ops = true) (hok : ∀ i, (sp i).isSome = true → ∃ d, dstOf ops i = some d ∧ d < N)
    (hst : ∀ i S, sp i = some S → ∀ v w w', Only [] w w' → S.2 v w → S.2 v w') (h : LInv ops md sp w0 n N s a w) (hi : ops[i]? = some o) (hr : i ∈ Region.ready md ops s) (hin : i < n) (ho : Only [] w w') (hv : TT sp i v w') :
    LInv ops md sp w0 n N (s.setIfInBounds i true) (a.put o.dst v) w' := by
  have hdi : dstOf ops i = o.dst := by unfold dstOf; rw [hi]
  refine ⟨h.head.set hr hin, h.only.trans ho (by simp), by rw [put_size]; exact h.size, fun j hj => ?_⟩
  by_cases e : j = i
  · subst e
    unfold TT at hv ⊢
    cases hs : sp j with
    | none => trivial
    | some S =>
      obtain ⟨d, hdd, hlt⟩ := hok j (by rw [hs]; rfl)
      rw [hs] at hv
      rw [← hdi, hdd, slot_self hdd (by rw [h.size]; exact hlt)]
      exact hv
  · rw [getD_set_ne false (Ne.symm e)] at hj
    have hk := h.known j hj
    unfold TT at hk ⊢
    cases hs : sp j with
    | none => trivial
    | some S =>
      rw [hs] at hk
      obtain ⟨d, hdd, hlt⟩ := hok j (by rw [hs]; rfl)
      rw [slot_put fun d' hd' hj' => distinct_spec hd (i := i) (hdi.trans hd') (Ne.symm e) hj']
      exact ⟨hk.1, hst j S hs _ _ _ ho hk.2⟩

theorem LInv.wpOp {n N i : Nat} {s : Array Bool} {a : Act} {w : World} {K : Act → Prop} {Q : Exit → Act → World → Prop} (hd : distinctB ops = true) (hok : ∀ i, (sp i).isSome = true → ∃ d, dstOf ops i = some d ∧ d < N)
    (hst : ∀ i S, sp i = some S → ∀ v w w', Only [] w w' → S.2 v w → S.2 v w') (h : LInv ops md sp w0 n N s a w) (hr : i ∈ Region.ready md ops s) (hin : i < n) (hk : lOp P ops md sp w0 i K a) :
    wpOp P ops Q i (fun a' w' => LInv ops md sp w0 n N (s.setIfInBounds i true) a' w' ∧ K a') a w := by
  obtain ⟨hun, o, ho, hall⟩ := mem_ready.1 hr
  have hnone : sp i = none → ∀ v w', TT sp i v w' := fun e v w' => by unfold TT; rw [e]; trivial
  unfold lOp at hk
  unfold Go.wpOp
  simp only [ho] at hk ⊢
  by_cases hw : Region.wanted o (yielded ops a.tmps) = true
  · rw [if_pos hw] at hk ⊢
    left
    rcases hk with ⟨e1, e2, v, hq, hk⟩ | ⟨S, e1, _, e3, hk⟩
    · have h1 := hq w ⟨⟨w, h.only⟩, rfl⟩
      unfold Oper.quietAt at h1
      have hne := noCall_spec e2 P a.eval w
      unfold Oper.wp
      generalize (execOp a.eval o).run P w = r at *
      cases r with
      | halt x w' => simp only [Oper.quietUpon] at h1
      | ok m w' =>
        cases m <;> simp only [Oper.quietUpon] at h1 <;> simp only [Oper.upon]
        case value u =>
          obtain ⟨rfl, rfl⟩ := h1
          exact ⟨h.step hd hok hst ho hr hin (Only.refl _ _) (hnone e1 _ _), hk⟩
        case skip =>
          obtain ⟨rfl, rfl⟩ := h1
          exact ⟨h.step hd hok hst ho hr hin (Only.refl _ _) (hnone e1 _ _), hk⟩
        case enter f args => exact absurd rfl (hne f args w')
    · have h1 := e3 w h.only (fun e he hb => h.known e.on (hall e he hb))
      have hT : ∀ v w', S.1 v → S.2 v w' → TT sp i v w' := fun v w' q1 q2 => by unfold TT; rw [e1]; exact ⟨q1, q2⟩
      unfold Oper.wp
      generalize (execOp a.eval o).run P w = r at *
      cases r with
      | halt x w' => simp only [looseUpon] at h1
      | ok m w' =>
        cases m <;> simp only [looseUpon] at h1 <;> simp only [Oper.upon]
        case value u => exact ⟨h.step hd hok hst ho hr hin h1.1 (hT _ _ h1.2.1 h1.2.2), hk u h1.2.1⟩
        case enter f args =>
          obtain ⟨rfl, hc⟩ := h1
          exact hc.mono fun e w'' ⟨v, he, q1, q2, q3⟩ => by subst he; exact ⟨h.step hd hok hst ho hr hin q1 (hT _ _ q2 q3), hk v q2⟩
  · rw [if_neg hw] at hk ⊢
    exact ⟨h.step hd hok hst ho hr hin (Only.refl _ _) (hnone hk.1 _ _), hk.2⟩

theorem HeadL.wp {n N g : Nat} {L : Array Bool → Act → Prop} {Q : Exit → Act → World → Prop} (hd : distinctB ops = true) (hok : ∀ i, (sp i).isSome = true → ∃ d, dstOf ops i = some d ∧ d < N)
    (hst : ∀ i S, sp i = some S → ∀ v w w', Only [] w w' → S.2 v w → S.2 v w') (hL : ∀ s a w, LInv ops md sp w0 n N s a w → L s a → wpAny P md ops Q g s a w) :
    ∀ (f : Nat) (s : Array Bool) (a : Act) (w : World), LInv ops md sp w0 n N s a w → HeadL P md ops sp w0 n L f s a → wpAny P md ops Q (f + g) s a w := by
  intro f
  induction f with
  | zero => intro s a w inv h; rw [Nat.zero_add]; exact hL _ _ _ inv h
  | succ f ih =>
    intro s a w inv h
    rw [Nat.succ_add]
    exact ⟨fun h0 => absurd h0 h.1, fun i hi => wpOp_mono (fun a' w' h' => ih _ a' w' h'.1 h'.2) (inv.wpOp hd hok hst hi (h.2 i hi).1 (h.2 i hi).2)⟩

/-- Whether each rule speaks of a slot. -/
def spOk (sp : Spec) (ops : Array Oper) (N : Nat) : Bool := (List.range ops.size).all fun i => (sp i).isNone || (match dstOf ops i with
  | some d => decide (d < N)
  | none => false)

/-- **One walk.** -/
theorem region_loose {P : Program} {id : Nat} {Q : Exit → Act → World → Prop} {a : Act} {w : World} {l : List Oper} (n N : Nat) (sp : Spec) (hm : P.follows .mixedOrders = true) (hB : Region.lexTailB .any l.toArray n = true)
    (hd : distinctB l.toArray = true) (hN : a.tmps.size = N) (hok : spOk sp l.toArray N = true) (hout : ∀ i, l.length ≤ i → sp i = none)
    (hst : ∀ i S, sp i = some S → ∀ v w w', Only [] w w' → S.2 v w → S.2 v w')
    (h : wpLoose P l.toArray .any sp w (fun a' => ∀ w', Only [] w w' → (∀ i, i < n → TT sp i (slotOf l.toArray a' i) w') → wpList P l.toArray Q (l.drop n) a' w') (l.take n) 0 a) : (Code.region id l.toArray true).wp P Q a w := by
  simp only [Region.lexTailB, Bool.and_eq_true, decide_eq_true_eq] at hB
  obtain ⟨⟨⟨⟨hsel, hn⟩, hs⟩, hc⟩, hlex⟩ := hB
  have hn' : n < l.length := by simpa using hn
  have htl : (l.take n).length = n := by simp; omega
  have hok' : ∀ i, (sp i).isSome = true → ∃ d, dstOf l.toArray i = some d ∧ d < N := fun i hi => by
    rcases Nat.lt_or_ge i l.length with hlt | hge
    · have h1 := List.all_eq_true.1 hok i (List.mem_range.2 (by simpa using hlt))
      cases hsp : sp i with
      | none => rw [hsp] at hi; cases hi
      | some S =>
        rw [hsp] at h1
        cases hdd : dstOf l.toArray i with
        | none => rw [hdd] at h1; simp at h1
        | some d => rw [hdd] at h1; exact ⟨d, rfl, by simpa using h1⟩
    · rw [hout i hge] at hi; cases hi
  have inv0 : HeadInv .any l.toArray n (Array.replicate l.toArray.size false) :=
    ⟨by simp, fun j oj _ hl => (by rw [getD_replicate_false] at hl; cases hl), fun t _ ht => getD_in (by simpa using ht) (getD_replicate_false _ _)⟩
  have linv : LInv l.toArray .any sp w n N (Array.replicate l.toArray.size false) a w.drew := ⟨inv0, (Only.refl [] w).drew, hN, fun i hi => (by rw [getD_replicate_false] at hi; cases hi)⟩
  have H := HeadL.lex (md := .any) (g := l.toArray.size - n) hd hsel hs hc hn (l.take n) 0 _ a (fun j hj => by
    have : j < n := by rwa [htl] at hj
    simp [this]) (by simpa using htl) inv0 (by rw [htl]; exact hlex) h
  refine wp_region_any hm ?_
  have := HeadL.wp (Q := Q) (g := l.toArray.size - n) hd hok' hst (fun s a' w' inv hL => by
    have hseq := hL.1
    have hall : ∀ i, i < n → s.getD i false = true := fun i hi => by
      cases hx : s.getD i false with
      | true => rfl
      | false =>
        have hlt : i < s.size := by rw [inv.head.size]; omega
        have hnr : n ∈ Region.ready .any l.toArray s := by
          have hg : l.toArray.size - n = (l.toArray.size - n - 1) + 1 := by omega
          rw [hg] at hseq
          simp only [Region.seqB, Bool.and_eq_true, decide_eq_true_eq] at hseq
          rw [hseq.1]
          simp
        exact absurd hnr (tail_waits hs hc hn inv.head _ i rfl hi (getD_in hlt hx) n (Nat.le_refl _))
    have := wpAny_of_seq (md := .any) (Q' := Q) (l.drop n) n s a' w' (fun j => by simp [List.getElem?_drop]) (by simpa using hL.1) (hL.2 w' inv.only (fun i hi => inv.known i (hall i hi)))
    simpa using this) _ _ _ _ linv H
  rw [htl, show n + (l.toArray.size - n) = l.toArray.size by omega] at this
  exact this

/-- Quiet operations at once, m of them. -/
theorem wpLoose_quiet {R : Act → Prop} : ∀ (c rest : List Oper) (k : Nat) (a : Act), c.all noCall = true → (List.range' k c.length).all (fun i => (sp i).isNone) = true →
    wpQuiet P ops (fun w' => ∃ x : Later w0, w' = x.val) (fun a' => wpLoose P ops md sp w0 R rest (k + c.length) a') c a → wpLoose P ops md sp w0 R (c ++ rest) k a := by
  intro c
  induction c with
  | nil => intro rest k a _ _ h; exact h
  | cons o c ih =>
    intro rest k a hn hs h
    rw [List.all_cons, Bool.and_eq_true] at hn
    rw [List.length_cons, List.range'_succ, List.all_cons, Bool.and_eq_true] at hs
    have hk : sp k = none := by simpa using hs.1
    have hlen : k + (o :: c).length = (k + 1) + c.length := by rw [List.length_cons]; omega
    rw [hlen] at h
    show if _ then _ else _
    unfold wpQuiet at h
    by_cases hw : Region.wanted o (yielded ops a.tmps) = true
    · rw [if_pos hw] at h ⊢
      exact .inl ⟨hk, hn.1, Oper.quiet_mono (fun a' h' => ih rest (k + 1) a' hn.2 hs.2 h') h⟩
    · rw [if_neg hw] at h ⊢
      exact ⟨hk, ih rest (k + 1) _ hn.2 hs.2 h⟩
theorem wpLoose_chunk {R : Act → Prop} (m : Nat) {l : List Oper} {k : Nat} {a : Act} (hn : (l.take m).all noCall = true) (hs : (List.range' k (l.take m).length).all (fun i => (sp i).isNone) = true)
    (h : wpQuiet P ops (fun w' => ∃ x : Later w0, w' = x.val) (fun a' => wpLoose P ops md sp w0 R (l.drop m) (k + (l.take m).length) a') (l.take m) a) : wpLoose P ops md sp w0 R l k a := by
  have := wpLoose_quiet (R := R) (l.take m) (l.drop m) k a hn hs h
  rwa [List.take_append_drop] at this
/-- A call whose value is known by a rule. -/
theorem wpLoose_step {R : Act → Prop} {o : Oper} {rest : List Oper} {k : Nat} {a : Act} (S : (Value → Prop) × (Value → World → Prop)) (hs : sp k = some S) (hw : Region.wanted o (yielded ops a.tmps) = true) (hx : ∃ v, S.1 v)
    (h : ∀ w, Only [] w0 w → Knows ops md sp o a w → looseUpon P S w ((execOp a.eval o).run P w)) (hk : ∀ v, S.1 v → wpLoose P ops md sp w0 R rest (k + 1) (a.put o.dst v)) : wpLoose P ops md sp w0 R (o :: rest) k a := by
  show if _ then _ else _
  rw [if_pos hw]
  exact .inr ⟨S, hs, hx, h, hk⟩
theorem wpLoose_skip {R : Act → Prop} {o : Oper} {rest : List Oper} {k : Nat} {a : Act} (hs : sp k = none) (hw : Region.wanted o (yielded ops a.tmps) = false) (hk : wpLoose P ops md sp w0 R rest (k + 1) (a.put o.dst undef)) : wpLoose P ops md sp w0 R (o :: rest) k a := by
  show if _ then _ else _
  rw [if_neg (by rw [hw]; exact Bool.false_ne_true)]
  exact ⟨hs, hk⟩
end
end Go.Proofs.Ytakeoabeaopamaa
