/-
  Regions that draw their order: an operation that takes a part of a tuple may be asked to come ahead of another one that its region leaves beside it.
-/
import Derived.Test.YtakeoabeaopamaaLoose
namespace Go.Proofs.Ytakeoabeaopamaa
open Go Go.RowKit

/-- Operation t waits for operation e too. -/
def addE : List Oper → Nat → Nat → List Oper
  | [], _, _ => []
  | o :: l, 0, e => { o with after := o.after.push { on := e, ground := .data } } :: l
  | o :: l, t + 1, e => o :: addE l t e
theorem addE_get (l : List Oper) (t e : Nat) (i : Nat) : (addE l t e)[i]? = if i = t then (l[i]?).map (fun o => { o with after := o.after.push { on := e, ground := .data } }) else l[i]? := by
  induction l generalizing t i with
  | nil => simp [addE]
  | cons o l ih =>
    cases t with
    | zero =>
      cases i with
      | zero => simp [addE]
      | succ i => simp [addE]
    | succ t =>
      cases i with
      | zero => simp [addE]
      | succ i => simp [addE, ih]
theorem addE_length (l : List Oper) (t e : Nat) : (addE l t e).length = l.length := by
  induction l generalizing t with
  | nil => rfl
  | cons o l ih => cases t <;> simp [addE, ih]

section
variable {P : Program} {Q : Exit → Act → World → Prop} {md : Region.Mode} {l : List Oper} {t e : Nat}

theorem addE_dst (tmps : Array Value) : yielded (addE l t e).toArray tmps = yielded l.toArray tmps := by
  funext j
  unfold yielded
  have : ((addE l t e).toArray[j]?).bind (·.dst) = (l.toArray[j]?).bind (·.dst) := by
    rw [List.getElem?_toArray, List.getElem?_toArray, addE_get]
    split
    · cases l[j]? <;> rfl
    · rfl
  rw [this]
theorem wpOp_add {i : Nat} {K K' : Act → World → Prop} {a : Act} {w : World} (hK : ∀ a w, K a w → K' a w) (h : wpOp P (addE l t e).toArray Q i K a w) : wpOp P l.toArray Q i K' a w := by
  refine wpOp_mono hK ?_
  unfold wpOp at *
  rw [List.getElem?_toArray, addE_get] at h
  rw [List.getElem?_toArray]
  by_cases hit : i = t
  · rw [if_pos hit] at h
    cases ho : l[i]? with
    | none => rw [ho] at h; exact h
    | some o =>
      rw [ho] at h
      simp only [Option.map_some] at h ⊢
      rw [addE_dst] at h
      exact h
  · rw [if_neg hit] at h
    cases ho : l[i]? with
    | none => rw [ho] at h; exact h
    | some o =>
      rw [ho] at h
      simp only [] at h ⊢
      rw [addE_dst] at h
      exact h

/-- Each other operation waits for e, or e for it, or they are apart. -/
def besideB (md : Region.Mode) (ops : Array Oper) (e : Nat) : Bool := match ops[e]? with
  | none => false
  | some oe => (List.range ops.size).all fun j => j == e || Region.waitsFor md ops j e || Region.waitsFor md ops e j || (match ops[j]? with
    | some oj => oe.apart ops oj
    | none => true)
/-- Whatever t waits for, e's own edges are among it. -/
def underB (md : Region.Mode) (ops : Array Oper) (t e : Nat) : Bool := match ops[e]?, ops[t]? with
  | some oe, some ot => oe.guard.isNone && (match oe.op with
    | .extract _ _ => true
    | _ => false) && oe.after.all fun x => !Region.binds md x || ot.after.any fun y => Region.binds md y && y.on == x.on
  | _, _ => false

theorem ready_add {s : Array Bool} (hb : Region.binds md { on := e, ground := .data } = true) {i : Nat} : i ∈ Region.ready md (addE l t e).toArray s ↔ i ∈ Region.ready md l.toArray s ∧ (i = t → s.getD e false = true) := by
  rw [mem_ready, mem_ready, List.getElem?_toArray, List.getElem?_toArray, addE_get]
  by_cases hit : i = t
  · rw [if_pos hit]
    constructor
    · rintro ⟨h1, o, ho, h2⟩
      cases hl : l[i]? with
      | none => rw [hl] at ho; cases ho
      | some o' =>
        rw [hl] at ho
        injection ho with ho
        subst ho
        exact ⟨⟨h1, o', rfl, fun x hx hxb => h2 x (by simp [hx]) hxb⟩, fun _ => h2 { on := e, ground := .data } (by simp) hb⟩
    · rintro ⟨⟨h1, o, ho, h2⟩, h3⟩
      refine ⟨h1, _, by rw [ho]; rfl, fun x hx hxb => ?_⟩
      simp only [Array.mem_push] at hx
      rcases hx with hx | rfl
      · exact h2 x hx hxb
      · exact h3 hit
  · rw [if_neg hit]
    exact ⟨fun h => ⟨h, fun h' => absurd h' hit⟩, fun h => h.1⟩

theorem extract_runs {o : Oper} {a : Act} {w : World} {x : Operand} {ix : Nat} {K : Act → World → Prop} (ho : o.op = .extract x ix) (h : o.wp P a w K Q ∨ (o.asks P a w ∧ LetsOut Q)) : ∃ v, (∀ w, (execOp a.eval o).run P w = .ok (.value v) w) ∧ K (a.put o.dst v) w := by
  have hcase : (∃ v, ∀ w, (execOp a.eval o).run P w = .ok (.value v) w ∧ (execOp a.eval o).runT P w #[] = (.ok (.value v) w, #[])) ∨ (∀ w, ∃ r, (execOp a.eval o).run P w = .halt (.stuck r) w ∧ (execOp a.eval o).runT P w #[] = (.halt (.stuck r) w, #[])) := by
    unfold execOp
    simp only [ho]
    unfold Instr.extract
    cases a.eval x with
    | tuple vs =>
      cases hv : vs[ix]? with
      | some v => simp only [hv]; left; exact ⟨v, fun w => ⟨rfl, rfl⟩⟩
      | none => simp only [hv]; right; exact fun w => ⟨_, rfl, rfl⟩
    | _ => right; exact fun w => ⟨_, rfl, rfl⟩
  rcases hcase with ⟨v, hv⟩ | hst
  · rcases h with h | ⟨h, _⟩
    · refine ⟨v, fun w => (hv w).1, ?_⟩
      unfold Oper.wp at h
      rw [(hv w).1] at h
      exact h
    · unfold Oper.asks at h
      rw [(hv w).2] at h
      exact absurd h.1 (by simp)
  · obtain ⟨r, h1, h2⟩ := hst w
    rcases h with h | ⟨h, _⟩
    · unfold Oper.wp at h
      rw [h1] at h
      exact h.elim
    · unfold Oper.asks at h
      rw [h2] at h
      exact absurd h.1 (by simp)

theorem wpAny_add (hb : Region.binds md { on := e, ground := .data } = true) (hu : underB md l.toArray t e = true) (hne : e ≠ t) (hsel : Region.noSelect l.toArray = true) (hf : besideB md l.toArray e = true)
    (hQ : ∀ c a w (d : Option Tmp) v, Q (.panic c) (a.put d v) w → Q (.panic c) a w) : ∀ (fuel : Nat) (s : Array Bool) (a : Act) (w : World), s.size = l.length → wpAny P md (addE l t e).toArray Q fuel s a w → wpAny P md l.toArray Q fuel s a w := by
  unfold underB at hu
  rw [List.getElem?_toArray, List.getElem?_toArray] at hu
  cases hoe : l[e]? with
  | none => rw [hoe] at hu; simp at hu
  | some oe =>
  cases hot : l[t]? with
  | none => rw [hoe, hot] at hu; simp at hu
  | some ot =>
  rw [hoe, hot] at hu
  simp only [Bool.and_eq_true, Option.isNone_iff_eq_none] at hu
  obtain ⟨⟨hg, hx⟩, hun⟩ := hu
  obtain ⟨x, ix, hop⟩ : ∃ x ix, oe.op = .extract x ix := by
    cases hop : oe.op <;> simp [hop] at hx
    exact ⟨_, _, rfl⟩
  have hoe' : l.toArray[e]? = some oe := by rw [List.getElem?_toArray]; exact hoe
  have hel : e < l.length := (List.getElem?_eq_some_iff.1 hoe).1
  have hunder : ∀ s : Array Bool, s.size = l.length → t ∈ Region.ready md l.toArray s → ¬ s.getD e false = true → e ∈ Region.ready md l.toArray s := fun s hs ht he => by
    obtain ⟨_, o, ho, h2⟩ := mem_ready.1 ht
    rw [List.getElem?_toArray, hot] at ho
    injection ho with ho
    subst ho
    refine mem_ready.2 ⟨getD_in (by rw [hs]; exact hel) (by simpa using he), oe, hoe', fun y hy hyb => ?_⟩
    have h3 := Array.all_eq_true_iff_forall_mem.1 hun y hy
    rw [hyb] at h3
    simp only [Bool.not_true, Bool.false_or] at h3
    obtain ⟨z, hz, hzb⟩ := Array.any_eq_true'.1 h3
    simp only [Bool.and_eq_true, beq_iff_eq] at hzb
    rw [← hzb.2]
    exact h2 z hz hzb.1
  intro fuel
  induction fuel with
  | zero =>
    intro s a w hs h
    refine ⟨?_, h.2⟩
    apply List.eq_nil_iff_forall_not_mem.2
    intro i hi
    have hnil := h.1
    by_cases hc : i = t → s.getD e false = true
    · have := (ready_add hb).2 ⟨hi, hc⟩
      rw [hnil] at this; cases this
    · have hit : i = t := Classical.byContradiction fun h => hc fun h' => absurd h' h
      subst hit
      have he := hunder s hs hi (fun h => hc fun _ => h)
      have := (ready_add (l := l) (t := i) hb).2 ⟨he, fun h => absurd h hne⟩
      rw [hnil] at this; cases this
  | succ fuel ih =>
    intro s a w hs h
    by_cases hc : t ∈ Region.ready md l.toArray s ∧ ¬ s.getD e false = true
    · have he := hunder s hs hc.1 hc.2
      have h1 := h.2 e ((ready_add hb).2 ⟨he, fun h => absurd h hne⟩)
      unfold wpOp at h1
      rw [List.getElem?_toArray, addE_get, if_neg hne, hoe] at h1
      have hwt : ∀ y, Region.wanted oe y = true := fun y => by simp [Region.wanted, hg]
      simp only [hwt, if_true] at h1
      obtain ⟨v, hv, hk⟩ := extract_runs hop h1
      refine wpAny_first hoe' (Region.noSelect_spec hsel) (fun c a w hq => hQ c a w _ _ hq) fuel s a w (fun j oj hj hji hjun hno => ?_) he (.inl ⟨hwt _, hv⟩) (ih _ _ _ (by simpa using hs) hk)
      have hjl : j < l.toArray.size := (Array.getElem?_eq_some_iff.1 hj).1
      have h3 := hf
      unfold besideB at h3
      rw [hoe'] at h3
      have h3 := List.all_eq_true.1 h3 j (List.mem_range.2 hjl)
      simp only [hj, Bool.or_eq_true, beq_iff_eq] at h3
      rcases h3 with ((h3 | h3) | h3) | h3
      · exact absurd h3 hji
      · obtain ⟨o', ho', y, hy, hyb, hon⟩ := Region.waitsFor_spec h3
        obtain rfl : oj = o' := Option.some.inj (hj.symm.trans ho')
        exact absurd hon (hno y hy hyb)
      · obtain ⟨o', ho', y, hy, hyb, hon⟩ := Region.waitsFor_spec h3
        obtain rfl : oe = o' := Option.some.inj (hoe'.symm.trans ho')
        obtain ⟨_, o2, ho2, hall⟩ := mem_ready.1 he
        obtain rfl : oe = o2 := Option.some.inj (hoe'.symm.trans ho2)
        have := hall y hy hyb
        rw [hon, getD_both hjun] at this
        cases this
      · exact h3
    · have hiff : ∀ i, i ∈ Region.ready md l.toArray s → i ∈ Region.ready md (addE l t e).toArray s := fun i hi => (ready_add hb).2 ⟨hi, fun hit => Classical.byContradiction fun hn => hc ⟨hit ▸ hi, hn⟩⟩
      refine ⟨fun h0 => h.1 ?_, fun i hi => wpOp_add (fun a' w' h' => ih _ a' w' (by simpa using hs) h') (h.2 i (hiff i hi))⟩
      apply List.eq_nil_iff_forall_not_mem.2
      intro i hi
      have := ((ready_add hb).1 hi).1
      rw [h0] at this; cases this
end

theorem addE_s (o : Oper) (l : List Oper) (t e : Nat) : addE (o :: l) (t + 1) e = o :: addE l t e := rfl
theorem addE_z (o : Oper) (l : List Oper) (e : Nat) : addE (o :: l) 0 e = { o with after := o.after.push { on := e, ground := .data } } :: l := rfl

theorem loose_any {P : Program} {Q : Exit → Act → World → Prop} {a : Act} {w : World} {l : List Oper} (n N : Nat) (sp : Spec) (hB : Region.lexTailB .any l.toArray n = true)
    (hd : distinctB l.toArray = true) (hN : a.tmps.size = N) (hok : spOk sp l.toArray N = true) (hout : ∀ i, l.length ≤ i → sp i = none)
    (hst : ∀ i S, sp i = some S → ∀ v w w', Only [] w w' → S.2 v w → S.2 v w')
    (h : wpLoose P l.toArray .any sp w (fun a' => ∀ w', Only [] w w' → (∀ i, i < n → TT sp i (slotOf l.toArray a' i) w') → wpList P l.toArray Q (l.drop n) a' w') (l.take n) 0 a) : wpAny P .any l.toArray Q l.toArray.size (Array.replicate l.toArray.size false) a w.drew := by
  simp only [Region.lexTailB, Bool.and_eq_true, decide_eq_true_eq] at hB
  obtain ⟨⟨⟨⟨hsel, hn⟩, hs⟩, hc⟩, hlex⟩ := hB
  have hn' : n < l.length := by simpa using hn
  have htl : (l.take n).length = n := by simp; omega
  have hok' : ∀ i, (sp i).isSome = true → ∃ d, dstOf l.toArray i = some d ∧ d < N := fun i hi => by
    rcases Nat.lt_or_ge i l.length with hlt | hge
    · have h1 := List.all_eq_true.1 hok i (List.mem_range.2 (by simpa using hlt))
      cases hsp : sp i with
      | none => rw [hsp] at hi; cases hi
      | some S =>
        rw [hsp] at h1
        cases hdd : dstOf l.toArray i with
        | none => rw [hdd] at h1; simp at h1
        | some d => rw [hdd] at h1; exact ⟨d, rfl, by simpa using h1⟩
    · rw [hout i hge] at hi; cases hi
  have inv0 : HeadInv .any l.toArray n (Array.replicate l.toArray.size false) :=
    ⟨by simp, fun j oj _ hl => (by rw [getD_replicate_false] at hl; cases hl), fun t _ ht => getD_in (by simpa using ht) (getD_replicate_false _ _)⟩
  have linv : LInv l.toArray .any sp w n N (Array.replicate l.toArray.size false) a w.drew := ⟨inv0, (Only.refl [] w).drew, hN, fun i hi => (by rw [getD_replicate_false] at hi; cases hi)⟩
  have H := HeadL.lex (md := .any) (g := l.toArray.size - n) hd hsel hs hc hn (l.take n) 0 _ a (fun j hj => by
    have : j < n := by rwa [htl] at hj
    simp [this]) (by simpa using htl) inv0 (by rw [htl]; exact hlex) h
  have := HeadL.wp (Q := Q) (g := l.toArray.size - n) hd hok' hst (fun s a' w' inv hL => by
    have hseq := hL.1
    have hall : ∀ i, i < n → s.getD i false = true := fun i hi => by
      cases hx : s.getD i false with
      | true => rfl
      | false =>
        have hlt : i < s.size := by rw [inv.head.size]; omega
        have hnr : n ∈ Region.ready .any l.toArray s := by
          have hg : l.toArray.size - n = (l.toArray.size - n - 1) + 1 := by omega
          rw [hg] at hseq
          simp only [Region.seqB, Bool.and_eq_true, decide_eq_true_eq] at hseq
          rw [hseq.1]
          simp
        exact absurd hnr (tail_waits hs hc hn inv.head _ i rfl hi (getD_in hlt hx) n (Nat.le_refl _))
    have := wpAny_of_seq (md := .any) (Q' := Q) (l.drop n) n s a' w' (fun j => by simp [List.getElem?_drop]) (by simpa using hL.1) (hL.2 w' inv.only (fun i hi => inv.known i (hall i hi)))
    simpa using this) _ _ _ _ linv H
  rw [htl, show n + (l.toArray.size - n) = l.toArray.size by omega] at this
  exact this

/-- Nothing but a plain end. -/
def normalOnly (Q : Exit → Act → World → Prop) : Exit → Act → World → Prop := fun e a w => match e with
  | .normal => Q .normal a w
  | _ => False
theorem normalOnly_intro {Q : Exit → Act → World → Prop} {a : Act} {w : World} (h : Q .normal a w) : normalOnly Q .normal a w := h
/-- **One walk**, the taking of a part (e) asked to come ahead of t. -/
theorem region_loose_add {P : Program} {id : Nat} {Q : Exit → Act → World → Prop} {a : Act} {w : World} {l : List Oper} (n N t e : Nat) (sp : Spec) (hm : P.follows .mixedOrders = true) (hu : underB .any l.toArray t e = true) (hne : (e != t) = true)
    (hsel : Region.noSelect l.toArray = true) (hf : besideB .any l.toArray e = true) (hB : Region.lexTailB .any (addE l t e).toArray n = true)
    (hd : distinctB (addE l t e).toArray = true) (hN : a.tmps.size = N) (hok : spOk sp (addE l t e).toArray N = true) (hout : ∀ i, l.length ≤ i → sp i = none)
    (hst : ∀ i S, sp i = some S → ∀ v w w', Only [] w w' → S.2 v w → S.2 v w')
    (h : wpLoose P (addE l t e).toArray .any sp w (fun a' => ∀ w', Only [] w w' → (∀ i, i < n → TT sp i (slotOf (addE l t e).toArray a' i) w') → wpList P (addE l t e).toArray (normalOnly Q) ((addE l t e).drop n) a' w') ((addE l t e).take n) 0 a) : (Code.region id l.toArray true).wp P Q a w := by
  refine Code.wp_mono (Q := normalOnly Q) (fun e a w h => by cases e <;> first | exact h | exact h.elim) ?_
  refine wp_region_any hm ?_
  have h1 := loose_any n N sp hB hd hN hok (by rw [addE_length]; exact hout) hst h
  have h2 := wpAny_add (P := P) (Q := normalOnly Q) (md := .any) (l := l) (t := t) (e := e) rfl hu (by simpa using hne) hsel hf (fun _ _ _ _ _ h => h) _ _ _ _ (by simp [addE_length]) h1
  simpa [addE_length] using h2

/-- A call that tells a new matrix: of these sides, of these bytes. -/
def isMat (W H : Int) (l : List UInt8) : (Value → Prop) × (Value → World → Prop) :=
  (fun v => ∃ A c, v = .agg #[.int .i64 W, .int .i64 H, .slice A l.length c], fun v w => ∀ A c, v = .agg #[.int .i64 W, .int .i64 H, .slice A l.length c] → Holds w 1 A l.length (bvals l))
/-- One that tells a matrix and something more. -/
def isMatAnd (W H : Int) (l : List UInt8) (u : Value) : (Value → Prop) × (Value → World → Prop) :=
  (fun v => ∃ A c, v = .tuple #[.agg #[.int .i64 W, .int .i64 H, .slice A l.length c], u], fun v w => ∀ A c, v = .tuple #[.agg #[.int .i64 W, .int .i64 H, .slice A l.length c], u] → Holds w 1 A l.length (bvals l))
/-- One that tells this. -/
def isVal (u : Value) : (Value → Prop) × (Value → World → Prop) := (fun v => v = u, fun _ _ => True)
/-- A new block. -/
def isBox (B : Nat) (t : TypeId) (cs : Array Value) : (Value → Prop) × (Value → World → Prop) :=
  (fun v => ∃ g, v = .pointer (some ⟨g, 0, none⟩), fun v w => ∀ g, v = .pointer (some ⟨g, 0, none⟩) → B ≤ g ∧ Has w g t cs)
theorem isVal_of {u : Value} {w : World} {e : Ending} {w' : World} (h : e = .returned u ∧ Only [] w w') : ∃ v, e = .returned v ∧ Only [] w w' ∧ (isVal u).1 v ∧ (isVal u).2 v w' := ⟨u, h.1, h.2, rfl, trivial⟩
theorem isMat_later (W H : Int) (l : List UInt8) : ∀ v w w', Only [] w w' → (isMat W H l).2 v w → (isMat W H l).2 v w' := fun v w w' ho h A c he => (h A c he).keep ho (by simp)
theorem isMatAnd_later (W H : Int) (l : List UInt8) (u : Value) : ∀ v w w', Only [] w w' → (isMatAnd W H l u).2 v w → (isMatAnd W H l u).2 v w' := fun v w w' ho h A c he => (h A c he).keep ho (by simp)
theorem isBox_later (B : Nat) (t : TypeId) (cs : Array Value) : ∀ v w w', Only [] w w' → (isBox B t cs).2 v w → (isBox B t cs).2 v w' := fun v w w' ho h g he => ⟨(h g he).1, (h g he).2.only ho (by simp)⟩
theorem isBox_new {B : Nat} {t : TypeId} {cs : Array Value} {w : World} (hB : B ≤ w.heap.size) : Only [] w (w.alloc (.cells cs t)) ∧ (isBox B t cs).1 (.pointer (some ⟨w.heap.size, 0, none⟩)) ∧ (isBox B t cs).2 (.pointer (some ⟨w.heap.size, 0, none⟩)) (w.alloc (.cells cs t)) :=
  ⟨(Only.refl [] w).alloc _, ⟨_, rfl⟩, fun g he => by injection he with he; injection he with he; injection he with he; subst he; exact ⟨hB, Has.new w t cs⟩⟩
end Go.Proofs.Ytakeoabeaopamaa
