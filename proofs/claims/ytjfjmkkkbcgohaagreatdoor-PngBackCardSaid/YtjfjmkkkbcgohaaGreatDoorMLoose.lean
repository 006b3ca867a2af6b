import Derived.Test.YtjfjmkkkbcgohaaGreatDoorMMem
namespace Go.Proofs.YtjfjmkkkbcgohaaGreatDoor
open Go Go.RowKit
abbrev Spec:=Nat -> Option ((Value -> Prop) × (Value -> World -> Prop))
def TT (sp : Spec) (i : Nat) (v : Value) (w : World) : Prop:=match sp i with
 | none=>True
 | some S=>S.1 v /\ S.2 v w
def dstOf (ops : Array Oper) (i : Nat) : Option Tmp:=match ops[i]? with
 | some o=>o.dst
 | none=>none
def slotOf (ops : Array Oper) (a : Act) (i : Nat) : Value:=match dstOf ops i with
 | some d=>a.tmps.getD d undef
 | none=>undef
def noCall (o : Oper) : Bool:=match o.op with
 | .load .. | .move .. | .assign .. | .pick .. | .binOp .. | .unOp .. | .fieldAddr .. | .field .. | .indexAddr .. | .index .. | .slice .. | .extract .. | .convert .. | .build ..=>true
 | _=>false
theorem no_enter_v (P : Program) (w : World) (s : Sem Value) (f : FuncId) (args : Array Value) (w' : World) : (do let x <- s; pure (Next.value x) : Sem Next).run P w ≠ .ok (.enter f args) w':=by
 rw [Sem.run_bind]
 cases s.run P w with
 | ok x w1=>simp [Result.andThen]
 | halt h w1=>simp [Result.andThen]
theorem no_enter_b (P : Program) (w : World) (s : Sem Bool) (k : Bool -> Value) (f : FuncId) (args : Array Value) (w' : World) : (do let x <- s; pure (Next.value (k x)) : Sem Next).run P w ≠ .ok (.enter f args) w':=by
 rw [Sem.run_bind]
 cases s.run P w with
 | ok x w1=>simp [Result.andThen]
 | halt h w1=>simp [Result.andThen]
theorem noCall_spec {o : Oper} (h : noCall o = true) (P : Program) (ρ : Operand -> Value) (w : World) (f : FuncId) (args : Array Value) (w' : World) : (execOp ρ o).run P w ≠ .ok (.enter f args) w':=by
 unfold noCall at h
 unfold execOp
 split at h <;> first | exact absurd h (by decide) | (rename_i e; simp only [e]; first | exact no_enter_v _ _ _ _ _ _ | (simp; done) | exact no_enter_b _ _ _ _ _ _ _)
section
variable {P : Program} {ops : Array Oper} {md : Region.Mode} {sp : Spec} {w0 : World}
def looseUpon (P : Program) (S : (Value -> Prop) × (Value -> World -> Prop)) (w : World) : Result Next -> Prop
 | .ok (.value u) w'=>Only [] w w' /\ S.1 u /\ S.2 u w'
 | .ok (.enter f args) w'=>w' = w /\ Calls P f args w (fun e w''=>∃ v,e = .returned v /\ Only [] w w'' /\ S.1 v /\ S.2 v w'')
 | _=>False
def Knows (ops : Array Oper) (md : Region.Mode) (sp : Spec) (o : Oper) (a : Act) (w : World) : Prop:=∀ e ∈ o.after,Region.binds md e = true -> TT sp e.on (slotOf ops a e.on) w
def stepL (P : Program) (ops : Array Oper) (md : Region.Mode) (sp : Spec) (w0 : World) (i : Nat) (o : Oper) (a : Act) (K : Act -> Prop) : Prop :=
 (sp i = none /\ noCall o = true /\ o.quiet P a (fun w'=>∃ x : Later w0,w' = x.val) K) \/
 (∃ S,sp i = some S /\ (∃ v,S.1 v) /\ (∀ w,Only [] w0 w -> Knows ops md sp o a w -> looseUpon P S w ((execOp a.eval o).run P w)) /\ ∀ v,S.1 v -> K (a.put o.dst v))
def lOp (P : Program) (ops : Array Oper) (md : Region.Mode) (sp : Spec) (w0 : World) (i : Nat) (K : Act -> Prop) (a : Act) : Prop:=match ops[i]? with
 | none=>K a
 | some o=>if Region.wanted o (yielded ops a.tmps) = true then stepL P ops md sp w0 i o a K else sp i = none /\ K (a.put o.dst undef)
theorem stepL_mono {i : Nat} {o : Oper} {a : Act} {K K' : Act -> Prop} (h : ∀ a,K a -> K' a) (hh : stepL P ops md sp w0 i o a K) : stepL P ops md sp w0 i o a K':=by
 rcases hh with ⟨h1,h2,h3⟩ | ⟨S,h1,h2,h3,h4⟩
 ·exact .inl ⟨h1,h2,Oper.quiet_mono h h3⟩
 ·exact .inr ⟨S,h1,h2,h3,fun v hv=>h _ (h4 v hv)⟩
theorem lOp_mono {i : Nat} {a : Act} {K K' : Act -> Prop} (h : ∀ a,K a -> K' a) (hh : lOp P ops md sp w0 i K a) : lOp P ops md sp w0 i K' a:=by
 unfold lOp at *
 cases ho : ops[i]? with
 | none=>simp only [ho] at hh; exact h _ hh
 | some o =>
   simp only [ho] at hh ⊢
   by_cases hw : Region.wanted o (yielded ops a.tmps) = true
   ·rw [if_pos hw] at hh ⊢; exact stepL_mono h hh
   ·rw [if_neg hw] at hh ⊢; exact ⟨hh.1,h _ hh.2⟩
theorem slot_put {j : Nat} {a : Act} {dst : Option Tmp} {v : Value} (h : ∀ d,dst = some d -> dstOf ops j ≠ some d) : slotOf ops (a.put dst v) j = slotOf ops a j:=by
 unfold slotOf
 cases hd : dstOf ops j with
 | none=>rfl
 | some d' =>
   cases dst with
   | none=>rfl
   | some d =>
     have hne : d ≠ d':=fun e=>h d rfl (by rw [hd,e])
     show (a.tmps.setIfInBounds d v).getD d' undef = a.tmps.getD d' undef
     simp [Array.getElem?_setIfInBounds_ne hne]
theorem slot_self {i : Nat} {a : Act} {d : Tmp} {v : Value} (h : dstOf ops i = some d) (hd : d < a.tmps.size) : slotOf ops (a.put (some d) v) i = v:=by
 unfold slotOf
 rw [h]
 show (a.tmps.setIfInBounds d v).getD d undef = v
 simp [hd]
def distinctB (ops : Array Oper) : Bool:=(List.range ops.size).all fun i=>(List.range ops.size).all fun j=>i == j || (dstOf ops i).isNone || dstOf ops i != dstOf ops j
theorem distinct_spec (h : distinctB ops = true) {i j : Nat} {d : Tmp} (hi : dstOf ops i = some d) (hij : i ≠ j) : dstOf ops j ≠ some d:=fun hj=>by
 have lt : ∀ {k : Nat},dstOf ops k = some d -> k < ops.size:=fun {k} hk=>by
  unfold dstOf at hk
  rcases Nat.lt_or_ge k ops.size with h | h
  ·exact h
  ·simp [h] at hk
 have h1:=List.all_eq_true.1 (List.all_eq_true.1 h i (List.mem_range.2 (lt hi))) j (List.mem_range.2 (lt hj))
 simp [hi,hj,hij] at h1
theorem knows_put {o : Oper} {a : Act} {w : World} {i : Nat} {oi : Oper} {v : Value} (hd : distinctB ops = true) (hi : ops[i]? = some oi) (hno : ∀ e ∈ o.after,Region.binds md e = true -> e.on ≠ i) :
 Knows ops md sp o (a.put oi.dst v) w ↔ Knows ops md sp o a w:=by
 have hdi : dstOf ops i = oi.dst:=by unfold dstOf; rw [hi]
 have hsl : ∀ e ∈ o.after,Region.binds md e = true -> slotOf ops (a.put oi.dst v) e.on = slotOf ops a e.on:=fun e he hb=>slot_put fun d hdd=>distinct_spec hd (i:=i) (hdi.trans hdd) (Ne.symm (hno e he hb))
 unfold Knows
 exact ⟨fun h e he hb=>by rw [<- hsl e he hb]; exact h e he hb,fun h e he hb=>by rw [hsl e he hb]; exact h e he hb⟩
theorem stepL_put {i j : Nat} {oi oj : Oper} {a : Act} {v : Value} {K : Act -> Prop} (hd : distinctB ops = true) (hsj : ∀ cs b,oj.op ≠ .select cs b) (hi : ops[i]? = some oi) (hap : oi.apart ops oj = true) (hno : ∀ e ∈ oj.after,Region.binds md e = true -> e.on ≠ i)
 (h : stepL P ops md sp w0 j oj (a.put oi.dst v) K) : stepL P ops md sp w0 j oj a (fun a'=>K (a'.put oi.dst v)):=by
 obtain ⟨h1,h2,h3⟩:=Oper.apart_spec hap
 have hex:=execOp_put oj hsj a oi.dst v h1
 rcases h with ⟨e1,e2,u,hq,hk⟩ | ⟨S,e1,e2,e3,e4⟩
 ·refine .inl ⟨e1,e2,u,fun w hw=>?_,by show K ((a.put oj.dst u).put oi.dst v); rw [<- Act.put_comm a v u h2]; exact hk⟩
  have:=hq w hw
  unfold Oper.quietAt at *
  rwa [hex] at this
 ·refine .inr ⟨S,e1,e2,fun w ho hk=>?_,fun u hu=>by show K ((a.put oj.dst u).put oi.dst v); rw [<- Act.put_comm a v u h2]; exact e4 u hu⟩
  have:=e3 w ho ((knows_put hd hi hno).2 hk)
  rwa [hex] at this
theorem quietAt_one {o : Oper} {a : Act} {w : World} {C : World -> Prop} {v v' : Value} (h : o.quietAt P a C w v) (h' : o.quietAt P a C w v') (hn : noCall o = true) : v = v':=by
 unfold Oper.quietAt at *
 have hne:=noCall_spec hn P a.eval w
 generalize (execOp a.eval o).run P w = r at *
 cases r with
 | halt x w'=>simp only [Oper.quietUpon] at h
 | ok n w' =>
   cases n <;> simp only [Oper.quietUpon] at h h'
   case value u=>exact h.2.symm.trans h'.2
   case skip=>exact h.2.trans h'.2.symm
   case enter f args=>exact absurd rfl (hne f args w')
theorem lOp_swap {i j : Nat} {oi oj : Oper} {a : Act} {G : Act -> Prop} (hd : distinctB ops = true) (hsi : ∀ cs b,oi.op ≠ .select cs b) (hsj : ∀ cs b,oj.op ≠ .select cs b) (hi : ops[i]? = some oi) (hj : ops[j]? = some oj)
 (hap : oi.apart ops oj = true) (hno : ∀ e ∈ oj.after,Region.binds md e = true -> e.on ≠ i) (hno' : ∀ e ∈ oi.after,Region.binds md e = true -> e.on ≠ j)
 (h : lOp P ops md sp w0 i (lOp P ops md sp w0 j G) a) : lOp P ops md sp w0 j (lOp P ops md sp w0 i G) a:=by
 obtain ⟨h1,h2,h3⟩:=Oper.apart_spec hap
 have hlj : ∀ K a,lOp P ops md sp w0 j K a = (if Region.wanted oj (yielded ops a.tmps) = true then stepL P ops md sp w0 j oj a K else sp j = none /\ K (a.put oj.dst undef)):=fun K a=>by unfold lOp; simp only [hj]
 have hli : ∀ K a,lOp P ops md sp w0 i K a = (if Region.wanted oi (yielded ops a.tmps) = true then stepL P ops md sp w0 i oi a K else sp i = none /\ K (a.put oi.dst undef)):=fun K a=>by unfold lOp; simp only [hi]
 rw [hli] at h
 rw [hlj]
 have back : ∀ (b : Act) (u : Value),(Region.wanted oi (yielded ops (b.put oj.dst u).tmps) = true) = (Region.wanted oi (yielded ops b.tmps) = true):=fun b u=>by rw [wanted_put oi b oj.dst u h3]
 by_cases wi : Region.wanted oi (yielded ops a.tmps) = true
 ·rw [if_pos wi] at h
  rcases h with ⟨e1,e2,v,hq,hk⟩ | ⟨S,e1,⟨v0,hv0⟩,e3,e4⟩
  ·rw [hlj,wanted_put oj a oi.dst v h1] at hk
   have goes : ∀ u,G ((a.put oj.dst u).put oi.dst v) -> lOp P ops md sp w0 i G (a.put oj.dst u):=fun u hg=>by
    rw [hli,if_pos (by rw [back]; exact wi)]
    refine .inl ⟨e1,e2,v,fun w hw=>?_,hg⟩
    have:=hq w hw
    unfold Oper.quietAt at *
    rwa [execOp_put oi hsi a oj.dst u h3]
   by_cases wj : Region.wanted oj (yielded ops a.tmps) = true
   ·rw [if_pos wj] at hk ⊢
    rcases stepL_put hd hsj hi hap hno hk with ⟨f1,f2,u,f3,f4⟩ | ⟨T,f1,f2,f3,f4⟩
    ·exact .inl ⟨f1,f2,u,f3,goes u f4⟩
    ·exact .inr ⟨T,f1,f2,f3,fun u hu=>goes u (f4 u hu)⟩
   ·rw [if_neg wj] at hk ⊢
    exact ⟨hk.1,goes undef (by rw [<- Act.put_comm a v undef h2]; exact hk.2)⟩
  ·have goes : ∀ u,(∀ v,S.1 v -> G ((a.put oj.dst u).put oi.dst v)) -> lOp P ops md sp w0 i G (a.put oj.dst u):=fun u hg=>by
    rw [hli,if_pos (by rw [back]; exact wi)]
    refine .inr ⟨S,e1,⟨v0,hv0⟩,fun w ho hk=>?_,hg⟩
    have:=e3 w ho ((knows_put hd hj hno').1 hk)
    rwa [execOp_put oi hsi a oj.dst u h3]
   by_cases wj : Region.wanted oj (yielded ops a.tmps) = true
   ·rw [if_pos wj]
    have hall : ∀ v,S.1 v -> stepL P ops md sp w0 j oj a (fun a'=>G (a'.put oi.dst v)):=fun v hv=>by
     have:=e4 v hv
     rw [hlj,wanted_put oj a oi.dst v h1,if_pos wj] at this
     exact stepL_put hd hsj hi hap hno this
    rcases hall v0 hv0 with ⟨f1,f2,u,f3,f4⟩ | ⟨T,f1,f2,f3,f4⟩
    ·refine .inl ⟨f1,f2,u,f3,goes u fun v hv=>?_⟩
     rcases hall v hv with ⟨g1,g2,u',g3,g4⟩ | ⟨T,g1,_⟩
     ·have hw : ∃ x : Later w0,w0 = x.val:=⟨⟨w0,Only.refl [] w0⟩,rfl⟩
      rw [quietAt_one (f3 w0 hw) (g3 w0 hw) f2]
      exact g4
     ·rw [f1] at g1; cases g1
    ·refine .inr ⟨T,f1,f2,f3,fun u hu=>goes u fun v hv=>?_⟩
     rcases hall v hv with ⟨g1,_⟩ | ⟨T',g1,_,_,g4⟩
     ·rw [f1] at g1; cases g1
     ·rw [f1] at g1
      injection g1 with g1
      subst g1
      exact g4 u hu
   ·rw [if_neg wj]
    have h0:=e4 v0 hv0
    rw [hlj,wanted_put oj a oi.dst v0 h1,if_neg wj] at h0
    refine ⟨h0.1,goes undef fun v hv=>?_⟩
    have:=e4 v hv
    rw [hlj,wanted_put oj a oi.dst v h1,if_neg wj] at this
    rw [<- Act.put_comm a v undef h2]
    exact this.2
 ·rw [if_neg wi] at h
  obtain ⟨e1,hk⟩:=h
  rw [hlj,wanted_put oj a oi.dst undef h1] at hk
  have goes : ∀ u,G ((a.put oj.dst u).put oi.dst undef) -> lOp P ops md sp w0 i G (a.put oj.dst u):=fun u hg=>by
   rw [hli,if_neg (by rw [back]; exact wi)]
   exact ⟨e1,hg⟩
  by_cases wj : Region.wanted oj (yielded ops a.tmps) = true
  ·rw [if_pos wj] at hk ⊢
   rcases stepL_put hd hsj hi hap hno hk with ⟨f1,f2,u,f3,f4⟩ | ⟨T,f1,f2,f3,f4⟩
   ·exact .inl ⟨f1,f2,u,f3,goes u f4⟩
   ·exact .inr ⟨T,f1,f2,f3,fun u hu=>goes u (f4 u hu)⟩
  ·rw [if_neg wj] at hk ⊢
   exact ⟨hk.1,goes undef (by rw [<- Act.put_comm a undef undef h2]; exact hk.2)⟩
theorem lOp_some {i : Nat} {a : Act} {K : Act -> Prop} (h : lOp P ops md sp w0 i K a) : ∃ a',K a':=by
 unfold lOp at h
 cases ho : ops[i]? with
 | none=>simp only [ho] at h; exact ⟨_,h⟩
 | some o =>
   simp only [ho] at h
   by_cases hw : Region.wanted o (yielded ops a.tmps) = true
   ·rw [if_pos hw] at h
    rcases h with ⟨_,_,v,_,hk⟩ | ⟨S,_,⟨v,hv⟩,_,hk⟩
    ·exact ⟨_,hk⟩
    ·exact ⟨_,hk v hv⟩
   ·rw [if_neg hw] at h; exact ⟨_,h.2⟩
def HeadL (P : Program) (md : Region.Mode) (ops : Array Oper) (sp : Spec) (w0 : World) (n : Nat) (L : Array Bool -> Act -> Prop) : Nat -> Array Bool -> Act -> Prop
 | 0,s,a=>L s a
 | f + 1,s,a=>Region.ready md ops s ≠ [] /\ ∀ i ∈ Region.ready md ops s,i < n /\ lOp P ops md sp w0 i (HeadL P md ops sp w0 n L f (s.setIfInBounds i true)) a
theorem HeadL.first {n i : Nat} {oi : Oper} {L : Array Bool -> Act -> Prop} (hd : distinctB ops = true) (hi : ops[i]? = some oi) (hsel : ∀ (j : Nat) (o : Oper) cs b,ops[j]? = some o -> o.op ≠ .select cs b)
 (hs : Region.sinkB md ops n = true) (hc : Region.chainB md ops n = true) (hn : n < ops.size) (hin : i < n) (hdone : ∀ s a,L s a -> ∀ j ∈ Region.ready md ops s,n <= j) :
 ∀ (f : Nat) (s : Array Bool) (a : Act),HeadInv md ops n s ->
   (∀ j oj,ops[j]? = some oj -> j ≠ i -> s.getD j true = false -> (∀ e ∈ oj.after,Region.binds md e = true -> e.on ≠ i) -> oi.apart ops oj = true) ->
   i ∈ Region.ready md ops s -> lOp P ops md sp w0 i (HeadL P md ops sp w0 n L f (s.setIfInBounds i true)) a -> HeadL P md ops sp w0 n L (f + 1) s a:=by
 intro f
 induction f with
 | zero =>
   intro s a inv _ hr H
   refine ⟨List.ne_nil_of_mem hr,fun j hj=>?_⟩
   have hlt : j < n:=Nat.lt_of_not_le fun h=>tail_waits hs hc hn inv _ i rfl hin (mem_ready.1 hr).1 j h hj
   by_cases e : j = i
   ·subst e; exact ⟨hlt,H⟩
   ·obtain ⟨a',ha'⟩:=lOp_some H
    have:=hdone _ _ ha' j (ready_mono hj e); omega
 | succ f ih =>
   intro s a inv hfree hr H
   obtain ⟨hun,oi',hoi',hali⟩:=mem_ready.1 hr
   obtain rfl : oi = oi':=Option.some.inj (hi.symm.trans hoi')
   refine ⟨List.ne_nil_of_mem hr,fun j hj=>?_⟩
   have hlt : j < n:=Nat.lt_of_not_le fun h=>tail_waits hs hc hn inv _ i rfl hin hun j h hj
   by_cases e : j = i
   ·subst e; exact ⟨hlt,H⟩
   ·obtain ⟨hjun,oj,hoj,hall⟩:=mem_ready.1 hj
    have hno : ∀ d ∈ oj.after,Region.binds md d = true -> d.on ≠ i:=fun d hd hb hon=>by
     have:=hall d hd hb
     rw [hon,getD_both hun] at this
     cases this
    have hno' : ∀ d ∈ oi.after,Region.binds md d = true -> d.on ≠ j:=fun d hd hb hon=>by
     have:=hali d hd hb
     rw [hon,getD_both hjun] at this
     cases this
    have h1:=lOp_swap (G:=HeadL P md ops sp w0 n L f ((s.setIfInBounds i true).setIfInBounds j true)) hd (fun cs b=>hsel i oi cs b hi) (fun cs b=>hsel j oj cs b hoj) hi hoj (hfree j oj hoj e hjun hno) hno hno' (lOp_mono (fun a' h'=>(h'.2 j (ready_mono hj e)).2) H)
    refine ⟨hlt,lOp_mono (fun a' h3=>ih _ a' (inv.set hj hlt) (fun k ok hk hki hk0=>hfree k ok hk hki ?_) (ready_mono hr (Ne.symm e)) ?_) h1⟩
    ·by_cases ejk : j = k
     ·subst ejk; exact hjun
     ·rwa [getD_set_ne true ejk] at hk0
    ·rw [Array.setIfInBounds_comm _ _ e]; exact h3
def wpLoose (P : Program) (ops : Array Oper) (md : Region.Mode) (sp : Spec) (w0 : World) (R : Act -> Prop) : List Oper -> Nat -> Act -> Prop
 | [],_,a=>R a
 | o :: rest,k,a=>if Region.wanted o (yielded ops a.tmps) = true then stepL P ops md sp w0 k o a (wpLoose P ops md sp w0 R rest (k + 1)) else sp k = none /\ wpLoose P ops md sp w0 R rest (k + 1) (a.put o.dst undef)
theorem HeadL.lex {n g : Nat} {R : Act -> Prop} (hd : distinctB ops = true) (hsel : Region.noSelect ops = true) (hs : Region.sinkB md ops n = true) (hc : Region.chainB md ops n = true) (hn : n < ops.size) :
 ∀ (l : List Oper) (k : Nat) (s : Array Bool) (a : Act),(∀ j,j < l.length -> l[j]? = ops[k + j]?) -> k + l.length = n -> HeadInv md ops n s ->
 Region.lexHead md ops g l.length k s = true -> wpLoose P ops md sp w0 R l k a -> HeadL P md ops sp w0 n (fun s' a'=>Region.seqB md ops g n s' = true /\ R a') l.length s a:=by
 intro l
 induction l with
 | nil =>
   intro k s a _ hk _ hB h
   obtain rfl : k = n:=by simpa using hk
   exact ⟨by simpa [Region.lexHead] using hB,h⟩
 | cons o l ih =>
   intro k s a hl hk inv hB h
   have h0 : ops[k]? = some o:=by simpa using (hl 0 (by simp)).symm
   simp only [List.length_cons,Region.lexHead,Bool.and_eq_true] at hB
   obtain ⟨⟨hr,hf⟩,hB'⟩:=hB
   rw [List.length_cons] at hk
   have hr' : k ∈ Region.ready md ops s:=by simpa using hr
   have hst : lOp P ops md sp w0 k (wpLoose P ops md sp w0 R l (k + 1)) a:=by unfold lOp; simp only [h0]; exact h
   refine HeadL.first hd h0 (Region.noSelect_spec hsel) hs hc hn (by omega) (fun s' a' hL=>seqB_ready hL.1) l.length s a inv (Region.free_spec h0 hf) hr' (lOp_mono (fun a' h'=>ih (k + 1) _ a' (fun j hj=>?_) (by omega) (inv.set hr' (by omega)) hB' h') hst)
   have:=hl (j + 1) (by simp; omega)
   simpa [Nat.add_assoc,Nat.add_comm 1 j] using this
structure LInv (ops : Array Oper) (md : Region.Mode) (sp : Spec) (w0 : World) (n N : Nat) (s : Array Bool) (a : Act) (w : World) : Prop where
 head : HeadInv md ops n s
 only : Only [] w0 w
 size : a.tmps.size = N
 known : ∀ i,s.getD i false = true -> TT sp i (slotOf ops a i) w
theorem put_size (a : Act) (dst : Option Tmp) (v : Value) : (a.put dst v).tmps.size = a.tmps.size:=by
 cases dst with
 | none=>rfl
 | some d=>simp [Act.put]
theorem LInv.step {n N i : Nat} {s : Array Bool} {a : Act} {w w' : World} {o : Oper} {v : Value} (hd : distinctB ops = true) (hok : ∀ i,(sp i).isSome = true -> ∃ d,dstOf ops i = some d /\ d < N)
 (hst : ∀ i S,sp i = some S -> ∀ v w w',Only [] w w' -> S.2 v w -> S.2 v w') (h : LInv ops md sp w0 n N s a w) (hi : ops[i]? = some o) (hr : i ∈ Region.ready md ops s) (hin : i < n) (ho : Only [] w w') (hv : TT sp i v w') :
 LInv ops md sp w0 n N (s.setIfInBounds i true) (a.put o.dst v) w':=by
 have hdi : dstOf ops i = o.dst:=by unfold dstOf; rw [hi]
 refine ⟨h.head.set hr hin,h.only.trans ho (by simp),by rw [put_size]; exact h.size,fun j hj=>?_⟩
 by_cases e : j = i
 ·subst e
  unfold TT at hv ⊢
  cases hs : sp j with
  | none=>trivial
  | some S =>
    obtain ⟨d,hdd,hlt⟩:=hok j (by rw [hs]; rfl)
    rw [hs] at hv
    rw [<- hdi,hdd,slot_self hdd (by rw [h.size]; exact hlt)]
    exact hv
 ·rw [getD_set_ne false (Ne.symm e)] at hj
  have hk:=h.known j hj
  unfold TT at hk ⊢
  cases hs : sp j with
  | none=>trivial
  | some S =>
    rw [hs] at hk
    obtain ⟨d,hdd,hlt⟩:=hok j (by rw [hs]; rfl)
    rw [slot_put fun d' hd' hj'=>distinct_spec hd (i:=i) (hdi.trans hd') (Ne.symm e) hj']
    exact ⟨hk.1,hst j S hs _ _ _ ho hk.2⟩
theorem LInv.wpOp {n N i : Nat} {s : Array Bool} {a : Act} {w : World} {K : Act -> Prop} {Q : Exit -> Act -> World -> Prop} (hd : distinctB ops = true) (hok : ∀ i,(sp i).isSome = true -> ∃ d,dstOf ops i = some d /\ d < N)
 (hst : ∀ i S,sp i = some S -> ∀ v w w',Only [] w w' -> S.2 v w -> S.2 v w') (h : LInv ops md sp w0 n N s a w) (hr : i ∈ Region.ready md ops s) (hin : i < n) (hk : lOp P ops md sp w0 i K a) :
 wpOp P ops Q i (fun a' w'=>LInv ops md sp w0 n N (s.setIfInBounds i true) a' w' /\ K a') a w:=by
 obtain ⟨hun,o,ho,hall⟩:=mem_ready.1 hr
 have hnone : sp i = none -> ∀ v w',TT sp i v w':=fun e v w'=>by unfold TT; rw [e]; trivial
 unfold lOp at hk
 unfold Go.wpOp
 simp only [ho] at hk ⊢
 by_cases hw : Region.wanted o (yielded ops a.tmps) = true
 ·rw [if_pos hw] at hk ⊢
  left
  rcases hk with ⟨e1,e2,v,hq,hk⟩ | ⟨S,e1,_,e3,hk⟩
  ·have h1:=hq w ⟨⟨w,h.only⟩,rfl⟩
   unfold Oper.quietAt at h1
   have hne:=noCall_spec e2 P a.eval w
   unfold Oper.wp
   generalize (execOp a.eval o).run P w = r at *
   cases r with
   | halt x w'=>simp only [Oper.quietUpon] at h1
   | ok m w' =>
     cases m <;> simp only [Oper.quietUpon] at h1 <;> simp only [Oper.upon]
     case value u =>
      obtain ⟨rfl,rfl⟩:=h1
      exact ⟨h.step hd hok hst ho hr hin (Only.refl _ _) (hnone e1 _ _),hk⟩
     case skip =>
      obtain ⟨rfl,rfl⟩:=h1
      exact ⟨h.step hd hok hst ho hr hin (Only.refl _ _) (hnone e1 _ _),hk⟩
     case enter f args=>exact absurd rfl (hne f args w')
  ·have h1:=e3 w h.only (fun e he hb=>h.known e.on (hall e he hb))
   have hT : ∀ v w',S.1 v -> S.2 v w' -> TT sp i v w':=fun v w' q1 q2=>by unfold TT; rw [e1]; exact ⟨q1,q2⟩
   unfold Oper.wp
   generalize (execOp a.eval o).run P w = r at *
   cases r with
   | halt x w'=>simp only [looseUpon] at h1
   | ok m w' =>
     cases m <;> simp only [looseUpon] at h1 <;> simp only [Oper.upon]
     case value u=>exact ⟨h.step hd hok hst ho hr hin h1.1 (hT _ _ h1.2.1 h1.2.2),hk u h1.2.1⟩
     case enter f args =>
      obtain ⟨rfl,hc⟩:=h1
      exact hc.mono fun e w'' ⟨v,he,q1,q2,q3⟩=>by subst he; exact ⟨h.step hd hok hst ho hr hin q1 (hT _ _ q2 q3),hk v q2⟩
 ·rw [if_neg hw] at hk ⊢
  exact ⟨h.step hd hok hst ho hr hin (Only.refl _ _) (hnone hk.1 _ _),hk.2⟩
theorem HeadL.wp {n N g : Nat} {L : Array Bool -> Act -> Prop} {Q : Exit -> Act -> World -> Prop} (hd : distinctB ops = true) (hok : ∀ i,(sp i).isSome = true -> ∃ d,dstOf ops i = some d /\ d < N)
 (hst : ∀ i S,sp i = some S -> ∀ v w w',Only [] w w' -> S.2 v w -> S.2 v w') (hL : ∀ s a w,LInv ops md sp w0 n N s a w -> L s a -> wpAny P md ops Q g s a w) :
 ∀ (f : Nat) (s : Array Bool) (a : Act) (w : World),LInv ops md sp w0 n N s a w -> HeadL P md ops sp w0 n L f s a -> wpAny P md ops Q (f + g) s a w:=by
 intro f
 induction f with
 | zero=>intro s a w inv h; rw [Nat.zero_add]; exact hL _ _ _ inv h
 | succ f ih =>
   intro s a w inv h
   rw [Nat.succ_add]
   exact ⟨fun h0=>absurd h0 h.1,fun i hi=>wpOp_mono (fun a' w' h'=>ih _ a' w' h'.1 h'.2) (inv.wpOp hd hok hst hi (h.2 i hi).1 (h.2 i hi).2)⟩
def spOk (sp : Spec) (ops : Array Oper) (N : Nat) : Bool:=(List.range ops.size).all fun i=>(sp i).isNone || (match dstOf ops i with
 | some d=>decide (d < N)
 | none=>false)
theorem region_loose {P : Program} {id : Nat} {Q : Exit -> Act -> World -> Prop} {a : Act} {w : World} {l : List Oper} (n N : Nat) (sp : Spec) (hm : P.follows .mixedOrders = true) (hB : Region.lexTailB .any l.toArray n = true)
 (hd : distinctB l.toArray = true) (hN : a.tmps.size = N) (hok : spOk sp l.toArray N = true) (hout : ∀ i,l.length <= i -> sp i = none)
 (hst : ∀ i S,sp i = some S -> ∀ v w w',Only [] w w' -> S.2 v w -> S.2 v w')
 (h : wpLoose P l.toArray .any sp w (fun a'=>∀ w',Only [] w w' -> (∀ i,i < n -> TT sp i (slotOf l.toArray a' i) w') -> wpList P l.toArray Q (l.drop n) a' w') (l.take n) 0 a) : (Code.region id l.toArray true).wp P Q a w:=by
 simp only [Region.lexTailB,Bool.and_eq_true,decide_eq_true_eq] at hB
 obtain ⟨⟨⟨⟨hsel,hn⟩,hs⟩,hc⟩,hlex⟩:=hB
 have hn' : n < l.length:=by simpa using hn
 have htl : (l.take n).length = n:=by simp; omega
 have hok' : ∀ i,(sp i).isSome = true -> ∃ d,dstOf l.toArray i = some d /\ d < N:=fun i hi=>by
  rcases Nat.lt_or_ge i l.length with hlt | hge
  ·have h1:=List.all_eq_true.1 hok i (List.mem_range.2 (by simpa using hlt))
   cases hsp : sp i with
   | none=>rw [hsp] at hi; cases hi
   | some S =>
     rw [hsp] at h1
     cases hdd : dstOf l.toArray i with
     | none=>rw [hdd] at h1; simp at h1
     | some d=>rw [hdd] at h1; exact ⟨d,rfl,by simpa using h1⟩
  ·rw [hout i hge] at hi; cases hi
 have inv0 : HeadInv .any l.toArray n (Array.replicate l.toArray.size false) :=
  ⟨by simp,fun j oj _ hl=>(by rw [getD_replicate_false] at hl; cases hl),fun t _ ht=>getD_in (by simpa using ht) (getD_replicate_false _ _)⟩
 have linv : LInv l.toArray .any sp w n N (Array.replicate l.toArray.size false) a w.drew:=⟨inv0,(Only.refl [] w).drew,hN,fun i hi=>(by rw [getD_replicate_false] at hi; cases hi)⟩
 have H:=HeadL.lex (md:=.any) (g:=l.toArray.size - n) hd hsel hs hc hn (l.take n) 0 _ a (fun j hj=>by
  have : j < n:=by rwa [htl] at hj
  simp [this]) (by simpa using htl) inv0 (by rw [htl]; exact hlex) h
 refine wp_region_any hm ?_
 have:=HeadL.wp (Q:=Q) (g:=l.toArray.size - n) hd hok' hst (fun s a' w' inv hL=>by
  have hseq:=hL.1
  have hall : ∀ i,i < n -> s.getD i false = true:=fun i hi=>by
   cases hx : s.getD i false with
   | true=>rfl
   | false =>
     have hlt : i < s.size:=by rw [inv.head.size]; omega
     have hnr : n ∈ Region.ready .any l.toArray s:=by
      have hg : l.toArray.size - n = (l.toArray.size - n - 1) + 1:=by omega
      rw [hg] at hseq
      simp only [Region.seqB,Bool.and_eq_true,decide_eq_true_eq] at hseq
      rw [hseq.1]
      simp
     exact absurd hnr (tail_waits hs hc hn inv.head _ i rfl hi (getD_in hlt hx) n (Nat.le_refl _))
  have:=wpAny_of_seq (md:=.any) (Q':=Q) (l.drop n) n s a' w' (fun j=>by simp [List.getElem?_drop]) (by simpa using hL.1) (hL.2 w' inv.only (fun i hi=>inv.known i (hall i hi)))
  simpa using this) _ _ _ _ linv H
 rw [htl,show n + (l.toArray.size - n) = l.toArray.size by omega] at this
 exact this
theorem wpLoose_quiet {R : Act -> Prop} : ∀ (c rest : List Oper) (k : Nat) (a : Act),c.all noCall = true -> (List.range' k c.length).all (fun i=>(sp i).isNone) = true ->
 wpQuiet P ops (fun w'=>∃ x : Later w0,w' = x.val) (fun a'=>wpLoose P ops md sp w0 R rest (k + c.length) a') c a -> wpLoose P ops md sp w0 R (c ++ rest) k a:=by
 intro c
 induction c with
 | nil=>intro rest k a _ _ h; exact h
 | cons o c ih =>
   intro rest k a hn hs h
   rw [List.all_cons,Bool.and_eq_true] at hn
   rw [List.length_cons,List.range'_succ,List.all_cons,Bool.and_eq_true] at hs
   have hk : sp k = none:=by simpa using hs.1
   have hlen : k + (o :: c).length = (k + 1) + c.length:=by rw [List.length_cons]; omega
   rw [hlen] at h
   show if _ then _ else _
   unfold wpQuiet at h
   by_cases hw : Region.wanted o (yielded ops a.tmps) = true
   ·rw [if_pos hw] at h ⊢
    exact .inl ⟨hk,hn.1,Oper.quiet_mono (fun a' h'=>ih rest (k + 1) a' hn.2 hs.2 h') h⟩
   ·rw [if_neg hw] at h ⊢
    exact ⟨hk,ih rest (k + 1) _ hn.2 hs.2 h⟩
theorem wpLoose_chunk {R : Act -> Prop} (m : Nat) {l : List Oper} {k : Nat} {a : Act} (hn : (l.take m).all noCall = true) (hs : (List.range' k (l.take m).length).all (fun i=>(sp i).isNone) = true)
 (h : wpQuiet P ops (fun w'=>∃ x : Later w0,w' = x.val) (fun a'=>wpLoose P ops md sp w0 R (l.drop m) (k + (l.take m).length) a') (l.take m) a) : wpLoose P ops md sp w0 R l k a:=by
 have:=wpLoose_quiet (R:=R) (l.take m) (l.drop m) k a hn hs h
 rwa [List.take_append_drop] at this
theorem wpLoose_step {R : Act -> Prop} {o : Oper} {rest : List Oper} {k : Nat} {a : Act} (S : (Value -> Prop) × (Value -> World -> Prop)) (hs : sp k = some S) (hw : Region.wanted o (yielded ops a.tmps) = true) (hx : ∃ v,S.1 v)
 (h : ∀ w,Only [] w0 w -> Knows ops md sp o a w -> looseUpon P S w ((execOp a.eval o).run P w)) (hk : ∀ v,S.1 v -> wpLoose P ops md sp w0 R rest (k + 1) (a.put o.dst v)) : wpLoose P ops md sp w0 R (o :: rest) k a:=by
 show if _ then _ else _
 rw [if_pos hw]
 exact .inr ⟨S,hs,hx,h,hk⟩
end
def addE : List Oper -> Nat -> Nat -> List Oper
 | [],_,_=>[]
 | o :: l,0,e=>{ o with after:=o.after.push { on:=e,ground:=.data } } :: l
 | o :: l,t + 1,e=>o :: addE l t e
theorem addE_get (l : List Oper) (t e : Nat) (i : Nat) : (addE l t e)[i]? = if i = t then (l[i]?).map (fun o=>{ o with after:=o.after.push { on:=e,ground:=.data } }) else l[i]?:=by
 induction l generalizing t i with
 | nil=>simp [addE]
 | cons o l ih =>
   cases t with
   | zero =>
     cases i with
     | zero=>simp [addE]
     | succ i=>simp [addE]
   | succ t =>
     cases i with
     | zero=>simp [addE]
     | succ i=>simp [addE,ih]
theorem addE_length (l : List Oper) (t e : Nat) : (addE l t e).length = l.length:=by
 induction l generalizing t with
 | nil=>rfl
 | cons o l ih=>cases t <;> simp [addE,ih]
section
variable {P : Program} {Q : Exit -> Act -> World -> Prop} {md : Region.Mode} {l : List Oper} {t e : Nat}
theorem addE_dst (tmps : Array Value) : yielded (addE l t e).toArray tmps = yielded l.toArray tmps:=by
 funext j
 unfold yielded
 have : ((addE l t e).toArray[j]?).bind (·.dst) = (l.toArray[j]?).bind (·.dst):=by
  rw [List.getElem?_toArray,List.getElem?_toArray,addE_get]
  split
  ·cases l[j]? <;> rfl
  ·rfl
 rw [this]
theorem wpOp_add {i : Nat} {K K' : Act -> World -> Prop} {a : Act} {w : World} (hK : ∀ a w,K a w -> K' a w) (h : wpOp P (addE l t e).toArray Q i K a w) : wpOp P l.toArray Q i K' a w:=by
 refine wpOp_mono hK ?_
 unfold wpOp at *
 rw [List.getElem?_toArray,addE_get] at h
 rw [List.getElem?_toArray]
 by_cases hit : i = t
 ·rw [if_pos hit] at h
  cases ho : l[i]? with
  | none=>rw [ho] at h; exact h
  | some o =>
    rw [ho] at h
    simp only [Option.map_some] at h ⊢
    rw [addE_dst] at h
    exact h
 ·rw [if_neg hit] at h
  cases ho : l[i]? with
  | none=>rw [ho] at h; exact h
  | some o =>
    rw [ho] at h
    simp only [] at h ⊢
    rw [addE_dst] at h
    exact h
def besideB (md : Region.Mode) (ops : Array Oper) (e : Nat) : Bool:=match ops[e]? with
 | none=>false
 | some oe=>(List.range ops.size).all fun j=>j == e || Region.waitsFor md ops j e || Region.waitsFor md ops e j || (match ops[j]? with
   | some oj=>oe.apart ops oj
   | none=>true)
def underB (md : Region.Mode) (ops : Array Oper) (t e : Nat) : Bool:=match ops[e]?,ops[t]? with
 | some oe,some ot=>oe.guard.isNone && (match oe.op with
   | .extract _ _=>true
   | _=>false) && oe.after.all fun x=>!Region.binds md x || ot.after.any fun y=>Region.binds md y && y.on == x.on
 | _,_=>false
theorem ready_add {s : Array Bool} (hb : Region.binds md { on:=e,ground:=.data } = true) {i : Nat} : i ∈ Region.ready md (addE l t e).toArray s ↔ i ∈ Region.ready md l.toArray s /\ (i = t -> s.getD e false = true):=by
 rw [mem_ready,mem_ready,List.getElem?_toArray,List.getElem?_toArray,addE_get]
 by_cases hit : i = t
 ·rw [if_pos hit]
  constructor
  ·rintro ⟨h1,o,ho,h2⟩
   cases hl : l[i]? with
   | none=>rw [hl] at ho; cases ho
   | some o' =>
     rw [hl] at ho
     injection ho with ho
     subst ho
     exact ⟨⟨h1,o',rfl,fun x hx hxb=>h2 x (by simp [hx]) hxb⟩,fun _=>h2 { on:=e,ground:=.data } (by simp) hb⟩
  ·rintro ⟨⟨h1,o,ho,h2⟩,h3⟩
   refine ⟨h1,_,by rw [ho]; rfl,fun x hx hxb=>?_⟩
   simp only [Array.mem_push] at hx
   rcases hx with hx | rfl
   ·exact h2 x hx hxb
   ·exact h3 hit
 ·rw [if_neg hit]
  exact ⟨fun h=>⟨h,fun h'=>absurd h' hit⟩,fun h=>h.1⟩
theorem extract_runs {o : Oper} {a : Act} {w : World} {x : Operand} {ix : Nat} {K : Act -> World -> Prop} (ho : o.op = .extract x ix) (h : o.wp P a w K Q \/ (o.asks P a w /\ LetsOut Q)) : ∃ v,(∀ w,(execOp a.eval o).run P w = .ok (.value v) w) /\ K (a.put o.dst v) w:=by
 have hcase : (∃ v,∀ w,(execOp a.eval o).run P w = .ok (.value v) w /\ (execOp a.eval o).runT P w #[] = (.ok (.value v) w,#[])) \/ (∀ w,∃ r,(execOp a.eval o).run P w = .halt (.stuck r) w /\ (execOp a.eval o).runT P w #[] = (.halt (.stuck r) w,#[])):=by
  unfold execOp
  simp only [ho]
  unfold Instr.extract
  cases a.eval x with
  | tuple vs =>
    cases hv : vs[ix]? with
    | some v=>simp only [hv]; left; exact ⟨v,fun w=>⟨rfl,rfl⟩⟩
    | none=>simp only [hv]; right; exact fun w=>⟨_,rfl,rfl⟩
  | _=>right; exact fun w=>⟨_,rfl,rfl⟩
 rcases hcase with ⟨v,hv⟩ | hst
 ·rcases h with h | ⟨h,_⟩
  ·refine ⟨v,fun w=>(hv w).1,?_⟩
   unfold Oper.wp at h
   rw [(hv w).1] at h
   exact h
  ·unfold Oper.asks at h
   rw [(hv w).2] at h
   exact absurd h.1 (by simp)
 ·obtain ⟨r,h1,h2⟩:=hst w
  rcases h with h | ⟨h,_⟩
  ·unfold Oper.wp at h
   rw [h1] at h
   exact h.elim
  ·unfold Oper.asks at h
   rw [h2] at h
   exact absurd h.1 (by simp)
theorem wpAny_add (hb : Region.binds md { on:=e,ground:=.data } = true) (hu : underB md l.toArray t e = true) (hne : e ≠ t) (hsel : Region.noSelect l.toArray = true) (hf : besideB md l.toArray e = true)
 (hQ : ∀ c a w (d : Option Tmp) v,Q (.panic c) (a.put d v) w -> Q (.panic c) a w) : ∀ (fuel : Nat) (s : Array Bool) (a : Act) (w : World),s.size = l.length -> wpAny P md (addE l t e).toArray Q fuel s a w -> wpAny P md l.toArray Q fuel s a w:=by
 unfold underB at hu
 rw [List.getElem?_toArray,List.getElem?_toArray] at hu
 cases hoe : l[e]? with
 | none=>rw [hoe] at hu; simp at hu
 | some oe =>
 cases hot : l[t]? with
 | none=>rw [hoe,hot] at hu; simp at hu
 | some ot =>
 rw [hoe,hot] at hu
 simp only [Bool.and_eq_true,Option.isNone_iff_eq_none] at hu
 obtain ⟨⟨hg,hx⟩,hun⟩:=hu
 obtain ⟨x,ix,hop⟩ : ∃ x ix,oe.op = .extract x ix:=by
  cases hop : oe.op <;> simp [hop] at hx
  exact ⟨_,_,rfl⟩
 have hoe' : l.toArray[e]? = some oe:=by rw [List.getElem?_toArray]; exact hoe
 have hel : e < l.length:=(List.getElem?_eq_some_iff.1 hoe).1
 have hunder : ∀ s : Array Bool,s.size = l.length -> t ∈ Region.ready md l.toArray s -> ¬ s.getD e false = true -> e ∈ Region.ready md l.toArray s:=fun s hs ht he=>by
  obtain ⟨_,o,ho,h2⟩:=mem_ready.1 ht
  rw [List.getElem?_toArray,hot] at ho
  injection ho with ho
  subst ho
  refine mem_ready.2 ⟨getD_in (by rw [hs]; exact hel) (by simpa using he),oe,hoe',fun y hy hyb=>?_⟩
  have h3:=Array.all_eq_true_iff_forall_mem.1 hun y hy
  rw [hyb] at h3
  simp only [Bool.not_true,Bool.false_or] at h3
  obtain ⟨z,hz,hzb⟩:=Array.any_eq_true'.1 h3
  simp only [Bool.and_eq_true,beq_iff_eq] at hzb
  rw [<- hzb.2]
  exact h2 z hz hzb.1
 intro fuel
 induction fuel with
 | zero =>
   intro s a w hs h
   refine ⟨?_,h.2⟩
   apply List.eq_nil_iff_forall_not_mem.2
   intro i hi
   have hnil:=h.1
   by_cases hc : i = t -> s.getD e false = true
   ·have:=(ready_add hb).2 ⟨hi,hc⟩
    rw [hnil] at this; cases this
   ·have hit : i = t:=Classical.byContradiction fun h=>hc fun h'=>absurd h' h
    subst hit
    have he:=hunder s hs hi (fun h=>hc fun _=>h)
    have:=(ready_add (l:=l) (t:=i) hb).2 ⟨he,fun h=>absurd h hne⟩
    rw [hnil] at this; cases this
 | succ fuel ih =>
   intro s a w hs h
   by_cases hc : t ∈ Region.ready md l.toArray s /\ ¬ s.getD e false = true
   ·have he:=hunder s hs hc.1 hc.2
    have h1:=h.2 e ((ready_add hb).2 ⟨he,fun h=>absurd h hne⟩)
    unfold wpOp at h1
    rw [List.getElem?_toArray,addE_get,if_neg hne,hoe] at h1
    have hwt : ∀ y,Region.wanted oe y = true:=fun y=>by simp [Region.wanted,hg]
    simp only [hwt,if_true] at h1
    obtain ⟨v,hv,hk⟩:=extract_runs hop h1
    refine wpAny_first hoe' (Region.noSelect_spec hsel) (fun c a w hq=>hQ c a w _ _ hq) fuel s a w (fun j oj hj hji hjun hno=>?_) he (.inl ⟨hwt _,hv⟩) (ih _ _ _ (by simpa using hs) hk)
    have hjl : j < l.toArray.size:=(Array.getElem?_eq_some_iff.1 hj).1
    have h3:=hf
    unfold besideB at h3
    rw [hoe'] at h3
    have h3:=List.all_eq_true.1 h3 j (List.mem_range.2 hjl)
    simp only [hj,Bool.or_eq_true,beq_iff_eq] at h3
    rcases h3 with ((h3 | h3) | h3) | h3
    ·exact absurd h3 hji
    ·obtain ⟨o',ho',y,hy,hyb,hon⟩:=Region.waitsFor_spec h3
     obtain rfl : oj = o':=Option.some.inj (hj.symm.trans ho')
     exact absurd hon (hno y hy hyb)
    ·obtain ⟨o',ho',y,hy,hyb,hon⟩:=Region.waitsFor_spec h3
     obtain rfl : oe = o':=Option.some.inj (hoe'.symm.trans ho')
     obtain ⟨_,o2,ho2,hall⟩:=mem_ready.1 he
     obtain rfl : oe = o2:=Option.some.inj (hoe'.symm.trans ho2)
     have:=hall y hy hyb
     rw [hon,getD_both hjun] at this
     cases this
    ·exact h3
   ·have hiff : ∀ i,i ∈ Region.ready md l.toArray s -> i ∈ Region.ready md (addE l t e).toArray s:=fun i hi=>(ready_add hb).2 ⟨hi,fun hit=>Classical.byContradiction fun hn=>hc ⟨hit ▸ hi,hn⟩⟩
    refine ⟨fun h0=>h.1 ?_,fun i hi=>wpOp_add (fun a' w' h'=>ih _ a' w' (by simpa using hs) h') (h.2 i (hiff i hi))⟩
    apply List.eq_nil_iff_forall_not_mem.2
    intro i hi
    have:=((ready_add hb).1 hi).1
    rw [h0] at this; cases this
end
theorem addE_s (o : Oper) (l : List Oper) (t e : Nat) : addE (o :: l) (t + 1) e = o :: addE l t e:=rfl
theorem addE_z (o : Oper) (l : List Oper) (e : Nat) : addE (o :: l) 0 e = { o with after:=o.after.push { on:=e,ground:=.data } } :: l:=rfl
theorem loose_any {P : Program} {Q : Exit -> Act -> World -> Prop} {a : Act} {w : World} {l : List Oper} (n N : Nat) (sp : Spec) (hB : Region.lexTailB .any l.toArray n = true)
 (hd : distinctB l.toArray = true) (hN : a.tmps.size = N) (hok : spOk sp l.toArray N = true) (hout : ∀ i,l.length <= i -> sp i = none)
 (hst : ∀ i S,sp i = some S -> ∀ v w w',Only [] w w' -> S.2 v w -> S.2 v w')
 (h : wpLoose P l.toArray .any sp w (fun a'=>∀ w',Only [] w w' -> (∀ i,i < n -> TT sp i (slotOf l.toArray a' i) w') -> wpList P l.toArray Q (l.drop n) a' w') (l.take n) 0 a) : wpAny P .any l.toArray Q l.toArray.size (Array.replicate l.toArray.size false) a w.drew:=by
 simp only [Region.lexTailB,Bool.and_eq_true,decide_eq_true_eq] at hB
 obtain ⟨⟨⟨⟨hsel,hn⟩,hs⟩,hc⟩,hlex⟩:=hB
 have hn' : n < l.length:=by simpa using hn
 have htl : (l.take n).length = n:=by simp; omega
 have hok' : ∀ i,(sp i).isSome = true -> ∃ d,dstOf l.toArray i = some d /\ d < N:=fun i hi=>by
  rcases Nat.lt_or_ge i l.length with hlt | hge
  ·have h1:=List.all_eq_true.1 hok i (List.mem_range.2 (by simpa using hlt))
   cases hsp : sp i with
   | none=>rw [hsp] at hi; cases hi
   | some S =>
     rw [hsp] at h1
     cases hdd : dstOf l.toArray i with
     | none=>rw [hdd] at h1; simp at h1
     | some d=>rw [hdd] at h1; exact ⟨d,rfl,by simpa using h1⟩
  ·rw [hout i hge] at hi; cases hi
 have inv0 : HeadInv .any l.toArray n (Array.replicate l.toArray.size false) :=
  ⟨by simp,fun j oj _ hl=>(by rw [getD_replicate_false] at hl; cases hl),fun t _ ht=>getD_in (by simpa using ht) (getD_replicate_false _ _)⟩
 have linv : LInv l.toArray .any sp w n N (Array.replicate l.toArray.size false) a w.drew:=⟨inv0,(Only.refl [] w).drew,hN,fun i hi=>(by rw [getD_replicate_false] at hi; cases hi)⟩
 have H:=HeadL.lex (md:=.any) (g:=l.toArray.size - n) hd hsel hs hc hn (l.take n) 0 _ a (fun j hj=>by
  have : j < n:=by rwa [htl] at hj
  simp [this]) (by simpa using htl) inv0 (by rw [htl]; exact hlex) h
 have:=HeadL.wp (Q:=Q) (g:=l.toArray.size - n) hd hok' hst (fun s a' w' inv hL=>by
  have hseq:=hL.1
  have hall : ∀ i,i < n -> s.getD i false = true:=fun i hi=>by
   cases hx : s.getD i false with
   | true=>rfl
   | false =>
     have hlt : i < s.size:=by rw [inv.head.size]; omega
     have hnr : n ∈ Region.ready .any l.toArray s:=by
      have hg : l.toArray.size - n = (l.toArray.size - n - 1) + 1:=by omega
      rw [hg] at hseq
      simp only [Region.seqB,Bool.and_eq_true,decide_eq_true_eq] at hseq
      rw [hseq.1]
      simp
     exact absurd hnr (tail_waits hs hc hn inv.head _ i rfl hi (getD_in hlt hx) n (Nat.le_refl _))
  have:=wpAny_of_seq (md:=.any) (Q':=Q) (l.drop n) n s a' w' (fun j=>by simp [List.getElem?_drop]) (by simpa using hL.1) (hL.2 w' inv.only (fun i hi=>inv.known i (hall i hi)))
  simpa using this) _ _ _ _ linv H
 rw [htl,show n + (l.toArray.size - n) = l.toArray.size by omega] at this
 exact this
def normalOnly (Q : Exit -> Act -> World -> Prop) : Exit -> Act -> World -> Prop:=fun e a w=>match e with
 | .normal=>Q .normal a w
 | _=>False
theorem normalOnly_intro {Q : Exit -> Act -> World -> Prop} {a : Act} {w : World} (h : Q .normal a w) : normalOnly Q .normal a w:=h
theorem region_loose_add {P : Program} {id : Nat} {Q : Exit -> Act -> World -> Prop} {a : Act} {w : World} {l : List Oper} (n N t e : Nat) (sp : Spec) (hm : P.follows .mixedOrders = true) (hu : underB .any l.toArray t e = true) (hne : (e != t) = true)
 (hsel : Region.noSelect l.toArray = true) (hf : besideB .any l.toArray e = true) (hB : Region.lexTailB .any (addE l t e).toArray n = true)
 (hd : distinctB (addE l t e).toArray = true) (hN : a.tmps.size = N) (hok : spOk sp (addE l t e).toArray N = true) (hout : ∀ i,l.length <= i -> sp i = none)
 (hst : ∀ i S,sp i = some S -> ∀ v w w',Only [] w w' -> S.2 v w -> S.2 v w')
 (h : wpLoose P (addE l t e).toArray .any sp w (fun a'=>∀ w',Only [] w w' -> (∀ i,i < n -> TT sp i (slotOf (addE l t e).toArray a' i) w') -> wpList P (addE l t e).toArray (normalOnly Q) ((addE l t e).drop n) a' w') ((addE l t e).take n) 0 a) : (Code.region id l.toArray true).wp P Q a w:=by
 refine Code.wp_mono (Q:=normalOnly Q) (fun e a w h=>by cases e <;> first | exact h | exact h.elim) ?_
 refine wp_region_any hm ?_
 have h1:=loose_any n N sp hB hd hN hok (by rw [addE_length]; exact hout) hst h
 have h2:=wpAny_add (P:=P) (Q:=normalOnly Q) (md:=.any) (l:=l) (t:=t) (e:=e) rfl hu (by simpa using hne) hsel hf (fun _ _ _ _ _ h=>h) _ _ _ _ (by simp [addE_length]) h1
 simpa [addE_length] using h2
def isVal (u : Value) : (Value -> Prop) × (Value -> World -> Prop):=(fun v=>v = u,fun _ _=>True)
def isBox (B : Nat) (t : TypeId) (cs : Array Value) : (Value -> Prop) × (Value -> World -> Prop) :=
 (fun v=>∃ g,v = .pointer (some ⟨g,0,none⟩),fun v w=>∀ g,v = .pointer (some ⟨g,0,none⟩) -> B <= g /\ Has w g t cs)
theorem isVal_of {u : Value} {w : World} {e : Ending} {w' : World} (h : e = .returned u /\ Only [] w w') : ∃ v,e = .returned v /\ Only [] w w' /\ (isVal u).1 v /\ (isVal u).2 v w':=⟨u,h.1,h.2,rfl,trivial⟩
theorem isBox_later (B : Nat) (t : TypeId) (cs : Array Value) : ∀ v w w',Only [] w w' -> (isBox B t cs).2 v w -> (isBox B t cs).2 v w':=fun v w w' ho h g he=>⟨(h g he).1,(h g he).2.only ho (by simp)⟩
theorem isBox_new {B : Nat} {t : TypeId} {cs : Array Value} {w : World} (hB : B <= w.heap.size) : Only [] w (w.alloc (.cells cs t)) /\ (isBox B t cs).1 (.pointer (some ⟨w.heap.size,0,none⟩)) /\ (isBox B t cs).2 (.pointer (some ⟨w.heap.size,0,none⟩)) (w.alloc (.cells cs t)) :=
 ⟨(Only.refl [] w).alloc _,⟨_,rfl⟩,fun g he=>by injection he with he; injection he with he; injection he with he; subst he; exact ⟨hB,Has.new w t cs⟩⟩
end Go.Proofs.YtjfjmkkkbcgohaaGreatDoor
