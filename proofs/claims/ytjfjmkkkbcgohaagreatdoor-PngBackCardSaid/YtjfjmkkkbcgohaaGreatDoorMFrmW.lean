import Derived.Test.YtjfjmkkkbcgohaaGreatDoorMFrm
namespace Go.Proofs.YtjfjmkkkbcgohaaGreatDoor.FW
open Go Go.RowKit
structure LaterF (w : World × List Nat × Nat) where
 val : World
 only : Only w.2.1 w.1 val
instance laterF_nonempty (w : World × List Nat × Nat) : Nonempty (LaterF w):=⟨⟨w.1,Only.refl _ w.1⟩⟩
theorem later_cell {w : World × List Nat × Nat} {p : Addr} {u : Value} (h : w.1.cell? p = some u) (hp : p.block ∉ w.2.1) : ∀ x : LaterF w,x.val.cell? p = some u:=fun x=>by
 rw [x.only.cell (World.block_lt_of_cell? w.1 p h) hp]; exact h
def frW (w0 : World × List Nat × Nat) (i : Nat) : List Nat:=if i = w0.2.2 then [] else w0.2.1
def wrW (w0 : World × List Nat × Nat) (i : Nat) : List Nat:=if i = w0.2.2 then w0.2.1 else []
theorem wrW_mem {w0 : World × List Nat × Nat} {i k : Nat} (h : k ∈ wrW w0 i) : k ∈ w0.2.1:=by
 unfold wrW at h
 split at h
 ·exact h
 ·simp at h
section
variable {P : Program} {ops : Array Oper} {md : Region.Mode} {sp : FSpec} {et : Nat -> Option Nat} {w0 : World × List Nat × Nat}
def stepF (P : Program) (ops : Array Oper) (md : Region.Mode) (sp : FSpec) (et : Nat -> Option Nat) (w0 : World × List Nat × Nat) (i : Nat) (o : Oper) (a : Act) (K : Act -> Prop) : Prop :=
 (sp i = none /\ et i = none /\ noCall o = true /\ o.quiet P a (fun w'=>∃ x : LaterF w0,w' = x.val) K) \/
 (∃ S,sp i = some S /\ (∃ v,S.pure v) /\ (∀ w,Only (frW w0 i) w0.1 w -> KnowsF ops md sp et i o a w -> frmUpon P S (wrW w0 i ++ eaten ops sp et a i) w ((execOp a.eval o).run P w)) /\ ∀ v,S.pure v -> K (a.put o.dst v))
def fOp (P : Program) (ops : Array Oper) (md : Region.Mode) (sp : FSpec) (et : Nat -> Option Nat) (w0 : World × List Nat × Nat) (i : Nat) (K : Act -> Prop) (a : Act) : Prop:=match ops[i]? with
 | none=>K a
 | some o=>if Region.wanted o (yielded ops a.tmps) = true then stepF P ops md sp et w0 i o a K else sp i = none /\ et i = none /\ K (a.put o.dst undef)
theorem stepF_mono {i : Nat} {o : Oper} {a : Act} {K K' : Act -> Prop} (h : ∀ a,K a -> K' a) (hh : stepF P ops md sp et w0 i o a K) : stepF P ops md sp et w0 i o a K':=by
 rcases hh with ⟨h1,h0,h2,h3⟩ | ⟨S,h1,h2,h3,h4⟩
 ·exact .inl ⟨h1,h0,h2,Oper.quiet_mono h h3⟩
 ·exact .inr ⟨S,h1,h2,h3,fun v hv=>h _ (h4 v hv)⟩
theorem fOp_mono {i : Nat} {a : Act} {K K' : Act -> Prop} (h : ∀ a,K a -> K' a) (hh : fOp P ops md sp et w0 i K a) : fOp P ops md sp et w0 i K' a:=by
 unfold fOp at *
 cases ho : ops[i]? with
 | none=>simp only [ho] at hh; exact h _ hh
 | some o =>
   simp only [ho] at hh ⊢
   by_cases hw : Region.wanted o (yielded ops a.tmps) = true
   ·rw [if_pos hw] at hh ⊢; exact stepF_mono h hh
   ·rw [if_neg hw] at hh ⊢; exact ⟨hh.1,hh.2.1,h _ hh.2.2⟩
theorem stepF_put {i j : Nat} {oi oj : Oper} {a : Act} {v : Value} {K : Act -> Prop} (hd : distinctB ops = true) (he : eatOk ops md et) (hsj : ∀ cs b,oj.op ≠ .select cs b) (hi : ops[i]? = some oi) (hj : ops[j]? = some oj) (hap : oi.apart ops oj = true) (hno : ∀ e ∈ oj.after,Region.binds md e = true -> e.on ≠ i)
 (h : stepF P ops md sp et w0 j oj (a.put oi.dst v) K) : stepF P ops md sp et w0 j oj a (fun a'=>K (a'.put oi.dst v)):=by
 obtain ⟨h1,h2,h3⟩:=Oper.apart_spec hap
 have hex:=execOp_put oj hsj a oi.dst v h1
 rcases h with ⟨e1,e0,e2,u,hq,hk⟩ | ⟨S,e1,e2,e3,e4⟩
 ·refine .inl ⟨e1,e0,e2,u,fun w hw=>?_,by show K ((a.put oj.dst u).put oi.dst v); rw [<- Act.put_comm a v u h2]; exact hk⟩
  have:=hq w hw
  unfold Oper.quietAt at *
  rwa [hex] at this
 ·refine .inr ⟨S,e1,e2,fun w ho hk=>?_,fun u hu=>by show K ((a.put oj.dst u).put oi.dst v); rw [<- Act.put_comm a v u h2]; exact e4 u hu⟩
  have:=e3 w ho ((knowsF_put hd hi hno).2 hk)
  rwa [hex,eaten_put hd he hi hj hno] at this
theorem fOp_swap {i j : Nat} {oi oj : Oper} {a : Act} {G : Act -> Prop} (hd : distinctB ops = true) (hee : eatOk ops md et) (hsi : ∀ cs b,oi.op ≠ .select cs b) (hsj : ∀ cs b,oj.op ≠ .select cs b) (hi : ops[i]? = some oi) (hj : ops[j]? = some oj)
 (hap : oi.apart ops oj = true) (hno : ∀ e ∈ oj.after,Region.binds md e = true -> e.on ≠ i) (hno' : ∀ e ∈ oi.after,Region.binds md e = true -> e.on ≠ j)
 (h : fOp P ops md sp et w0 i (fOp P ops md sp et w0 j G) a) : fOp P ops md sp et w0 j (fOp P ops md sp et w0 i G) a:=by
 obtain ⟨h1,h2,h3⟩:=Oper.apart_spec hap
 have hlj : ∀ K a,fOp P ops md sp et w0 j K a = (if Region.wanted oj (yielded ops a.tmps) = true then stepF P ops md sp et w0 j oj a K else sp j = none /\ et j = none /\ K (a.put oj.dst undef)):=fun K a=>by unfold fOp; simp only [hj]
 have hli : ∀ K a,fOp P ops md sp et w0 i K a = (if Region.wanted oi (yielded ops a.tmps) = true then stepF P ops md sp et w0 i oi a K else sp i = none /\ et i = none /\ K (a.put oi.dst undef)):=fun K a=>by unfold fOp; simp only [hi]
 rw [hli] at h
 rw [hlj]
 have back : ∀ (b : Act) (u : Value),(Region.wanted oi (yielded ops (b.put oj.dst u).tmps) = true) = (Region.wanted oi (yielded ops b.tmps) = true):=fun b u=>by rw [wanted_put oi b oj.dst u h3]
 by_cases wi : Region.wanted oi (yielded ops a.tmps) = true
 ·rw [if_pos wi] at h
  rcases h with ⟨e1,e0,e2,v,hq,hk⟩ | ⟨S,e1,⟨v0,hv0⟩,e3,e4⟩
  ·rw [hlj,wanted_put oj a oi.dst v h1] at hk
   have goes : ∀ u,G ((a.put oj.dst u).put oi.dst v) -> fOp P ops md sp et w0 i G (a.put oj.dst u):=fun u hg=>by
    rw [hli,if_pos (by rw [back]; exact wi)]
    refine .inl ⟨e1,e0,e2,v,fun w hw=>?_,hg⟩
    have:=hq w hw
    unfold Oper.quietAt at *
    rwa [execOp_put oi hsi a oj.dst u h3]
   by_cases wj : Region.wanted oj (yielded ops a.tmps) = true
   ·rw [if_pos wj] at hk ⊢
    rcases stepF_put hd hee hsj hi hj hap hno hk with ⟨f1,f0,f2,u,f3,f4⟩ | ⟨T,f1,f2,f3,f4⟩
    ·exact .inl ⟨f1,f0,f2,u,f3,goes u f4⟩
    ·exact .inr ⟨T,f1,f2,f3,fun u hu=>goes u (f4 u hu)⟩
   ·rw [if_neg wj] at hk ⊢
    exact ⟨hk.1,hk.2.1,goes undef (by rw [<- Act.put_comm a v undef h2]; exact hk.2.2)⟩
  ·have goes : ∀ u,(∀ v,S.pure v -> G ((a.put oj.dst u).put oi.dst v)) -> fOp P ops md sp et w0 i G (a.put oj.dst u):=fun u hg=>by
    rw [hli,if_pos (by rw [back]; exact wi)]
    refine .inr ⟨S,e1,⟨v0,hv0⟩,fun w ho hk=>?_,hg⟩
    have:=e3 w ho ((knowsF_put hd hj hno').1 hk)
    rwa [execOp_put oi hsi a oj.dst u h3,eaten_put hd hee hj hi hno']
   by_cases wj : Region.wanted oj (yielded ops a.tmps) = true
   ·rw [if_pos wj]
    have hall : ∀ v,S.pure v -> stepF P ops md sp et w0 j oj a (fun a'=>G (a'.put oi.dst v)):=fun v hv=>by
     have:=e4 v hv
     rw [hlj,wanted_put oj a oi.dst v h1,if_pos wj] at this
     exact stepF_put hd hee hsj hi hj hap hno this
    rcases hall v0 hv0 with ⟨f1,f0,f2,u,f3,f4⟩ | ⟨T,f1,f2,f3,f4⟩
    ·refine .inl ⟨f1,f0,f2,u,f3,goes u fun v hv=>?_⟩
     rcases hall v hv with ⟨g1,_,g2,u',g3,g4⟩ | ⟨T,g1,_⟩
     ·have hw : ∃ x : LaterF w0,w0.1 = x.val:=⟨⟨w0.1,Only.refl _ _⟩,rfl⟩
      rw [quietAt_one (f3 w0.1 hw) (g3 w0.1 hw) f2]
      exact g4
     ·rw [f1] at g1; cases g1
    ·refine .inr ⟨T,f1,f2,f3,fun u hu=>goes u fun v hv=>?_⟩
     rcases hall v hv with ⟨g1,_⟩ | ⟨T',g1,_,_,g4⟩
     ·rw [f1] at g1; cases g1
     ·rw [f1] at g1
      injection g1 with g1
      subst g1
      exact g4 u hu
   ·rw [if_neg wj]
    have h0:=e4 v0 hv0
    rw [hlj,wanted_put oj a oi.dst v0 h1,if_neg wj] at h0
    refine ⟨h0.1,h0.2.1,goes undef fun v hv=>?_⟩
    have:=e4 v hv
    rw [hlj,wanted_put oj a oi.dst v h1,if_neg wj] at this
    rw [<- Act.put_comm a v undef h2]
    exact this.2.2
 ·rw [if_neg wi] at h
  obtain ⟨e1,e0,hk⟩:=h
  rw [hlj,wanted_put oj a oi.dst undef h1] at hk
  have goes : ∀ u,G ((a.put oj.dst u).put oi.dst undef) -> fOp P ops md sp et w0 i G (a.put oj.dst u):=fun u hg=>by
   rw [hli,if_neg (by rw [back]; exact wi)]
   exact ⟨e1,e0,hg⟩
  by_cases wj : Region.wanted oj (yielded ops a.tmps) = true
  ·rw [if_pos wj] at hk ⊢
   rcases stepF_put hd hee hsj hi hj hap hno hk with ⟨f1,f0,f2,u,f3,f4⟩ | ⟨T,f1,f2,f3,f4⟩
   ·exact .inl ⟨f1,f0,f2,u,f3,goes u f4⟩
   ·exact .inr ⟨T,f1,f2,f3,fun u hu=>goes u (f4 u hu)⟩
  ·rw [if_neg wj] at hk ⊢
   exact ⟨hk.1,hk.2.1,goes undef (by rw [<- Act.put_comm a undef undef h2]; exact hk.2.2)⟩
theorem fOp_some {i : Nat} {a : Act} {K : Act -> Prop} (h : fOp P ops md sp et w0 i K a) : ∃ a',K a':=by
 unfold fOp at h
 cases ho : ops[i]? with
 | none=>simp only [ho] at h; exact ⟨_,h⟩
 | some o =>
   simp only [ho] at h
   by_cases hw : Region.wanted o (yielded ops a.tmps) = true
   ·rw [if_pos hw] at h
    rcases h with ⟨_,_,_,v,_,hk⟩ | ⟨S,_,⟨v,hv⟩,_,hk⟩
    ·exact ⟨_,hk⟩
    ·exact ⟨_,hk v hv⟩
   ·rw [if_neg hw] at h; exact ⟨_,h.2.2⟩
def HeadF (P : Program) (md : Region.Mode) (ops : Array Oper) (sp : FSpec) (et : Nat -> Option Nat) (w0 : World × List Nat × Nat) (n : Nat) (L : Array Bool -> Act -> Prop) : Nat -> Array Bool -> Act -> Prop
 | 0,s,a=>L s a
 | f + 1,s,a=>Region.ready md ops s ≠ [] /\ ∀ i ∈ Region.ready md ops s,i < n /\ fOp P ops md sp et w0 i (HeadF P md ops sp et w0 n L f (s.setIfInBounds i true)) a
theorem HeadF.first {n i : Nat} {oi : Oper} {L : Array Bool -> Act -> Prop} (hd : distinctB ops = true) (hee : eatOk ops md et) (hi : ops[i]? = some oi) (hsel : ∀ (j : Nat) (o : Oper) cs b,ops[j]? = some o -> o.op ≠ .select cs b)
 (hs : Region.sinkB md ops n = true) (hc : Region.chainB md ops n = true) (hn : n < ops.size) (hin : i < n) (hdone : ∀ s a,L s a -> ∀ j ∈ Region.ready md ops s,n <= j) :
 ∀ (f : Nat) (s : Array Bool) (a : Act),HeadInv md ops n s ->
   (∀ j oj,ops[j]? = some oj -> j ≠ i -> s.getD j true = false -> (∀ e ∈ oj.after,Region.binds md e = true -> e.on ≠ i) -> oi.apart ops oj = true) ->
   i ∈ Region.ready md ops s -> fOp P ops md sp et w0 i (HeadF P md ops sp et w0 n L f (s.setIfInBounds i true)) a -> HeadF P md ops sp et w0 n L (f + 1) s a:=by
 intro f
 induction f with
 | zero =>
   intro s a inv _ hr H
   refine ⟨List.ne_nil_of_mem hr,fun j hj=>?_⟩
   have hlt : j < n:=Nat.lt_of_not_le fun h=>tail_waits hs hc hn inv _ i rfl hin (mem_ready.1 hr).1 j h hj
   by_cases e : j = i
   ·subst e; exact ⟨hlt,H⟩
   ·obtain ⟨a',ha'⟩:=fOp_some H
    have:=hdone _ _ ha' j (ready_mono hj e); omega
 | succ f ih =>
   intro s a inv hfree hr H
   obtain ⟨hun,oi',hoi',hali⟩:=mem_ready.1 hr
   obtain rfl : oi = oi':=Option.some.inj (hi.symm.trans hoi')
   refine ⟨List.ne_nil_of_mem hr,fun j hj=>?_⟩
   have hlt : j < n:=Nat.lt_of_not_le fun h=>tail_waits hs hc hn inv _ i rfl hin hun j h hj
   by_cases e : j = i
   ·subst e; exact ⟨hlt,H⟩
   ·obtain ⟨hjun,oj,hoj,hall⟩:=mem_ready.1 hj
    have hno : ∀ d ∈ oj.after,Region.binds md d = true -> d.on ≠ i:=fun d hd hb hon=>by
     have:=hall d hd hb
     rw [hon,getD_both hun] at this
     cases this
    have hno' : ∀ d ∈ oi.after,Region.binds md d = true -> d.on ≠ j:=fun d hd hb hon=>by
     have:=hali d hd hb
     rw [hon,getD_both hjun] at this
     cases this
    have h1:=fOp_swap (G:=HeadF P md ops sp et w0 n L f ((s.setIfInBounds i true).setIfInBounds j true)) hd hee (fun cs b=>hsel i oi cs b hi) (fun cs b=>hsel j oj cs b hoj) hi hoj (hfree j oj hoj e hjun hno) hno hno' (fOp_mono (fun a' h'=>(h'.2 j (ready_mono hj e)).2) H)
    refine ⟨hlt,fOp_mono (fun a' h3=>ih _ a' (inv.set hj hlt) (fun k ok hk hki hk0=>hfree k ok hk hki ?_) (ready_mono hr (Ne.symm e)) ?_) h1⟩
    ·by_cases ejk : j = k
     ·subst ejk; exact hjun
     ·rwa [getD_set_ne true ejk] at hk0
    ·rw [Array.setIfInBounds_comm _ _ e]; exact h3
def wpFrm (P : Program) (ops : Array Oper) (md : Region.Mode) (sp : FSpec) (et : Nat -> Option Nat) (w0 : World × List Nat × Nat) (R : Act -> Prop) : List Oper -> Nat -> Act -> Prop
 | [],_,a=>R a
 | o :: rest,k,a=>if Region.wanted o (yielded ops a.tmps) = true then stepF P ops md sp et w0 k o a (wpFrm P ops md sp et w0 R rest (k + 1)) else sp k = none /\ et k = none /\ wpFrm P ops md sp et w0 R rest (k + 1) (a.put o.dst undef)
theorem HeadF.lex {n g : Nat} {R : Act -> Prop} (hd : distinctB ops = true) (hee : eatOk ops md et) (hsel : Region.noSelect ops = true) (hs : Region.sinkB md ops n = true) (hc : Region.chainB md ops n = true) (hn : n < ops.size) :
 ∀ (l : List Oper) (k : Nat) (s : Array Bool) (a : Act),(∀ j,j < l.length -> l[j]? = ops[k + j]?) -> k + l.length = n -> HeadInv md ops n s ->
 Region.lexHead md ops g l.length k s = true -> wpFrm P ops md sp et w0 R l k a -> HeadF P md ops sp et w0 n (fun s' a'=>Region.seqB md ops g n s' = true /\ R a') l.length s a:=by
 intro l
 induction l with
 | nil =>
   intro k s a _ hk _ hB h
   obtain rfl : k = n:=by simpa using hk
   exact ⟨by simpa [Region.lexHead] using hB,h⟩
 | cons o l ih =>
   intro k s a hl hk inv hB h
   have h0 : ops[k]? = some o:=by simpa using (hl 0 (by simp)).symm
   simp only [List.length_cons,Region.lexHead,Bool.and_eq_true] at hB
   obtain ⟨⟨hr,hf⟩,hB'⟩:=hB
   rw [List.length_cons] at hk
   have hr' : k ∈ Region.ready md ops s:=by simpa using hr
   have hst : fOp P ops md sp et w0 k (wpFrm P ops md sp et w0 R l (k + 1)) a:=by unfold fOp; simp only [h0]; exact h
   refine HeadF.first hd hee h0 (Region.noSelect_spec hsel) hs hc hn (by omega) (fun s' a' hL=>seqB_ready hL.1) l.length s a inv (Region.free_spec h0 hf) hr' (fOp_mono (fun a' h'=>ih (k + 1) _ a' (fun j hj=>?_) (by omega) (inv.set hr' (by omega)) hB' h') hst)
   have:=hl (j + 1) (by simp; omega)
   simpa [Nat.add_assoc,Nat.add_comm 1 j] using this
structure FInv (ops : Array Oper) (md : Region.Mode) (sp : FSpec) (et : Nat -> Option Nat) (w0 : World × List Nat × Nat) (n N : Nat) (s : Array Bool) (a : Act) (w : World) : Prop where
 head : HeadInv md ops n s
 old : ∀ k ∈ w0.2.1,k < w0.1.heap.size
 calm : s.getD w0.2.2 false = false -> Only [] w0.1 w
 only : Only w0.2.1 w0.1 w
 size : a.tmps.size = N
 known : ∀ i,s.getD i false = true -> (∀ j,et j = some i -> s.getD j false = false) -> TFm sp i (slotOf ops a i) w
 new : ∀ i,s.getD i false = true -> ∀ k ∈ ownF sp i (slotOf ops a i),w0.1.heap.size <= k /\ k < w.heap.size
 apart : ∀ i j,i ≠ j -> s.getD i false = true -> s.getD j false = true -> ∀ k ∈ ownF sp i (slotOf ops a i),k ∉ ownF sp j (slotOf ops a j)
theorem FInv.step {n N i : Nat} {s : Array Bool} {a : Act} {w w' : World} {o : Oper} {v : Value} (hd : distinctB ops = true) (hee : eatOk ops md et) (hok : ∀ i,(sp i).isSome = true -> ∃ d,dstOf ops i = some d /\ d < N)
 (hst : ∀ i S,sp i = some S -> ∀ v w w' T,Only T w w' -> (∀ k ∈ T,((k ∈ w0.2.1 /\ i ≠ w0.2.2) \/ (w0.1.heap.size <= k /\ ∃ j m,et j = some m)) /\ k ∉ S.own v) -> S.fact v w -> S.fact v w') (h : FInv ops md sp et w0 n N s a w) (hi : ops[i]? = some o) (hr : i ∈ Region.ready md ops s) (hin : i < n)
 (ho : Only (wrW w0 i ++ eaten ops sp et a i) w w') (hv : TFm sp i v w') (hvn : ∀ k ∈ ownF sp i v,w.heap.size <= k /\ k < w'.heap.size) :
 FInv ops md sp et w0 n N (s.setIfInBounds i true) (a.put o.dst v) w':=by
 have hdi : dstOf ops i = o.dst:=by unfold dstOf; rw [hi]
 obtain ⟨hun,oi',hoi',hall⟩:=mem_ready.1 hr
 obtain rfl : o = oi':=Option.some.inj (hi.symm.trans hoi')
 have hlt : i < s.size:=by
  rcases Nat.lt_or_ge i s.size with h1 | h1
  ·exact h1
  ·rw [Array.getD_eq_getD_getElem?,Array.getElem?_eq_none h1] at hun; simp at hun
 have hself : (s.setIfInBounds i true).getD i false = true:=by simp [hlt]
 have hsi : s.getD i false = false:=getD_both hun
 have hsame : ∀ j,j ≠ i -> (sp j).isSome = true -> slotOf ops (a.put o.dst v) j = slotOf ops a j:=fun j hj _=>slot_put fun d' hd' hj'=>distinct_spec hd (i:=i) (hdi.trans hd') (Ne.symm hj) hj'
 have hown : ∀ j,j ≠ i -> ownF sp j (slotOf ops (a.put o.dst v) j) = ownF sp j (slotOf ops a j):=fun j hj=>by
  cases hs : sp j with
  | none=>rw [ownF_none hs,ownF_none hs]
  | some S=>rw [hsame j hj (by rw [hs]; rfl)]
 have hmy : ownF sp i (slotOf ops (a.put o.dst v) i) = ownF sp i v:=by
  cases hs : sp i with
  | none=>rw [ownF_none hs,ownF_none hs]
  | some S =>
    obtain ⟨d,hdd,hltd⟩:=hok i (by rw [hs]; rfl)
    rw [<- hdi,hdd,slot_self hdd (by rw [h.size]; exact hltd)]
 have heat : ∀ k,et i = some k -> s.getD k false = true:=fun k hk=>by
  obtain ⟨e,h1,h2,h3⟩:=hee i k o hk hi
  rw [<- h3]; exact hall e h1 h2
 have hT : ∀ k ∈ eaten ops sp et a i,w0.1.heap.size <= k /\ k < w.heap.size:=fun k hk=>by
  unfold eaten at hk
  cases he : et i with
  | none=>rw [he] at hk; simp at hk
  | some m=>rw [he] at hk; exact h.new m (heat m he) k hk
 have hTo : ∀ j,j ≠ i -> s.getD j false = true -> et i ≠ some j -> ∀ k ∈ eaten ops sp et a i,k ∉ ownF sp j (slotOf ops a j):=fun j hj hsj hne k hk=>by
  unfold eaten at hk
  cases he : et i with
  | none=>rw [he] at hk; simp at hk
  | some m =>
    rw [he] at hk
    exact h.apart m j (fun e=>hne (by rw [he,e])) (heat m he) hsj k hk
 refine ⟨h.head.set hr hin,h.old,fun hcd=>?_,h.only.trans ho (fun k hk hlt=>by
  rcases List.mem_append.1 hk with hk | hk
  ·exact wrW_mem hk
  ·exact absurd (hT k hk).1 (by omega)),by rw [put_size]; exact h.size,fun j hj hne=>?_,fun j hj k hk=>?_,fun j m hjm hj hm k hk=>?_⟩
 ·have hic : i ≠ w0.2.2:=fun e=>by rw [<- e,hself] at hcd; cases hcd
  rw [getD_set_ne false hic] at hcd
  refine (h.calm hcd).trans ho (fun k hk hlt=>?_)
  unfold wrW at hk
  rw [if_neg hic,List.nil_append] at hk
  exact absurd (hT k hk).1 (by omega)
 ·by_cases e : j = i
  ·subst e
   unfold TFm at hv ⊢
   cases hs : sp j with
   | none=>trivial
   | some S =>
     obtain ⟨d,hdd,hltd⟩:=hok j (by rw [hs]; rfl)
     rw [hs] at hv
     rw [<- hdi,hdd,slot_self hdd (by rw [h.size]; exact hltd)]
     exact hv
  ·have hj':=hj
   rw [getD_set_ne false (Ne.symm e)] at hj'
   have hni : et i ≠ some j:=fun he=>by have:=hne i he; rw [hself] at this; cases this
   have hk:=h.known j hj' (fun m hm=>by
    have:=hne m hm
    by_cases em : m = i
    ·subst em; exact hsi
    ·rwa [getD_set_ne false (Ne.symm em)] at this)
   unfold TFm at hk ⊢
   cases hs : sp j with
   | none=>trivial
   | some S =>
     rw [hs] at hk
     rw [hsame j e (by rw [hs]; rfl)]
     refine ⟨hk.1,hst j S hs _ _ _ _ ho (fun k hk'=>?_) hk.2⟩
     rcases List.mem_append.1 hk' with hk' | hk'
     ·have hic : i = w0.2.2:=by
       unfold wrW at hk'
       split at hk'
       ·assumption
       ·simp at hk'
      have hk':=wrW_mem hk'
      refine ⟨.inl ⟨hk',fun h=>e (h.trans hic.symm)⟩,fun hm=>?_⟩
      have h1:=h.new j hj' k (by unfold ownF; rw [hs]; exact hm)
      have h2:=h.old k hk'
      omega
     ·refine ⟨.inr ⟨(hT k hk').1,i,?_⟩,?_⟩
      ·unfold eaten at hk'
       cases he : et i with
       | none=>rw [he] at hk'; simp at hk'
       | some m=>exact ⟨m,rfl⟩
      have:=hTo j e hj' hni k hk'
      unfold ownF at this
      rw [hs] at this
      exact this
 ·by_cases e : j = i
  ·subst e
   rw [hmy] at hk
   have:=hvn k hk
   exact ⟨Nat.le_trans h.only.size this.1,this.2⟩
  ·rw [getD_set_ne false (Ne.symm e)] at hj
   rw [hown j e] at hk
   have:=h.new j hj k hk
   exact ⟨this.1,Nat.lt_of_lt_of_le this.2 ho.size⟩
 ·by_cases e : j = i
  ·subst e
   have hme : m ≠ j:=Ne.symm hjm
   rw [getD_set_ne false (Ne.symm hme)] at hm
   rw [hmy] at hk
   rw [hown m hme]
   intro hk'
   have h1:=hvn k hk
   have h2:=h.new m hm k hk'
   omega
  ·rw [getD_set_ne false (Ne.symm e)] at hj
   rw [hown j e] at hk
   by_cases em : m = i
   ·subst em
    rw [hmy]
    intro hk'
    have h1:=hvn k hk'
    have h2:=h.new j hj k hk
    omega
   ·rw [getD_set_ne false (Ne.symm em)] at hm
    rw [hown m em]
    exact h.apart j m hjm hj hm k hk
theorem FInv.wpOp {n N i : Nat} {s : Array Bool} {a : Act} {w : World} {K : Act -> Prop} {Q : Exit -> Act -> World -> Prop} (hd : distinctB ops = true) (hee : eatOk ops md et) (hok : ∀ i,(sp i).isSome = true -> ∃ d,dstOf ops i = some d /\ d < N)
 (hst : ∀ i S,sp i = some S -> ∀ v w w' T,Only T w w' -> (∀ k ∈ T,((k ∈ w0.2.1 /\ i ≠ w0.2.2) \/ (w0.1.heap.size <= k /\ ∃ j m,et j = some m)) /\ k ∉ S.own v) -> S.fact v w -> S.fact v w') (h : FInv ops md sp et w0 n N s a w) (hr : i ∈ Region.ready md ops s) (hin : i < n) (hk : fOp P ops md sp et w0 i K a) :
 wpOp P ops Q i (fun a' w'=>FInv ops md sp et w0 n N (s.setIfInBounds i true) a' w' /\ K a') a w:=by
 obtain ⟨hun,o,ho,hall⟩:=mem_ready.1 hr
 have hnone : sp i = none -> ∀ v w',TFm sp i v w':=fun e v w'=>by unfold TFm; rw [e]; trivial
 have hnown : sp i = none -> ∀ v (w w' : World),∀ k ∈ ownF sp i v,w.heap.size <= k /\ k < w'.heap.size:=fun e v w w' k hk=>by rw [ownF_none e] at hk; simp at hk
 have hE : et i = none -> eaten ops sp et a i = []:=fun e=>by unfold eaten; rw [e]
 have hsi : s.getD i false = false:=getD_both hun
 unfold fOp at hk
 unfold Go.wpOp
 simp only [ho] at hk ⊢
 by_cases hw : Region.wanted o (yielded ops a.tmps) = true
 ·rw [if_pos hw] at hk ⊢
  left
  rcases hk with ⟨e1,e0,e2,v,hq,hk⟩ | ⟨S,e1,_,e3,hk⟩
  ·have h1:=hq w ⟨⟨w,h.only⟩,rfl⟩
   unfold Oper.quietAt at h1
   have hne:=noCall_spec e2 P a.eval w
   unfold Oper.wp
   generalize (execOp a.eval o).run P w = r at *
   cases r with
   | halt x w'=>simp only [Oper.quietUpon] at h1
   | ok m w' =>
     cases m <;> simp only [Oper.quietUpon] at h1 <;> simp only [Oper.upon]
     case value u =>
      obtain ⟨rfl,rfl⟩:=h1
      exact ⟨h.step hd hee hok hst ho hr hin (Only.refl _ _) (hnone e1 _ _) (hnown e1 _ _ _),hk⟩
     case skip =>
      obtain ⟨rfl,rfl⟩:=h1
      exact ⟨h.step hd hee hok hst ho hr hin (Only.refl _ _) (hnone e1 _ _) (hnown e1 _ _ _),hk⟩
     case enter f args=>exact absurd rfl (hne f args w')
  ·have hfr : Only (frW w0 i) w0.1 w:=by
    unfold frW
    by_cases e : i = w0.2.2
    ·rw [if_pos e]; exact h.calm (by rw [<- e]; exact hsi)
    ·rw [if_neg e]; exact h.only
   have h1:=e3 w hfr (fun e he hb hj=>h.known e.on (hall e he hb) (fun j hje=>by rw [hj j hje]; exact hsi))
   have hT : ∀ v w',S.pure v -> S.fact v w' -> TFm sp i v w':=fun v w' q1 q2=>by unfold TFm; rw [e1]; exact ⟨q1,q2⟩
   have hO : ∀ v,ownF sp i v = S.own v:=fun v=>by unfold ownF; rw [e1]
   unfold Oper.wp
   generalize (execOp a.eval o).run P w = r at *
   cases r with
   | halt x w'=>simp only [frmUpon] at h1
   | ok m w' =>
     cases m <;> simp only [frmUpon] at h1 <;> simp only [Oper.upon]
     case value u=>exact ⟨h.step hd hee hok hst ho hr hin h1.1 (hT _ _ h1.2.1 h1.2.2.1) (by rw [hO]; exact h1.2.2.2),hk u h1.2.1⟩
     case enter f args =>
      obtain ⟨rfl,hc⟩:=h1
      exact hc.mono fun e w'' ⟨v,he,q1,q2,q3,q4⟩=>by subst he; exact ⟨h.step hd hee hok hst ho hr hin q1 (hT _ _ q2 q3) (by rw [hO]; exact q4),hk v q2⟩
 ·rw [if_neg hw] at hk ⊢
  exact ⟨h.step hd hee hok hst ho hr hin (Only.refl _ _) (hnone hk.1 _ _) (hnown hk.1 _ _ _),hk.2.2⟩
theorem HeadF.wp {n N g : Nat} {L : Array Bool -> Act -> Prop} {Q : Exit -> Act -> World -> Prop} (hd : distinctB ops = true) (hee : eatOk ops md et) (hok : ∀ i,(sp i).isSome = true -> ∃ d,dstOf ops i = some d /\ d < N)
 (hst : ∀ i S,sp i = some S -> ∀ v w w' T,Only T w w' -> (∀ k ∈ T,((k ∈ w0.2.1 /\ i ≠ w0.2.2) \/ (w0.1.heap.size <= k /\ ∃ j m,et j = some m)) /\ k ∉ S.own v) -> S.fact v w -> S.fact v w') (hL : ∀ s a w,FInv ops md sp et w0 n N s a w -> L s a -> wpAny P md ops Q g s a w) :
 ∀ (f : Nat) (s : Array Bool) (a : Act) (w : World),FInv ops md sp et w0 n N s a w -> HeadF P md ops sp et w0 n L f s a -> wpAny P md ops Q (f + g) s a w:=by
 intro f
 induction f with
 | zero=>intro s a w inv h; rw [Nat.zero_add]; exact hL _ _ _ inv h
 | succ f ih =>
   intro s a w inv h
   rw [Nat.succ_add]
   exact ⟨fun h0=>absurd h0 h.1,fun i hi=>wpOp_mono (fun a' w' h'=>ih _ a' w' h'.1 h'.2) (inv.wpOp hd hee hok hst hi (h.2 i hi).1 (h.2 i hi).2)⟩
theorem any_frm {P : Program} {Q : Exit -> Act -> World -> Prop} {a : Act} {w : World} {l : List Oper} (n N : Nat) (F : List Nat) (c : Nat) (hF : ∀ k ∈ F,k < w.heap.size) (sp : FSpec) (et : Nat -> Option Nat) (hB : Region.lexTailB .any l.toArray n = true)
 (hd : distinctB l.toArray = true) (hee : eatB l.toArray .any et = true) (hN : a.tmps.size = N) (hok : fsOk sp l.toArray N = true) (hout : ∀ i,l.length <= i -> sp i = none)
 (hst : ∀ i S,sp i = some S -> ∀ v w1 w' T,Only T w1 w' -> (∀ k ∈ T,((k ∈ F /\ i ≠ c) \/ (w.heap.size <= k /\ ∃ j m,et j = some m)) /\ k ∉ S.own v) -> S.fact v w1 -> S.fact v w')
 (h : wpFrm P l.toArray .any sp et (w,F,c) (fun a'=>∀ w',Only F w w' -> (∀ i,i < n -> (∀ j,et j = some i -> False) -> TFm sp i (slotOf l.toArray a' i) w') -> wpList P l.toArray Q (l.drop n) a' w') (l.take n) 0 a) : wpAny P .any l.toArray Q l.toArray.size (Array.replicate l.toArray.size false) a w.drew:=by
 simp only [Region.lexTailB,Bool.and_eq_true,decide_eq_true_eq] at hB
 obtain ⟨⟨⟨⟨hsel,hn⟩,hs⟩,hc⟩,hlex⟩:=hB
 have hn' : n < l.length:=by simpa using hn
 have htl : (l.take n).length = n:=by simp; omega
 have hok' : ∀ i,(sp i).isSome = true -> ∃ d,dstOf l.toArray i = some d /\ d < N:=fun i hi=>by
  rcases Nat.lt_or_ge i l.length with hlt | hge
  ·have h1:=List.all_eq_true.1 hok i (List.mem_range.2 (by simpa using hlt))
   cases hsp : sp i with
   | none=>rw [hsp] at hi; cases hi
   | some S =>
     rw [hsp] at h1
     cases hdd : dstOf l.toArray i with
     | none=>rw [hdd] at h1; simp at h1
     | some d=>rw [hdd] at h1; exact ⟨d,rfl,by simpa using h1⟩
  ·rw [hout i hge] at hi; cases hi
 have inv0 : HeadInv .any l.toArray n (Array.replicate l.toArray.size false) :=
  ⟨by simp,fun j oj _ hl=>(by rw [getD_replicate_false] at hl; cases hl),fun t _ ht=>getD_in (by simpa using ht) (getD_replicate_false _ _)⟩
 have linv : FInv l.toArray .any sp et (w,F,c) n N (Array.replicate l.toArray.size false) a w.drew:=⟨inv0,hF,fun _=>(Only.refl [] w).drew,(Only.refl F w).drew,hN,fun i hi=>(by rw [getD_replicate_false] at hi; cases hi),fun i hi=>(by rw [getD_replicate_false] at hi; cases hi),fun i j _ hi=>(by rw [getD_replicate_false] at hi; cases hi)⟩
 have H:=HeadF.lex (md:=.any) (g:=l.toArray.size - n) hd (eatB_spec hee) hsel hs hc hn (l.take n) 0 _ a (fun j hj=>by
  have : j < n:=by rwa [htl] at hj
  simp [this]) (by simpa using htl) inv0 (by rw [htl]; exact hlex) h
 have:=HeadF.wp (Q:=Q) (g:=l.toArray.size - n) hd (eatB_spec hee) hok' hst (fun s a' w' inv hL=>by
  have hseq:=hL.1
  have hall : ∀ i,i < n -> s.getD i false = true:=fun i hi=>by
   cases hx : s.getD i false with
   | true=>rfl
   | false =>
     have hlt : i < s.size:=by rw [inv.head.size]; omega
     have hnr : n ∈ Region.ready .any l.toArray s:=by
      have hg : l.toArray.size - n = (l.toArray.size - n - 1) + 1:=by omega
      rw [hg] at hseq
      simp only [Region.seqB,Bool.and_eq_true,decide_eq_true_eq] at hseq
      rw [hseq.1]
      simp
     exact absurd hnr (tail_waits hs hc hn inv.head _ i rfl hi (getD_in hlt hx) n (Nat.le_refl _))
  have:=wpAny_of_seq (md:=.any) (Q':=Q) (l.drop n) n s a' w' (fun j=>by simp [List.getElem?_drop]) (by simpa using hL.1) (hL.2 w' inv.only (fun i hi hj=>inv.known i (hall i hi) (fun j hje=>absurd hje (fun e=>hj j e))))
  simpa using this) _ _ _ _ linv H
 rw [htl,show n + (l.toArray.size - n) = l.toArray.size by omega] at this
 exact this
theorem wpFrm_quiet {R : Act -> Prop} : ∀ (c rest : List Oper) (k : Nat) (a : Act),c.all noCall = true -> (List.range' k c.length).all (fun i=>(sp i).isNone && (et i).isNone) = true ->
 wpQuiet P ops (fun w'=>∃ x : LaterF w0,w' = x.val) (fun a'=>wpFrm P ops md sp et w0 R rest (k + c.length) a') c a -> wpFrm P ops md sp et w0 R (c ++ rest) k a:=by
 intro c
 induction c with
 | nil=>intro rest k a _ _ h; exact h
 | cons o c ih =>
   intro rest k a hn hs h
   rw [List.all_cons,Bool.and_eq_true] at hn
   rw [List.length_cons,List.range'_succ,List.all_cons,Bool.and_eq_true,Bool.and_eq_true] at hs
   have hk : sp k = none:=by simpa using hs.1.1
   have hk0 : et k = none:=by simpa using hs.1.2
   have hlen : k + (o :: c).length = (k + 1) + c.length:=by rw [List.length_cons]; omega
   rw [hlen] at h
   show if _ then _ else _
   unfold wpQuiet at h
   by_cases hw : Region.wanted o (yielded ops a.tmps) = true
   ·rw [if_pos hw] at h ⊢
    exact .inl ⟨hk,hk0,hn.1,Oper.quiet_mono (fun a' h'=>ih rest (k + 1) a' hn.2 hs.2 h') h⟩
   ·rw [if_neg hw] at h ⊢
    exact ⟨hk,hk0,ih rest (k + 1) _ hn.2 hs.2 h⟩
theorem wpFrm_chunk {R : Act -> Prop} (m : Nat) {l : List Oper} {k : Nat} {a : Act} (hn : (l.take m).all noCall = true) (hs : (List.range' k (l.take m).length).all (fun i=>(sp i).isNone && (et i).isNone) = true)
 (h : wpQuiet P ops (fun w'=>∃ x : LaterF w0,w' = x.val) (fun a'=>wpFrm P ops md sp et w0 R (l.drop m) (k + (l.take m).length) a') (l.take m) a) : wpFrm P ops md sp et w0 R l k a:=by
 have:=wpFrm_quiet (R:=R) (l.take m) (l.drop m) k a hn hs h
 rwa [List.take_append_drop] at this
theorem wpFrm_step {R : Act -> Prop} {o : Oper} {rest : List Oper} {k : Nat} {a : Act} (S : FS) (hs : sp k = some S) (hw : Region.wanted o (yielded ops a.tmps) = true) (hx : ∃ v,S.pure v)
 (h : ∀ w,Only (frW w0 k) w0.1 w -> KnowsF ops md sp et k o a w -> frmUpon P S (wrW w0 k ++ eaten ops sp et a k) w ((execOp a.eval o).run P w)) (hk : ∀ v,S.pure v -> wpFrm P ops md sp et w0 R rest (k + 1) (a.put o.dst v)) : wpFrm P ops md sp et w0 R (o :: rest) k a:=by
 show if _ then _ else _
 rw [if_pos hw]
 exact .inr ⟨S,hs,hx,h,hk⟩
end
theorem region_frm_in {P : Program} {id la m : Nat} {Q : Exit -> Act -> World -> Prop} {a : Act} {w : World} {l : List Oper} (n N : Nat) (F : List Nat) (c : Nat) (hF : ∀ k ∈ F,k < w.heap.size) (sp : FSpec) (et : Nat -> Option Nat) (hm : P.follows .mixedOrders = true) (hB : Region.lexTailB .any l.toArray n = true)
 (hnd : noDefer l.toArray = true) (hQ : ¬ LetsOut Q) (hd : distinctB l.toArray = true) (hee : eatB l.toArray .any et = true) (hN : a.tmps.size = N) (hok : fsOk sp l.toArray N = true) (hout : ∀ i,l.length <= i -> sp i = none)
 (hst : ∀ i S,sp i = some S -> ∀ v w1 w' T,Only T w1 w' -> (∀ k ∈ T,((k ∈ F /\ i ≠ c) \/ (w.heap.size <= k /\ ∃ j m,et j = some m)) /\ k ∉ S.own v) -> S.fact v w1 -> S.fact v w')
 (h : wpFrm P l.toArray .any sp et (w,F,c) (fun a'=>∀ w',Only F w w' -> (∀ i,i < n -> (∀ j,et j = some i -> False) -> TFm sp i (slotOf l.toArray a' i) w') -> wpList P l.toArray Q (l.drop n) a' w') (l.take n) 0 a) : (Code.region id l.toArray true).wpIn (Fence.wide.inRound la) m P Q a w :=
 wpIn_region_any hm (wpAnyIn_of hQ (noDefer_spec hnd) _ _ _ _ (any_frm n N F c hF sp et hB hd hee hN hok hout hst h))
end Go.Proofs.YtjfjmkkkbcgohaaGreatDoor.FW
