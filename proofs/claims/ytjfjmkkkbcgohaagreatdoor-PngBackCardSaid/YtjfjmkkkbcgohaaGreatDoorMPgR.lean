import Derived.Test.YtjfjmkkkbcgohaaGreatDoorMPgK
import Derived.Lib.BufferWrite
namespace Go.Proofs.YtjfjmkkkbcgohaaGreatDoor
open Go Go.RowKit
def ihdr : List UInt8:=[73,72,68,82]
def hdW (p : Ck) : Nat:=bigOf p.d
def hdH (p : Ck) : Nat:=bigOf (p.d.drop 4)
def hdD (p : Ck) : Nat:=(p.d.getD 8 0).toNat
def hdC (p : Ck) : Nat:=(p.d.getD 9 0).toNat
def hdL (p : Ck) : Nat:=(p.d.getD 12 0).toNat
def hdForm (p : Ck) : Bool:=p.k == ihdr && p.d.length == 13 && p.d.getD 10 0 == 0 && p.d.getD 11 0 == 0
def hdE (p : Ck) : Nat:=if hdForm p = true then chkV (hdW p) (hdH p) (hdD p) (hdC p) (hdL p) else 3
def hdV (p : Ck) : Value:=if hdE p = 0 then .agg #[.int .i64 (hdW p : Nat),.int .i64 (hdH p : Nat),.int .i64 (hdD p : Nat),.int .i64 (hdC p : Nat),.int .i64 (hdL p : Nat)] else .agg #[.int .i64 0,.int .i64 0,.int .i64 0,.int .i64 0,.int .i64 0]
theorem results_cell_two {fn : Func} {p u : Tmp} {ty : TypeId} (h : fn.results = #[.cell p ty,.tmp u]) (tmps : Array Value) (P : Program) (w : World) :
 (results fn tmps).run P w =
   ((asAddr (tmps.getD p undef)).run P w).andThen fun a w1=>((loadVar ty a).run P w1).andThen fun x w2=>.ok (.tuple #[x,tmps.getD u undef]) w2:=by
 simp only [results,h]
 simp [Sem.run_bind,Result.andThen]
theorem results_row_two {P : Program} {fn : Func} {p u : Tmp} {ty : TypeId} (h : fn.results = #[.cell p ty,.tmp u]) (tmps : Array Value) (w : World) (g : Nat) (t : TypeId) (cs : Array Value) (d : TypeDesc)
 (hp : tmps.getD p undef = .pointer (some ⟨g,0,none⟩)) (hg : Has w g t cs)
 (hu : P.underlying ty = some d) (hd : (match d with | .struct _ | .array _ _=>true | _=>false) = true) (hi : (P.info? ty).map (·.size) = some cs.size) :
 (results fn tmps).run P w = .ok (.tuple #[.agg cs,tmps.getD u undef]) w:=by
 rw [results_cell_two h,hp]
 simp [asAddr,Result.andThen,run_loadVar_row w g t ty cs (0,0) d hg hu hd hi]
def noHead : Array Value:=#[.int .i64 0,.int .i64 0,.int .i64 0,.int .i64 0,.int .i64 0]
theorem hd_bad {p : Ck} (h : hdForm p = false) : hdE p = 3 /\ hdV p = .agg noHead:=by
 have : hdE p = 3:=by unfold hdE; rw [h]; rfl
 exact ⟨this,by unfold hdV; rw [this]; rfl⟩
theorem noHead_of (w : World) (u : Array Value) (t : TypeId) : Has ((w.alloc (.cells u t)).alloc (.cells #[.int .i64 0,.int .i64 0,.int .i64 0,.int .i64 0,.int .i64 0] 36)) (w.heap.size + 1) 36 noHead:=by
 have:=Has.new (w.alloc (.cells u t)) 36 noHead
 rwa [World.size_alloc] at this
set_option maxRecDepth 100000 in
set_option maxHeartbeats 8000000 in
theorem readHead_wrong (p : Cv) (w : World) (h : CvHas w p) (hf : p.ck.k ≠ ihdr \/ p.ck.d.length ≠ 13) :
 Calls Tryz.prog 31 #[.agg #[.string ⟨p.ck.k.toArray⟩,.slice p.A p.ck.d.length p.c]] w fun e w'=>Only [] w w' /\ e = .returned (.tuple #[hdV p.ck,.int .i64 (hdE p.ck : Nat)]):=by
 obtain ⟨⟨k,d⟩,A,c⟩:=p
 have hb : hdForm ⟨k,d⟩ = false:=by
  unfold hdForm
  rcases hf with hf | hf
  ·have : (k == ihdr) = false:=by simpa using hf
   simp [this]
  ·have : (d.length == 13) = false:=by simpa using hf
   simp [this]
 have HE:=hide (hd_bad hb)
 clear h hb
 by_cases hk : k = [73,72,68,82]
 ·have hd : ¬ (d.length : Int) = 13:=by
   rcases hf with hf | hf
   ·exact absurd hk hf
   ·have hf : d.length ≠ 13:=hf
    omega
  subst hk
  clear hf
  go_enter Tryz.func31,Tryz.ntmps31
  go_wp2_with fail
  refine bodyPost_ret (results_row_two Tryz.results31 _ _ (w.heap.size + 1) 36 _ _ rfl (noHead_of w _ _) Tryz.underlying36 rfl (by kernel_rfl)) rfl ⟨((Only.refl [] w).alloc _).alloc _,by rw [HE.out.1,HE.out.2]; rfl⟩
 ·clear hf
  go_enter Tryz.func31,Tryz.ntmps31
  go_wp2_with fail
  refine bodyPost_ret (results_row_two Tryz.results31 _ _ (w.heap.size + 1) 36 _ _ rfl (noHead_of w _ _) Tryz.underlying36 rfl (by kernel_rfl)) rfl ⟨((Only.refl [] w).alloc _).alloc _,by rw [HE.out.1,HE.out.2]; rfl⟩
set_option maxRecDepth 100000 in
set_option maxHeartbeats 8000000 in
theorem readHead_13 (b0 o c : Nat) (x0 x1 x2 x3 x4 x5 x6 x7 x8 x9 x10 x11 x12 : UInt8) (w : World) (h : Holds w 1 (some ⟨b0,o,none⟩) 13 (bvals [x0,x1,x2,x3,x4,x5,x6,x7,x8,x9,x10,x11,x12])) (hc : 13 <= c) :
 Calls Tryz.prog 31 #[.agg #[.string ⟨#[73,72,68,82]⟩,.slice (some ⟨b0,o,none⟩) 13 c]] w fun e w'=>Only [] w w' /\ e = .returned (.tuple #[hdV ⟨ihdr,[x0,x1,x2,x3,x4,x5,x6,x7,x8,x9,x10,x11,x12]⟩,.int .i64 (hdE ⟨ihdr,[x0,x1,x2,x3,x4,x5,x6,x7,x8,x9,x10,x11,x12]⟩ : Nat)]):=by
 have hk:=h.keep (((Only.refl [] w).alloc (.cells #[.string ⟨#[73,72,68,82]⟩,.slice (some ⟨b0,o,none⟩) 13 c] 53)).alloc (.cells #[.int .i64 0,.int .i64 0,.int .i64 0,.int .i64 0,.int .i64 0] 36)) (by simp)
 obtain ⟨b',o',he,hcells⟩:=hk.addr (by simp)
 injection he with he
 injection he with he1 he2
 subst he1; subst he2
 have d8:=hcells 8 _ rfl
 have d9:=hcells 9 _ rfl
 have d10:=hcells 10 _ rfl
 have d11:=hcells 11 _ rfl
 have d12:=hcells 12 _ rfl
 clear hcells hk
 have hcc : ¬ c < 13:=by omega
 by_cases h10 : x10 = 0
 ·subst h10
  have d10 : ((w.alloc (.cells #[.string ⟨#[73,72,68,82]⟩,.slice (some ⟨b0,o,none⟩) 13 c] 53)).alloc (.cells #[.int .i64 0,.int .i64 0,.int .i64 0,.int .i64 0,.int .i64 0] 36)).cell? ⟨b0,o + 10,none⟩ = some (.int .u8 0):=d10
  by_cases h11 : x11 = 0
  ·subst h11
   have d11 : ((w.alloc (.cells #[.string ⟨#[73,72,68,82]⟩,.slice (some ⟨b0,o,none⟩) 13 c] 53)).alloc (.cells #[.int .i64 0,.int .i64 0,.int .i64 0,.int .i64 0,.int .i64 0] 36)).cell? ⟨b0,o + 11,none⟩ = some (.int .u8 0):=d11
   obtain ⟨W2,hW2⟩ : ∃ W2,W2 = (w.alloc (.cells #[.string ⟨#[73,72,68,82]⟩,.slice (some ⟨b0,o,none⟩) 13 c] 53)).alloc (.cells #[.int .i64 0,.int .i64 0,.int .i64 0,.int .i64 0,.int .i64 0] 36):=⟨_,rfl⟩
   have hH:=noHead_of w #[.string ⟨#[73,72,68,82]⟩,.slice (some ⟨b0,o,none⟩) 13 c] 53
   have hO : Only [] w W2:=by rw [hW2]; exact ((Only.refl [] w).alloc _).alloc _
   have hB:=h.keep hO (by simp)
   rw [<- hW2] at d8 d9 d10 d11 d12 hH
   have HB4:=(hB.from (l:=[x0,x1,x2,x3,x4,x5,x6,x7,x8,x9,0,0,x12]) rfl hc 4 (by omega))
   rw [if_neg (by omega)] at HB4
   have HH:=hide (aI hH (aI hO (aI hB HB4)))
   have hf4:=run_from2 (z:=4) hB rfl hc 4 (by omega) rfl
   obtain ⟨v,hv⟩ : ∃ v,v = (⟨ihdr,[x0,x1,x2,x3,x4,x5,x6,x7,x8,x9,0,0,x12]⟩ : Ck):=⟨_,rfl⟩
   have hform : hdForm v = true:=by rw [hv]; rfl
   have q1 : hdW v = bigOf [x0,x1,x2,x3,x4,x5,x6,x7,x8,x9,0,0,x12]:=by rw [hv]; rfl
   have q2 : hdH v = bigOf [x4,x5,x6,x7,x8,x9,0,0,x12]:=by rw [hv]; rfl
   have q3 : hdD v = x8.toNat:=by rw [hv]; rfl
   have q4 : hdC v = x9.toNat:=by rw [hv]; rfl
   have q5 : hdL v = x12.toNat:=by rw [hv]; rfl
   rw [<- hv]
   have l1 : hdW v < 4294967296:=by rw [q1]; exact bigOf_lt _
   have l2 : hdH v < 4294967296:=by rw [q2]; exact bigOf_lt _
   have wr3 : IntKind.i64.wrap ((hdD v : Nat) : Int) = ((hdD v : Nat) : Int):=by have:=x8.toNat_lt; rw [IntKind.wrap_i64]; omega
   have wr4 : IntKind.i64.wrap ((hdC v : Nat) : Int) = ((hdC v : Nat) : Int):=by have:=x9.toNat_lt; rw [IntKind.wrap_i64]; omega
   have wr5 : IntKind.i64.wrap ((hdL v : Nat) : Int) = ((hdL v : Nat) : Int):=by have:=x12.toNat_lt; rw [IntKind.wrap_i64]; omega
   have HQ:=hide (aI q1 (aI q2 (aI hform (aI l1 l2))))
   have d8 : W2.cell? ⟨b0,o + 8,none⟩ = some (.int .u8 ((hdD v : Nat) : Int)):=by rw [q3]; exact d8
   have d9 : W2.cell? ⟨b0,o + 9,none⟩ = some (.int .u8 ((hdC v : Nat) : Int)):=by rw [q4]; exact d9
   have d12 : W2.cell? ⟨b0,o + 12,none⟩ = some (.int .u8 ((hdL v : Nat) : Int)):=by rw [q5]; exact d12
   clear q1 q2 q3 q4 q5 hv hform h hH hO hB HB4 l1 l2
   obtain ⟨A4,n4,c4,hn4,hf4,hH4,_,_⟩:=hf4
   have k8:=later_cell d8
   have k9:=later_cell d9
   have k12:=later_cell d12
   have HC:=hide (fun w=>pCheck_any (hdW v : Nat) (hdH v : Nat) (hdD v : Nat) (hdC v : Nat) (hdL v : Nat) w)
   have H4:=hide (aI hH4 hn4)
   clear hH4 hn4
   have wr1 : IntKind.i64.wrap ((hdW v : Nat) : Int) = ((hdW v : Nat) : Int):=by have:=HQ.out.2.2.2.1; rw [IntKind.wrap_i64]; omega
   have wr2 : IntKind.i64.wrap ((hdH v : Nat) : Int) = ((hdH v : Nat) : Int):=by have:=HQ.out.2.2.2.2; rw [IntKind.wrap_i64]; omega
   have HE:=hide (show hdE v = chkV (hdW v : Nat) (hdH v : Nat) (hdD v : Nat) (hdC v : Nat) (hdL v : Nat) by unfold hdE; rw [if_pos HQ.out.2.2.1])
   subst hW2
   go_enter Tryz.func31,Tryz.ntmps31
   go_wp2_with fail
   generalize (w.alloc (.cells #[.string ⟨#[73,72,68,82]⟩,.slice (some ⟨b0,o,none⟩) 13 c] 53)).alloc (.cells #[.int .i64 0,.int .i64 0,.int .i64 0,.int .i64 0,.int .i64 0] 36) = W2 at *
   refine region_frm 21 57 (fun i=>if i = 1 then some (fsVal (.int .u32 ((hdW v : Nat) : Int))) else if i = 5 then some (fsVal (.int .u32 ((hdH v : Nat) : Int))) else if i = 20 then some (fsBox W2.heap.size 36 noHead) else none) (fun _=>none) (by kernel_rfl) (by kernel_rfl) (by kernel_rfl) (by kernel_rfl) (by rfl) (by rfl) (fun i hi=>?_) (fun i S hS=>?_) ?_
   ·have hi : 22 <= i:=hi
    show (if i = 1 then _ else _) = none
    iterate 3 rw [if_neg (by omega)]
   ·repeat' split at hS
    all_goals first | (injection hS with hS; subst hS; first | exact fsBox_keep _ _ _ | exact fun _ _ _ _ _ _ _=>trivial) | cases hS
   simp only [List.take_succ_cons,List.take_zero,List.drop_succ_cons,List.drop_zero]
   refine wpFrm_chunk 1 (by kernel_rfl) (by rfl) ?_
   simp only [List.take_succ_cons,List.take_zero,List.drop_succ_cons,List.drop_zero,List.length_cons,List.length_nil,Nat.zero_add]
   iterate 1 (go_big_quiet_step (fail))
   refine wpQuiet_nil ?_
   refine wpFrm_step (fsVal (.int .u32 ((hdW v : Nat) : Int))) rfl (by rfl) ⟨_,rfl⟩ (fun w' ho hk=>?_) (fun u hu=>?_)
   ·clear hk
    change frmUpon _ _ [] _ _
    go_simp
    refine ⟨rfl,(bitsBig_any _ 13 c _ w' (HH.out.2.2.1.keep ho (by simp)) rfl).mono ?_⟩
    rintro e w3 ⟨rfl,q,rfl⟩
    exact ⟨_,rfl,(Only.refl [] w').drewN q,by rw [HQ.out.1]; rfl,trivial,fun k hk=>absurd hk (by simp [fsVal])⟩
   cases hu
   go_simp
   refine wpFrm_chunk 3 (by kernel_rfl) (by rfl) ?_
   simp only [List.take_succ_cons,List.take_zero,List.drop_succ_cons,List.drop_zero,List.length_cons,List.length_nil,Nat.zero_add,Nat.reduceAdd]
   iterate 3 (go_big_quiet_step (fail))
   refine wpQuiet_nil ?_
   refine wpFrm_step (fsVal (.int .u32 ((hdH v : Nat) : Int))) rfl (by rfl) ⟨_,rfl⟩ (fun w' ho hk=>?_) (fun u hu=>?_)
   ·clear hk
    change frmUpon _ _ [] _ _
    go_simp
    refine ⟨rfl,(bitsBig_any A4 n4 c4 _ w' (H4.out.1.keep ho (by simp)) (by have:=H4.out.1.1; simpa using this)).mono ?_⟩
    rintro e w3 ⟨rfl,q,rfl⟩
    exact ⟨_,rfl,(Only.refl [] w').drewN q,by rw [HQ.out.2.1]; rfl,trivial,fun k hk=>absurd hk (by simp [fsVal])⟩
   cases hu
   go_simp
   refine wpFrm_chunk 14 (by kernel_rfl) (by rfl) ?_
   simp only [List.take_succ_cons,List.take_zero,List.drop_succ_cons,List.drop_zero,List.length_cons,List.length_nil,Nat.zero_add,Nat.reduceAdd]
   iterate 14 (go_big_quiet_step (fail))
   refine wpQuiet_nil ?_
   refine wpFrm_step (fsBox W2.heap.size 36 noHead) rfl (by rfl) ⟨_,0,rfl⟩ (fun w' ho hk=>?_) (fun u hu=>?_)
   ·clear hk
    change frmUpon _ _ [] _ _
    go_simp
    exact fsBox_new ho.size
   obtain ⟨g7,rfl⟩:=hu
   go_simp
   intro w4 ho4 hT
   have h8:=hT 20 (by omega)
   have h8 : (fsBox W2.heap.size 36 noHead).pure (.pointer (some ⟨g7,0,none⟩)) /\ (fsBox W2.heap.size 36 noHead).fact (.pointer (some ⟨g7,0,none⟩)) w4:=h8
   obtain ⟨hB7,h7⟩:=h8.2 g7 rfl
   clear hT h8
   have hne : w.heap.size + 1 ≠ g7:=fun e=>by have:=HH.out.1.lt; omega
   have hT0 : Has w4 (w.heap.size + 1) 36 noHead:=HH.out.1.only ho4 (by simp)
   refine list_store_row' rfl 36 (.tmp 5) (.tmp 49) rfl g7 #[.int .i64 ((hdW v : Nat) : Int),.int .i64 ((hdH v : Nat) : Int),.int .i64 ((hdD v : Nat) : Int),.int .i64 ((hdC v : Nat) : Int),.int .i64 ((hdL v : Nat) : Int)] rfl rfl 36 _ h7 (by kernel_rfl) rfl (by simp [Value.oneCell']) ?_
   intro w5 hT5 hO5
   have hT05 : Has w5 (w.heap.size + 1) 36 noHead:=hT0.only hO5 (by simpa using hne)
   have hO45 : Only [] w w5:=(HH.out.2.1.trans ho4 (S:=[]) (by simp)).trans hO5 (by intro k hk hlt; have:=HH.out.2.1.size; simp at hk; omega)
   have d0:=hT5.cell 0
   have d1:=hT5.cell 1
   have d2:=hT5.cell 2
   have d3:=hT5.cell 3
   have d4:=hT5.cell 4
   simp only [List.getElem?_toArray,List.getElem?_cons_zero,List.getElem?_cons_succ] at d0 d1 d2 d3 d4
   have H5:=hide (aI hT5 (aI hT05 (aI hO45 hne)))
   clear hT0 hT5 hT05 hO45 hO5 ho4 h7 hB7 hf4 d8 d9 d10 d11 d12 k8 k9 k12 hne
   go_wp2_with fail
   refine (HC.out _).mono ?_
   rintro e w6 ⟨rfl,ho6⟩
   rw [<- HE.out]
   have hr7:=H5.out.1.only ho6 (by simp)
   have hr0:=H5.out.2.1.only ho6 (by simp)
   have hO6 : Only [] w w6:=H5.out.2.2.1.trans ho6 (by simp)
   have H6:=hide (aI hr7 (aI hr0 hO6))
   clear d0 d1 d2 d3 d4 ho6
   by_cases he0 : hdE v = 0
   ·have he0' : ((hdE v : Nat) : Int) = 0:=by omega
    have d0:=hr7.cell 0
    have d1:=hr7.cell 1
    have d2:=hr7.cell 2
    have d3:=hr7.cell 3
    have d4:=hr7.cell 4
    simp only [List.getElem?_toArray,List.getElem?_cons_zero,List.getElem?_cons_succ] at d0 d1 d2 d3 d4
    clear hr7 hr0 hO6
    have hV:=hide (show hdV v = .agg #[.int .i64 ((hdW v : Nat) : Int),.int .i64 ((hdH v : Nat) : Int),.int .i64 ((hdD v : Nat) : Int),.int .i64 ((hdC v : Nat) : Int),.int .i64 ((hdL v : Nat) : Int)] by unfold hdV; rw [if_pos he0])
    go_wp2_with (refine list_store_row' rfl 36 (.tmp 2) (.tmp 56) rfl (w.heap.size + 1) #[.int .i64 ((hdW v : Nat) : Int),.int .i64 ((hdH v : Nat) : Int),.int .i64 ((hdD v : Nat) : Int),.int .i64 ((hdC v : Nat) : Int),.int .i64 ((hdL v : Nat) : Int)] rfl rfl 36 _ H6.out.2.1 (by kernel_rfl) rfl (by simp [Value.oneCell']) ?_; intro w7 hT7 hO7)
    refine bodyPost_ret (results_row_two Tryz.results31 _ _ (w.heap.size + 1) 36 _ _ rfl hT7 Tryz.underlying36 rfl (by kernel_rfl)) rfl ⟨H6.out.2.2.trans hO7 (by intro k hk hlt; simp at hk; omega),by rw [he0,hV.out]; rfl⟩
   ·have he0' : ¬ ((hdE v : Nat) : Int) = 0:=by omega
    clear hr7 hr0 hO6
    have hV:=hide (show hdV v = .agg noHead by unfold hdV; rw [if_neg he0]; rfl)
    go_wp2_with (refine list_store_row' rfl 36 (.tmp 2) (.tmp 54) rfl (w.heap.size + 1) noHead rfl rfl 36 _ H6.out.2.1 (by kernel_rfl) rfl (by simp [noHead,Value.oneCell']) ?_; intro w7 hT7 hO7)
    refine bodyPost_ret (results_row_two Tryz.results31 _ _ (w.heap.size + 1) 36 _ _ rfl hT7 Tryz.underlying36 rfl (by kernel_rfl)) rfl ⟨H6.out.2.2.trans hO7 (by intro k hk hlt; simp at hk; omega),by rw [hV.out]; rfl⟩
  ·have h11' : ¬ ((x11.toNat : Nat) : Int) = 0:=fun e=>h11 (UInt8.toNat_inj.1 (by simpa using e))
   have HE:=hide (hd_bad (p:=⟨ihdr,[x0,x1,x2,x3,x4,x5,x6,x7,x8,x9,0,x11,x12]⟩) (by unfold hdForm; simp [h11]))
   clear h h11
   go_enter Tryz.func31,Tryz.ntmps31
   go_wp2_with fail
   refine bodyPost_ret (results_row_two Tryz.results31 _ _ (w.heap.size + 1) 36 _ _ rfl (noHead_of w _ _) Tryz.underlying36 rfl (by kernel_rfl)) rfl ⟨((Only.refl [] w).alloc _).alloc _,by rw [HE.out.1,HE.out.2]; rfl⟩
 ·have h10' : ¬ ((x10.toNat : Nat) : Int) = 0:=fun e=>h10 (UInt8.toNat_inj.1 (by simpa using e))
  have HE:=hide (hd_bad (p:=⟨ihdr,[x0,x1,x2,x3,x4,x5,x6,x7,x8,x9,x10,x11,x12]⟩) (by unfold hdForm; simp [h10]))
  clear h h10
  go_enter Tryz.func31,Tryz.ntmps31
  go_wp2_with fail
  refine bodyPost_ret (results_row_two Tryz.results31 _ _ (w.heap.size + 1) 36 _ _ rfl (noHead_of w _ _) Tryz.underlying36 rfl (by kernel_rfl)) rfl ⟨((Only.refl [] w).alloc _).alloc _,by rw [HE.out.1,HE.out.2]; rfl⟩
theorem list13 (l : List UInt8) (h : l.length = 13) : ∃ x0 x1 x2 x3 x4 x5 x6 x7 x8 x9 x10 x11 x12,l = [x0,x1,x2,x3,x4,x5,x6,x7,x8,x9,x10,x11,x12]:=by
 match l,h with
 | [x0,x1,x2,x3,x4,x5,x6,x7,x8,x9,x10,x11,x12],_=>exact ⟨_,_,_,_,_,_,_,_,_,_,_,_,_,rfl⟩
theorem pgReadHead_any (p : Cv) (w : World) (h : CvHas w p) :
 Calls Tryz.prog 31 #[.agg #[.string ⟨p.ck.k.toArray⟩,.slice p.A p.ck.d.length p.c]] w fun e w'=>Only [] w w' /\ e = .returned (.tuple #[hdV p.ck,.int .i64 (hdE p.ck : Nat)]):=by
 by_cases hk : p.ck.k = ihdr
 ·by_cases hd : p.ck.d.length = 13
  ·obtain ⟨⟨k,d⟩,A,c⟩:=p
   obtain ⟨x0,x1,x2,x3,x4,x5,x6,x7,x8,x9,x10,x11,x12,he⟩:=list13 d hd
   have hk : k = ihdr:=hk
   subst he
   subst hk
   obtain ⟨h1,h2,_⟩:=h
   have h1 : Holds w 1 A 13 (bvals [x0,x1,x2,x3,x4,x5,x6,x7,x8,x9,x10,x11,x12]):=h1
   obtain ⟨b,o,rfl,_⟩:=h1.addr (by simp)
   exact readHead_13 b o c x0 x1 x2 x3 x4 x5 x6 x7 x8 x9 x10 x11 x12 w h1 h2
  ·exact readHead_wrong p w h (.inr hd)
 ·exact readHead_wrong p w h (.inl hk)
theorem hdV_agg (p : Ck) : ∃ a b c d e : Int,hdV p = .agg #[.int .i64 a,.int .i64 b,.int .i64 c,.int .i64 d,.int .i64 e]:=by
 unfold hdV
 split
 ·exact ⟨_,_,_,_,_,rfl⟩
 ·exact ⟨0,0,0,0,0,rfl⟩
def infE (l : List UInt8) : Nat:=if begE l = 0 then (if nxE (l.drop 8) = 0 then hdE (ckOf (l.drop 8)) else nxE (l.drop 8)) else begE l
def infV (l : List UInt8) : Value:=if infE l = 0 then hdV (ckOf (l.drop 8)) else .agg noHead
theorem info_head (w : World) : Has (w.alloc (.cells noHead 36)) w.heap.size 36 noHead:=Has.new w _ _
set_option maxRecDepth 100000 in
set_option maxHeartbeats 8000000 in
theorem info_any (A : Option Addr) (n c : Nat) (l : List UInt8) (w : World) (hb : Holds w 1 A n (bvals l)) (hl : l.length = n) (hc : n <= c) (hn : n <= 1000000000) :
 Calls Tryz.prog 10 #[.slice A n c] w fun e w'=>Only [] w w' /\ e = .returned (.tuple #[infV l,.int .i64 (infE l : Nat)]):=by
 have H0:=hide (info_head w)
 have hO : Only [] w (w.alloc (.cells noHead 36)):=(Only.refl [] w).alloc _
 have HO:=hide hO
 have HB:=hide (begin_any A n c l _ (hb.keep hO (by simp)) hl hc hn)
 have HL:=hide (aI hl hn)
 clear hb hl hc hn hO
 unfold noHead at HB
 go_enter Tryz.func10,Tryz.ntmps10
 go_wp2_with fail
 refine (HB.out).mono ?_
 rintro e w1 ⟨rfl,(⟨h1,rfl⟩ | ⟨h1,h8,A',c',rfl,hH,hcc,hbk⟩)⟩
 ·have h1' : ¬ ((begE l : Nat) : Int) = 0:=by omega
  have HE:=hide (show infE l = begE l by unfold infE; rw [if_neg (by omega)])
  have HV:=hide (show infV l = .agg noHead by unfold infV; rw [HE.out,if_neg (by omega)])
  clear h1 HB
  go_wp2_with (refine list_store_row' rfl 36 (.tmp 2) (.tmp 14) rfl w.heap.size noHead rfl rfl 36 _ H0.out (by kernel_rfl) rfl (by simp [noHead,Value.oneCell']) ?_; intro w7 hT7 hO7)
  refine bodyPost_ret (results_row_two Tryz.results10 _ _ w.heap.size 36 _ _ rfl hT7 Tryz.underlying36 rfl (by kernel_rfl)) rfl ⟨HO.out.trans hO7 (by intro k hk hlt; simp at hk; omega),by rw [HE.out,HV.out]; rfl⟩
 ·have HN:=hide (next_any A' (l.length - 8) c' (l.drop 8) _ hH (by simp) hcc (by have:=HL.out; omega))
  have hm8 : (l.drop 8).length = l.length - 8:=List.length_drop ..
  have hiE : infE l = if nxE (l.drop 8) = 0 then hdE (ckOf (l.drop 8)) else nxE (l.drop 8):=by unfold infE; rw [if_pos h1]
  have hiV : infV l = if infE l = 0 then hdV (ckOf (l.drop 8)) else .agg noHead:=rfl
  have HI:=hide (aI hiE hiV)
  clear hiE hiV hH hm8
  generalize l.drop 8 = m at *
  generalize l.length - 8 = n8 at *
  have H1:=hide h1
  clear h1 hcc hbk HB h8
  go_wp2_with fail
  refine (HN.out).mono ?_
  rintro e w2 ⟨ho2,(⟨h2,rfl⟩ | ⟨h2,h12,D,A2,c2,rfl,hD,hA2,hc2,hbD,hb2⟩)⟩
  ·have h2' : ¬ ((nxE m : Nat) : Int) = 0:=by omega
   have HE:=hide (show infE l = nxE m by rw [HI.out.1,if_neg (by omega)])
   have HV:=hide (show infV l = .agg noHead by rw [HI.out.2,HE.out,if_neg (by omega)])
   have H2:=hide (aI (H0.out.only ho2 (by simp)) ((HO.out.trans ho2 (S:=[]) (by simp))))
   clear h2 ho2 HN
   unfold noChunk
   generalize nxE m = q at *
   have H3:=hide (aI (H2.out.1.alloc (.cells #[.string ⟨#[]⟩,.slice none 0 0] 53)) (H2.out.2.alloc (.cells #[.string ⟨#[]⟩,.slice none 0 0] 53)))
   go_wp2_with (refine list_store_row' rfl 36 (.tmp 2) (.tmp 24) rfl w.heap.size noHead rfl rfl 36 _ H3.out.1 (by kernel_rfl) rfl (by simp [noHead,Value.oneCell']) ?_; intro w7 hT7 hO7)
   refine bodyPost_ret (results_row_two Tryz.results10 _ _ w.heap.size 36 _ _ rfl hT7 Tryz.underlying36 rfl (by kernel_rfl)) rfl ⟨H3.out.2.trans hO7 (by intro k hk hlt; simp at hk; omega),by rw [HE.out,HV.out]; rfl⟩
  ·have hb12:=h12
   have hdl : (ckOf m).d.length = bigOf m:=by show ((m.drop 8).take _).length = _; rw [List.length_take,List.length_drop]; omega
   have hcv : ∀ x,Only [] (w.alloc (.cells noHead 36)) x -> CvHas x (Cv.mk (ckOf m) D (bigOf m)):=fun x hx=>⟨by rw [hdl]; exact hD.keep hx (by simp),by rw [hdl]; exact Nat.le_refl _,fun hnone=>by
    rcases Nat.eq_zero_or_pos (bigOf m) with h0 | h0
    ·exact h0
    ·obtain ⟨ad,h5,_⟩:=hD.2 h0
     have hnone : D = none:=hnone
     rw [hnone] at h5; cases h5⟩
   have HR : ∀ x,Only [] (w.alloc (.cells noHead 36)) x -> Calls Tryz.prog 31 #[.agg #[.string ⟨((m.drop 4).take 4).toArray⟩,.slice D (bigOf m) (bigOf m)]] x fun e w'=>Only [] x w' /\ e = .returned (.tuple #[hdV (ckOf m),.int .i64 (hdE (ckOf m) : Nat)]):=fun x hx=>by
    have h9:=pgReadHead_any (Cv.mk (ckOf m) D (bigOf m)) x (hcv x hx)
    dsimp only at h9
    rw [hdl] at h9
    exact h9
   have HR2:=hide HR
   have HE:=hide (show infE l = hdE (ckOf m) by rw [HI.out.1,if_pos h2])
   have H2:=hide (aI (H0.out.only ho2 (by simp)) (aI ho2 (HO.out.trans ho2 (S:=[]) (by simp))))
   have H3:=hide (aI (H2.out.1.alloc (.cells #[.string ⟨((m.drop 4).take 4).toArray⟩,.slice D (bigOf m) (bigOf m)] 53)) (aI (H2.out.2.1.alloc (.cells #[.string ⟨((m.drop 4).take 4).toArray⟩,.slice D (bigOf m) (bigOf m)] 53)) (H2.out.2.2.alloc (.cells #[.string ⟨((m.drop 4).take 4).toArray⟩,.slice D (bigOf m) (bigOf m)] 53))))
   clear h2 ho2 HN hD hA2 hc2 hbD hb2 hcv HR h12 hb12
   have HD:=hide hdl
   clear hdl
   go_wp2_with fail
   obtain ⟨q1,q2,q3,q4,q5,hq⟩:=hdV_agg (ckOf m)
   have HQ:=hide hq
   refine ((HR2.out _ H3.out.2.1).mono (R':=fun e w'=>Only [] (w2.alloc (.cells #[.string ⟨((m.drop 4).take 4).toArray⟩,.slice D (bigOf m) (bigOf m)] 53)) w' /\ e = .returned (.tuple #[.agg #[.int .i64 q1,.int .i64 q2,.int .i64 q3,.int .i64 q4,.int .i64 q5],.int .i64 ((hdE (ckOf m) : Nat) : Int)])) (fun e w' h=>⟨h.1,by rw [<- hq]; exact h.2⟩)).mono ?_
   rintro e w3 ⟨ho3,rfl⟩
   have hr3:=H3.out.1.only ho3 (by simp)
   have hO3 : Only [] w w3:=H3.out.2.2.trans ho3 (by simp)
   have H4:=hide (aI hr3 hO3)
   have hV:=hide (show infV l = if infE l = 0 then .agg #[.int .i64 q1,.int .i64 q2,.int .i64 q3,.int .i64 q4,.int .i64 q5] else .agg noHead by rw [HI.out.2,hq])
   have hz:=hide (show hdE (ckOf m) ≠ 0 -> (Value.agg #[.int .i64 q1,.int .i64 q2,.int .i64 q3,.int .i64 q4,.int .i64 q5] = .agg noHead) from fun h=>by rw [<- hq]; unfold hdV; rw [if_neg h]; rfl)
   clear hq hr3 hO3 ho3
   go_wp2_with (refine list_store_row' rfl 36 (.tmp 2) (.tmp 28) rfl w.heap.size #[.int .i64 q1,.int .i64 q2,.int .i64 q3,.int .i64 q4,.int .i64 q5] rfl rfl 36 _ H4.out.1 (by kernel_rfl) rfl (by simp [Value.oneCell']) ?_; intro w7 hT7 hO7)
   refine bodyPost_ret (results_row_two Tryz.results10 _ _ w.heap.size 36 _ _ rfl hT7 Tryz.underlying36 rfl (by kernel_rfl)) rfl ⟨H4.out.2.trans hO7 (by intro k hk hlt; simp at hk; omega),?_⟩
   rw [hV.out,HE.out]
   by_cases h0 : hdE (ckOf m) = 0
   ·rw [if_pos h0]; rfl
   ·rw [if_neg h0,<- hz.out h0]; rfl
def headB (W H d c l : Nat) : List UInt8:=four4 W ++ four4 H ++ [UInt8.ofNat d,UInt8.ofNat c,0,0,UInt8.ofNat l]
theorem headB_vals (W H d c l : Nat) : bvals (headB W H d c l) = bvals (four4 W ++ four4 H) ++ [.int .u8 ((d : Int) % 256),.int .u8 ((c : Int) % 256),.int .u8 0,.int .u8 0,.int .u8 ((l : Int) % 256)]:=by
 unfold headB
 rw [bvals_append]
 congr 1
set_option maxRecDepth 100000 in
set_option maxHeartbeats 4000000 in
theorem layHead_any (W H d c l : Nat) (w : World) :
 Calls Tryz.prog 17 #[.agg #[.int .i64 (W : Int),.int .i64 (H : Int),.int .i64 (d : Int),.int .i64 (c : Int),.int .i64 (l : Int)]] w fun e w' =>
  ∃ v,e = .returned v /\ w'.ownsRow w.heap.size 5 1 v 13 (bvals (headB W H d c l)) /\ Only [] w w':=by
 obtain ⟨i0,hi0,hz0,hz1,hz2⟩:=info_of u8_info
 have hz:=Has.new w 36 #[.int .i64 (W : Int),.int .i64 (H : Int),.int .i64 (d : Int),.int .i64 (c : Int),.int .i64 (l : Int)]
 have ho:=(Only.refl [] w).alloc (.cells #[.int .i64 (W : Int),.int .i64 (H : Int),.int .i64 (d : Int),.int .i64 (c : Int),.int .i64 (l : Int)] 36)
 have zz : w.heap.size + 1 <= (w.alloc (.cells #[.int .i64 (W : Int),.int .i64 (H : Int),.int .i64 (d : Int),.int .i64 (c : Int),.int .i64 (l : Int)] 36)).heap.size:=by simp
 have HA:=hide (appBig_any (w.heap.size + 1) none 0 0 W [] _ zz (World.ownsRow_nil _ _ _ _) (by omega))
 have H0:=hide (aI hz ho)
 have HV:=hide (headB_vals W H d c l)
 clear hz ho zz
 go_enter Tryz.func17,Tryz.ntmps17
 go_wp2_with fail
 refine (HA.out).mono ?_
 rintro e w2 ⟨A2,c2,rfl,h2,s2⟩
 have hr2:=H0.out.1.only (s2.only) (by simp [Value.ownBlock])
 have o2 : Only [] w w2:=H0.out.2.trans s2.only (S:=[]) (by simp [Value.ownBlock])
 have z2 : w.heap.size + 1 <= w2.heap.size:=by have:=s2.only.size; simpa using this
 have HA2:=hide (appBig_any (w.heap.size + 1) A2 4 c2 H (four4 W) w2 z2 h2 (by omega))
 have hc1:=hr2.cell 1
 have H2:=hide (aI h2 (aI s2 (aI hr2 (aI o2 z2))))
 clear h2 s2 hr2 o2 HA z2
 go_wp2_with fail
 refine (HA2.out).mono ?_
 rintro e w3 ⟨A3,c3,rfl,h3,s3⟩
 have hb2 : ∀ k,(Value.slice A2 (0 + 4) c2).ownBlock = some k -> w.heap.size + 1 <= k:=fun k hk=>(H2.out.1.lt k hk).1
 have hr3 : Has w3 w.heap.size 36 _:=H2.out.2.2.1.only s3.only (by
  intro hm
  cases hk : (Value.slice A2 4 c2).ownBlock with
  | none=>rw [hk] at hm; simp at hm
  | some k=>rw [hk] at hm; simp at hm; have:=hb2 k hk; omega)
 have o3 : Only [] w w3:=H2.out.2.2.2.1.trans s3.only (by
  intro k hm hlt
  cases hk : (Value.slice A2 4 c2).ownBlock with
  | none=>rw [hk] at hm; simp at hm
  | some j=>rw [hk] at hm; simp at hm; have:=hb2 j hk; omega)
 have z3 : w.heap.size + 1 <= w3.heap.size:=by have:=s3.only.size; have:=H2.out.2.2.2.2; omega
 have d2:=hr3.cell 2
 have d3:=hr3.cell 3
 have d4:=hr3.cell 4
 have H3:=hide (aI h3 (aI s3 (aI hr3 (aI o3 z3))))
 have HW:=hide (h3.alloc (.cells #[.int .u8 ((d : Int) % 256),.int .u8 ((c : Int) % 256),.int .u8 0,.int .u8 0,.int .u8 ((l : Int) % 256)] 5))
 have HL:=hide (Holds.lit w3 #[.int .u8 ((d : Int) % 256),.int .u8 ((c : Int) % 256),.int .u8 0,.int .u8 0,.int .u8 ((l : Int) % 256)] 5)
 have HZ:=hide (show w.heap.size + 1 <= (w3.alloc (.cells #[.int .u8 ((d : Int) % 256),.int .u8 ((c : Int) % 256),.int .u8 0,.int .u8 0,.int .u8 ((l : Int) % 256)] 5)).heap.size by simp; omega)
 clear h3 s3 hr3 o3 z3 hb2
 go_wp2_with (at_builtin; go_loud (refine list_append _ rfl (.tmp 11) (.tmp 21) 22 rfl (w.heap.size + 1) 1 1 Tryz.underlying22 hi0 hz0 hz1 hz2 rfl (Nat.zero_lt_one) HW.out rfl HL.out rfl (by simp [Value.oneCell']) (by simp) (Nat.zero_lt_one) HZ.out ?_); intro A4 c4 w4 h1 h2 h3)
 go_ret
 refine ⟨_,rfl,?_,?_⟩
 ·rw [HV.out]
  exact own_mono h1 (by omega)
 ·exact (H3.out.2.2.2.1.alloc _).grown h2 (fun k hk hlt=>by have:=(H3.out.1.lt k hk).1; omega)
theorem run_append_full (P : Program) (w : World) (t ty e : TypeId) (i : TypeInfo) (z : Value) (ht : P.underlying t = some (.slice e)) (hi : P.info? e = some i) (hz : i.zero = some z)
 (hsize : i.size = 1) (hby : i.bytes = 1) (hzs : z.cells.size = 1) {base : Nat} (hbase : base <= w.heap.size)
 {b a : Addr} {n m c : Nat} {xs news : List Value} (hx : Holds w 1 (some b) n xs) (hr : Holds w 1 (some a) m news) (hm : 0 < m) (h63 : n + m <= 140737488355328) :
 ∃ v' w',(Builtin.append_ #[t,t] ty #[.slice (some b) n n,.slice (some a) m c]).run P w = .ok v' w' /\ w'.ownsRow base e 1 v' (n + m) (xs ++ news) /\ Only [] w w' /\ v'.ownBlock = some w.heap.size:=by
 have hlen : (xs ++ news).length = (n + m) * 1:=by rw [List.length_append,hx.1,hr.1,Nat.add_mul]
 have hrun:=run_append_grow (P:=P) w t ty e i z ht hi hz b n n xs (by rw [hsize]; exact hx.1) (hx.at_ _ rfl) a m c news (by rw [hsize]; exact hr.1) (hr.at_ _ rfl) (by omega) (by omega) (growslice_fits (by omega) (by rw [hby]; omega))
 have hge:=grownCap_ge w (n + m) n e
 have hcm : grownCap w (n + m) n e <= maxLen:=grownCap_le_maxLen w (n + m) n e (by unfold maxLen; omega)
 refine ⟨_,_,hrun,⟨hlen,.inr ⟨w.heap.size,_,_,rfl,hbase,heap_alloc_new w.drew _,hge,hcm,?_,?_⟩⟩,(Only.refl [] w).drew.alloc _,rfl⟩
 ·simp only [Array.size_append,List.size_toArray,size_zeroCells,hzs,hx.1,hr.1,<- Nat.add_mul]
  omega
 ·simp only [Array.toList_append,List.append_assoc]
  rw [<- List.append_assoc,<- hlen]
  exact List.take_left
theorem list_append_full {P : Program} (w : World) {ops : Array Oper} {rest : List Oper} {o : Oper} {a : Act} {Q : Exit -> Act -> World -> Prop} (hgd : o.guard = none) (s x : Operand) (t : TypeId)
 (ho : o.op = .call { callee:=.builtin .append,args:=#[s,x],argTypes:=#[t,t] }) {e : TypeId} {i : TypeInfo} {z : Value} (ht : P.underlying t = some (.slice e)) (hi : P.info? e = some i) (hz : i.zero = some z)
 (hsize : i.size = 1) (hby : i.bytes = 1) (hzs : z.cells.size = 1) {base : Nat} (hbase : base <= w.heap.size)
 {b ad : Addr} {n m c : Nat} {xs news : List Value} (hx : Holds w 1 (some b) n xs) (hs : a.eval s = .slice (some b) n n) (hr : Holds w 1 (some ad) m news) (hxe : a.eval x = .slice (some ad) m c) (hm : 0 < m) (h63 : n + m <= 140737488355328)
 (h : ∀ A' c' w',w'.ownsRow base e 1 (.slice A' (n + m) c') (n + m) (xs ++ news) -> Only [] w w' -> wpList P ops Q rest (a.put o.dst (.slice A' (n + m) c')) w') : wpList P ops Q (o :: rest) a w:=by
 obtain ⟨v',w',hrun,h2,h3,_⟩:=run_append_full P w t o.type e i z ht hi hz hsize hby hzs hbase (c:=c) hx hr hm h63
 obtain ⟨A',c',rfl,_,_⟩:=own_shape h2
 refine wpList_plain hgd fun _ hK=>?_
 unfold Oper.wp execOp
 simp only [ho,resolve,invoke,builtin,Sem.run_bind,Sem.run_pure,Result.andThen_ok,List.map_toArray,List.map_cons,List.map_nil,hs,hxe,hrun]
 exact hK _ _ (h A' c' w' h2 h3)
def GRow (w : World) (B : Nat) (A : Option Addr) (n c : Nat) (l : List UInt8) : Prop :=
 w.ownsRow B 5 1 (.slice A n c) n (bvals l) \/ (c = n /\ ∃ g,A = some ⟨g,0,none⟩ /\ Holds w 1 (some ⟨g,0,none⟩) n (bvals l))
set_option maxRecDepth 100000 in
set_option maxHeartbeats 4000000 in
theorem appBig_full (B : Nat) (b : Addr) (n s : Nat) (l : List UInt8) (w : World) (hB : B <= w.heap.size) (hx : Holds w 1 (some b) n (bvals l)) (hn : n + 4 <= 140737488355328) :
 Calls Tryz.prog 41 #[.slice (some b) n n,.int .i64 (s : Int)] w fun e w'=>∃ A' c',e = .returned (.slice A' (n + 4) c') /\ w'.ownsRow B 5 1 (.slice A' (n + 4) c') (n + 4) (bvals (l ++ four4 s)) /\ Only [] w w':=by
 obtain ⟨i0,hi0,hz0,hz1,hz2⟩:=info_of u8_info
 rw [bvals_append,four4_vals]
 obtain ⟨a,ha⟩ : ∃ a,a = s / 16777216:=⟨_,rfl⟩
 obtain ⟨b2,hb⟩ : ∃ b,b = s / 65536:=⟨_,rfl⟩
 obtain ⟨d,hd⟩ : ∃ d,d = s / 256:=⟨_,rfl⟩
 have e1 : (s : Int) / 16777216 = (a : Int):=by omega
 have e2 : (s : Int) / 65536 = (b2 : Int):=by omega
 have e3 : (s : Int) / 256 = (d : Int):=by omega
 rw [<- ha,<- hb,<- hd]
 clear ha hb hd
 have HW:=hide (hx.keep ((Only.refl [] w).alloc (.cells #[.int .u8 ((a : Int) % 256),.int .u8 ((b2 : Int) % 256),.int .u8 ((d : Int) % 256),.int .u8 ((s : Int) % 256)] 5)) (by simp))
 have HL:=hide (Holds.lit w #[.int .u8 ((a : Int) % 256),.int .u8 ((b2 : Int) % 256),.int .u8 ((d : Int) % 256),.int .u8 ((s : Int) % 256)] 5)
 clear hx
 go_enter Tryz.func41,Tryz.ntmps41
 go_wp2_with (at_builtin; refine list_append_full (base:=B) _ rfl (.tmp 5) (.tmp 17) 22 rfl Tryz.underlying22 hi0 hz0 hz1 hz2 rfl (by simp; omega) HW.out rfl HL.out rfl (Nat.zero_lt_succ _) (by simpa using hn) ?_; intro A' c' w' h1 h2)
 go_ret
 exact ⟨A',c',rfl,h1,((Only.refl [] w).alloc _).trans h2 (by simp)⟩
theorem appBig_grow (B : Nat) (A : Option Addr) (n c s : Nat) (l : List UInt8) (w : World) (hB : B <= w.heap.size) (hg : GRow w B A n c l) (hn : n + 4 <= 140737488355328) (w0 : World) (hw0 : Only [] w0 w) (hA : ∀ k,(Value.slice A n c).ownBlock = some k -> w0.heap.size <= k) :
 Calls Tryz.prog 41 #[.slice A n c,.int .i64 (s : Int)] w fun e w'=>∃ A' c',e = .returned (.slice A' (n + 4) c') /\ w'.ownsRow B 5 1 (.slice A' (n + 4) c') (n + 4) (bvals (l ++ four4 s)) /\ Only [] w0 w' /\ (∀ k,(Value.slice A' (n + 4) c').ownBlock = some k -> w0.heap.size <= k) /\ (∀ g t cs,t ≠ 5 -> Has w g t cs -> Has w' g t cs):=by
 rcases hg with hg | ⟨rfl,g,rfl,hg⟩
 ·refine (appBig_any B A n c s l w hB hg hn).mono ?_
  rintro e w' ⟨A',c',he,h1,h2⟩
  refine ⟨A',c',he,h1,hw0.trans h2.only (fun k hk hlt=>?_),fun k hk=>?_,fun g t cs ht hh=>hh.only h2.only (fun hm=>?_)⟩
  ·rw [List.nil_append] at hk
   have:=hA k (by cases hv : (Value.slice A n c).ownBlock with
    | none=>rw [hv] at hk; simp at hk
    | some j=>rw [hv] at hk; simp at hk; rw [hk])
   omega
  ·rcases h2.own k hk with h | h
   ·exact hA k h
   ·exact Nat.le_trans hw0.size h
  ·rw [List.nil_append] at hm
   refine own_ne hg hh (Ne.symm ht) ?_
   cases hv : (Value.slice A n c).ownBlock with
   | none=>rw [hv] at hm; simp at hm
   | some j=>rw [hv] at hm; simp at hm; rw [hm]
 ·refine (appBig_full w.heap.size _ c s l w (Nat.le_refl _) hg hn).mono ?_
  rintro e w' ⟨A',c',he,h1,h2⟩
  exact ⟨A',c',he,own_mono h1 hB,hw0.trans h2 (by simp),fun k hk=>Nat.le_trans hw0.size (own_at h1 hk).1,fun g t cs _ hh=>hh.only h2 (by simp)⟩
theorem GRow.keep {w w' : World} {B n c : Nat} {A : Option Addr} {l : List UInt8} (h : GRow w B A n c l) (ho : Only [] w w') : GRow w' B A n c l:=by
 rcases h with h | ⟨h1,g,h2,h3⟩
 ·exact .inl (own_keep h ho (by simp))
 ·exact .inr ⟨h1,g,h2,h3.keep ho (by simp)⟩
def kind4 (k : List UInt8) : List UInt8:=k.take 4 ++ List.replicate (4 - k.length) 0
theorem kind4_length (k : List UInt8) : (kind4 k).length = 4:=by simp [kind4]; omega
theorem run_copy_kind (w : World) (g : Nat) (k : List UInt8) (t : TypeId) (ty : TypeId) (hg : Has w g t #[.int .u8 0,.int .u8 0,.int .u8 0,.int .u8 0]) :
 ∃ n,(Builtin.copy_ #[22,9] ty #[.slice (some ⟨g,0,none⟩) 4 4,.string ⟨k.toArray⟩]).run Tryz.prog w = .ok (goInt n) (w.setRow g (bvals (kind4 k)).toArray):=by
 obtain ⟨i0,hi0,hz0,hz1,hz2⟩:=info_of u8_info
 refine ⟨((min k.length 4 : Nat) : Int),?_⟩
 have hsz : (⟨k.toArray⟩ : ByteArray).size = k.length:=by simp [ByteArray.size]
 have hcells : List.take (k.length.min 4) (List.map (fun b : UInt8=>Value.int .u8 (b.toNat : Int)) k) = bvals (k.take 4):=by
  unfold bvals
  rw [List.map_take]
  have hm : (List.map (fun b : UInt8=>Value.int .u8 (b.toNat : Int)) k).length = k.length:=List.length_map ..
  rcases Nat.le_total k.length 4 with h | h
  ·rw [show k.length.min 4 = k.length from Nat.min_eq_left h,List.take_of_length_le (by omega),List.take_of_length_le (by omega)]
  ·rw [show k.length.min 4 = 4 from Nat.min_eq_right h]
 have hst:=run_storeCells_at Tryz.prog g 0 t (bvals (k.take 4)) 0 #[.int .u8 0,.int .u8 0,.int .u8 0,.int .u8 0] w hg (by simp; omega) (bvals_one _)
 simp only [Nat.add_zero] at hst
 have hrow : (List.take 0 (#[Value.int .u8 0,.int .u8 0,.int .u8 0,.int .u8 0] : Array Value).toList ++ bvals (k.take 4) ++ List.drop (0 + (bvals (k.take 4)).length) (#[Value.int .u8 0,.int .u8 0,.int .u8 0,.int .u8 0] : Array Value).toList) = bvals (kind4 k):=by
  unfold kind4
  rw [bvals_append,List.take_zero,List.nil_append]
  refine congrArg (bvals (k.take 4) ++ ·) ?_
  rw [bvals_length,List.length_take,Nat.zero_add]
  rcases (show k.length = 0 \/ k.length = 1 \/ k.length = 2 \/ k.length = 3 \/ 4 <= k.length by omega) with h | h | h | h | h
  ·rw [h]; rfl
  ·rw [h]; rfl
  ·rw [h]; rfl
  ·rw [h]; rfl
  ·rw [Nat.min_eq_left h,show 4 - k.length = 0 by omega]; rfl
 rw [hrow] at hst
 simp [Builtin.copy_,run_underlying Tryz.underlying22,Builtin.lenOf,Builtin.firstCells,sizeOf,typeInfo,hi0,hsz]
 rw [hcells,hst]
 rfl
theorem list_copy_kind (w : World) {ops : Array Oper} {rest : List Oper} {o : Oper} {a : Act} {Q : Exit -> Act -> World -> Prop} (hgd : o.guard = none) (d s : Operand) (hop : o.op = .call { callee:=.builtin .copy,args:=#[d,s],argTypes:=#[22,9] })
 (g : Nat) (k : List UInt8) (t : TypeId) (hg : Has w g t #[.int .u8 0,.int .u8 0,.int .u8 0,.int .u8 0]) (hd : a.eval d = .slice (some ⟨g,0,none⟩) 4 4) (hs : a.eval s = .string ⟨k.toArray⟩)
 (h : ∀ n w',Has w' g t (bvals (kind4 k)).toArray -> Only [g] w w' -> wpList Tryz.prog ops Q rest (a.put o.dst (.int .i64 n)) w') : wpList Tryz.prog ops Q (o :: rest) a w:=by
 obtain ⟨n,hrun⟩:=run_copy_kind w g k t o.type hg
 refine wpList_plain hgd fun _ hK=>?_
 unfold Oper.wp execOp
 simp only [hop,resolve,invoke,builtin,Sem.run_bind,Sem.run_pure,Result.andThen_ok,List.map_toArray,List.map_cons,List.map_nil,hd,hs,hrun]
 exact hK _ _ (h _ _ (hg.setRow _) ((Only.refl _ w).setRow (by simp) _))
end Go.Proofs.YtjfjmkkkbcgohaaGreatDoor
