import Derived.Test.YtjfjmkkkbcgohaaGreatDoorMPiF
namespace Go.Proofs.YtjfjmkkkbcgohaaGreatDoor
open Go Go.RowKit Go.Shelf
attribute [local go_sem] Oper.semAt_some
def isNew (B : Nat) (W H n : Nat) : (Value -> Prop) × (Value -> World -> Prop) :=
 (fun v=>∃ g c,v = .tuple #[.agg #[.int .i64 W,.int .i64 H,.slice (some ⟨g,0,none⟩) n c],.int .i64 0],fun v w=>∀ g c,v = .tuple #[.agg #[.int .i64 W,.int .i64 H,.slice (some ⟨g,0,none⟩) n c],.int .i64 0] -> w.ownsRow B 5 1 (.slice (some ⟨g,0,none⟩) n c) n (bvals (List.replicate n 0)))
theorem isNew_later (B : Nat) (W H n : Nat) : ∀ v w w',Only [] w w' -> (isNew B W H n).2 v w -> (isNew B W H n).2 v w':=fun _ _ _ ho h g c he=>own_keep (h g c he) ho (by simp)
def isUnd (B B0 : Nat) (W H l : Int) (raw : List UInt8) : (Value -> Prop) × (Value -> World -> Prop) :=
 (fun v=>∃ ga gr gh,v = .func (.func 94) #[] #[.pointer (some ⟨ga,0,none⟩),.pointer (some ⟨gr,0,none⟩),.pointer (some ⟨gh,0,none⟩)],fun v w=>∀ ga gr gh,v = .func (.func 94) #[] #[.pointer (some ⟨ga,0,none⟩),.pointer (some ⟨gr,0,none⟩),.pointer (some ⟨gh,0,none⟩)] -> B <= ga /\ B <= gr /\ ∀ Z Zr,(∀ k ∈ Zr,B0 <= k) -> UnBox Z Zr ga gr gh W H 8 6 l [] raw w)
theorem isUnd_later (B B0 : Nat) (W H l : Int) (raw : List UInt8) : ∀ v w w',Only [] w w' -> (isUnd B B0 W H l raw).2 v w -> (isUnd B B0 W H l raw).2 v w':=fun _ _ _ ho h ga gr gh he=>⟨(h ga gr gh he).1,(h ga gr gh he).2.1,fun Z Zr hz=>((h ga gr gh he).2.2 Z Zr hz).keep0 ho⟩
def isCol : (Value -> Prop) × (Value -> World -> Prop) :=
 (fun v=>∃ gd,v = .func (.func 103) #[] #[.pointer (some ⟨gd,0,none⟩)],fun v w=>∀ gd,v = .func (.func 103) #[] #[.pointer (some ⟨gd,0,none⟩)] -> Has w gd 3 #[.int .i64 8])
theorem isCol_later : ∀ v w w',Only [] w w' -> isCol.2 v w -> isCol.2 v w':=fun _ _ _ ho h gd he=>(h gd he).only ho (by simp)
theorem func_inj3 {f : Fn} {a b c a' b' c' : Nat} (h : Value.func f #[] #[.pointer (some ⟨a,0,none⟩),.pointer (some ⟨b,0,none⟩),.pointer (some ⟨c,0,none⟩)] = .func f #[] #[.pointer (some ⟨a',0,none⟩),.pointer (some ⟨b',0,none⟩),.pointer (some ⟨c',0,none⟩)]) : a = a' /\ b = b' /\ c = c':=by
 injection h with _ _ h
 have h0:=congrArg (·[0]?) h
 have h1:=congrArg (·[1]?) h
 have h2:=congrArg (·[2]?) h
 exact ⟨by simpa using h0,by simpa using h1,by simpa using h2⟩
theorem func_inj1 {f : Fn} {a a' : Nat} (h : Value.func f #[] #[.pointer (some ⟨a,0,none⟩)] = .func f #[] #[.pointer (some ⟨a',0,none⟩)]) : a = a':=by
 injection h with _ _ h
 have h0:=congrArg (·[0]?) h
 simpa using h0
theorem newImg_any (W H n B : Nat) (hW : 1 <= W /\ W <= 64) (hH : 1 <= H /\ H <= 64) (hn : n = 4 * (W * H)) (w : World) (hB : B <= w.heap.size) :
 Calls Tryz.prog 53 #[.int .i64 W,.int .i64 H] w fun e w'=>∃ v,e = .returned v /\ Only [] w w' /\ (isNew B W H n).1 v /\ (isNew B W H n).2 v w':=by
 have hp : W * H <= 64 * 64:=Nat.mul_le_mul hW.2 hH.2
 have hp1 : 1 * 1 <= W * H:=Nat.mul_le_mul hW.1 hH.1
 have hm : mayI (W : Int) (H : Int) = true:=decide_eq_true (.inr ⟨by omega,by omega,by
  have : ((W * H : Nat) : Int) <= 4096:=by omega
  push_cast at this
  omega⟩)
 have hm' : mayI (H : Int) (W : Int) = true:=decide_eq_true (.inr ⟨by omega,by omega,by
  have : ((H * W : Nat) : Int) <= 4096:=by rw [Nat.mul_comm]; omega
  push_cast at this
  omega⟩)
 have E1 : newW (W : Int) (H : Int) = W:=by unfold newW; rw [hm]; rfl
 have E2 : newW (H : Int) (W : Int) = H:=by unfold newW; rw [hm']; rfl
 have E3 : newL (W : Int) (H : Int) = List.replicate n 0:=by unfold newL; rw [hm,if_pos rfl,Int.toNat_natCast,Int.toNat_natCast,hn]
 have E4 : newE7 (W : Int) (H : Int) = 0:=by unfold newE7; rw [hm]; rfl
 have h:=new_any (W : Int) (H : Int) w
 rw [E1,E2,E3,E4] at h
 refine h.mono ?_
 rintro e w' ⟨v,rfl,⟨A,c,rfl,how⟩,ho⟩
 rw [List.length_replicate] at how
 obtain ⟨gi,hA,hg,hlt,_,_⟩:=own_open how (by omega)
 subst hA
 rw [List.length_replicate]
 refine ⟨_,rfl,ho,⟨gi,c,rfl⟩,fun g' c' he=>?_⟩
 have he : gi = g' /\ c = c':=by
  simp only [Value.tuple.injEq] at he
  have h0:=congrArg (·[0]?) he
  unfold mval at h0
  simpa using h0
 obtain ⟨rfl,rfl⟩:=he
 exact own_mono how hB
theorem results_cells {fn : Func} {p u : Tmp} {ty tu : TypeId} (h : fn.results = #[.cell p ty,.cell u tu]) (tmps : Array Value) (P : Program) (w : World) :
 (results fn tmps).run P w =
   ((asAddr (tmps.getD p undef)).run P w).andThen fun a w1=>((loadVar ty a).run P w1).andThen fun x w2=>((asAddr (tmps.getD u undef)).run P w2).andThen fun b w3=>((loadVar tu b).run P w3).andThen fun y w4=>.ok (.tuple #[x,y]) w4:=by
 simp only [results,h]
 simp [Sem.run_bind,Result.andThen]
theorem run_loadVar_one {P : Program} {w : World} {a : Addr} {v : Value} {ty : TypeId} {k : IntKind} (hu : P.underlying ty = some (.int k)) (hc : w.cell? a = some v) : (loadVar ty a).run P w = .ok v w:=by
 have hagg : (isAgg ty).run P w = .ok false w:=by
  unfold isAgg
  rw [Sem.run_bind,run_underlying hu w]
  rfl
 simp [loadVar,Sem.run_bind,hagg,run_load,hc]
theorem results_row_cell {P : Program} {fn : Func} {p u : Tmp} {ty tu : TypeId} (h : fn.results = #[.cell p ty,.cell u tu]) (tmps : Array Value) (w : World) (g g2 : Nat) (t : TypeId) (cs : Array Value) (d : TypeDesc) (k : IntKind) (v : Value)
 (hp : tmps.getD p undef = .pointer (some ⟨g,0,none⟩)) (hg : Has w g t cs)
 (hu : P.underlying ty = some d) (hd : (match d with | .struct _ | .array _ _=>true | _=>false) = true) (hi : (P.info? ty).map (·.size) = some cs.size)
 (hp2 : tmps.getD u undef = .pointer (some ⟨g2,0,none⟩)) (hu2 : P.underlying tu = some (.int k)) (hc : w.cell? ⟨g2,0,none⟩ = some v) :
 (results fn tmps).run P w = .ok (.tuple #[.agg cs,v]) w:=by
 rw [results_cells h,hp,hp2]
 simp [asAddr,Result.andThen,run_loadVar_row w g t ty cs (0,0) d hg hu hd hi,run_loadVar_one hu2 hc]
def ImFr (b2 b4 b5 gm g8 g9 Bx : Nat) (a : Act) : Prop:=∃ u0 u1 u3 u7 u11 u12 u13 u14 u15 u16 u17 u18 u19 u20 u21 u22 u23 u24 u25 u26 u27 u28 u29 u30 u31 u32 u33 u34 u35 u36 u37 u38 u39 u40 u41 u42 u43 u44 u45 u46 u47 u48 u49 u50 u51 u52 u53 u54 u55 u56 u57 u58 u59 u60 u61 u62 u63 u64 u65 u66 : Value,a = { tmps:=#[u0,u1,.pointer (some ⟨b2,0,none⟩),u3,.pointer (some ⟨b4,0,none⟩),.pointer (some ⟨b5,0,none⟩),.pointer (some ⟨gm,0,none⟩),u7,.pointer (some ⟨g8,0,none⟩),.pointer (some ⟨g9,0,none⟩),.pointer (some ⟨Bx,0,none⟩),u11,u12,u13,u14,u15,u16,u17,u18,u19,u20,u21,u22,u23,u24,u25,u26,u27,u28,u29,u30,u31,u32,u33,u34,u35,u36,u37,u38,u39,u40,u41,u42,u43,u44,u45,u46,u47,u48,u49,u50,u51,u52,u53,u54,u55,u56,u57,u58,u59,u60,u61,u62,u63,u64,u65,u66],defers:=[] }
set_option maxRecDepth 100000 in
set_option maxHeartbeats 16000000 in
theorem image_any (w0 : World) (g : Nat) (W H q n : Nat) (l : Int) (P : PgPt) (M : List UInt8) (Ar : Option Addr) (nr cr : Nat) (w : World) (hp : PtHas w0 g W H 8 6 l P w) (hcl : P.clr = []) (hb : Holds w 1 Ar nr (bvals (rawB q M W H l))) (hlr : (rawB q M W H l).length = nr) (hcr : nr <= cr)
 (hW : 1 <= W /\ W <= 64) (hH : 1 <= H /\ H <= 64) (hq : q <= 4) (hM : M.length = n) (hn : n = 4 * (W * H)) :
 Calls Tryz.prog 21 #[.pointer (some ⟨g,0,none⟩),.slice Ar nr cr] w fun e w'=>∃ gi c,e = .returned (.tuple #[mval W H (some ⟨gi,0,none⟩) n c,.int .i64 0]) /\ w'.ownsRow w.heap.size 5 1 (.slice (some ⟨gi,0,none⟩) n c) n (bvals M) /\ Only [] w w':=by
 refine (callsIn_wide (n:=5)).1 ?_
 have hbx : ∃ cs,Has w g 105 cs /\ cs[0]? = some (.int .i64 (W : Int)) /\ cs[1]? = some (.int .i64 (H : Int)) /\ cs[2]? = some (.int .i64 8) /\ cs[3]? = some (.int .i64 6) /\ cs[4]? = some (.int .i64 l):=by
  obtain ⟨Ap,cp,Ac,cc,Ak,ck,h1,_⟩:=hp.box
  exact ⟨_,h1,rfl,rfl,rfl,rfl,rfl⟩
 obtain ⟨pcs,hbox,k0,k1,k2,k3,k4⟩:=hbx
 have HB:=hide (aI hb (aI hlr (aI hcr (aI hW (aI hH (aI hq (aI hM hn)))))))
 have HP:=hide (aI hp (aI hcl (aI hbox (aI k0 (aI k1 (aI k2 (aI k3 k4)))))))
 clear hp hcl hbox k0 k1 k2 k3 k4 hb hlr hcr hW hH hq hM hn
 refine callsIn_of_wp_marks Tryz.func21 rfl trivial ?_ rfl
 simp only [Tryz.ntmps21,List.size_toArray,List.length_cons,List.length_nil,Nat.reduceAdd,Nat.reduceSub,Array.replicate_succ,Array.replicate_zero,List.push_toArray,List.append_toArray,List.nil_append,List.cons_append]
 gi_wp2
 have oy : Only [] w (((w.alloc (.cells #[.pointer (some ⟨g,0,none⟩)] 55)).alloc (.cells #[.int .i64 0,.int .i64 0,.slice none 0 0] 24)).alloc (.cells #[.int .i64 0] 28)):=(((Only.refl [] w).alloc _).alloc _).alloc _
 have hy1:=((Has.new w 55 #[.pointer (some ⟨g,0,none⟩)]).alloc (.cells #[.int .i64 0,.int .i64 0,.slice none 0 0] 24)).alloc (.cells #[.int .i64 0] 28)
 have hy2:=(Has.new (w.alloc (.cells #[.pointer (some ⟨g,0,none⟩)] 55)) 24 #[.int .i64 0,.int .i64 0,.slice none 0 0]).alloc (.cells #[.int .i64 0] 28)
 have hy3:=Has.new ((w.alloc (.cells #[.pointer (some ⟨g,0,none⟩)] 55)).alloc (.cells #[.int .i64 0,.int .i64 0,.slice none 0 0] 24)) 28 #[.int .i64 0]
 simp only [World.size_alloc] at hy2 hy3
 generalize ((w.alloc (.cells #[.pointer (some ⟨g,0,none⟩)] 55)).alloc (.cells #[.int .i64 0,.int .i64 0,.slice none 0 0] 24)).alloc (.cells #[.int .i64 0] 28) = y0 at *
 have hyg:=HP.out.2.2.1.only oy (by simp)
 have HY:=hide (aI oy (aI hy1 (aI hy2 (aI hy3 hyg))))
 have n0:=later_cell (show World.cell? y0 ⟨w.heap.size,0,none⟩ = some (.pointer (some ⟨g,0,none⟩)) from hy1.cell 0)
 have p0:=later_cell (show World.cell? y0 ⟨g,0,none⟩ = some (.int .i64 (W : Int)) from (hyg.cell 0).trans HP.out.2.2.2.1)
 have p1:=later_cell (show World.cell? y0 ⟨g,1,none⟩ = some (.int .i64 (H : Int)) from (hyg.cell 1).trans HP.out.2.2.2.2.1)
 clear oy hy1 hy2 hy3 hyg
 refine wpIn_wide.2 ?_
 refine region_loose_add 15 67 15 13 (fun i=>if i = 1 then some (isVal (.pointer (some ⟨g,0,none⟩))) else if i = 6 then some (isVal (.pointer (some ⟨g,0,none⟩))) else if i = 10 then some (isNew y0.heap.size W H n) else if i = 14 then some (isBox y0.heap.size 24 #[.int .i64 0,.int .i64 0,.slice none 0 0]) else none) (by kernel_rfl) (by kernel_rfl) (by kernel_rfl) (by kernel_rfl) (by kernel_rfl) (by kernel_rfl) (by kernel_rfl) (by rfl) (by rfl) (fun i hi=>?_) (fun i S hS=>?_) ?_
 ·have hi : 17 <= i:=hi
  show (if i = 1 then _ else _) = none
  iterate 4 rw [if_neg (by omega)]
 ·repeat' split at hS
  all_goals first | (injection hS with hS; subst hS; first | exact isBox_later _ _ _ | exact isNew_later _ _ _ _ | exact fun _ _ _ _ _=>trivial) | cases hS
 simp only [addE_s,addE_z,List.take_succ_cons,List.take_zero,List.drop_succ_cons,List.drop_zero]
 refine wpLoose_chunk 1 (by kernel_rfl) (by rfl) ?_
 simp only [List.take_succ_cons,List.take_zero,List.drop_succ_cons,List.drop_zero,List.length_cons,List.length_nil,Nat.zero_add]
 iterate 1 (go_big_quiet_step (fail))
 refine wpQuiet_nil ?_
 refine wpLoose_step (isVal (.pointer (some ⟨g,0,none⟩))) rfl (by rfl) ⟨_,rfl⟩ (fun w' ho hk=>?_) (fun v hv=>?_)
 ·go_simp
  exact ⟨Only.refl _ _,rfl,trivial⟩
 obtain rfl : v = .pointer (some ⟨g,0,none⟩):=hv
 go_simp
 refine wpLoose_chunk 4 (by kernel_rfl) (by rfl) ?_
 simp only [List.take_succ_cons,List.take_zero,List.drop_succ_cons,List.drop_zero,List.length_cons,List.length_nil,Nat.zero_add,Nat.reduceAdd]
 iterate 4 (go_big_quiet_step (fail))
 refine wpQuiet_nil ?_
 refine wpLoose_step (isVal (.pointer (some ⟨g,0,none⟩))) rfl (by rfl) ⟨_,rfl⟩ (fun w' ho hk=>?_) (fun v hv=>?_)
 ·go_simp
  exact ⟨Only.refl _ _,rfl,trivial⟩
 obtain rfl : v = .pointer (some ⟨g,0,none⟩):=hv
 go_simp
 refine wpLoose_chunk 3 (by kernel_rfl) (by rfl) ?_
 simp only [List.take_succ_cons,List.take_zero,List.drop_succ_cons,List.drop_zero,List.length_cons,List.length_nil,Nat.zero_add,Nat.reduceAdd]
 iterate 3 (go_big_quiet_step (fail))
 refine wpQuiet_nil ?_
 refine wpLoose_step (isNew y0.heap.size W H n) rfl (by rfl) ⟨_,0,0,rfl⟩ (fun w' ho hk=>?_) (fun v hv=>?_)
 ·go_simp
  exact ⟨rfl,newImg_any W H n y0.heap.size HB.out.2.2.2.1 HB.out.2.2.2.2.1 HB.out.2.2.2.2.2.2.2 w' ho.size⟩
 obtain ⟨gi,c,rfl⟩:=hv
 go_simp
 refine wpLoose_chunk 3 (by kernel_rfl) (by rfl) ?_
 simp only [List.take_succ_cons,List.take_zero,List.drop_succ_cons,List.drop_zero,List.length_cons,List.length_nil,Nat.zero_add,Nat.reduceAdd]
 iterate 3 (go_big_quiet_step (fail))
 refine wpQuiet_nil ?_
 refine wpLoose_step (isBox y0.heap.size 24 #[.int .i64 0,.int .i64 0,.slice none 0 0]) rfl (by rfl) ⟨_,0,rfl⟩ (fun w' ho hk=>?_) (fun v hv=>?_)
 ·go_simp
  exact isBox_new ho.size
 obtain ⟨gm,rfl⟩:=hv
 go_simp
 intro y1 ho1 hT
 have h10:=hT 10 (by omega)
 replace h10 : (isNew y0.heap.size W H n).1 (.tuple #[.agg #[.int .i64 W,.int .i64 H,.slice (some ⟨gi,0,none⟩) n c],.int .i64 0]) /\ (isNew y0.heap.size W H n).2 (.tuple #[.agg #[.int .i64 W,.int .i64 H,.slice (some ⟨gi,0,none⟩) n c],.int .i64 0]) y1:=h10
 have h14:=hT 14 (by omega)
 replace h14 : (isBox y0.heap.size 24 #[.int .i64 0,.int .i64 0,.slice none 0 0]).1 (.pointer (some ⟨gm,0,none⟩)) /\ (isBox y0.heap.size 24 #[.int .i64 0,.int .i64 0,.slice none 0 0]).2 (.pointer (some ⟨gm,0,none⟩)) y1:=h14
 have how1:=h10.2 gi c rfl
 obtain ⟨hgm,hbm⟩:=h14.2 gm rfl
 clear hT h10 h14 n0 p0 p1
 refine list_store_row' rfl 24 (.tmp 6) (.tmp 25) rfl gm #[.int .i64 W,.int .i64 H,.slice (some ⟨gi,0,none⟩) n c] rfl rfl 24 _ hbm (by kernel_rfl) rfl (mat_one _ _ _ _ _) ?_
 intro y2 hT2 hO2
 have H2:=hide (aI hT2 (aI hO2 (aI how1 (aI hgm (aI hbm ho1)))))
 clear hT2 hO2 how1 hgm hbm ho1
 go_wp2_with fail
 refine normalOnly_intro ?_
 gi_wp2
 have hgi:=own_at H2.out.2.2.1 (b:=gi) rfl
 have hngi : gm ≠ gi:=fun e=>by
  obtain ⟨cs,hc⟩:=own_cellsOf H2.out.2.2.1 (b:=gi) rfl
  exact has_ne H2.out.2.2.2.2.1 hc (by decide) e
 have o2 : Only [] y0 y2:=H2.out.2.2.2.2.2.trans H2.out.2.1 (fun k hk hlt=>by have:=H2.out.2.2.2.1; simp at hk; omega)
 have oy2 : Only [] w y2:=HY.out.1.trans o2 (by simp)
 have how2:=own_keep H2.out.2.2.1 H2.out.2.1 (fun b hb hm=>by
  obtain rfl : gi = b:=by simpa [Value.ownBlock] using hb
  exact hngi (List.mem_singleton.1 hm).symm)
 have hyg:=HY.out.2.2.2.2.only o2 (by simp)
 have hyp:=HY.out.2.1.only o2 (by simp)
 have n0:=later_cell (show World.cell? y2 ⟨w.heap.size,0,none⟩ = some (.pointer (some ⟨g,0,none⟩)) from hyp.cell 0)
 have p0:=later_cell (show World.cell? y2 ⟨g,0,none⟩ = some (.int .i64 (W : Int)) from (hyg.cell 0).trans HP.out.2.2.2.1)
 have p1:=later_cell (show World.cell? y2 ⟨g,1,none⟩ = some (.int .i64 (H : Int)) from (hyg.cell 1).trans HP.out.2.2.2.2.1)
 have p2:=later_cell (show World.cell? y2 ⟨g,2,none⟩ = some (.int .i64 8) from (hyg.cell 2).trans HP.out.2.2.2.2.2.1)
 have p3:=later_cell (show World.cell? y2 ⟨g,3,none⟩ = some (.int .i64 6) from (hyg.cell 3).trans HP.out.2.2.2.2.2.2.1)
 have p4:=later_cell (show World.cell? y2 ⟨g,4,none⟩ = some (.int .i64 l) from (hyg.cell 4).trans HP.out.2.2.2.2.2.2.2)
 have H3:=hide (aI o2 (aI oy2 (aI how2 (aI hyg (aI hyp hgi)))))
 clear hgi hngi o2 oy2 how2 hyg hyp
 refine wpIn_wide.2 ?_
 refine region_loose 10 67 (fun i=>if i = 1 then some (isVal (.pointer (some ⟨g,0,none⟩))) else if i = 5 then some (isUnd y2.heap.size w.heap.size W H l (rawB q M W H l)) else if i = 7 then some isCol else if i = 8 then some (isBox y2.heap.size 110 #[.nilFunc]) else if i = 9 then some (isBox y2.heap.size 113 #[.nilFunc]) else none) (by kernel_rfl) (by kernel_rfl) (by kernel_rfl) (by rfl) (by rfl) (fun i hi=>?_) (fun i S hS=>?_) ?_
 ·have hi : 12 <= i:=hi
  show (if i = 1 then _ else _) = none
  iterate 5 rw [if_neg (by omega)]
 ·repeat' split at hS
  all_goals first | (injection hS with hS; subst hS; first | exact isBox_later _ _ _ | exact isUnd_later _ _ _ _ _ _ | exact isCol_later | exact fun _ _ _ _ _=>trivial) | cases hS
 simp only [List.take_succ_cons,List.take_zero,List.drop_succ_cons,List.drop_zero]
 refine wpLoose_chunk 1 (by kernel_rfl) (by rfl) ?_
 simp only [List.take_succ_cons,List.take_zero,List.drop_succ_cons,List.drop_zero,List.length_cons,List.length_nil,Nat.zero_add]
 iterate 1 (go_big_quiet_step (fail))
 refine wpQuiet_nil ?_
 refine wpLoose_step (isVal (.pointer (some ⟨g,0,none⟩))) rfl (by rfl) ⟨_,rfl⟩ (fun w' ho hk=>?_) (fun v hv=>?_)
 ·go_simp
  exact ⟨Only.refl _ _,rfl,trivial⟩
 obtain rfl : v = .pointer (some ⟨g,0,none⟩):=hv
 go_simp
 refine wpLoose_chunk 3 (by kernel_rfl) (by rfl) ?_
 simp only [List.take_succ_cons,List.take_zero,List.drop_succ_cons,List.drop_zero,List.length_cons,List.length_nil,Nat.zero_add,Nat.reduceAdd]
 iterate 3 (go_big_quiet_step (fail))
 refine wpQuiet_nil ?_
 refine wpLoose_step (isUnd y2.heap.size w.heap.size W H l (rawB q M W H l)) rfl (by rfl) ⟨_,0,0,0,rfl⟩ (fun w' ho hk=>?_) (fun v hv=>?_)
 ·go_simp
  refine ⟨rfl,(undoer_any W H 8 6 l Ar nr cr (rawB q M W H l) w' (HB.out.1.keep (H3.out.2.1.trans ho (S:=[]) (by simp)) (by simp)) HB.out.2.1 HB.out.2.2.1).mono ?_⟩
  rintro e x ⟨ga,gr,gh,rfl,hga,hgr,hun,hx⟩
  refine ⟨_,rfl,hx,⟨ga,gr,gh,rfl⟩,fun ga' gr' gh' he=>?_⟩
  obtain ⟨rfl,rfl,rfl⟩:=func_inj3 he
  refine ⟨Nat.le_trans ho.size hga,Nat.le_trans ho.size hgr,fun Z Zr hz=>hun Z Zr (fun h0 ad ha hm=>?_)⟩
  have h1:=HB.out.1.blk (by have:=HB.out.2.1; omega) ad ha
  have h2:=hz _ hm
  omega
 obtain ⟨ga,gr,gh,rfl⟩:=hv
 go_simp
 refine wpLoose_chunk 1 (by kernel_rfl) (by rfl) ?_
 simp only [List.take_succ_cons,List.take_zero,List.drop_succ_cons,List.drop_zero,List.length_cons,List.length_nil,Nat.zero_add,Nat.reduceAdd]
 iterate 1 (go_big_quiet_step (fail))
 refine wpQuiet_nil ?_
 refine wpLoose_step isCol rfl (by rfl) ⟨_,0,rfl⟩ (fun w' ho hk=>?_) (fun v hv=>?_)
 ·go_simp
  refine ⟨rfl,(colors6_any w0 g W H l P w' (HP.out.1.idle (H3.out.2.1.trans ho (S:=[]) (by simp))) HP.out.2.1).mono ?_⟩
  rintro e x ⟨gd,rfl,hgd,hd,hx⟩
  refine ⟨_,rfl,hx,⟨gd,rfl⟩,fun gd' he=>?_⟩
  obtain rfl:=func_inj1 he
  exact hd
 obtain ⟨gd,rfl⟩:=hv
 go_simp
 refine wpLoose_step (isBox y2.heap.size 110 #[.nilFunc]) rfl (by rfl) ⟨_,0,rfl⟩ (fun w' ho hk=>?_) (fun v hv=>?_)
 ·go_simp
  exact isBox_new ho.size
 obtain ⟨g8,rfl⟩:=hv
 go_simp
 refine wpLoose_step (isBox y2.heap.size 113 #[.nilFunc]) rfl (by rfl) ⟨_,0,rfl⟩ (fun w' ho hk=>?_) (fun v hv=>?_)
 ·go_simp
  exact isBox_new ho.size
 obtain ⟨g9,rfl⟩:=hv
 go_simp
 intro y4 ho4 hT
 have h5:=hT 5 (by omega)
 replace h5 : (isUnd y2.heap.size w.heap.size W H l (rawB q M W H l)).1 (.func (.func 94) #[] #[.pointer (some ⟨ga,0,none⟩),.pointer (some ⟨gr,0,none⟩),.pointer (some ⟨gh,0,none⟩)]) /\ (isUnd y2.heap.size w.heap.size W H l (rawB q M W H l)).2 (.func (.func 94) #[] #[.pointer (some ⟨ga,0,none⟩),.pointer (some ⟨gr,0,none⟩),.pointer (some ⟨gh,0,none⟩)]) y4:=h5
 have h7:=hT 7 (by omega)
 replace h7 : isCol.1 (.func (.func 103) #[] #[.pointer (some ⟨gd,0,none⟩)]) /\ isCol.2 (.func (.func 103) #[] #[.pointer (some ⟨gd,0,none⟩)]) y4:=h7
 have h8:=hT 8 (by omega)
 replace h8 : (isBox y2.heap.size 110 #[.nilFunc]).1 (.pointer (some ⟨g8,0,none⟩)) /\ (isBox y2.heap.size 110 #[.nilFunc]).2 (.pointer (some ⟨g8,0,none⟩)) y4:=h8
 have h9:=hT 9 (by omega)
 replace h9 : (isBox y2.heap.size 113 #[.nilFunc]).1 (.pointer (some ⟨g9,0,none⟩)) /\ (isBox y2.heap.size 113 #[.nilFunc]).2 (.pointer (some ⟨g9,0,none⟩)) y4:=h9
 obtain ⟨ua,ur,uu⟩:=h5.2 ga gr gh rfl
 have ud:=h7.2 gd rfl
 obtain ⟨b8,q8⟩:=h8.2 g8 rfl
 obtain ⟨b9,q9⟩:=h9.2 g9 rfl
 have hne : g8 ≠ g9:=has_ne q8 q9 (by decide)
 have e8:=q8.cell 0
 have f8:=q8.free 0
 have e9:=(q9.other (p:=⟨g8,0,none⟩) (Ne.symm hne) (.func (.func 94) #[] #[.pointer (some ⟨ga,0,none⟩),.pointer (some ⟨gr,0,none⟩),.pointer (some ⟨gh,0,none⟩)])).cell 0
 have f9:=(q9.other (p:=⟨g8,0,none⟩) (Ne.symm hne) (.func (.func 94) #[] #[.pointer (some ⟨ga,0,none⟩),.pointer (some ⟨gr,0,none⟩),.pointer (some ⟨gh,0,none⟩)])).free 0
 simp only [List.getElem?_toArray,List.getElem?_cons_zero] at e8 e9
 have H4:=hide (aI ua (aI ur (aI uu (aI ud (aI b8 (aI q8 (aI b9 (aI q9 (aI hne ho4)))))))))
 clear hT h5 h7 h8 h9 n0 p0 p1 p2 p3 p4 ua ur uu ud b8 q8 b9 q9 hne ho4
 go_wp2_with fail
 have o5 : Only [g8,g9] y4 ((y4.setCell ⟨g8,0,none⟩ (.func (.func 94) #[] #[.pointer (some ⟨ga,0,none⟩),.pointer (some ⟨gr,0,none⟩),.pointer (some ⟨gh,0,none⟩)])).setCell ⟨g9,0,none⟩ (.func (.func 103) #[] #[.pointer (some ⟨gd,0,none⟩)])):=((Only.refl _ y4).setCell (by simp) _).setCell (by simp) _
 have q8:=(H4.out.2.2.2.2.2.1.set 0 (.func (.func 94) #[] #[.pointer (some ⟨ga,0,none⟩),.pointer (some ⟨gr,0,none⟩),.pointer (some ⟨gh,0,none⟩)])).other (p:=⟨g9,0,none⟩) H4.out.2.2.2.2.2.2.2.2.1 (.func (.func 103) #[] #[.pointer (some ⟨gd,0,none⟩)])
 have q9:=(H4.out.2.2.2.2.2.2.2.1.other (p:=⟨g8,0,none⟩) (Ne.symm H4.out.2.2.2.2.2.2.2.2.1) (.func (.func 94) #[] #[.pointer (some ⟨ga,0,none⟩),.pointer (some ⟨gr,0,none⟩),.pointer (some ⟨gh,0,none⟩)])).set 0 (.func (.func 103) #[] #[.pointer (some ⟨gd,0,none⟩)])
 generalize (y4.setCell ⟨g8,0,none⟩ (.func (.func 94) #[] #[.pointer (some ⟨ga,0,none⟩),.pointer (some ⟨gr,0,none⟩),.pointer (some ⟨gh,0,none⟩)])).setCell ⟨g9,0,none⟩ (.func (.func 103) #[] #[.pointer (some ⟨gd,0,none⟩)]) = y5 at *
 have J5 : ImJ w g pcs W H l q n c M w.heap.size gm g8 g9 gd (w.heap.size + 1) (w.heap.size + 1 + 1) ga gr gh gi [] [] y5:=by
  obtain ⟨ua,ur,uu,ud,b8,r8,b9,r9,hne,ho4⟩:=H4.out
  obtain ⟨o2,oy2,how2,hyg,hyp,hgi⟩:=H3.out
  obtain ⟨hT2,hO2,_,hgm,hbm,_⟩:=H2.out
  obtain ⟨oy,y1',y2',y3',yg⟩:=HY.out
  have k : ∀ {b : Nat} {t : TypeId} {cs : Array Value},t ≠ 110 -> t ≠ 113 -> Has y4 b t cs -> Has y5 b t cs:=fun {b t cs} h1 h2 hh=>hh.only o5 (fun hm=>by
   rcases List.mem_cons.1 hm with rfl | hm
   ·exact has_ne hh r8 h1 rfl
   ·obtain rfl:=List.mem_singleton.1 hm
    exact has_ne hh r9 h2 rfl)
  have hbi : ∃ cs,Has y4 gi 5 cs:=by
   obtain ⟨cs,hc⟩:=own_cellsOf how2 (b:=gi) rfl
   exact ⟨cs,hc.only ho4 (by simp)⟩
  obtain ⟨ci,hci⟩:=hbi
  have hw2:=oy2.size
  have u4:=uu [gi,g8,g9] [gi,g8,g9] (fun j hj=>by
   rcases List.mem_cons.1 hj with rfl | hj
   ·have:=oy.size; omega
   rcases List.mem_cons.1 hj with rfl | hj
   ·omega
   ·obtain rfl:=List.mem_singleton.1 hj
    omega)
  obtain ⟨Aa,ca,v1,_,_⟩:=u4.ahead
  obtain ⟨Ak,ck,v2,_,_⟩:=u4.raw
  have nn : ∀ {b : Nat} {t : TypeId} {cs : Array Value},t ≠ 110 -> t ≠ 113 -> Has y4 b t cs -> b ∉ [g8,g9]:=fun {b t cs} h1 h2 hh hm=>by
   rcases List.mem_cons.1 hm with rfl | hm
   ·exact has_ne hh r8 h1 rfl
   ·obtain rfl:=List.mem_singleton.1 hm
    exact has_ne hh r9 h2 rfl
  have u5:=(u4.keepL o5 (fun j hj=>List.mem_cons_of_mem _ hj) (fun j hj=>List.mem_cons_of_mem _ hj) (nn (by decide) (by decide) v1) (nn (by decide) (by decide) v2) (nn (by decide) (by decide) u4.head)).weak (Z':=[gi]) (Zr':=[gi]) (fun j hj=>by rw [List.mem_singleton.1 hj]; exact List.mem_cons_self) (fun j hj=>by rw [List.mem_singleton.1 hj]; exact List.mem_cons_self)
  refine ⟨k (by decide) (by decide) (hyp.only ho4 (by simp)),k (by decide) (by decide) (hyg.only ho4 (by simp)),k (by decide) (by decide) (hT2.only ho4 (by simp)),q8,q9,k (by decide) (by decide) ud,k (by decide) (by decide) ((y2'.only o2 (by simp)).only ho4 (by simp)),k (by decide) (by decide) ((y3'.only o2 (by simp)).only ho4 (by simp)),u5,⟨List.replicate n 0,own_mono (own_keep (own_keep how2 ho4 (by simp)) o5 (fun b hb hm=>by
   obtain rfl : gi = b:=by simpa [Value.ownBlock] using hb
   exact nn (by decide) (by decide) hci hm)) oy.size,by simp,fun r hr=>absurd hr (by simp)⟩,(oy2.trans ho4 (S:=[]) (by simp)).trans o5 (fun j hj hlt=>by
   rcases List.mem_cons.1 hj with rfl | hj
   ·omega
   ·obtain rfl:=List.mem_singleton.1 hj
    omega),⟨by have:=oy.size; omega,by omega,by omega⟩,⟨ci,k (by decide) (by decide) hci⟩,?_⟩
  have:=oy.size
  have : w.heap.size + 1 < y0.heap.size:=y2'.lt
  omega
 have n0:=J5.par.cell 0
 have p0:=(J5.pts.cell 0).trans HP.out.2.2.2.1
 have p1:=(J5.pts.cell 1).trans HP.out.2.2.2.2.1
 have p2:=(J5.pts.cell 2).trans HP.out.2.2.2.2.2.1
 have p3:=(J5.pts.cell 3).trans HP.out.2.2.2.2.2.2.1
 have p4:=(J5.pts.cell 4).trans HP.out.2.2.2.2.2.2.2
 simp only [List.getElem?_toArray,List.getElem?_cons_zero] at n0
 have HJ:=hide J5
 clear o5 q8 q9 J5 H4 H3 H2 HY
 have HRw:=hide (fun w=>rowsMk W H 8 6 l w)
 gi_wp2_with (refine ⟨trivial,?_⟩; refine (callsIn_wide.2 (HRw.out _)).mono ?_; rintro e w6 ⟨rfl,rfl⟩)
 have hb6:=Has.new y5 36 #[.int .i64 (W : Int),.int .i64 (H : Int),.int .i64 8,.int .i64 6,.int .i64 l]
 have J6:=HJ.out.keep0 ((Only.refl [] y5).alloc (.cells #[.int .i64 (W : Int),.int .i64 (H : Int),.int .i64 8,.int .i64 6,.int .i64 l] 36))
 generalize y5.alloc (.cells #[.int .i64 (W : Int),.int .i64 (H : Int),.int .i64 8,.int .i64 6,.int .i64 l] 36) = y6 at *
 have HP6:=hide (rows_pre W H 8 6 l _ y6 hb6)
 have J6 : ImI w g pcs W H l q n c M w.heap.size gm g8 g9 gd (w.heap.size + 1) (w.heap.size + 1 + 1) ga gr gh gi [] y6:=J6
 have HJ6:=hide J6
 clear hb6 J6 HJ n0 p0 p1 p2 p3 p4 HRw
 refine range_pre (gf:=38) (lb:=#[.pointer (some ⟨y5.heap.size,0,none⟩)]) rfl (enters_of Tryz.func38 (by kernel_rfl) rfl) HP6.out (Below.refl _ _) (fun h k=>RowsK.trans h k) (fun W l o o' h ho=>RowsK.put W l o o' h ho)
  (ImI w g pcs W H l q n c M w.heap.size gm g8 g9 gd (w.heap.size + 1) (w.heap.size + 1 + 1) ga gr gh gi) (fun _ _ _=>False) (ownFrom_imI HJ6.out.only.size) (fun _=>ownFrom_const _) HJ6.out
  (fun x a' X=>∃ Bx,Has X Bx 49 x.cells /\ ImFr w.heap.size (w.heap.size + 1) (w.heap.size + 1 + 1) gm g8 g9 Bx a') (fun x a'=>ownFrom_ex fun Bx=>OwnFrom.and (ownFrom_has _ _ _) (ownFrom_const _)) ?assign ?body ?done ?stop
 case assign =>
  intro la pre x X K hpre hi hK
  unfold Rw.val
  gi_wp2
  have hnew:=Has.new X 49 x.cells
  have ho:=(Only.refl [] X).alloc (.cells x.cells 49)
  exact hK _ _ (keepsFrom_only ho (by simp)) (RowsK.only ho (by simp)) (ownFrom_imI (Nat.le_trans hi.only.size (Nat.le_refl _)) _ _ _ none hi ho.grow (fun r e=>by cases e)) ⟨_,hnew,⟨_,_,_,_,_,_,_,_,_,_,_,_,_,_,_,_,_,_,_,_,_,_,_,_,_,_,_,_,_,_,_,_,_,_,_,_,_,_,_,_,_,_,_,_,_,_,_,_,_,_,_,_,_,_,_,_,_,_,_,_,rfl⟩⟩
 case body =>
  rintro la pre x a' X hpre S ⟨Bx,hx,hfr⟩
  unfold ImFr at hfr
  obtain ⟨u0,u1,u3,u7,u11,u12,u13,u14,u15,u16,u17,u18,u19,u20,u21,u22,u23,u24,u25,u26,u27,u28,u29,u30,u31,u32,u33,u34,u35,u36,u37,u38,u39,u40,u41,u42,u43,u44,u45,u46,u47,u48,u49,u50,u51,u52,u53,u54,u55,u56,u57,u58,u59,u60,u61,u62,u63,u64,u65,u66,rfl⟩:=hfr
  have HU:=hide (imI_undo S hpre HB.out.2.2.2.2.2.1 HB.out.2.2.2.1.2 HB.out.2.2.2.2.1.2 HB.out.2.2.2.2.2.2.1 HB.out.2.2.2.2.2.2.2)
  have HS:=hide (aI S hx)
  have hxr : x ∈ rowsL W H l:=hpre.subset (by simp)
  have hok:=rows_ok W H l x hxr
  obtain ⟨rX,rY,rDX,rDY,ry,rn⟩:=x
  unfold Rw.val at HU
  have x0 : World.cell? X ⟨Bx,0,none⟩ = some (.int .i64 rX):=hx.cell 0
  have x1 : World.cell? X ⟨Bx,1,none⟩ = some (.int .i64 rY):=hx.cell 1
  have x2 : World.cell? X ⟨Bx,2,none⟩ = some (.int .i64 rDX):=hx.cell 2
  have x3 : World.cell? X ⟨Bx,3,none⟩ = some (.int .i64 rDY):=hx.cell 3
  have x4 : World.cell? X ⟨Bx,4,none⟩ = some (.int .i64 (ry : Int)):=hx.cell 4
  have x5 : World.cell? X ⟨Bx,5,none⟩ = some (.int .i64 rn):=hx.cell 5
  have n8 : World.cell? X ⟨g8,0,none⟩ = some (.func (.func 94) #[] #[.pointer (some ⟨ga,0,none⟩),.pointer (some ⟨gr,0,none⟩),.pointer (some ⟨gh,0,none⟩)]):=S.und.cell 0
  have HX:=hide (aI hpre (aI hxr hok))
  clear S hx hpre hxr hok
  gi_wp2
  refine ⟨trivial,?_⟩
  refine CallsIn.mono (callsIn_wide.2 (HU.out X (Only.refl _ _))) ?_
  rintro e y7 ⟨Av,cv,rfl,hbv,J7,ho7⟩
  have hx7:=HS.out.2.only ho7 (fun hm=>by
   obtain ⟨c1,c2,h1,h2⟩:=ImJ.boxes HS.out.1
   rcases List.mem_cons.1 hm with rfl | hm
   ·exact has_ne HS.out.2 h1 (by decide) rfl
   ·obtain rfl:=List.mem_singleton.1 hm
    exact has_ne HS.out.2 h2 (by decide) rfl)
  have H7:=hide (aI hbv (aI J7 (aI ho7 hx7)))
  clear hbv J7 ho7 hx7 x0 x1 x2 x3 x4 x5 n8 HU
  gi_wp2
  have n2:=later_cell (show World.cell? y7 ⟨w.heap.size,0,none⟩ = some (.pointer (some ⟨g,0,none⟩)) from H7.out.2.1.par.cell 0)
  have n9:=later_cell (show World.cell? y7 ⟨g9,0,none⟩ = some (.func (.func 103) #[] #[.pointer (some ⟨gd,0,none⟩)]) from H7.out.2.1.col.cell 0)
  have m0:=later_cell (show World.cell? y7 ⟨gm,0,none⟩ = some (.int .i64 (W : Int)) from H7.out.2.1.mat.cell 0)
  have m1:=later_cell (show World.cell? y7 ⟨gm,1,none⟩ = some (.int .i64 (H : Int)) from H7.out.2.1.mat.cell 1)
  have m2:=later_cell (show World.cell? y7 ⟨gm,2,none⟩ = some (.slice (some ⟨gi,0,none⟩) n c) from H7.out.2.1.mat.cell 2)
  have p0:=later_cell (show World.cell? y7 ⟨g,0,none⟩ = some (.int .i64 (W : Int)) from (H7.out.2.1.pts.cell 0).trans HP.out.2.2.2.1)
  have p1:=later_cell (show World.cell? y7 ⟨g,1,none⟩ = some (.int .i64 (H : Int)) from (H7.out.2.1.pts.cell 1).trans HP.out.2.2.2.2.1)
  have p2:=later_cell (show World.cell? y7 ⟨g,2,none⟩ = some (.int .i64 8) from (H7.out.2.1.pts.cell 2).trans HP.out.2.2.2.2.2.1)
  have p3:=later_cell (show World.cell? y7 ⟨g,3,none⟩ = some (.int .i64 6) from (H7.out.2.1.pts.cell 3).trans HP.out.2.2.2.2.2.2.1)
  have p4:=later_cell (show World.cell? y7 ⟨g,4,none⟩ = some (.int .i64 l) from (H7.out.2.1.pts.cell 4).trans HP.out.2.2.2.2.2.2.2)
  have x0:=later_cell (show World.cell? y7 ⟨Bx,0,none⟩ = some (.int .i64 rX) from H7.out.2.2.2.cell 0)
  have x1:=later_cell (show World.cell? y7 ⟨Bx,1,none⟩ = some (.int .i64 rY) from H7.out.2.2.2.cell 1)
  have x2:=later_cell (show World.cell? y7 ⟨Bx,2,none⟩ = some (.int .i64 rDX) from H7.out.2.2.2.cell 2)
  have x3:=later_cell (show World.cell? y7 ⟨Bx,3,none⟩ = some (.int .i64 rDY) from H7.out.2.2.2.cell 3)
  have x4:=later_cell (show World.cell? y7 ⟨Bx,4,none⟩ = some (.int .i64 (ry : Int)) from H7.out.2.2.2.cell 4)
  have x5:=later_cell (show World.cell? y7 ⟨Bx,5,none⟩ = some (.int .i64 rn) from H7.out.2.2.2.cell 5)
  refine region_frm_in 11 67 (fun i=>if i = 6 then some (fsVal (.pointer (some ⟨g,0,none⟩))) else none) (fun _=>none) (by kernel_rfl) (by kernel_rfl) (by kernel_rfl) (fun ⟨a,w,h⟩=>h.2) (by kernel_rfl) (by kernel_rfl) (by rfl) (by rfl) (fun i hi=>?_) (fun i S hS=>?_) ?_
  ·have hi : 14 <= i:=hi
   show (if i = 6 then _ else _) = none
   rw [if_neg (by omega)]
  ·split at hS
   all_goals first | (injection hS with hS; subst hS; exact fun _ _ _ _ _ _ _=>trivial) | cases hS
  simp only [List.take_succ_cons,List.take_zero,List.drop_succ_cons,List.drop_zero]
  refine wpFrm_chunk 6 (by kernel_rfl) (by rfl) ?_
  simp only [List.take_succ_cons,List.take_zero,List.drop_succ_cons,List.drop_zero,List.length_cons,List.length_nil,Nat.zero_add,Nat.reduceAdd]
  iterate 6 (go_big_quiet_step (fail))
  refine wpQuiet_nil ?_
  refine wpFrm_step (fsVal (.pointer (some ⟨g,0,none⟩))) rfl (by rfl) ⟨_,rfl⟩ (fun w' ho hk=>?_) (fun v hv=>?_)
  ·clear hk
   change frmUpon _ _ [] _ _
   go_simp
   exact ⟨Only.refl _ _,rfl,trivial,fun k hk=>by cases hk⟩
  obtain rfl : v = .pointer (some ⟨g,0,none⟩):=hv
  go_simp
  refine wpFrm_chunk 4 (by kernel_rfl) (by rfl) ?_
  simp only [List.take_succ_cons,List.take_zero,List.drop_succ_cons,List.drop_zero,List.length_cons,List.length_nil,Nat.zero_add,Nat.reduceAdd]
  iterate 4 (go_big_quiet_step (fail))
  refine wpQuiet_nil ?_
  intro y8 ho8 hT
  clear hT n2 n9 m0 m1 m2 p0 p1 p2 p3 p4 x0 x1 x2 x3 x4 x5
  have H8:=hide ho8
  clear ho8
  have J8:=H7.out.2.1.keep0 H8.out
  obtain ⟨cur,i1,i2,i3⟩:=J8.img
  have hcn : n <= c:=by
   obtain ⟨A6,c6,he,h1,_⟩:=own_shape i1
   injection he with _ _ e3
   subst e3
   exact h1
  obtain ⟨ci,hci⟩:=J8.box
  have hnn : (n : Int) = 4 * ((W : Int) * (H : Int)):=by have:=HB.out.2.2.2.2.2.2.2; rw [this]; push_cast; rfl
  have hW2 : (W : Int) <= 16384:=by have:=HB.out.2.2.2.1; omega
  have hH2 : (H : Int) <= 16384:=by have:=HB.out.2.2.2.2.1; omega
  have HD:=hide (draw4_any ⟨rX,rY,rDX,rDY,ry,rn⟩ W H l gi gd w.heap.size n c (4 * rn.toNat) cv Av M cur y8 HX.out.2.2 hW2 hH2 HB.out.2.2.2.2.2.2.1 hnn hcn i2 i1 hci.lt rfl (H7.out.1.keep H8.out (by simp)) J8.dep (has_ne hci J8.dep (by decide)))
  have HI:=hide (aI J8 (aI i2 (aI i3 (aI hnn (aI hW2 hH2)))))
  unfold mval Rw.val at HD
  dsimp only at HD
  clear J8 i1 i2 i3 hcn hci hnn hW2 hH2
  go_wp2_with fail
  refine (HD.out).mono ?_
  rintro e y9 ⟨rfl,how,ho9⟩
  have i9:=img_next (B:=w.heap.size) (c:=c) HX.out.2.1 HI.out.2.2.2.2.1 HI.out.2.2.2.2.2 (by rw [HB.out.2.2.2.2.2.2.1]; exact HI.out.2.2.2.1) HB.out.2.2.2.2.2.2.1 HI.out.2.1 HI.out.2.2.1 how
  have J9:=HI.out.1.drawn ho9 i9
  have o9 : Only [ga,gr,gi] X y9:=((((Only.refl _ X).trans H7.out.2.2.1 (fun k hk _=>by
   rcases List.mem_cons.1 hk with rfl | hk
   ·exact List.mem_cons_self
   ·obtain rfl:=List.mem_singleton.1 hk
    exact List.mem_cons_of_mem _ List.mem_cons_self)).trans H8.out (by simp)).trans ho9 (fun k hk _=>by
   obtain rfl:=List.mem_singleton.1 hk
   exact List.mem_cons_of_mem _ (List.mem_cons_of_mem _ List.mem_cons_self)))
  have H9:=hide (aI J9 o9)
  clear how ho9 i9 J9 o9 HD
  go_wp2_with fail
  gi_wp2
  exact imI_next HS.out.1 H9.out.1 H9.out.2 _
 case done =>
  rintro D X hD S hK
  have r40 : World.cell? X ⟨w.heap.size + 1,0,none⟩ = some (.int .i64 0):=S.r4.cell 0
  have r41 : World.cell? X ⟨w.heap.size + 1,1,none⟩ = some (.int .i64 0):=S.r4.cell 1
  have r42 : World.cell? X ⟨w.heap.size + 1,2,none⟩ = some (.slice none 0 0):=S.r4.cell 2
  have g40:=S.r4.free 0
  have g41:=S.r4.free 1
  have g42:=S.r4.free 2
  have r50 : World.cell? X ⟨w.heap.size + 1 + 1,0,none⟩ = some (.int .i64 0):=S.r5.cell 0
  have g50:=S.r5.free 0
  have m0 : World.cell? X ⟨gm,0,none⟩ = some (.int .i64 (W : Int)):=S.mat.cell 0
  have m1 : World.cell? X ⟨gm,1,none⟩ = some (.int .i64 (H : Int)):=S.mat.cell 1
  have m2 : World.cell? X ⟨gm,2,none⟩ = some (.slice (some ⟨gi,0,none⟩) n c):=S.mat.cell 2
  have HX:=hide (aI S (aI hD hK))
  clear S hD hK
  gi_wp2
  obtain ⟨S,hD,hK⟩:=HX.out
  have hW4:=S.r4.set 0 (.int .i64 (W : Int))
  have hW4:=hW4.set 1 (.int .i64 (H : Int))
  have hW4:=hW4.set 2 (.slice (some ⟨gi,0,none⟩) n c)
  have hW4:=hW4.other (p:=⟨w.heap.size + 1 + 1,0,none⟩) (by simp) (.int .i64 0)
  have hW5:=S.r5.other (p:=⟨w.heap.size + 1,0,none⟩) (by simp) (.int .i64 (W : Int))
  have hW5:=hW5.other (p:=⟨w.heap.size + 1,1,none⟩) (by simp) (.int .i64 (H : Int))
  have hW5:=hW5.other (p:=⟨w.heap.size + 1,2,none⟩) (by simp) (.slice (some ⟨gi,0,none⟩) n c)
  have hW5:=hW5.set 0 (.int .i64 0)
  have oX : Only [w.heap.size + 1,w.heap.size + 1 + 1] X ((((X.setCell ⟨w.heap.size + 1,0,none⟩ (.int .i64 (W : Int))).setCell ⟨w.heap.size + 1,1,none⟩ (.int .i64 (H : Int))).setCell ⟨w.heap.size + 1,2,none⟩ (.slice (some ⟨gi,0,none⟩) n c)).setCell ⟨w.heap.size + 1 + 1,0,none⟩ (.int .i64 0)):=((((Only.refl _ X).setCell (by simp) _).setCell (by simp) _).setCell (by simp) _).setCell (by simp) _
  have hKX:=(oX.block D (Array.getElem?_eq_some_iff.1 hK).1 (fun hm=>by
   rcases List.mem_cons.1 hm with rfl | hm
   ·have:=S.r4
    unfold Has at this
    rw [hK] at this
    cases this
   ·obtain rfl:=List.mem_singleton.1 hm
    have:=S.r5
    unfold Has at this
    rw [hK] at this
    cases this)).trans hK
  generalize (((X.setCell ⟨w.heap.size + 1,0,none⟩ (.int .i64 (W : Int))).setCell ⟨w.heap.size + 1,1,none⟩ (.int .i64 (H : Int))).setCell ⟨w.heap.size + 1,2,none⟩ (.slice (some ⟨gi,0,none⟩) n c)).setCell ⟨w.heap.size + 1 + 1,0,none⟩ (.int .i64 0) = X4 at *
  refine ⟨by simp,.inl ⟨_,_,rfl,run_takeDeferred hKX,?_⟩⟩
  have hput : ∀ {b : Nat} {t : TypeId} {cs : Array Value},Has X4 b t cs -> Has (X4.putObj D (.deferred none)) b t cs:=fun {b t cs} hh=>by
   have hne : b ≠ D:=fun e=>by
    subst e
    unfold Has at hh
    rw [hKX] at hh
    cases hh
   exact (World.putObj_heap_other hne).trans hh
  have p4:=hput hW4
  have p5:=hput hW5
  have c5 : (X4.putObj D (.deferred none)).cell? ⟨w.heap.size + 1 + 1,0,none⟩ = some (.int .i64 0):=p5.cell 0
  obtain ⟨cur,i1,i2,i3⟩:=S.img
  have hnn : (M.length : Int) = 4 * ((W : Int) * (H : Int)):=by rw [HB.out.2.2.2.2.2.2.1]; have:=HB.out.2.2.2.2.2.2.2; rw [this]; push_cast; rfl
  have hcm : cur = M:=alike_all W H l (by have:=HB.out.2.2.2.1; omega) (by have:=HB.out.2.2.2.2.1; omega) M cur hnn (by rw [i2,HB.out.2.2.2.2.2.2.1]) i3
  subst hcm
  have ow : (X4.putObj D (.deferred none)).ownsRow w.heap.size 5 1 (.slice (some ⟨gi,0,none⟩) n c) n (bvals cur):=by
   obtain ⟨ci,hci⟩:=S.box
   have h4:=own_keep i1 oX (fun b hb hm=>by
    obtain rfl : gi = b:=by simpa [Value.ownBlock] using hb
    rcases List.mem_cons.1 hm with rfl | hm
    ·exact has_ne hci S.r4 (by decide) rfl
    ·obtain rfl:=List.mem_singleton.1 hm
     exact has_ne hci S.r5 (by decide) rfl)
   refine own_keep h4 (only_of_grown (grownBy_putObj' X4 D (.deferred none))) (fun b hb hm=>?_)
   obtain ⟨cs,hcs⟩:=own_cellsOf h4 hb
   have hm : b = D:=by simpa using hm
   subst hm
   unfold Has at hcs
   rw [hKX] at hcs
   cases hcs
  exact ⟨_,results_row_cell Tryz.results21 _ _ (w.heap.size + 1) (w.heap.size + 1 + 1) 24 _ _ .i64 (.int .i64 0) rfl p4 Tryz.underlying24 rfl (by kernel_rfl) rfl Tryz.underlying28 c5,gi,c,rfl,ow,(S.only.trans oX (fun k hk hlt=>by
   rcases List.mem_cons.1 hk with rfl | hk
   ·omega
   ·obtain rfl:=List.mem_singleton.1 hk
    omega)).put (by have:=HJ6.out.only.size; omega) _⟩
 case stop =>
  rintro D c2 pre X _ _ h _
  exact h.elim
end Go.Proofs.YtjfjmkkkbcgohaaGreatDoor
