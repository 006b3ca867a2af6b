import Derived.Test.YtjfjmkkkbcgohaaGreatDoorMPhH
import Derived.Deep.RegionWith
namespace Go.Proofs.YtjfjmkkkbcgohaaGreatDoor
open Go Go.RowKit
set_option maxRecDepth 100000 in
set_option maxHeartbeats 8000000 in
theorem unseen6_any (w0 : World) (g : Nat) (W H d l : Int) (P : PgPt) (w : World) (h : PtHas w0 g W H d 6 l P w) (hc : P.clr = []) :
 Calls Tryz.prog 96 #[.pointer (some ⟨g,0,none⟩)] w fun e w'=>∃ As cs,e = .returned (.slice As 0 cs) /\ Only [] w w':=by
 obtain ⟨Ap,cp,Ac,cc,Ak,ck,h1,h2,h3,h4,h5,h6⟩:=h.box
 have c3:=h1.cell 3
 have c2:=h1.cell 2
 have c6:=h1.cell 6
 dsimp only [ptCells] at c2 c3 c6
 rw [hc] at c6 h4
 simp only [List.getElem?_toArray,List.getElem?_cons_zero,List.getElem?_cons_succ,List.length_nil] at c2 c3 c6
 have HSa:=hide (fun (q : Nat)=>samples_any 16 0 Ac 0 cc [] (w.drewN q) (h4.1.keep ((Only.refl [] w).drewN q) (by simp)) rfl (by omega))
 rw [show sErr 16 0 0 = 0 from rfl,show smR [] 16 0 = [] from rfl] at HSa
 clear h h1 h2 h3 h4 h5 h6
 go_enter Tryz.func96,Tryz.ntmps96
 go_wp2_with fail
 clear c2 c3
 go_region_with (go_at_call 104; refine (HSa.out _).mono ?_; rintro e w2 ⟨v,rfl,hown,ho2⟩; obtain ⟨As,cs,rfl,hcs,_⟩:=own_shape hown; have HO:=hide ho2; clear hown hcs ho2)
 all_goals
  clear c6 HSa
  go_simp
  go_wp2_with fail
  go_loopw [30] (fun vi wr=>vi = .int .i64 0 /\ wr = w2) (fun _ _=>0)
  case atStart=>exact ⟨rfl,rfl⟩
  case round =>
   obtain ⟨rfl,rfl⟩:=hrel
   go_wp2_with fail
   go_ret
   exact ⟨_,_,rfl,((Only.refl [] w).drewN _).trans HO.out (by simp)⟩
def fsEmpty : FS:=⟨fun v=>∃ As cs,v = .slice As 0 cs,fun _ _=>True,fun _=>[]⟩
set_option maxRecDepth 100000 in
set_option maxHeartbeats 8000000 in
theorem colors6_any (w0 : World) (g : Nat) (W H l : Int) (P : PgPt) (w : World) (h : PtHas w0 g W H 8 6 l P w) (hc : P.clr = []) :
 Calls Tryz.prog 55 #[.pointer (some ⟨g,0,none⟩)] w fun e w'=>∃ gd,e = .returned (.func (.func 103) #[] #[.pointer (some ⟨gd,0,none⟩)]) /\ w.heap.size <= gd /\ Has w' gd 3 #[.int .i64 8] /\ Only [] w w':=by
 have hbx : ∃ cs,Has w g 105 cs /\ cs[2]? = some (.int .i64 8) /\ cs[3]? = some (.int .i64 6):=by
  obtain ⟨Ap,cp,Ac,cc,Ak,ck,h1,_⟩:=h.box
  exact ⟨_,h1,rfl,rfl⟩
 obtain ⟨cs,hbox,k2,k3⟩:=hbx
 have c2:=(hbox.cell 2).trans k2
 have c3:=(hbox.cell 3).trans k3
 have HU:=hide (fun (x : World) (hx : Only [] w x)=>unseen6_any w0 g W H 8 l P x (h.idle hx) hc)
 have HB:=hide (aI hbox (aI k2 k3))
 clear h hbox k2 k3
 go_enter Tryz.func55,Tryz.ntmps55
 go_wp2_with fail
 have n2:=later_cell c2
 refine region_frm 9 31 (fun i=>if i = 1 then some (fsVal (.pointer (some ⟨g,0,none⟩))) else if i = 6 then some fsEmpty else if i = 7 then some (fsBox w.heap.size 3 #[.int .i64 0]) else if i = 8 then some (fsBox w.heap.size 175 #[.slice none 0 0]) else none) (fun _=>none) (by kernel_rfl) (by kernel_rfl) (by kernel_rfl) (by kernel_rfl) (by rfl) (by rfl) (fun i hi=>?_) (fun i S hS=>?_) ?_
 ·have hi : 11 <= i:=hi
  show (if i = 1 then _ else _) = none
  iterate 4 rw [if_neg (by omega)]
 ·repeat' split at hS
  all_goals first | (injection hS with hS; subst hS; first | exact fsBox_keep _ _ _ | exact fun _ _ _ _ _ _ _=>trivial) | cases hS
 simp only [List.take_succ_cons,List.take_zero,List.drop_succ_cons,List.drop_zero]
 refine wpFrm_chunk 1 (by kernel_rfl) (by rfl) ?_
 simp only [List.take_succ_cons,List.take_zero,List.drop_succ_cons,List.drop_zero,List.length_cons,List.length_nil,Nat.zero_add]
 iterate 1 (go_big_quiet_step (fail))
 refine wpQuiet_nil ?_
 refine wpFrm_step (fsVal (.pointer (some ⟨g,0,none⟩))) rfl (by rfl) ⟨_,rfl⟩ (fun w' ho hk=>?_) (fun v hv=>?_)
 ·clear hk
  change frmUpon _ _ [] _ _
  go_simp
  exact ⟨Only.refl _ _,rfl,trivial,fun k hk=>by cases hk⟩
 obtain rfl : v = .pointer (some ⟨g,0,none⟩):=hv
 go_simp
 refine wpFrm_chunk 4 (by kernel_rfl) (by rfl) ?_
 simp only [List.take_succ_cons,List.take_zero,List.drop_succ_cons,List.drop_zero,List.length_cons,List.length_nil,Nat.zero_add,Nat.reduceAdd]
 iterate 4 (go_big_quiet_step (fail))
 refine wpQuiet_nil ?_
 refine wpFrm_step fsEmpty rfl (by rfl) ⟨_,none,0,rfl⟩ (fun w' ho hk=>?_) (fun v hv=>?_)
 ·clear hk
  change frmUpon _ _ [] _ _
  go_simp
  refine ⟨rfl,(HU.out w' ho).mono ?_⟩
  rintro e x ⟨As,cs,rfl,hx⟩
  exact ⟨_,rfl,hx,⟨As,cs,rfl⟩,trivial,fun k hk=>by cases hk⟩
 obtain ⟨As,cs,rfl⟩:=hv
 go_simp
 refine wpFrm_step (fsBox w.heap.size 3 #[.int .i64 0]) rfl (by rfl) ⟨_,0,rfl⟩ (fun w' ho hk=>?_) (fun v hv=>?_)
 ·clear hk
  change frmUpon _ _ [] _ _
  go_simp
  exact fsBox_new ho.size
 obtain ⟨ga,rfl⟩:=hv
 go_simp
 refine wpFrm_step (fsBox w.heap.size 175 #[.slice none 0 0]) rfl (by rfl) ⟨_,0,rfl⟩ (fun w' ho hk=>?_) (fun v hv=>?_)
 ·clear hk
  change frmUpon _ _ [] _ _
  go_simp
  exact fsBox_new ho.size
 obtain ⟨gb,rfl⟩:=hv
 go_simp
 intro y4 ho4 hT
 have h7:=hT 7 (by omega)
 have h7 : (fsBox w.heap.size 3 #[.int .i64 0]).pure (.pointer (some ⟨ga,0,none⟩)) /\ (fsBox w.heap.size 3 #[.int .i64 0]).fact (.pointer (some ⟨ga,0,none⟩)) y4:=h7
 have h8:=hT 8 (by omega)
 have h8 : (fsBox w.heap.size 175 #[.slice none 0 0]).pure (.pointer (some ⟨gb,0,none⟩)) /\ (fsBox w.heap.size 175 #[.slice none 0 0]).fact (.pointer (some ⟨gb,0,none⟩)) y4:=h8
 obtain ⟨b7,q7⟩:=h7.2 ga rfl
 obtain ⟨b8,q8⟩:=h8.2 gb rfl
 have hne : ga ≠ gb:=has_ne q7 q8 (by decide)
 have hgl : g < w.heap.size:=HB.out.1.lt
 have qb:=HB.out.1.only ho4 (by simp)
 have o5 : Only [] w ((y4.setCell ⟨ga,0,none⟩ (.int .i64 8)).setCell ⟨gb,0,none⟩ (.slice As 0 cs)):=(ho4.setCell (fun h=>by simp at h; omega) _).setCell (fun h=>by simp at h; omega) _
 have q7b:=(q7.set 0 (.int .i64 8)).other (p:=⟨gb,0,none⟩) hne (.slice As 0 cs)
 have c3b : World.cell? _ ⟨g,3,none⟩ = some (.int .i64 6):=((HB.out.1.only o5 (by simp)).cell 3).trans HB.out.2.2
 have e7:=q7.cell 0
 have f7:=q7.free 0
 have e8:=(q8.other (p:=⟨ga,0,none⟩) (Ne.symm hne) (.int .i64 8)).cell 0
 have f8:=(q8.other (p:=⟨ga,0,none⟩) (Ne.symm hne) (.int .i64 8)).free 0
 simp only [List.getElem?_toArray,List.getElem?_cons_zero] at e7 e8
 have HO:=hide (aI o5 (aI q7b b7))
 clear hT h7 h8 n2 c2 c3 q7 q8 o5 q7b ho4 qb b8
 go_wp2_with fail
 go_ret
 exact ⟨ga,rfl,HO.out.2.2,HO.out.2.1,HO.out.1⟩
theorem flip_rw (un : Bool) {k s : Int} {l u : List UInt8} (h : fErr k s l.length u.length = 0) : (flR un k s l u).length = l.length /\ flR (!un) k s (flR un k s l u) u = l:=by
 obtain ⟨x,y,rfl,rfl,_,hs1,_,_⟩:=fErr_zero h
 have e : flR un (x : Int) (y : Int) l u = fl un x y u l l.length:=by
  unfold flR
  rw [if_pos h,Int.toNat_natCast,Int.toNat_natCast]
 refine ⟨by rw [e,fl_length],?_⟩
 have hl : (fl un x y u l l.length).length = l.length:=fl_length _ _ _ _ _ _
 rw [e]
 unfold flR
 rw [hl,if_pos h,Int.toNat_natCast,Int.toNat_natCast]
 exact flip_flip un x y u l hs1
theorem unStep_do (q k : Nat) (now al rest : List UInt8) (y : Nat) (hq : q <= 4) (hk : now.length = k) (h : fErr q 4 k (if y = 0 then [] else al).length = 0) :
 unStep 4 k al ((UInt8.ofNat q :: flR false q 4 now (if y = 0 then [] else al)) ++ rest) y = (now,true) /\ ((UInt8.ofNat q :: flR false q 4 now (if y = 0 then [] else al)) ++ rest).drop (1 + k) = rest:=by
 subst hk
 unfold unStep
 generalize (if y = 0 then [] else al) = u at *
 obtain ⟨h1,h2⟩:=flip_rw false h
 have hx : (((UInt8.ofNat q :: flR false q 4 now u) ++ rest).drop 1).take now.length = flR false q 4 now u:=by
  rw [List.cons_append,List.drop_succ_cons,List.drop_zero,<- h1,List.take_left]
 have hd : (((UInt8.ofNat q :: flR false q 4 now u) ++ rest).getD 0 0).toNat = q:=by
  rw [List.cons_append,List.getD_cons_zero,UInt8.toNat_ofNat']
  omega
 refine ⟨?_,?_⟩
 ·rw [hx,hd,h1]
  have h2 : flR true (q : Int) 4 (flR false (q : Int) 4 now u) u = now:=h2
  exact Prod.ext h2 (decide_eq_true h)
 ·rw [List.cons_append,Nat.add_comm,List.drop_succ_cons,<- h1,List.drop_left]
def Chn (L : List Rw) : Prop:=∀ (pre : List Rw) (x : Rw),pre ++ [x] <+: L -> x.y = 0 \/ ∃ pre' x',pre = pre' ++ [x'] /\ x'.w = x.w
theorem chn_nil : Chn []:=fun pre x h=>by
 have:=h.length_le
 simp at this
theorem chn_run (L : List Rw) (W H l : Int) (i n : Nat) (h : Chn L) : Chn (L ++ (List.range n).map (rowOf W H l i)):=by
 induction n with
 | zero=>simpa using h
 | succ n ih =>
   intro pre x hp
   rw [List.range_succ,List.map_append,List.map_singleton,<- List.append_assoc] at hp
   by_cases hlen : (pre ++ [x]).length <= (L ++ (List.range n).map (rowOf W H l i)).length
   ·exact ih pre x (List.prefix_of_prefix_length_le hp (List.prefix_append _ _) hlen)
   ·have he : pre ++ [x] = (L ++ (List.range n).map (rowOf W H l i)) ++ [rowOf W H l i n]:=hp.eq_of_length_le (by
     simp at hlen ⊢
     omega)
    obtain ⟨e1,e2⟩:=List.append_inj' he rfl
    have e2 : x = rowOf W H l i n:=by simpa using e2
    subst e2
    cases n with
    | zero=>exact .inl rfl
    | succ n =>
      refine .inr ⟨L ++ (List.range n).map (rowOf W H l i),rowOf W H l i n,?_,rfl⟩
      rw [e1,List.range_succ,List.map_append,List.map_singleton,List.append_assoc]
theorem chn_rows (W H l : Int) : Chn (rowsL W H l):=by
 have : ∀ k,Chn (rowsTo W H l k):=fun k=>by
  induction k with
  | zero=>exact chn_nil
  | succ k ih=>rw [rowsTo_succ]; exact chn_run _ _ _ _ _ _ ih
 exact this _
theorem doL_step (q : Nat) (hq : q <= 4) (M : List UInt8) (W H l : Int) (hW : W <= 16384) (hH : H <= 16384) (hn : (M.length : Int) = 4 * (W * H)) (pre : List Rw) (x : Rw) (hpre : pre ++ [x] <+: rowsL W H l)
 (hlen : (if x.y = 0 then [] else (doL q M W pre).2).length = 0 \/ (if x.y = 0 then [] else (doL q M W pre).2).length = 4 * x.w.toNat) :
 fErr q 4 (4 * x.w.toNat) (if x.y = 0 then [] else (doL q M W pre).2).length = 0 /\ doL q M W (pre ++ [x]) = ((doL q M W pre).1 ++ (UInt8.ofNat q :: flR false q 4 (pickL M x W x.w.toNat) (if x.y = 0 then [] else (doL q M W pre).2)),pickL M x W x.w.toNat):=by
 have hok:=rows_ok W H l x (hpre.subset (by simp))
 have hw:=hok.w0
 have hpl:=pickL_length hok hW hH hn x.w.toNat (by omega)
 have hf : fErr q 4 (4 * x.w.toNat) (if x.y = 0 then [] else (doL q M W pre).2).length = 0:=by
  unfold fErr
  rw [if_pos ⟨by omega,by omega,hlen⟩]
 refine ⟨hf,?_⟩
 rw [doL_snoc]
 unfold doG doStep
 rw [hpl,if_pos hf,Int.toNat_natCast]
theorem doL_next (q : Nat) (hq : q <= 4) (M : List UInt8) (W H l : Int) (hW : W <= 16384) (hH : H <= 16384) (hn : (M.length : Int) = 4 * (W * H)) : ∀ (m : Nat) (pre : List Rw) (x : Rw),pre.length = m -> pre ++ [x] <+: rowsL W H l ->
 fErr q 4 (4 * x.w.toNat) (if x.y = 0 then [] else (doL q M W pre).2).length = 0 /\ doL q M W (pre ++ [x]) = ((doL q M W pre).1 ++ (UInt8.ofNat q :: flR false q 4 (pickL M x W x.w.toNat) (if x.y = 0 then [] else (doL q M W pre).2)),pickL M x W x.w.toNat):=by
 intro m
 induction m with
 | zero =>
   intro pre x hp hpre
   refine doL_step q hq M W H l hW hH hn pre x hpre (.inl ?_)
   rw [List.length_eq_zero_iff.1 hp]
   split <;> rfl
 | succ m ih =>
   intro pre x hp hpre
   refine doL_step q hq M W H l hW hH hn pre x hpre ?_
   rcases chn_rows W H l pre x hpre with h0 | ⟨pre',x',rfl,hw⟩
   ·rw [if_pos h0]; exact .inl rfl
   ·by_cases h0 : x.y = 0
    ·rw [if_pos h0]; exact .inl rfl
    ·have hpre' : pre' ++ [x'] <+: rowsL W H l:=(List.prefix_append _ _).trans hpre
     have hok:=rows_ok W H l x' (hpre'.subset (by simp))
     have hw0:=hok.w0
     rw [if_neg h0,(ih pre' x' (by simpa using hp) hpre').2]
     exact .inr (by rw [pickL_length hok hW hH hn x'.w.toNat (by omega),hw])
theorem doL_front (q : Int) (M : List UInt8) (W : Int) (a : List Rw) : ∀ b,(doL q M W a).1 <+: (doL q M W (a ++ b)).1:=by
 refine pgSnoc (P:=fun b=>(doL q M W a).1 <+: (doL q M W (a ++ b)).1) ?_ ?_
 ·rw [List.append_nil]; exact List.prefix_refl _
 ·intro b x ih
  rw [<- List.append_assoc,doL_snoc]
  exact ih.trans (List.prefix_append _ _)
theorem raw_next (q : Nat) (hq : q <= 4) (M : List UInt8) (W H l : Int) (hW : W <= 16384) (hH : H <= 16384) (hn : (M.length : Int) = 4 * (W * H)) (pre : List Rw) (x : Rw) (hpre : pre ++ [x] <+: rowsL W H l) :
 1 + 4 * x.w.toNat <= ((rawB q M W H l).drop (doL q M W pre).1.length).length /\ unStep 4 (4 * x.w.toNat) (doL q M W pre).2 ((rawB q M W H l).drop (doL q M W pre).1.length) x.y = (pickL M x W x.w.toNat,true) /\
 ((rawB q M W H l).drop (doL q M W pre).1.length).drop (1 + 4 * x.w.toNat) = (rawB q M W H l).drop (doL q M W (pre ++ [x])).1.length /\ (doL q M W (pre ++ [x])).2 = pickL M x W x.w.toNat:=by
 obtain ⟨h1,h2⟩:=doL_next q hq M W H l hW hH hn _ pre x rfl hpre
 have hok:=rows_ok W H l x (hpre.subset (by simp))
 have hw0:=hok.w0
 have hpl:=pickL_length hok hW hH hn x.w.toNat (by omega)
 obtain ⟨b,hb⟩:=hpre
 obtain ⟨rest,hr⟩:=doL_front q M W (pre ++ [x]) b
 rw [hb] at hr
 have hfl:=(flip_rw false (k:=q) (s:=4) (l:=pickL M x W x.w.toNat) (u:=if x.y = 0 then [] else (doL q M W pre).2) (by rw [hpl]; exact h1)).1
 have hraw : rawB q M W H l = (doL q M W pre).1 ++ ((UInt8.ofNat q :: flR false q 4 (pickL M x W x.w.toNat) (if x.y = 0 then [] else (doL q M W pre).2)) ++ rest):=by
  unfold rawB
  rw [<- hr,h2,List.append_assoc]
 have hraw2 : rawB q M W H l = (doL q M W (pre ++ [x])).1 ++ rest:=by unfold rawB; rw [hr]
 obtain ⟨u1,u2⟩:=unStep_do q (4 * x.w.toNat) (pickL M x W x.w.toNat) (doL q M W pre).2 rest x.y hq hpl h1
 refine ⟨?_,?_,?_,by rw [h2]⟩
 ·rw [hraw,List.drop_left]
  simp only [List.length_append,List.length_cons,hfl,hpl]
  omega
 ·rw [hraw,List.drop_left]; exact u1
 ·rw [hraw,List.drop_left,u2,<- hraw,hraw2,List.drop_left]
theorem up_hit (d : Int) (hd : d = 1 \/ d = 2 \/ d = 4 \/ d = 8) (x0 X W : Int) (h0 : x0 <= X) (hX : X < W) (hm : (X - x0) % d = 0) : ∃ x : Nat,x0 + (x : Int) * d = X /\ (x : Int) < (W - x0 - 1) / d + 1:=by
 rcases hd with rfl | rfl | rfl | rfl
 ·exact ⟨((X - x0) / 1).toNat,by omega,by omega⟩
 ·exact ⟨((X - x0) / 2).toNat,by omega,by omega⟩
 ·exact ⟨((X - x0) / 4).toNat,by omega,by omega⟩
 ·exact ⟨((X - x0) / 8).toNat,by omega,by omega⟩
theorem cover_pass (W H l : Int) (hW : 1 <= W /\ W <= 16384) (hH : 1 <= H /\ H <= 16384) (i : Nat) (hi : i < pgN l) (X Y : Int) (hx : psX l i <= X /\ X < W) (hy : psY l i <= Y /\ Y < H)
 (hdx : psDX l i = 1 \/ psDX l i = 2 \/ psDX l i = 4 \/ psDX l i = 8) (hdy : psDY l i = 1 \/ psDY l i = 2 \/ psDY l i = 4 \/ psDY l i = 8) (hmx : (X - psX l i) % psDX l i = 0) (hmy : (Y - psY l i) % psDY l i = 0) :
 ∃ r ∈ rowsL W H l,∃ x : Nat,(x : Int) < r.w /\ spotI r W x = (Y * W + X) * 4:=by
 obtain ⟨p0,p1,p2,p3⟩:=ps_pos l i
 have hok : sizeOkB (psX l i) (psY l i) (psDX l i) (psDY l i) W H = true:=decide_eq_true ⟨hW,hH,⟨p2,p3⟩,⟨p0,p1⟩,by omega,by omega⟩
 have eW : psW W H l i = (W - psX l i - 1) / psDX l i + 1:=by unfold psW sizeW; rw [if_pos hok]
 have eH : sizeH (psX l i) (psY l i) (psDX l i) (psDY l i) W H = (H - psY l i - 1) / psDY l i + 1:=by unfold sizeH; rw [if_pos hok]
 obtain ⟨x,x1,x2⟩:=up_hit _ hdx _ X W hx.1 hx.2 hmx
 obtain ⟨y,y1,y2⟩:=up_hit _ hdy _ Y H hy.1 hy.2 hmy
 refine ⟨rowOf W H l i y,?_,x,?_,?_⟩
 ·unfold rowsL rowsTo
  refine List.mem_flatMap.2 ⟨i,List.mem_range.2 hi,List.mem_map.2 ⟨y,List.mem_range.2 ?_,rfl⟩⟩
  unfold psH
  rw [eH]
  omega
 ·show (x : Int) < psW W H l i
  rw [eW]; exact x2
 ·show ((psY l i + (y : Int) * psDY l i) * W + psX l i + (x : Int) * psDX l i) * 4 = _
  rw [y1,Int.add_assoc,x1]
theorem rows_cover (W H l : Int) (hW : 1 <= W /\ W <= 16384) (hH : 1 <= H /\ H <= 16384) (X Y : Int) (hx : 0 <= X /\ X < W) (hy : 0 <= Y /\ Y < H) :
 ∃ r ∈ rowsL W H l,∃ x : Nat,(x : Int) < r.w /\ spotI r W x = (Y * W + X) * 4:=by
 by_cases hl : l = 0
 ·subst hl
  exact cover_pass W H 0 hW hH 0 (by decide) X Y (by simpa [psX] using hx) (by simpa [psY] using hy) (.inl rfl) (.inl rfl) (by simp [psDX]) (by simp [psDY])
 ·have h7 : pgN l = 7:=if_neg hl
  have go : ∀ i,i < 7 -> adX i <= X -> adY i <= Y -> (X - adX i) % adW i = 0 -> (Y - adY i) % adH i = 0 -> (adW i = 1 \/ adW i = 2 \/ adW i = 4 \/ adW i = 8) -> (adH i = 1 \/ adH i = 2 \/ adH i = 4 \/ adH i = 8) -> ∃ r ∈ rowsL W H l,∃ x : Nat,(x : Int) < r.w /\ spotI r W x = (Y * W + X) * 4:=fun i hi a b c d e f=>by
   have q1 : psX l i = adX i:=if_neg hl
   have q2 : psY l i = adY i:=if_neg hl
   have q3 : psDX l i = adW i:=if_neg hl
   have q4 : psDY l i = adH i:=if_neg hl
   exact cover_pass W H l hW hH i (by omega) X Y ⟨by omega,hx.2⟩ ⟨by omega,hy.2⟩ (by rw [q3]; exact e) (by rw [q4]; exact f) (by rw [q1,q3]; exact c) (by rw [q2,q4]; exact d)
  by_cases c6 : Y % 2 = 1
  ·exact go 6 (by decide) (show (0 : Int) <= X by omega) (show (1 : Int) <= Y by omega) (show (X - 0) % 1 = 0 by omega) (show (Y - 1) % 2 = 0 by omega) (by decide) (by decide)
  by_cases c5 : X % 2 = 1
  ·exact go 5 (by decide) (show (1 : Int) <= X by omega) (show (0 : Int) <= Y by omega) (show (X - 1) % 2 = 0 by omega) (show (Y - 0) % 2 = 0 by omega) (by decide) (by decide)
  by_cases c4 : Y % 4 = 2
  ·exact go 4 (by decide) (show (0 : Int) <= X by omega) (show (2 : Int) <= Y by omega) (show (X - 0) % 2 = 0 by omega) (show (Y - 2) % 4 = 0 by omega) (by decide) (by decide)
  by_cases c3 : X % 4 = 2
  ·exact go 3 (by decide) (show (2 : Int) <= X by omega) (show (0 : Int) <= Y by omega) (show (X - 2) % 4 = 0 by omega) (show (Y - 0) % 4 = 0 by omega) (by decide) (by decide)
  by_cases c2 : Y % 8 = 4
  ·exact go 2 (by decide) (show (0 : Int) <= X by omega) (show (4 : Int) <= Y by omega) (show (X - 0) % 4 = 0 by omega) (show (Y - 4) % 8 = 0 by omega) (by decide) (by decide)
  by_cases c1 : X % 8 = 4
  ·exact go 1 (by decide) (show (4 : Int) <= X by omega) (show (0 : Int) <= Y by omega) (show (X - 4) % 8 = 0 by omega) (show (Y - 0) % 8 = 0 by omega) (by decide) (by decide)
  exact go 0 (by decide) (show (0 : Int) <= X by omega) (show (0 : Int) <= Y by omega) (show (X - 0) % 8 = 0 by omega) (show (Y - 0) % 8 = 0 by omega) (by decide) (by decide)
theorem alike_all (W H l : Int) (hW : 1 <= W /\ W <= 16384) (hH : 1 <= H /\ H <= 16384) (M cur : List UInt8) (hn : (M.length : Int) = 4 * (W * H)) (hl : cur.length = M.length)
 (h : ∀ r ∈ rowsL W H l,∀ x j : Nat,(x : Int) < r.w -> j < 4 -> cur[(spotI r W x).toNat + j]? = M[(spotI r W x).toNat + j]?) : cur = M:=by
 apply List.ext_getElem?
 intro i
 by_cases hi : i < M.length
 ·obtain ⟨p,hp⟩ : ∃ p,p = i / 4:=⟨_,rfl⟩
  have hp4 : (p : Int) < W * H:=by omega
  have hY1 : (p : Int) / W < H:=Int.ediv_lt_of_lt_mul (by omega) (by rw [Int.mul_comm]; exact hp4)
  have hY0 : 0 <= (p : Int) / W:=Int.ediv_nonneg (by omega) (by omega)
  have hX0:=Int.emod_nonneg (p : Int) (show W ≠ 0 by omega)
  have hX1:=Int.emod_lt_of_pos (p : Int) (show 0 < W by omega)
  obtain ⟨r,hr,x,hx,hs⟩:=rows_cover W H l hW hH ((p : Int) % W) ((p : Int) / W) ⟨hX0,hX1⟩ ⟨hY0,hY1⟩
  have hpe : (p : Int) / W * W + (p : Int) % W = p:=Int.ediv_mul_add_emod (p : Int) W
  rw [hpe] at hs
  have:=h r hr x (i % 4) hx (Nat.mod_lt _ (by omega))
  rw [hs] at this
  rw [show ((p : Int) * 4).toNat + i % 4 = i by omega] at this
  exact this
 ·rw [List.getElem?_eq_none (by omega),List.getElem?_eq_none (by omega)]
end Go.Proofs.YtjfjmkkkbcgohaaGreatDoor
