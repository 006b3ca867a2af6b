import Derived.Test.YtjfjmkkkbcgohaaGreatDoorMPhB
namespace Go.Proofs.YtjfjmkkkbcgohaaGreatDoor
open Go Go.RowKit
set_option maxRecDepth 100000 in
set_option maxHeartbeats 16000000 in
theorem unIt_any (Z Zr : List Nat) (r : Rw) (ga gr gh : Nat) (W H d c l : Int) (k sz : Nat) (al raw : List UInt8) (w : World) (hk : rowI r.w (smpV c) d = k) (hs : rowI 1 (smpV c) d = sz) (hkr : 1 + k <= raw.length) (hrl : raw.length <= 1000000000) (hal : al.length <= 1000000)
 (B : UnBox Z Zr ga gr gh W H d c l al raw w) (hZ : ∀ j ∈ Z,j < w.heap.size) (hne : gh ≠ ga /\ gh ≠ gr) :
 Calls Tryz.prog 94 #[r.val,.pointer (some ⟨ga,0,none⟩),.pointer (some ⟨gr,0,none⟩),.pointer (some ⟨gh,0,none⟩)] w fun e w' =>
  ∃ Av cv,e = .returned (.tuple #[.slice Av (unStep sz k al raw r.y).1.length cv,.bool (unStep sz k al raw r.y).2]) /\ w'.ownsRow w.heap.size 5 1 (.slice Av (unStep sz k al raw r.y).1.length cv) (unStep sz k al raw r.y).1.length (bvals (unStep sz k al raw r.y).1) /\
    UnBox Z Zr ga gr gh W H d c l (unStep sz k al raw r.y).1 (raw.drop (1 + k)) w' /\ Only [ga,gr] w w':=by
 obtain ⟨Aa,ca,ha,hah,hane⟩:=B.ahead
 obtain ⟨Ar,cr,hr,hrh,hrc,hrne⟩:=B.raw
 have hhd:=B.head
 have hgg:=B.ne
 obtain ⟨b0,ob,rfl,hcl⟩:=hrh.addr (by rw [bvals_length]; omega)
 have hr0:=hcl 0 (.int .u8 ((raw.getD 0 0).toNat : Int)) (by
  cases raw with
  | nil=>simp at hkr
  | cons x t=>simp [bvals])
 rw [Nat.add_zero] at hr0
 obtain ⟨kd,hkd⟩ : ∃ kd,kd = (raw.getD 0 0).toNat:=⟨_,rfl⟩
 rw [<- hkd] at hr0
 obtain ⟨Ab,cb,am,ham⟩ : ∃ (Ab : Option Addr) (cb : Nat) (am : List UInt8),(r.y = 0 -> Ab = none /\ cb = 0 /\ am = []) /\ (r.y ≠ 0 -> Ab = Aa /\ cb = ca /\ am = al):=by
  by_cases hy : r.y = 0
  ·exact ⟨none,0,[],fun _=>⟨rfl,rfl,rfl⟩,fun h=>absurd hy h⟩
  ·exact ⟨Aa,ca,al,fun h=>absurd h hy,fun _=>⟨rfl,rfl,rfl⟩⟩
 have hame : am = if r.y = 0 then [] else al:=by
  by_cases hy : r.y = 0
  ·rw [if_pos hy]; exact (ham.1 hy).2.2
  ·rw [if_neg hy]; exact (ham.2 hy).2.2
 have haml : am.length <= 1000000:=by
  rw [hame]
  split
  ·simp
  ·exact hal
 obtain ⟨now,hnow⟩ : ∃ now,now = (raw.drop 1).take k:=⟨_,rfl⟩
 have hnl : now.length = k:=by rw [hnow,List.length_take,List.length_drop]; omega
 obtain ⟨E0,hE0⟩ : ∃ E0,E0 = fErr (kd : Int) sz k am.length:=⟨_,rfl⟩
 obtain ⟨fr,hfr⟩ : ∃ fr,fr = flR true (kd : Int) sz now am:=⟨_,rfl⟩
 have hun : unStep sz k al raw r.y = (fr,decide (E0 = 0)):=by
  unfold unStep
  rw [<- hame,<- hnow,<- hkd,<- hfr,hnl,<- hE0]
 rw [hun]
 have HZ:=hide hZ
 have HA:=hide (aI ha (aI hah (aI hr (aI hrh (aI hrc (aI hrne (aI hhd hgg)))))))
 have HX:=hide (aI hE0 (aI hfr (aI hnow (aI hnl (aI hkr (aI hrl (aI haml hne)))))))
 have hr1 : (0 : Nat) < raw.length:=by omega
 have HSz:=hide (fun (x : World)=>by
  have:=pgSize_any r.X r.Y r.DX r.DY (r.y : Int) r.w W H d c l x
  rw [hk] at this
  exact this)
 have HSt:=hide (fun (x : World)=>by
  have:=pgStep_any W H d c l x
  rw [hs] at this
  exact this)
 have hak:=ha.alloc (.cells r.cells 49)
 have a0:=hak.cell 0
 have af:=hak.free 0
 dsimp only [Rw.cells] at a0 af
 simp only [List.getElem?_toArray,List.getElem?_cons_zero] at a0
 have hkdw : wrap64 (kd : Int) = (kd : Int):=by
  have : kd < 256:=by rw [hkd]; exact (raw.getD 0 0).toNat_lt
  unfold wrap64; omega
 have hw64 : IntKind.i64.wrap (1 + (k : Int)) = ((1 + k : Nat) : Int):=by rw [IntKind.wrap_i64]; omega
 have hk2 : k <= 131072:=by have:=rowI_range r.w (smpV c) d; omega
 obtain ⟨rX,rY,rDX,rDY,ry,rn⟩:=r
 unfold Rw.val
 dsimp only at *
 clear hame B hZ hcl hrc hrne hgg hE0 hfr hnow hnl hkr hrl haml hne hk hs hun hak hkd hal
 have hrow0:=Has.new w 49 #[.int .i64 rX,.int .i64 rY,.int .i64 rDX,.int .i64 rDY,.int .i64 (ry : Int),.int .i64 rn]
 have hoa : Only [] w (w.alloc (.cells #[.int .i64 rX,.int .i64 rY,.int .i64 rDX,.int .i64 rDY,.int .i64 (ry : Int),.int .i64 rn] 49)):=(Only.refl [] w).alloc _
 have HRo:=hide (aI hrow0 hoa)
 clear hrow0 hoa ha hah hr hrh hhd hane
 have hgag : ga < w.heap.size:=HA.out.1.lt
 by_cases hy : ry = 0
 case' pos =>
  obtain ⟨q1,q2,q3⟩:=ham.1 hy
  have hyb : ((ry : Int) == 0) = true:=by rw [hy]; rfl
  have hos : Only [ga] w (w.setCell ⟨ga,0,none⟩ (.slice none 0 0)):=(Only.refl _ _).setCell (by simp) _
  have e4 : Only [ga] w ((w.setCell ⟨ga,0,none⟩ (.slice none 0 0)).alloc (.cells #[.int .i64 rX,.int .i64 rY,.int .i64 rDX,.int .i64 rDY,.int .i64 (ry : Int),.int .i64 rn] 49)):=hos.alloc _
  have hrb:=Has.new (w.setCell ⟨ga,0,none⟩ (.slice none 0 0)) 49 #[.int .i64 rX,.int .i64 rY,.int .i64 rDX,.int .i64 rDY,.int .i64 (ry : Int),.int .i64 rn]
  rw [World.size_setCell] at hrb
  have e3 : Has ((w.setCell ⟨ga,0,none⟩ (.slice none 0 0)).alloc (.cells #[.int .i64 rX,.int .i64 rY,.int .i64 rDX,.int .i64 rDY,.int .i64 (ry : Int),.int .i64 rn] 49)) ga 22 #[.slice Ab am.length cb]:=by rw [q1,q2,q3]; exact (HA.out.1.set 0 _).alloc _
  have e5 : Holds ((w.setCell ⟨ga,0,none⟩ (.slice none 0 0)).alloc (.cells #[.int .i64 rX,.int .i64 rY,.int .i64 rDX,.int .i64 rDY,.int .i64 (ry : Int),.int .i64 rn] 49)) 1 Ab am.length (bvals am):=by rw [q1,q3]; exact Holds.empty _ _ _
  clear hy ham q1 q2 q3 hos
 case' neg =>
  obtain ⟨q1,q2,q3⟩:=ham.2 hy
  have hyb : ((ry : Int) == 0) = false:=by
   have : ¬ (ry : Int) = 0:=by omega
   simpa using hy
  have e4 : Only [ga] w (w.alloc (.cells #[.int .i64 rX,.int .i64 rY,.int .i64 rDX,.int .i64 rDY,.int .i64 (ry : Int),.int .i64 rn] 49)):=HRo.out.2.of_nil
  have hrb:=HRo.out.1
  have e3 : Has (w.alloc (.cells #[.int .i64 rX,.int .i64 rY,.int .i64 rDX,.int .i64 rDY,.int .i64 (ry : Int),.int .i64 rn] 49)) ga 22 #[.slice Ab am.length cb]:=by rw [q1,q2,q3]; exact HA.out.1.alloc _
  have e5 : Holds (w.alloc (.cells #[.int .i64 rX,.int .i64 rY,.int .i64 rDX,.int .i64 rDY,.int .i64 (ry : Int),.int .i64 rn] 49)) 1 Ab am.length (bvals am):=by rw [q1,q3]; exact HA.out.2.1.keep HRo.out.2 (by simp)
  clear hy ham q1 q2 q3
 all_goals
  have eR:=HA.out.2.2.1.only e4 (by simpa using Ne.symm HA.out.2.2.2.2.2.2.2)
  have eH:=HA.out.2.2.2.2.2.2.1.only e4 (by simpa using HX.out.2.2.2.2.2.2.2.1)
  have eB:=HA.out.2.2.2.1.keepPos e4 (fun h0 ad ha _ hm=>HA.out.2.2.2.2.2.1 h0 ad ha (by
   have : ad.block = ga:=by simpa using hm
   rw [this]; exact List.mem_cons_self))
  have t0:=hrb.cell 0
  have t1:=hrb.cell 1
  have t2:=hrb.cell 2
  have t3:=hrb.cell 3
  have t4:=hrb.cell 4
  have t5:=hrb.cell 5
  simp only [List.getElem?_toArray,List.getElem?_cons_zero,List.getElem?_cons_succ] at t0 t1 t2 t3 t4 t5
  go_enter Tryz.func94,Tryz.ntmps94
  go_wp2_with fail
  have hbg : b0 ≠ ga:=fun e=>HA.out.2.2.2.2.2.1 hr1 ⟨b0,ob,none⟩ rfl (by rw [show (Addr.mk b0 ob none).block = ga from e]; exact List.mem_cons_self)
  have hr0P:=(e4.cell (World.block_lt_of_cell? w _ hr0) (by simpa using hbg)).trans hr0
  have n0:=later_cell (show World.cell? _ ⟨gr,0,none⟩ = some (.slice (some ⟨b0,ob,none⟩) raw.length cr) from eR.cell 0)
  have n1:=later_cell hr0P
  have x0:=later_cell (show World.cell? _ ⟨w.heap.size,0,none⟩ = some (.int .i64 rX) from hrb.cell 0)
  have x1:=later_cell (show World.cell? _ ⟨w.heap.size,1,none⟩ = some (.int .i64 rY) from hrb.cell 1)
  have x2:=later_cell (show World.cell? _ ⟨w.heap.size,2,none⟩ = some (.int .i64 rDX) from hrb.cell 2)
  have x3:=later_cell (show World.cell? _ ⟨w.heap.size,3,none⟩ = some (.int .i64 rDY) from hrb.cell 3)
  have x4:=later_cell (show World.cell? _ ⟨w.heap.size,4,none⟩ = some (.int .i64 (ry : Int)) from hrb.cell 4)
  have x5:=later_cell (show World.cell? _ ⟨w.heap.size,5,none⟩ = some (.int .i64 rn) from hrb.cell 5)
  have h0:=later_cell (show World.cell? _ ⟨gh,0,none⟩ = some (.int .i64 W) from eH.cell 0)
  have h1:=later_cell (show World.cell? _ ⟨gh,1,none⟩ = some (.int .i64 H) from eH.cell 1)
  have h2:=later_cell (show World.cell? _ ⟨gh,2,none⟩ = some (.int .i64 d) from eH.cell 2)
  have h3:=later_cell (show World.cell? _ ⟨gh,3,none⟩ = some (.int .i64 c) from eH.cell 3)
  have h4:=later_cell (show World.cell? _ ⟨gh,4,none⟩ = some (.int .i64 l) from eH.cell 4)
  have HE:=hide (aI e3 (aI e4 (aI e5 (aI eR (aI eH eB)))))
  clear e3 e4 e5 eR eH eB t0 t1 t2 t3 t4 t5 hyb a0 af hrb HRo hr0 hr0P
  refine region_frm 9 41 (fun i=>if i = 6 then some (fsVal (.int .i64 (k : Int))) else none) (fun _=>none) (by kernel_rfl) (by kernel_rfl) (by kernel_rfl) (by kernel_rfl) (by rfl) (by rfl) (fun i hi=>?_) (fun i S hS=>?_) ?_
  ·have hi : 10 <= i:=hi
   show (if i = 6 then _ else _) = none
   rw [if_neg (by omega)]
  ·split at hS
   all_goals first | (injection hS with hS; subst hS; exact fun _ _ _ _ _ _ _=>trivial) | cases hS
  simp only [List.take_succ_cons,List.take_zero,List.drop_succ_cons,List.drop_zero]
  refine wpFrm_chunk 6 (by kernel_rfl) (by rfl) ?_
  simp only [List.take_succ_cons,List.take_zero,List.drop_succ_cons,List.drop_zero,List.length_cons,List.length_nil,Nat.zero_add,Nat.reduceAdd]
  iterate 6 (go_big_quiet_step (fail))
  refine wpQuiet_nil ?_
  refine wpFrm_step (fsVal (.int .i64 (k : Int))) rfl (by rfl) ⟨_,rfl⟩ (fun w' ho hk=>?_) (fun v hv=>?_)
  ·clear hk
   change frmUpon _ _ [] _ _
   go_simp
   refine ⟨rfl,(HSz.out w').mono ?_⟩
   rintro e x ⟨rfl,hx⟩
   exact ⟨_,rfl,hx,rfl,trivial,fun k hk=>by simp [fsVal] at hk⟩
  obtain rfl : v = .int .i64 (k : Int):=hv
  go_simp
  refine wpFrm_chunk 2 (by kernel_rfl) (by rfl) ?_
  simp only [List.take_succ_cons,List.take_zero,List.drop_succ_cons,List.drop_zero,List.length_cons,List.length_nil,Nat.zero_add,Nat.reduceAdd]
  iterate 2 (go_big_quiet_step (fail))
  refine wpQuiet_nil ?_
  intro y4 ho4 hT
  clear hT n0 n1 x0 x1 x2 x3 x4 x5 h0 h1 h2 h3 h4
  have f3:=HE.out.1.only ho4 (by simp)
  have f4:=HE.out.2.1.trans ho4 (S:=[ga]) (by simp)
  have f5:=HE.out.2.2.1.keep ho4 (by simp)
  have fR:=HE.out.2.2.2.1.only ho4 (by simp)
  have fH:=HE.out.2.2.2.2.1.only ho4 (by simp)
  have fB:=HE.out.2.2.2.2.2.keep ho4 (by simp)
  have HF:=hide (aI f3 (aI f4 (aI f5 (aI fR (aI fH fB)))))
  clear HE f3 f4 f5 fR fH fB ho4
  generalize y4 = y at *
  go_wp2_with fail
  obtain ⟨D,hrw,hHD,hbkD⟩:=run_part HF.out.2.2.2.2.2 HA.out.2.2.2.2.1 1 k (by have:=HX.out.2.2.2.2.1; omega) 1 (1 + (k : Int)) rfl (by push_cast; rfl)
  rw [<- HX.out.2.2.1] at hHD
  have HD:=hide (fun (x : World) (hx : Only [] y x)=>undo_any (kd : Int) (sz : Int) D Ab k k am.length cb now am x (hHD.keep hx (by simp)) HX.out.2.2.2.1 (HF.out.2.2.1.keep hx (by simp)) rfl (by omega))
  rw [<- HX.out.1,<- HX.out.2.1] at HD
  have n0:=later_cell (show World.cell? _ ⟨gr,0,none⟩ = some (.slice (some ⟨b0,ob,none⟩) raw.length cr) from HF.out.2.2.2.1.cell 0)
  have n1:=later_cell (show World.cell? _ ⟨ga,0,none⟩ = some (.slice Ab am.length cb) from HF.out.1.cell 0)
  have h0:=later_cell (show World.cell? _ ⟨gh,0,none⟩ = some (.int .i64 W) from HF.out.2.2.2.2.1.cell 0)
  have h1:=later_cell (show World.cell? _ ⟨gh,1,none⟩ = some (.int .i64 H) from HF.out.2.2.2.2.1.cell 1)
  have h2:=later_cell (show World.cell? _ ⟨gh,2,none⟩ = some (.int .i64 d) from HF.out.2.2.2.2.1.cell 2)
  have h3:=later_cell (show World.cell? _ ⟨gh,3,none⟩ = some (.int .i64 c) from HF.out.2.2.2.2.1.cell 3)
  have h4:=later_cell (show World.cell? _ ⟨gh,4,none⟩ = some (.int .i64 l) from HF.out.2.2.2.2.1.cell 4)
  refine region_frm 13 41 (fun i=>if i = 7 then some (fsVal (.int .i64 (sz : Int))) else if i = 8 then some (fsRowE y.heap.size fr (E0 : Int)) else none) (fun _=>none) (by kernel_rfl) (by kernel_rfl) (by kernel_rfl) (by kernel_rfl) (by rfl) (by rfl) (fun i hi=>?_) (fun i S hS=>?_) ?_
  ·have hi : 14 <= i:=hi
   show (if i = 7 then _ else _) = none
   iterate 2 rw [if_neg (by omega)]
  ·repeat' split at hS
   all_goals first | (injection hS with hS; subst hS; first | exact fsRowE_keep _ _ _ | exact fun _ _ _ _ _ _ _=>trivial) | cases hS
  simp only [List.take_succ_cons,List.take_zero,List.drop_succ_cons,List.drop_zero]
  refine wpFrm_chunk 7 (by kernel_rfl) (by rfl) ?_
  simp only [List.take_succ_cons,List.take_zero,List.drop_succ_cons,List.drop_zero,List.length_cons,List.length_nil,Nat.zero_add,Nat.reduceAdd]
  iterate 7 (go_big_quiet_step (fail))
  refine wpQuiet_nil ?_
  refine wpFrm_step (fsVal (.int .i64 (sz : Int))) rfl (by rfl) ⟨_,rfl⟩ (fun w' ho hk=>?_) (fun v hv=>?_)
  ·clear hk
   change frmUpon _ _ [] _ _
   go_simp
   refine ⟨rfl,(HSt.out w').mono ?_⟩
   rintro e x ⟨rfl,hx⟩
   exact ⟨_,rfl,hx,rfl,trivial,fun k hk=>by simp [fsVal] at hk⟩
  obtain rfl : v = .int .i64 (sz : Int):=hv
  go_simp
  refine wpFrm_step (fsRowE y.heap.size fr (E0 : Int)) rfl (by rfl) ⟨_,none,0,rfl⟩ (fun w' ho hk=>?_) (fun v hv=>?_)
  ·clear hk
   change frmUpon _ _ [] _ _
   go_simp
   refine ⟨rfl,(HD.out w' ho).mono ?_⟩
   rintro e x ⟨u,rfl,hu,hx⟩
   exact ⟨_,rfl,hx,fsRowE_call ho.size hu⟩
  obtain ⟨Ao,co,rfl⟩:=hv
  go_simp
  refine wpFrm_chunk 4 (by kernel_rfl) (by rfl) ?_
  simp only [List.take_succ_cons,List.take_zero,List.drop_succ_cons,List.drop_zero,List.length_cons,List.length_nil,Nat.zero_add,Nat.reduceAdd]
  iterate 4 (go_big_quiet_step (fail))
  refine wpQuiet_nil ?_
  intro y5 ho5 hT
  have h8:=hT 8 (by omega)
  have h8 : (fsRowE y.heap.size fr (E0 : Int)).pure (.tuple #[.slice Ao fr.length co,.int .i64 (E0 : Int)]) /\ (fsRowE y.heap.size fr (E0 : Int)).fact (.tuple #[.slice Ao fr.length co,.int .i64 (E0 : Int)]) y5:=h8
  have h6:=h8.2 Ao co rfl
  clear hT h8 n0 n1 h0 h1 h2 h3 h4 HD hrw
  obtain ⟨A2,d2,c2,hd2,hfr2,hH2,hdc2,hbk2⟩:=run_from2 (HF.out.2.2.2.2.2.keep ho5 (by simp)) rfl HA.out.2.2.2.2.1 (1 + k) (by have:=HX.out.2.2.2.2.1; omega) (1 + (k : Int)) (by push_cast; rfl)
  have k1 : y5.cell? ⟨gr,0,none⟩ = some (.slice (some ⟨b0,ob,none⟩) raw.length cr):=(HF.out.2.2.2.1.only ho5 (by simp)).cell 0
  have k2:=(HF.out.2.2.2.1.only ho5 (by simp)).free 0
  have k3 : y5.cell? ⟨ga,0,none⟩ = some (.slice Ab am.length cb):=(HF.out.1.only ho5 (by simp)).cell 0
  have k4:=(HF.out.1.only ho5 (by simp)).free 0
  have H5:=hide (aI h6 (aI ho5 (aI hd2 (aI hH2 (aI hdc2 hbk2)))))
  have hga2:=HA.out.2.2.2.2.2.2.2
  have hga3:=Ne.symm hga2
  clear h6 ho5 hd2 hH2 hdc2 hbk2
  go_wp2_with fail
  go_ret2
  have hbq : ((E0 : Int) == 0) = decide (E0 = 0):=by
   by_cases h : E0 = 0
   ·rw [h]; rfl
   ·rw [decide_eq_false h]
    have : ¬ (E0 : Int) = 0:=by omega
    simpa using h
  have fG:=HF.out.1.only H5.out.2.1 (by simp)
  have fR:=HF.out.2.2.2.1.only H5.out.2.1 (by simp)
  have os : Only [ga,gr] y5 ((y5.setCell ⟨gr,0,none⟩ (.slice A2 d2 c2)).setCell ⟨ga,0,none⟩ (.slice Ao fr.length co)):=((Only.refl _ _).setCell (by simp) _).setCell (by simp) _
  have oy : Only [ga,gr] w y5:=((Only.refl _ w).trans HF.out.2.1 (fun k hk _=>by
   obtain rfl : k = ga:=by simpa using hk
   exact List.mem_cons_self)).trans H5.out.2.1 (by simp)
  have hd2 : (raw.drop (1 + k)).length = d2:=by have:=H5.out.2.2.1; rw [List.length_drop]; omega
  have hA2 : ∀ ad,A2 = some ad -> ad.block ∉ ga :: gr :: Zr:=fun ad ha=>by
   obtain ⟨ad1,h1,h2⟩:=H5.out.2.2.2.2.2 ad ha
   have h3:=HA.out.2.2.2.2.2.1 hr1 ad1 h1
   rw [h2]
   exact h3
  have hown : ∀ b,(Value.slice Ao fr.length co).ownBlock = some b -> b ∉ [ga,gr]:=fun b hb hm=>by
   rcases List.mem_cons.1 hm with rfl | hm
   ·exact own_ne H5.out.1 fG (by decide) hb.symm
   ·obtain rfl : b = gr:=by simpa using hm
    exact own_ne H5.out.1 fR (by decide) hb.symm
  have hof:=own_keep H5.out.1 os hown
  have hwy : w.heap.size <= y.heap.size:=HF.out.2.1.size
  refine ⟨Ao,co,by (rw [hbq]; rfl),own_mono hof hwy,⟨⟨Ao,co,(fG.other hga2 _).set 0 _,Holds.of_own hof,fun _ ad ha hm=>?_⟩,⟨A2,c2,?_,?_,by rw [hd2]; exact H5.out.2.2.2.2.1,fun _ ad ha=>hA2 ad ha⟩,(HF.out.2.2.2.2.1.only H5.out.2.1 (by simp)).only os (by simpa using HX.out.2.2.2.2.2.2.2),hga2⟩,oy.trans os (fun k hk _=>hk)⟩
  ·have h1:=(own_at H5.out.1 (b:=ad.block) (by rw [ha]; rfl)).1
   have h2:=HZ.out _ hm
   omega
  ·rw [hd2]
   exact (fR.set 0 _).other hga3 _
  ·rw [hd2]
   exact H5.out.2.2.2.1.keep os (fun ad ha _ hm=>hA2 ad ha (by
    rcases List.mem_cons.1 hm with hm | hm
    ·rw [hm]; exact List.mem_cons_self
    ·rw [List.mem_singleton.1 hm]; exact List.mem_cons_of_mem _ List.mem_cons_self))
theorem eight8_any (b : Nat) (hb : b < 256) (w : World) : Calls Tryz.prog 99 #[.int .i64 (b : Int),.int .i64 8] w fun e w'=>e = .returned (.int .u8 (b : Int)) /\ Only [] w w':=by
 have h1 : IntKind.u8.wrap (b : Int) = (b : Int):=by
  rw [IntKind.wrap_u8]; omega
 clear hb
 go_enter Tryz.func99,Tryz.ntmps99
 go_wp2_with fail
 go_ret
 exact ⟨rfl,Only.refl _ _⟩
set_option maxRecDepth 100000 in
set_option maxHeartbeats 8000000 in
theorem col4_any (A : Addr) (c gd : Nat) (p q s t : Nat) (hp : p < 256) (hq : q < 256) (hs : s < 256) (ht : t < 256) (w : World) (hb : Holds w 1 (some A) 4 (svals [p,q,s,t])) (hd : Has w gd 3 #[.int .i64 8]) :
 Calls Tryz.prog 103 #[.slice (some A) 4 c,.pointer (some ⟨gd,0,none⟩)] w fun e w'=>e = .returned (.tuple #[.agg #[.int .u8 (p : Int),.int .u8 (q : Int),.int .u8 (s : Int),.int .u8 (t : Int)],.bool true]) /\ Only [] w w':=by
 obtain ⟨b0,o0,hA,hc⟩:=hb.addr (by simp)
 injection hA with hA
 subst hA
 have c0:=hc 0 (.int .i64 (p : Int)) rfl
 have c1:=hc 1 (.int .i64 (q : Int)) rfl
 have c2:=hc 2 (.int .i64 (s : Int)) rfl
 have c3:=hc 3 (.int .i64 (t : Int)) rfl
 rw [Nat.add_zero] at c0
 have H1:=hide (fun x : World=>eight8_any p hp x)
 have H2:=hide (fun x : World=>eight8_any q hq x)
 have H3:=hide (fun x : World=>eight8_any s hs x)
 have H4:=hide (fun x : World=>eight8_any t ht x)
 have ho : Only [] w (w.alloc (.cells #[.int .u8 0,.int .u8 0,.int .u8 0,.int .u8 0] 177)):=(Only.refl [] w).alloc _
 have k0:=(ho.cell (World.block_lt_of_cell? w _ c0) (by simp)).trans c0
 have k1:=(ho.cell (World.block_lt_of_cell? w _ c1) (by simp)).trans c1
 have k2:=(ho.cell (World.block_lt_of_cell? w _ c2) (by simp)).trans c2
 have k3:=(ho.cell (World.block_lt_of_cell? w _ c3) (by simp)).trans c3
 have kd : World.cell? _ ⟨gd,0,none⟩ = some (.int .i64 8):=(hd.only ho (by simp)).cell 0
 have HO:=hide ho
 clear hb hd hc c0 c1 c2 c3 ho hp hq hs ht
 go_enter Tryz.func103,Tryz.ntmps103
 go_wp2_with fail
 have m0:=later_cell k0
 have m1:=later_cell k1
 have m2:=later_cell k2
 have m3:=later_cell k3
 have md:=later_cell kd
 clear k0 k1 k2 k3 kd
 refine region_later_tail 21 (by kernel_rfl) (by kernel_rfl) ?_
 simp only [List.take_succ_cons,List.take_zero,List.drop_succ_cons,List.drop_zero]
 iterate 4 (go_big_quiet_step (fail))
 go_big_quiet_step ((go_at_call 99; refine later_of (H1.out _)))
 iterate 4 (go_big_quiet_step (fail))
 go_big_quiet_step ((go_at_call 99; refine later_of (H2.out _)))
 iterate 4 (go_big_quiet_step (fail))
 go_big_quiet_step ((go_at_call 99; refine later_of (H3.out _)))
 iterate 4 (go_big_quiet_step (fail))
 go_big_quiet_step ((go_at_call 99; refine later_of (H4.out _)))
 iterate 1 (go_big_quiet_step (fail))
 refine wpQuiet_nil ?_
 rintro _ ⟨X,rfl⟩
 change wpList _ _ _ _ _ X.val
 have hres:=(Has.new w 177 #[.int .u8 0,.int .u8 0,.int .u8 0,.int .u8 0]).only X.only (by simp)
 have hoX:=HO.out.trans X.only (S:=[]) (by simp)
 have HR:=hide (aI hres hoX)
 clear hres hoX m0 m1 m2 m3 md
 refine list_store_row' rfl 177 (.tmp 3) (.tmp 25) rfl w.heap.size #[.int .u8 (p : Int),.int .u8 (q : Int),.int .u8 (s : Int),.int .u8 (t : Int)] rfl rfl 177 _ HR.out.1 (by kernel_rfl) rfl (by simp [Value.oneCell']) ?_
 intro w4 hT4 hO4
 have HT:=hide (aI hT4 hO4)
 clear hT4 hO4
 go_wp2_with fail
 refine bodyPost_ret (results_row_two Tryz.results103 _ _ w.heap.size 177 _ _ rfl HT.out.1 Tryz.underlying177 rfl (by kernel_rfl)) rfl ⟨rfl,HR.out.2.trans HT.out.2 (by intro k hk hl; simp at hk; omega)⟩
def set4 (M l : List UInt8) (f : Nat) : List UInt8:=(((l.set f (M.getD f 0)).set (f + 1) (M.getD (f + 1) 0)).set (f + 2) (M.getD (f + 2) 0)).set (f + 3) (M.getD (f + 3) 0)
@[simp] theorem set4_length (M l : List UInt8) (f : Nat) : (set4 M l f).length = l.length:=by simp [set4]
theorem set4_in (M l : List UInt8) (f j : Nat) (hj : j < 4) (hl : f + 4 <= l.length) (hM : f + 4 <= M.length) : (set4 M l f)[f + j]? = M[f + j]?:=by
 have hg : ∀ i,i < M.length -> some (M.getD i 0) = M[i]?:=fun i hi=>by rw [List.getD_eq_getElem?_getD,List.getElem?_eq_getElem hi]; rfl
 rw [<- hg (f + j) (by omega)]
 unfold set4
 match j,hj with
 | 0,_=>simp only [Nat.add_zero]; rw [List.getElem?_set_ne (by omega),List.getElem?_set_ne (by omega),List.getElem?_set_ne (by omega),List.getElem?_set_self (by omega)]
 | 1,_=>rw [List.getElem?_set_ne (by omega),List.getElem?_set_ne (by omega),List.getElem?_set_self (by simp; omega)]
 | 2,_=>rw [List.getElem?_set_ne (by omega),List.getElem?_set_self (by simp; omega)]
 | 3,_=>rw [List.getElem?_set_self (by simp; omega)]
theorem set4_out (M l : List UInt8) (f i : Nat) (h : i < f \/ f + 4 <= i) : (set4 M l f)[i]? = l[i]?:=by
 unfold set4
 rw [List.getElem?_set_ne (by omega),List.getElem?_set_ne (by omega),List.getElem?_set_ne (by omega),List.getElem?_set_ne (by omega)]
theorem set4_agr (M l : List UInt8) (f i : Nat) (hl : f + 4 <= l.length) (hM : f + 4 <= M.length) (h : l[i]? = M[i]?) : (set4 M l f)[i]? = M[i]?:=by
 by_cases hi : i < f \/ f + 4 <= i
 ·rw [set4_out M l f i hi,h]
 ·obtain ⟨j,rfl⟩ : ∃ j,i = f + j:=⟨i - f,by omega⟩
  exact set4_in M l f j (by omega) hl hM
def layR (M : List UInt8) (r : Rw) (W : Int) (l : List UInt8) : Nat -> List UInt8
 | 0=>l
 | k + 1=>set4 M (layR M r W l k) (spotI r W k).toNat
@[simp] theorem layR_length (M : List UInt8) (r : Rw) (W : Int) (l : List UInt8) : ∀ k,(layR M r W l k).length = l.length
  | 0=>rfl
  | k + 1=>by rw [layR,set4_length,layR_length M r W l k]
theorem layR_agr {M : List UInt8} {r : Rw} {W H : Int} {l : List UInt8} (h : RwOk r W H) (hW : W <= 16384) (hH : H <= 16384) (hn : (M.length : Int) = 4 * (W * H)) (hl : l.length = M.length) : ∀ k : Nat,(k : Int) <= r.w ->
 (∀ i : Nat,l[i]? = M[i]? -> (layR M r W l k)[i]? = M[i]?) /\ ∀ x j : Nat,x < k -> j < 4 -> (layR M r W l k)[(spotI r W x).toNat + j]? = M[(spotI r W x).toNat + j]?
 | 0,_=>⟨fun _ h=>h,fun x j hx _=>absurd hx (Nat.not_lt_zero x)⟩
 | k + 1,hk=>by
   obtain ⟨h1,h2⟩:=layR_agr h hW hH hn hl k (by omega)
   have hs:=spot_in h hW hH k (by omega)
   have hf : (spotI r W k).toNat + 4 <= M.length:=by omega
   have hf2 : (spotI r W k).toNat + 4 <= (layR M r W l k).length:=by rw [layR_length]; omega
   refine ⟨fun i hi=>set4_agr _ _ _ _ hf2 hf (h1 i hi),fun x j hx hj=>?_⟩
   by_cases e : x = k
   ·subst e
    exact set4_in _ _ _ _ hj hf2 hf
   ·exact set4_agr _ _ _ _ hf2 hf (h2 x j (by omega) hj)
set_option maxRecDepth 100000 in
set_option maxHeartbeats 4000000 in
theorem pngLay_any (g f n cc k c2 B : Nat) (M l : List UInt8) (w : World) (ho : w.ownsRow B 5 1 (.slice (some ⟨g,0,none⟩) n cc) n (bvals l)) (hl : l.length = n) (hp : f + 4 <= n) (hk : 4 <= k) :
 Calls Tryz.prog 105 #[.slice (some ⟨g,f,none⟩) k c2,.agg #[.int .u8 ((M.getD f 0).toNat : Int),.int .u8 ((M.getD (f + 1) 0).toNat : Int),.int .u8 ((M.getD (f + 2) 0).toNat : Int),.int .u8 ((M.getD (f + 3) 0).toNat : Int)]] w fun e w'=>e = .returned (.tuple #[]) /\ w'.ownsRow B 5 1 (.slice (some ⟨g,0,none⟩) n cc) n (bvals (set4 M l f)) /\ Only [g] w w':=by
 obtain ⟨g',hg',hgB,hlt,hfr,hcell⟩:=own_open ho (by omega)
 obtain rfl : g = g':=by injection hg' with h; injection h
 have hput : bvals (set4 M l f) = ((((bvals l).set f (.int .u8 ((M.getD f 0).toNat : Int))).set (f + 1) (.int .u8 ((M.getD (f + 1) 0).toNat : Int))).set (f + 2) (.int .u8 ((M.getD (f + 2) 0).toNat : Int))).set (f + 3) (.int .u8 ((M.getD (f + 3) 0).toNat : Int)):=by
  unfold set4 bvals
  simp only [List.map_set]
 rw [hput]
 generalize (M.getD f 0).toNat = z0 at *
 generalize (M.getD (f + 1) 0).toNat = z1 at *
 generalize (M.getD (f + 2) 0).toNat = z2 at *
 generalize (M.getD (f + 3) 0).toNat = z3 at *
 have e0:=hcell f _ (bvals_get l f (by omega))
 have e1:=hcell (f + 1) _ (bvals_get l (f + 1) (by omega))
 have e2:=hcell (f + 2) _ (bvals_get l (f + 2) (by omega))
 have e3:=hcell (f + 3) _ (bvals_get l (f + 3) (by omega))
 generalize (l[f]'(by omega)).toNat = y0 at *
 generalize (l[f + 1]'(by omega)).toNat = y1 at *
 generalize (l[f + 2]'(by omega)).toNat = y2 at *
 generalize (l[f + 3]'(by omega)).toNat = y3 at *
 have o1 : Only [] w (w.alloc (.cells #[.int .u8 (z0 : Int),.int .u8 (z1 : Int),.int .u8 (z2 : Int),.int .u8 (z3 : Int)] 177)):=(Only.refl [] w).alloc _
 have hc1 : Has (w.alloc (.cells #[.int .u8 (z0 : Int),.int .u8 (z1 : Int),.int .u8 (z2 : Int),.int .u8 (z3 : Int)] 177)) w.heap.size 177 #[.int .u8 (z0 : Int),.int .u8 (z1 : Int),.int .u8 (z2 : Int),.int .u8 (z3 : Int)]:=Has.new w _ _
 have q0:=hc1.cell 0
 have q1:=hc1.cell 1
 have q2:=hc1.cell 2
 have q3:=hc1.cell 3
 have f0:=(o1.frozen (p:=⟨g,f,none⟩) hlt (by simp)).trans (hfr _)
 have f1:=(o1.frozen (p:=⟨g,f + 1,none⟩) hlt (by simp)).trans (hfr _)
 have f2:=(o1.frozen (p:=⟨g,f + 2,none⟩) hlt (by simp)).trans (hfr _)
 have f3:=(o1.frozen (p:=⟨g,f + 3,none⟩) hlt (by simp)).trans (hfr _)
 rw [<- o1.cell (p:=⟨g,f,none⟩) hlt (by simp)] at e0
 rw [<- o1.cell (p:=⟨g,f + 1,none⟩) hlt (by simp)] at e1
 rw [<- o1.cell (p:=⟨g,f + 2,none⟩) hlt (by simp)] at e2
 rw [<- o1.cell (p:=⟨g,f + 3,none⟩) hlt (by simp)] at e3
 simp only [List.getElem?_toArray,List.getElem?_cons_zero,List.getElem?_cons_succ] at q0 q1 q2 q3
 have ho1:=own_keep ho o1 (by simp)
 have j0 : 0 < k:=by omega
 have j1 : 1 < k:=by omega
 have j2 : 2 < k:=by omega
 have j3 : 3 < k:=by omega
 have HI:=hide (aI ho1 o1)
 clear ho hfr hcell hput ho1 hl hp hc1 o1
 go_enter Tryz.func105,Tryz.ntmps105
 go_wp2_with fail
 generalize w.alloc (.cells #[.int .u8 (z0 : Int),.int .u8 (z1 : Int),.int .u8 (z2 : Int),.int .u8 (z3 : Int)] 177) = w0 at *
 go_region
 go_wp2_with fail
 go_end0
 obtain ⟨h1,h2⟩:=HI.out
 refine ⟨rfl,?_,((((h2.of_nil (T:=[g])).setCell (by simp) _).setCell (by simp) _).setCell (by simp) _).setCell (by simp) _ |>.drew⟩
 exact own_set (own_set (own_set (own_set h1 _ _) _ _) _ _) _ _
theorem pickL_at {M : List UInt8} {r : Rw} {W H : Int} (h : RwOk r W H) (hW : W <= 16384) (hH : H <= 16384) (hn : (M.length : Int) = 4 * (W * H)) : ∀ k : Nat,(k : Int) <= r.w -> ∀ x j : Nat,x < k -> j < 4 -> (pickL M r W k)[4 * x + j]? = M[(spotI r W x).toNat + j]?
 | 0,_,x,_,hx,_=>absurd hx (Nat.not_lt_zero x)
 | k + 1,hk,x,j,hx,hj=>by
   have hl:=pickL_length h hW hH hn k (by omega)
   rw [pickL_succ]
   by_cases e : x = k
   ·subst e
    rw [List.getElem?_append_right (by omega),hl,List.getElem?_take,if_pos (by omega),List.getElem?_drop]
    congr 1
    omega
   ·rw [List.getElem?_append_left (by omega)]
    exact pickL_at h hW hH hn k (by omega) x j (by omega) hj
theorem ints_elem : Tryz.prog.underlying 175 = some (.slice (Tryz.prog.elem 175)):=by kernel_rfl
theorem ints_size (w : World) : (sizeOf (Tryz.prog.elem 175)).run Tryz.prog w = .ok 1 w:=by kernel_rfl
theorem run_ints' (A : Addr) (n c f k : Nat) (h : f + k <= c) (h0 : 0 < k) (zf z : Int) (hzf : zf = f) (hz : z = ((f + k : Nat) : Int)) (w : World) :
 (Instr.slice 175 (.slice (some A) n c) (some (.int .i64 zf)) (some (.int .i64 z)) (some (.int .i64 z))).run Tryz.prog w = .ok (.slice (some (A.add f)) k k) w:=by
 subst hz hzf
 rw [run_slice_lhm (w:=w) 175 (some A) n c ints_elem .i64 .i64 .i64 (f : Int) ((f + k : Nat) : Int) ((f + k : Nat) : Int) (by omega) (by omega) (by omega) (by omega),ints_size]
 simp only [Result.andThen_ok,sliced,Int.toNat_natCast,Nat.mul_one]
 rw [if_neg (by omega),show f + k - f = k by omega]
 rfl
theorem smps_four {M : List UInt8} {r : Rw} {W H : Int} (h : RwOk r W H) (hW : W <= 16384) (hH : H <= 16384) (hn : (M.length : Int) = 4 * (W * H)) (x : Nat) (hx : (x : Int) < r.w) :
 ((smps (pickL M r W r.w.toNat) 8 (4 * r.w.toNat)).drop (4 * x)).take 4 = [(M.getD (spotI r W x).toNat 0).toNat,(M.getD ((spotI r W x).toNat + 1) 0).toNat,(M.getD ((spotI r W x).toNat + 2) 0).toNat,(M.getD ((spotI r W x).toNat + 3) 0).toNat]:=by
 have hL : ∀ j,j < 4 -> (smps (pickL M r W r.w.toNat) 8 (4 * r.w.toNat))[4 * x + j]? = some (M.getD ((spotI r W x).toNat + j) 0).toNat:=fun j hj=>by
  unfold smps
  rw [List.getElem?_map,List.getElem?_range (by omega)]
  simp only [Option.map_some]
  rw [smp_8]
  congr 2
  rw [List.getD_eq_getElem?_getD,List.getD_eq_getElem?_getD,pickL_at h hW hH hn r.w.toNat (by omega) x j (by omega) hj]
 generalize (spotI r W x).toNat = F at *
 have h0:=hL 0 (by omega)
 have h1:=hL 1 (by omega)
 have h2:=hL 2 (by omega)
 have h3:=hL 3 (by omega)
 apply List.ext_getElem?
 intro i
 rw [List.getElem?_take,List.getElem?_drop]
 match i with
 | 0=>exact h0
 | 1=>exact h1
 | 2=>exact h2
 | 3=>exact h3
 | i + 4=>rw [if_neg (by omega)]; rfl
structure DrSt (w : World) (g n c B gd N4 : Nat) (W H : Int) (r : Rw) (M old : List UInt8) (As : Option Addr) (sm : List Nat) (k : Nat) (wr : World) : Prop where
 mat : Has wr w.heap.size 24 #[.int .i64 W,.int .i64 H,.slice (some ⟨g,0,none⟩) n c]
 row : Has wr (w.heap.size + 1) 49 r.cells
 dep : Has wr gd 3 #[.int .i64 8]
 sam : Holds wr 1 As N4 (svals sm)
 off : ∀ ad,As = some ad -> ad.block ≠ g
 img : wr.ownsRow B 5 1 (.slice (some ⟨g,0,none⟩) n c) n (bvals (layR M r W old k))
 only : Only [g] w wr
 lt : g < w.heap.size /\ g ≠ gd
theorem DrSt.keep {w : World} {g n c B gd N4 : Nat} {W H : Int} {r : Rw} {M old : List UInt8} {As : Option Addr} {sm : List Nat} {k : Nat} {wr w' : World} (S : DrSt w g n c B gd N4 W H r M old As sm k wr) (ho : Only [] wr w') : DrSt w g n c B gd N4 W H r M old As sm k w' :=
 ⟨S.mat.only ho (by simp),S.row.only ho (by simp),S.dep.only ho (by simp),S.sam.keep ho (by simp),S.off,own_keep S.img ho (by simp),S.only.trans ho (by simp),S.lt⟩
theorem DrSt.lay {w : World} {g n c B gd N4 : Nat} {W H : Int} {r : Rw} {M old : List UInt8} {As : Option Addr} {sm : List Nat} {k : Nat} {wr w' : World} (S : DrSt w g n c B gd N4 W H r M old As sm k wr) (ho : Only [g] wr w') (hi : w'.ownsRow B 5 1 (.slice (some ⟨g,0,none⟩) n c) n (bvals (layR M r W old (k + 1)))) :
 DrSt w g n c B gd N4 W H r M old As sm (k + 1) w' :=
 ⟨S.mat.only ho (by have:=S.lt; simp; omega),S.row.only ho (by have:=S.lt; simp; omega),S.dep.only ho (by have:=S.lt; simp; omega),S.sam.keep ho (fun ad ha _=>by have:=S.off ad ha; simp; omega),S.off,hi,S.only.trans ho (by simp),S.lt⟩
set_option maxRecDepth 100000 in
set_option maxHeartbeats 16000000 in
theorem draw4_any (r : Rw) (W H l : Int) (g gd B n c k cb : Nat) (Ab : Option Addr) (M old : List UInt8) (w : World) (h : RwOk r W H) (hW : W <= 16384) (hH : H <= 16384) (hM : M.length = n) (hn : (n : Int) = 4 * (W * H)) (hc : n <= c) (hol : old.length = n)
 (hi : w.ownsRow B 5 1 (.slice (some ⟨g,0,none⟩) n c) n (bvals old)) (hg : g < w.heap.size) (hk : k = 4 * r.w.toNat) (hb : Holds w 1 Ab k (bvals (pickL M r W r.w.toNat))) (hd : Has w gd 3 #[.int .i64 8]) (hgd : g ≠ gd) :
 Calls Tryz.prog 56 #[mval W H (some ⟨g,0,none⟩) n c,r.val,.agg #[.int .i64 W,.int .i64 H,.int .i64 8,.int .i64 6,.int .i64 l],.slice Ab k cb,.func (.func 103) #[] #[.pointer (some ⟨gd,0,none⟩)]] w fun e w' =>
  e = .returned (.bool true) /\ w'.ownsRow B 5 1 (.slice (some ⟨g,0,none⟩) n c) n (bvals (layR M r W old r.w.toNat)) /\ Only [g] w w':=by
 have hw0:=h.w0
 obtain ⟨N,hN⟩ : ∃ N,N = r.w.toNat:=⟨_,rfl⟩
 have hNw : r.w = (N : Int):=by omega
 obtain ⟨N4,hN4⟩ : ∃ N4,N4 = 4 * N:=⟨_,rfl⟩
 have hm4 : wrap64 ((N : Int) * 4) = (N4 : Int):=by unfold wrap64; omega
 have hpl : (pickL M r W N).length = k:=by have:=hb.1; rw [bvals_length,<- hN] at this; omega
 have hse : sErr 8 (N4 : Int) k = 0:=by
  unfold sErr
  rw [if_pos ⟨by decide,by omega⟩,if_neg (fun e=>by have e : 8 * k / 8 < N4:=e; omega)]
 have hsr : smR (pickL M r W N) 8 (N4 : Int) = smps (pickL M r W N) 8 N4:=by
  unfold smR
  rw [hpl,hse,if_pos rfl]
  rfl
 rw [<- hN] at hb ⊢
 obtain ⟨sm,hsm⟩ : ∃ sm,sm = smps (pickL M r W N) 8 N4:=⟨_,rfl⟩
 have hsl : sm.length = N4:=by rw [hsm,smps_length]
 have h4 : ∀ x : Nat,x < N -> (sm.drop (4 * x)).take 4 = [(M.getD (spotI r W x).toNat 0).toNat,(M.getD ((spotI r W x).toNat + 1) 0).toNat,(M.getD ((spotI r W x).toNat + 2) 0).toNat,(M.getD ((spotI r W x).toNat + 3) 0).toNat]:=fun x hx=>by
  have:=smps_four h hW hH (by rw [hM]; exact hn) x (by omega)
  rw [<- hN,<- hN4,<- hsm] at this
  exact this
 have HSa:=hide (fun (x : World) (hx : Only [] w x)=>samples_any 8 (N4 : Int) Ab k cb (pickL M r W N) x (hb.keep hx (by simp)) hpl (by omega))
 rw [hse,hsr,<- hsm,hsl] at HSa
 have HSm:=hide (fun x : World=>pSamples_any 6 x)
 rw [show smpV 6 = 4 from rfl] at HSm
 have HSp:=hide (fun (x : Nat) (hx : (x : Int) < r.w) (w : World)=>spot_any r W H ⟨g,0,none⟩ n c x w h hW hH hx hn hc)
 have HIn:=hide (fun (x : Nat) (hx : (x : Int) < r.w)=>spot_in h hW hH x hx)
 have ho3 : Only [] w (((w.alloc (.cells #[.int .i64 W,.int .i64 H,.slice (some ⟨g,0,none⟩) n c] 24)).alloc (.cells r.cells 49)).alloc (.cells #[.int .i64 W,.int .i64 H,.int .i64 8,.int .i64 6,.int .i64 l] 36)):=(((Only.refl [] w).alloc _).alloc _).alloc _
 have hr1:=(Has.new (w.alloc (.cells #[.int .i64 W,.int .i64 H,.slice (some ⟨g,0,none⟩) n c] 24)) 49 r.cells).alloc (.cells #[.int .i64 W,.int .i64 H,.int .i64 8,.int .i64 6,.int .i64 l] 36)
 have hh1:=Has.new ((w.alloc (.cells #[.int .i64 W,.int .i64 H,.slice (some ⟨g,0,none⟩) n c] 24)).alloc (.cells r.cells 49)) 36 #[.int .i64 W,.int .i64 H,.int .i64 8,.int .i64 6,.int .i64 l]
 have hm1:=((Has.new w 24 #[.int .i64 W,.int .i64 H,.slice (some ⟨g,0,none⟩) n c]).alloc (.cells r.cells 49)).alloc (.cells #[.int .i64 W,.int .i64 H,.int .i64 8,.int .i64 6,.int .i64 l] 36)
 simp only [World.size_alloc] at hr1 hh1
 have hag : ∀ x : Nat,x < N -> (spotI r W x).toNat + 4 <= n:=fun x hx=>by have:=spot_in h hW hH x (by omega); omega
 have HA:=hide (aI h4 (aI hag (aI hol (aI hw0 (aI hi (aI hd (aI hsl (aI hg hgd))))))))
 have HM:=hide (aI hm1 hr1)
 have HK:=hide ho3
 clear hm1 hr1 ho3 h4 hag hol hw0 hi hd hsl hsm hse hsr hpl hb hM hn hc hk hW hH h hg hgd
 obtain ⟨rX,rY,rDX,rDY,ry,rn⟩:=r
 have hNw : rn = (N : Int):=hNw
 subst hNw
 unfold mval Rw.val
 dsimp only [Rw.cells] at HM HK hh1
 have t3:=hh1.cell 3
 have t2:=hh1.cell 2
 have u5 : World.cell? _ ⟨w.heap.size + 1,5,none⟩ = some (.int .i64 (N : Int)):=HM.out.2.cell 5
 simp only [List.getElem?_toArray,List.getElem?_cons_zero,List.getElem?_cons_succ] at t2 t3
 have HHd:=hide hh1
 have HN4:=hide hN4
 clear hh1 hN hN4
 go_enter Tryz.func56,Tryz.ntmps56
 go_wp2_with fail
 refine (HSm.out _).mono ?_
 rintro e x ⟨rfl,rfl⟩
 go_wp2_with fail
 refine (HSa.out _ HK.out).mono ?_
 rintro e w2 ⟨v,rfl,hown,ho2⟩
 obtain ⟨As,cs,rfl,hcs,_⟩:=own_shape hown
 have u5b : World.cell? w2 ⟨w.heap.size + 1,5,none⟩ = some (.int .i64 (N : Int)):=(HM.out.2.only ho2 (by simp)).cell 5
 have hsz:=HK.out.size
 have S0 : DrSt w g n c B gd N4 W H ⟨rX,rY,rDX,rDY,ry,(N : Int)⟩ M old As sm 0 w2:=by
  have hw2:=HK.out.trans ho2 (S:=[]) (by simp)
  refine ⟨HM.out.1.only ho2 (by simp),HM.out.2.only ho2 (by simp),HA.out.2.2.2.2.2.1.only hw2 (by simp),Holds.of_own hown,fun ad ha=>?_,own_keep HA.out.2.2.2.2.1 hw2 (by simp),hw2.of_nil,HA.out.2.2.2.2.2.2.2.1,HA.out.2.2.2.2.2.2.2.2⟩
  subst ha
  have:=(own_at hown (b:=ad.block) rfl).1
  have:=HA.out.2.2.2.2.2.2.2.1
  omega
 have HS0:=hide (aI S0 hcs)
 clear S0 hown ho2 hcs hsz t2 t3 u5 HSa HSm
 go_wp2_with fail
 go_loopw [35] (fun vx wr=>∃ k : Nat,k <= N /\ vx = .int .i64 (k : Int) /\ DrSt w g n c B gd N4 W H ⟨rX,rY,rDX,rDY,ry,(N : Int)⟩ M old As sm k wr) (fun vx _=>N - (intOf vx).toNat)
 case atStart=>exact ⟨0,Nat.zero_le _,rfl,HS0.out.1⟩
 case round =>
  obtain ⟨k,hk,rfl,S⟩:=hrel
  by_cases hlt : k < N
  ·have hlt' : (k : Int) < (N : Int):=by omega
   have hw1 : wrap64 ((k : Int) * 4) = ((4 * k : Nat) : Int):=by have:=HA.out.2.2.2.1; unfold wrap64; omega
   have hw2 : wrap64 ((k : Int) + 1) = ((k + 1 : Nat) : Int):=by have:=HA.out.2.2.2.1; unfold wrap64; omega
   have hw3 : wrap64 (((k + 1 : Nat) : Int) * 4) = ((4 * k + 4 : Nat) : Int):=by have:=HA.out.2.2.2.1; unfold wrap64; omega
   obtain ⟨b0,o0,rfl,_⟩:=S.sam.addr (by rw [svals_length,HA.out.2.2.2.2.2.2.1]; have:=HN4.out; omega)
   have hcut:=S.sam.cut (f:=4 * k) (m:=4) (by have:=HN4.out; omega)
   rw [Nat.mul_one,Nat.mul_one] at hcut
   have hcut4 : Holds wr 1 (some ((⟨b0,o0,none⟩ : Addr).add (4 * k))) 4 (svals [(M.getD (spotI ⟨rX,rY,rDX,rDY,ry,(N : Int)⟩ W k).toNat 0).toNat,(M.getD ((spotI ⟨rX,rY,rDX,rDY,ry,(N : Int)⟩ W k).toNat + 1) 0).toNat,(M.getD ((spotI ⟨rX,rY,rDX,rDY,ry,(N : Int)⟩ W k).toNat + 2) 0).toNat,(M.getD ((spotI ⟨rX,rY,rDX,rDY,ry,(N : Int)⟩ W k).toNat + 3) 0).toNat]):=by
    rw [<- HA.out.1 k hlt]
    unfold svals at hcut ⊢
    rw [List.map_take,List.map_drop]
    exact hcut
   obtain ⟨F,hF⟩ : ∃ F,F = (spotI ⟨rX,rY,rDX,rDY,ry,(N : Int)⟩ W k).toNat:=⟨_,rfl⟩
   rw [<- hF] at hcut4
   have l0:=(M.getD F 0).toNat_lt
   have l1:=(M.getD (F + 1) 0).toNat_lt
   have l2:=(M.getD (F + 2) 0).toNat_lt
   have l3:=(M.getD (F + 3) 0).toNat_lt
   obtain ⟨p0,hp0⟩ : ∃ p,p = (M.getD F 0).toNat:=⟨_,rfl⟩
   obtain ⟨p1,hp1⟩ : ∃ p,p = (M.getD (F + 1) 0).toNat:=⟨_,rfl⟩
   obtain ⟨p2,hp2⟩ : ∃ p,p = (M.getD (F + 2) 0).toNat:=⟨_,rfl⟩
   obtain ⟨p3,hp3⟩ : ∃ p,p = (M.getD (F + 3) 0).toNat:=⟨_,rfl⟩
   rw [<- hp0,<- hp1,<- hp2,<- hp3] at hcut4
   rw [<- hp0] at l0
   rw [<- hp1] at l1
   rw [<- hp2] at l2
   rw [<- hp3] at l3
   have HC:=hide (col4_any ((⟨b0,o0,none⟩ : Addr).add (4 * k)) 4 gd p0 p1 p2 p3 l0 l1 l2 l3 wr hcut4 S.dep)
   have hsl:=run_ints' ⟨b0,o0,none⟩ N4 cs (4 * k) 4 (by have:=HN4.out; have:=HS0.out.2; omega) (by omega) ((4 * k : Nat) : Int) ((4 * k + 4 : Nat) : Int) rfl rfl
   have HS:=hide (aI S hF)
   have HP:=hide (aI hp0 (aI hp1 (aI hp2 hp3)))
   clear S hcut hcut4 hF l0 l1 l2 l3 hp0 hp1 hp2 hp3
   obtain ⟨ad,had⟩ : ∃ ad,ad = (⟨b0,o0,none⟩ : Addr).add (4 * k):=⟨_,rfl⟩
   rw [<- had] at hsl HC
   obtain ⟨z1,hz1⟩ : ∃ z : Int,z = ((4 * k : Nat) : Int):=⟨_,rfl⟩
   obtain ⟨z2,hz2⟩ : ∃ z : Int,z = ((4 * k + 4 : Nat) : Int):=⟨_,rfl⟩
   obtain ⟨z3,hz3⟩ : ∃ z : Int,z = ((k + 1 : Nat) : Int):=⟨_,rfl⟩
   rw [<- hz1] at hw1 hsl
   rw [<- hz2] at hw3 hsl
   rw [<- hz3] at hw2 hw3
   have HZ3:=hide hz3
   clear hz1 hz2 hz3 had
   go_wp2_with fail
   refine (HC.out).mono ?_
   rintro e w3 ⟨rfl,ho3⟩
   have S3:=HS.out.1.keep ho3
   have ho4:=(Only.refl [] w3).alloc (.cells #[.int .u8 (p0 : Int),.int .u8 (p1 : Int),.int .u8 (p2 : Int),.int .u8 (p3 : Int)] 177)
   have hbx:=Has.new w3 177 #[.int .u8 (p0 : Int),.int .u8 (p1 : Int),.int .u8 (p2 : Int),.int .u8 (p3 : Int)]
   have S4:=S3.keep ho4
   have H4:=hide (aI S4 (aI hbx HS.out.2))
   clear S3 S4 hbx ho3 ho4 hsl hw1 hw2 hw3 HC
   go_wp2_with fail
   have m0:=later_cell (show World.cell? _ ⟨w.heap.size,0,none⟩ = some (.int .i64 W) from H4.out.1.mat.cell 0)
   have m1:=later_cell (show World.cell? _ ⟨w.heap.size,1,none⟩ = some (.int .i64 H) from H4.out.1.mat.cell 1)
   have m2:=later_cell (show World.cell? _ ⟨w.heap.size,2,none⟩ = some (.slice (some ⟨g,0,none⟩) n c) from H4.out.1.mat.cell 2)
   have x0:=later_cell (show World.cell? _ ⟨w.heap.size + 1,0,none⟩ = some (.int .i64 rX) from H4.out.1.row.cell 0)
   have x1:=later_cell (show World.cell? _ ⟨w.heap.size + 1,1,none⟩ = some (.int .i64 rY) from H4.out.1.row.cell 1)
   have x2:=later_cell (show World.cell? _ ⟨w.heap.size + 1,2,none⟩ = some (.int .i64 rDX) from H4.out.1.row.cell 2)
   have x3:=later_cell (show World.cell? _ ⟨w.heap.size + 1,3,none⟩ = some (.int .i64 rDY) from H4.out.1.row.cell 3)
   have x4:=later_cell (show World.cell? _ ⟨w.heap.size + 1,4,none⟩ = some (.int .i64 (ry : Int)) from H4.out.1.row.cell 4)
   have x5:=later_cell (show World.cell? _ ⟨w.heap.size + 1,5,none⟩ = some (.int .i64 (N : Int)) from H4.out.1.row.cell 5)
   have q0:=later_cell (show World.cell? _ ⟨w3.heap.size,0,none⟩ = some (.int .u8 (p0 : Int)) from H4.out.2.1.cell 0)
   have q1:=later_cell (show World.cell? _ ⟨w3.heap.size,1,none⟩ = some (.int .u8 (p1 : Int)) from H4.out.2.1.cell 1)
   have q2:=later_cell (show World.cell? _ ⟨w3.heap.size,2,none⟩ = some (.int .u8 (p2 : Int)) from H4.out.2.1.cell 2)
   have q3:=later_cell (show World.cell? _ ⟨w3.heap.size,3,none⟩ = some (.int .u8 (p3 : Int)) from H4.out.2.1.cell 3)
   have HC:=hide (HSp.out k hlt')
   unfold mval Rw.val at HC
   dsimp only at HC
   rw [<- H4.out.2.2] at HC
   refine region_later_tail 5 (by kernel_rfl) (by kernel_rfl) ?_
   simp only [List.take_succ_cons,List.take_zero,List.drop_succ_cons,List.drop_zero]
   iterate 3 (go_big_quiet_step (fail))
   go_big_quiet_step ((go_at_call 71; refine later_of (HC.out _)))
   iterate 1 (go_big_quiet_step (fail))
   refine wpQuiet_nil ?_
   rintro _ ⟨X,rfl⟩
   change wpList _ _ _ _ _ X.val
   have hFn : F + 4 <= n:=by rw [H4.out.2.2]; exact HA.out.2.1 k hlt
   have HL:=hide (pngLay_any g F n c 4 4 B M (layR M ⟨rX,rY,rDX,rDY,ry,(N : Int)⟩ W old k) X.val (own_keep H4.out.1.img X.only (by simp)) (by rw [layR_length]; exact HA.out.2.2.1) hFn (Nat.le_refl _))
   rw [<- HP.out.1,<- HP.out.2.1,<- HP.out.2.2.1,<- HP.out.2.2.2] at HL
   have hadd : (⟨g,0,none⟩ : Addr).add F = ⟨g,F,none⟩:=add_zero_of g F
   rw [hadd]
   clear m0 m1 m2 x0 x1 x2 x3 x4 x5 q0 q1 q2 q3 HC hFn hadd
   go_wp2_with fail
   refine (HL.out).mono ?_
   rintro e w5 ⟨rfl,how5,ho5⟩
   have S5:=(H4.out.1.keep X.only).lay ho5 (by rw [layR,<- H4.out.2.2]; exact how5)
   have H5:=hide S5
   clear S5 how5 ho5 HL
   have hk1 : wrap64 ((k : Int) + 1) = ((k + 1 : Nat) : Int):=by have:=HA.out.2.2.2.1; unfold wrap64; omega
   go_wp2_with fail
   go_roundw
   case rel=>exact ⟨k + 1,hlt,by rw [hk1],H5.out⟩
   case measure=>rw [hk1]; simp [intOf]; omega
  ·obtain rfl : k = N:=by omega
   have hlt' : ¬ (k : Int) < (k : Int):=by omega
   have HSt:=hide S
   clear S
   go_wp2_with fail
   go_ret
   exact ⟨rfl,HSt.out.img,HSt.out.only⟩
end Go.Proofs.YtjfjmkkkbcgohaaGreatDoor
