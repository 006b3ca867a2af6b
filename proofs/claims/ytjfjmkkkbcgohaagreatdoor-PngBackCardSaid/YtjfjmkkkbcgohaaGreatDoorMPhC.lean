import Derived.Test.YtjfjmkkkbcgohaaGreatDoorMPhB
namespace Go.Proofs.YtjfjmkkkbcgohaaGreatDoor
open Go Go.RowKit Go.Shelf
attribute [local go_sem] Oper.semAt_some
set_option maxRecDepth 100000 in
set_option maxHeartbeats 16000000 in
theorem enc_any (W H q : Nat) (A : Addr) (n c : Nat) (M : List UInt8) (lace : Bool) (l : Int) (hl : l = if lace then 1 else 0) (pk : List UInt8) (w : World) (hW : 1 <= W /\ W <= 64) (hH : 1 <= H /\ H <= 64) (hq : q <= 4)
 (hb : Holds w 1 (some A) n (bvals M)) (hM : M.length = n) (hn : n = 4 * (W * H)) (hc : n <= c) (hpl : pk.length <= 90000)
 (hpk : ∀ (A1 : Option Addr) (n1 c1 : Nat) (w1 : World),Holds w1 1 A1 n1 (bvals (rawB q M W H l)) -> (rawB q M W H l).length = n1 -> n1 <= c1 -> Calls Tryz.prog 18 #[.slice A1 n1 c1,.bool false] w1 fun e w'=>∃ v,e = .returned v /\ w'.ownsRow w1.heap.size 5 1 v pk.length (bvals pk) /\ Only [] w1 w') :
 Calls Tryz.prog 6 #[mval W H (some A) n c,.bool lace,.int .i64 (q : Int)] w fun e w'=>∃ A' n' c',e = .returned (.slice A' n' c') /\
  LySt w [⟨[73,72,68,82],headB W H 8 6 l.toNat⟩,⟨[73,68,65,84],pk⟩,⟨[73,69,78,68],[]⟩] 3 A' n' c' w':=by
 refine (callsIn_wide (n:=5)).1 ?_
 obtain ⟨i0,hi0,hi1,hi2,hi3⟩:=info_of u8_info
 have hz0:=hi1
 have hz1:=hi2
 have hz2:=hi3
 clear hi1 hi2 hi3
 have hr : rightB W H n = true:=okM.right ⟨.inr ⟨by omega,by omega,by omega,by omega,by
  have : W * H <= 64 * 64:=Nat.mul_le_mul hW.2 hH.2
  omega⟩,hn⟩
 have HR:=hide (fun w=>by have:=right_any W H (some A) n c w; rw [hr] at this; exact this)
 have HB:=hide (aI hb (aI hM (aI hn (aI hc (aI hW (aI hH hq))))))
 have HPk:=hide (aI hpk hpl)
 have HRS:=hide (fun w=>rawSize_any W H 8 6 l w)
 have hz0 : 0 <= rawZ W H 8 6 l /\ rawZ W H 8 6 l <= 140737488355328:=by
  have h1:=rawS_range (smpV 6) 8 (rowsL W H l)
  have h2:=rowsL_length W H l
  unfold rawZ
  omega
 obtain ⟨N,hN⟩ : ∃ N : Nat,rawZ W H 8 6 l = (N : Int):=⟨(rawZ W H 8 6 l).toNat,by omega⟩
 rw [hN] at HRS
 obtain ⟨zs,hzs,hmk⟩:=run_make0 N (by omega) (N : Int) rfl
 have HD:=hide (fun w=>doer_any W H q l A n c w)
 have HRw:=hide (fun w=>rowsMk W H 8 6 l w)
 have hw0 : ((W : Int) == 0) = false:=by
  have : ¬ (W : Int) = 0:=by omega
  simpa using this
 have hk0 : ¬ (q : Int) < 0:=by omega
 have hk4 : ¬ (4 : Int) < (q : Int):=by omega
 have m1:=Has.new w 24 #[.int .i64 (W : Int),.int .i64 (H : Int),.slice (some A) n c]
 have c0:=m1.cell 0
 have c1:=m1.cell 1
 have c2:=m1.cell 2
 simp only [List.getElem?_toArray,List.getElem?_cons_zero,List.getElem?_cons_succ] at c0 c1 c2
 have o1 : Only [] w (w.alloc (.cells #[.int .i64 (W : Int),.int .i64 (H : Int),.slice (some A) n c] 24)):=(Only.refl [] w).alloc _
 have H1:=hide (aI m1 o1)
 have HN:=hide (aI hN (aI hzs hz0))
 have HL:=hide hl
 clear m1 o1 hb hM hn hc hW hH hq hpk hpl hr hN hzs hz0 hl
 unfold mval
 refine callsIn_of_wp_marks Tryz.func6 rfl trivial ?_ rfl
 simp only [Tryz.ntmps6,List.size_toArray,List.length_cons,List.length_nil,Nat.reduceAdd,Nat.reduceSub,Array.replicate_succ,Array.replicate_zero,List.push_toArray,List.append_toArray,List.nil_append,List.cons_append]
 gi_wp2_with (refine ⟨trivial,?_⟩; gi_at_call 12; refine (callsIn_wide.2 (HR.out _)).mono ?_; rintro e w1 ⟨rfl,ho1⟩; have m1:=H1.out.1.only ho1 (by simp); have o1:=H1.out.2.trans ho1 (S:=[]) (by simp); have c0:=m1.cell 0; have c1:=m1.cell 1; have c2:=m1.cell 2; simp only [List.getElem?_toArray,List.getElem?_cons_zero,List.getElem?_cons_succ] at c0 c1 c2; have H2:=hide (aI m1 o1); clear m1 o1 ho1)
 all_goals first
  | (have hlt : lace = true:=by assumption
     have hl1 : Value.int .i64 1 = .int .i64 l:=by rw [HL.out,hlt]; rfl
     rw [hl1]
     clear hl1)
  | (have hlt : lace = false:=by assumption
     have hl1 : Value.int .i64 0 = .int .i64 l:=by rw [HL.out,hlt]; rfl
     rw [hl1]
     clear hl1)
 all_goals
  refine ⟨trivial,?_⟩
  refine (callsIn_wide.2 (HRS.out _)).mono ?_
  rintro e w2 ⟨rfl,ho2⟩
  have hh2:=(Has.new w1 36 #[.int .i64 (W : Int),.int .i64 (H : Int),.int .i64 8,.int .i64 6,.int .i64 l]).only ho2 (by simp)
  have hm2:=(H2.out.1.alloc (.cells #[.int .i64 (W : Int),.int .i64 (H : Int),.int .i64 8,.int .i64 6,.int .i64 l] 36)).only ho2 (by simp)
  have o2 : Only [] w w2:=(H2.out.2.alloc (.cells #[.int .i64 (W : Int),.int .i64 (H : Int),.int .i64 8,.int .i64 6,.int .i64 l] 36)).trans ho2 (by simp)
  have ow2:=own_made0 w2 zs N HN.out.2.1 (by have:=HN.out.2.2; have:=HN.out.1; omega)
  have hr3:=Has.new (w2.alloc (.cells zs 5)) 22 #[.slice (some ⟨w2.heap.size,0,none⟩) 0 N]
  have hh3:=(hh2.alloc (.cells zs 5)).alloc (.cells #[.slice (some ⟨w2.heap.size,0,none⟩) 0 N] 22)
  have hm3:=(hm2.alloc (.cells zs 5)).alloc (.cells #[.slice (some ⟨w2.heap.size,0,none⟩) 0 N] 22)
  have ow3:=own_keep ow2 ((Only.refl [] (w2.alloc (.cells zs 5))).alloc (.cells #[.slice (some ⟨w2.heap.size,0,none⟩) 0 N] 22)) (by simp)
  have o3:=(o2.alloc (.cells zs 5)).alloc (.cells #[.slice (some ⟨w2.heap.size,0,none⟩) 0 N] 22)
  rw [World.size_alloc] at hr3
  have d0:=hm3.cell 0
  have d1:=hm3.cell 1
  have d2:=hm3.cell 2
  have e0:=hh3.cell 0
  have e1:=hh3.cell 1
  have e2:=hh3.cell 2
  have e3:=hh3.cell 3
  have e4:=hh3.cell 4
  simp only [List.getElem?_toArray,List.getElem?_cons_zero,List.getElem?_cons_succ] at d0 d1 d2 e0 e1 e2 e3 e4
  have hg1:=hh2.lt
  have H3:=hide (aI hr3 (aI hh3 (aI hm3 (aI ow3 (aI o3 (aI hg1 (aI o2.size (Nat.le_trans H2.out.2.size (Nat.le_refl _)))))))))
  clear hh2 hm2 o2 ow2 hr3 hh3 hm3 ow3 o3 ho2 c0 c1 c2 hg1
  gi_wp2_with (refine ⟨trivial,?_⟩; gi_at_call 14; refine (callsIn_wide.2 (HD.out _)).mono ?_; rintro e w4 ⟨ga,gm,gk,gh,rfl,hga,hbx,ho4⟩; have H4:=hide (aI hga (aI hbx ho4)); have hh5:=(H3.out.2.1.only ho4 (by simp)).alloc (.cells #[.func (.func 34) #[] #[.pointer (some ⟨ga,0,none⟩),.pointer (some ⟨gm,0,none⟩),.pointer (some ⟨gk,0,none⟩),.pointer (some ⟨gh,0,none⟩)]] 41); clear hga hbx ho4 d0 d1 d2 e0 e1 e2 e3 e4; have e0:=hh5.cell 0; have e1:=hh5.cell 1; have e2:=hh5.cell 2; have e3:=hh5.cell 3; have e4:=hh5.cell 4; simp only [List.getElem?_toArray,List.getElem?_cons_zero,List.getElem?_cons_succ] at e0 e1 e2 e3 e4; clear hh5)
  refine ⟨trivial,?_⟩
  refine (callsIn_wide.2 (HRw.out _)).mono ?_
  rintro e w6 ⟨rfl,rfl⟩
  clear e0 e1 e2 e3 e4 hmk hw0 hk0 hk4
  gi_wp2
  have hne8 : ga ≠ w2.heap.size + 1:=by have:=H4.out.1; simp only [World.size_alloc] at this; omega
  have hne7 : ga ≠ w1.heap.size:=by have:=H4.out.1; have:=H3.out.2.2.2.2.2.1; simp only [World.size_alloc] at *; omega
  have hnw : w.heap.size <= ga:=by have:=H4.out.1; have:=H3.out.2.2.2.2.2.2.1; simp only [World.size_alloc] at *; omega
  have hbx:=H4.out.2.1
  have o4 : Only [] w w4:=H3.out.2.2.2.2.1.trans H4.out.2.2 (by simp)
  have hn5:=Has.new w4 41 #[.func (.func 34) #[] #[.pointer (some ⟨ga,0,none⟩),.pointer (some ⟨gm,0,none⟩),.pointer (some ⟨gk,0,none⟩),.pointer (some ⟨gh,0,none⟩)]]
  have oX : Only [] w4 ((w4.alloc (.cells #[.func (.func 34) #[] #[.pointer (some ⟨ga,0,none⟩),.pointer (some ⟨gm,0,none⟩),.pointer (some ⟨gk,0,none⟩),.pointer (some ⟨gh,0,none⟩)]] 41)).alloc (.cells #[.int .i64 (W : Int),.int .i64 (H : Int),.int .i64 8,.int .i64 6,.int .i64 l] 36)):=((Only.refl [] w4).alloc _).alloc _
  have E0 : EnI w W H q A n c M l w1.heap.size (w2.heap.size + 1) w4.heap.size ga gm gk gh [] ((w4.alloc (.cells #[.func (.func 34) #[] #[.pointer (some ⟨ga,0,none⟩),.pointer (some ⟨gm,0,none⟩),.pointer (some ⟨gk,0,none⟩),.pointer (some ⟨gh,0,none⟩)]] 41)).alloc (.cells #[.int .i64 (W : Int),.int .i64 (H : Int),.int .i64 8,.int .i64 6,.int .i64 l] 36)):=by
   refine ⟨⟨some ⟨w2.heap.size,0,none⟩,N,(H3.out.1.only H4.out.2.2 (by simp)).only oX (by simp),own_mono (own_keep (own_keep H3.out.2.2.2.1 H4.out.2.2 (by simp)) oX (by simp)) H3.out.2.2.2.2.2.2.1,(hbx _).keep0 oX⟩,hn5.alloc _,(H3.out.2.1.only H4.out.2.2 (by simp)).only oX (by simp),o4.trans oX (by simp)⟩
  have hb6:=Has.new (w4.alloc (.cells #[.func (.func 34) #[] #[.pointer (some ⟨ga,0,none⟩),.pointer (some ⟨gm,0,none⟩),.pointer (some ⟨gk,0,none⟩),.pointer (some ⟨gh,0,none⟩)]] 41)) 36 #[.int .i64 (W : Int),.int .i64 (H : Int),.int .i64 8,.int .i64 6,.int .i64 l]
  rw [World.size_alloc] at hb6
  generalize (w4.alloc (.cells #[.func (.func 34) #[] #[.pointer (some ⟨ga,0,none⟩),.pointer (some ⟨gm,0,none⟩),.pointer (some ⟨gk,0,none⟩),.pointer (some ⟨gh,0,none⟩)]] 41)).alloc (.cells #[.int .i64 (W : Int),.int .i64 (H : Int),.int .i64 8,.int .i64 6,.int .i64 l] 36) = w6 at *
  have HP:=hide (rows_pre W H 8 6 l _ w6 hb6)
  have HE0:=hide E0
  clear hbx o4 hn5 oX hb6 E0
  refine range_pre (gf:=38) (lb:=#[.pointer (some ⟨w4.heap.size + 1,0,none⟩)]) rfl (enters_of Tryz.func38 (by kernel_rfl) rfl) HP.out (Below.refl _ _) (fun h k=>RowsK.trans h k) (fun W l o o' h ho=>RowsK.put W l o o' h ho)
   (EnI w W H q A n c M l w1.heap.size (w2.heap.size + 1) w4.heap.size ga gm gk gh) (fun _ _ _=>False) (ownFrom_enI HE0.out.only.size) (fun _=>ownFrom_const _) HE0.out
   (fun x a' X=>∃ Bx,Has X Bx 49 x.cells /\ EncFr w1.heap.size (w2.heap.size + 1) w4.heap.size Bx a') (fun x a'=>ownFrom_ex fun Bx=>OwnFrom.and (ownFrom_has _ _ _) (ownFrom_const _)) ?assign ?body ?done ?stop
  case assign =>
   intro la pre x X K hpre hi hK
   unfold Rw.val
   gi_wp2
   have hnew:=Has.new X 49 x.cells
   have ho:=(Only.refl [] X).alloc (.cells x.cells 49)
   exact hK _ _ (keepsFrom_only ho (by simp)) (RowsK.only ho (by simp)) (ownFrom_enI (Nat.le_refl _) _ _ _ none hi ho.grow (fun r e=>by cases e)) ⟨_,hnew,⟨_,_,_,_,_,_,_,_,_,_,_,_,_,_,_,_,_,_,_,_,_,_,_,_,_,_,_,_,_,_,_,_,_,_,_,_,_,_,_,_,_,_,_,_,_,_,_,_,_,_,_,_,rfl⟩⟩
  case body =>
   rintro la pre x a' X hpre S ⟨Bx,hx,hfr⟩
   unfold EncFr at hfr
   obtain ⟨u0,u1,u2,u3,u4,u5,u6,u11,u12,u13,u14,u15,u16,u17,u18,u19,u20,u21,u22,u23,u24,u25,u26,u27,u28,u29,u30,u31,u32,u33,u34,u35,u36,u37,u38,u39,u40,u41,u42,u43,u44,u45,u46,u47,u48,u49,u50,u51,u52,u53,u54,u55,rfl⟩:=hfr
   obtain ⟨s,z,Ar,cr,Z,hZe,hsp,hsn,hlen,hraw,hown,hbox,hcall⟩:=enI_call S hpre HB hnw
   have HD2:=hide hcall
   obtain ⟨rX,rY,rDX,rDY,ry,rn⟩:=x
   have hx : Has X Bx 49 #[.int .i64 rX,.int .i64 rY,.int .i64 rDX,.int .i64 rDY,.int .i64 (ry : Int),.int .i64 rn]:=hx
   unfold Rw.val at HD2
   have hga:=hbox.ahead
   have hB1 : ∃ Aa ca,Has X ga 22 #[.slice Aa s.2.length ca]:=by obtain ⟨Aa,ca,h1,_⟩:=hga; exact ⟨Aa,ca,h1⟩
   obtain ⟨Aa,ca,hgaX⟩:=hB1
   have hBx : Bx ∉ [ga]:=by simpa using has_ne hx hgaX (by decide)
   have hg9 : w4.heap.size ∉ [ga]:=by simpa using has_ne S.fn hgaX (by decide)
   have hg8 : w2.heap.size + 1 ∉ [ga]:=by simpa using Ne.symm hne8
   have n8:=FW.later_cell (w:=(X,[ga],3)) (hraw.cell 0) hg8
   have n9:=FW.later_cell (w:=(X,[ga],3)) (S.fn.cell 0) hg9
   have x0:=FW.later_cell (w:=(X,[ga],3)) (hx.cell 0) hBx
   have x1:=FW.later_cell (w:=(X,[ga],3)) (hx.cell 1) hBx
   have x2:=FW.later_cell (w:=(X,[ga],3)) (hx.cell 2) hBx
   have x3:=FW.later_cell (w:=(X,[ga],3)) (hx.cell 3) hBx
   have x4:=FW.later_cell (w:=(X,[ga],3)) (hx.cell 4) hBx
   have x5:=FW.later_cell (w:=(X,[ga],3)) (hx.cell 5) hBx
   have HX:=hide (aI hsn (aI hlen (aI hraw (aI hown (aI hbox (aI S (aI hgaX (aI hsp (aI hpre hZe)))))))))
   clear hsn hlen hraw hown hbox hcall hx hga hgaX S hsp hpre hZe
   gi_wp2
   refine FW.region_frm_in 4 56 [ga] 3 (fun k hk=>by
    obtain rfl : k = ga:=by simpa using hk
    exact HX.out.2.2.2.2.2.2.1.lt) (fun i=>if i = 3 then some (fsDo Z X.heap.size ga gm gk gh W H q l A n c z) else none) (fun _=>none) (by kernel_rfl) (by kernel_rfl) (by kernel_rfl) (fun ⟨a,w,h⟩=>h.2) (by kernel_rfl) (by kernel_rfl) (by rfl) (by rfl) (fun i hi=>?_) (fun i S hS=>?_) ?_
   ·have hi : 6 <= i:=hi
    show (if i = 3 then _ else _) = none
    rw [if_neg (by omega)]
   ·split at hS
    ·rename_i h3
     subst h3
     injection hS with hS
     subst hS
     intro v w1 w' T ho hT hf
     exact fsDo_keep v w1 w' T ho (fun k hk=>by
      rcases (hT k hk).1 with h | ⟨_,j,m,h⟩
      ·exact h.2 rfl
      ·cases h) hf
    ·cases hS
   simp only [List.take_succ_cons,List.take_zero,List.drop_succ_cons,List.drop_zero]
   refine FW.wpFrm_chunk 3 (by kernel_rfl) (by rfl) ?_
   simp only [List.take_succ_cons,List.take_zero,List.drop_succ_cons,List.drop_zero,List.length_cons,List.length_nil,Nat.zero_add,Nat.reduceAdd]
   iterate 3 (go_big_quiet_step (fail))
   refine wpQuiet_nil ?_
   refine FW.wpFrm_step (fsDo Z X.heap.size ga gm gk gh W H q l A n c z) rfl (by rfl) ⟨_,none,0,rfl⟩ (fun w' ho hk=>?_) (fun v hv=>?_)
   ·clear hk
    have ho : Only [] X w':=ho
    change frmUpon _ _ [ga] _ _
    go_simp
    refine ⟨rfl,(HD2.out w' ho).mono ?_⟩
    rintro e y ⟨Av,cv,rfl,hu,hbx,hoy⟩
    refine ⟨_,rfl,hoy,⟨Av,cv,rfl⟩,fun A1 c1 he=>?_,fun k hk=>blkOf_own hu hk⟩
    injection he with h1 h2 h3
    subst h1 h3
    exact ⟨own_mono hu ho.size,hbx⟩
   obtain ⟨Av,cv,rfl⟩:=hv
   go_simp
   intro y4 ho4 hT
   have h3:=hT 3 (by omega)
   have h3 : (fsDo Z X.heap.size ga gm gk gh W H q l A n c z).pure (.slice Av z.1.length cv) /\ (fsDo Z X.heap.size ga gm gk gh W H q l A n c z).fact (.slice Av z.1.length cv) y4:=h3
   have h4:=h3.2 Av cv rfl
   clear hT h3 n8 n9 x0 x1 x2 x3 x4 x5
   have ho4 : Only [ga] X y4:=ho4
   have r4:=own_keep HX.out.2.2.2.1 ho4 (fun b hb hm=>by
    obtain ⟨cs,hc⟩:=own_cellsOf HX.out.2.2.2.1 hb
    have:=has_ne hc HX.out.2.2.2.2.2.2.1 (by decide)
    simp at hm
    exact this hm)
   have g4:=HX.out.2.2.1.only ho4 hg8
   have H5:=hide (aI r4 (aI h4 (aI ho4 g4)))
   have hBy : w.heap.size <= y4.heap.size:=Nat.le_trans HX.out.2.2.2.2.2.1.only.size ho4.size
   have HBy:=hide hBy
   clear r4 h4 ho4 g4 hBy
   go_wp2_with (at_builtin; refine list_append _ rfl (.tmp 42) (.tmp 45) 22 rfl w.heap.size 1 1 Tryz.underlying22 hi0 hz0 hz1 hz2 rfl (by omega) H5.out.1 rfl (Holds.of_own H5.out.2.1.1) rfl (bvals_one _) (by have:=HX.out.2.1; omega) (by omega) HBy.out ?_; intro A7 c7 w7 hown7 hgrow7 hat7; have g7:=H5.out.2.2.2.grown hgrow7 (own_ne H5.out.1 H5.out.2.2.2 (by decide)); have k7:=g7.cell 0; have f7:=g7.free 0; simp only [List.getElem?_toArray,List.getElem?_cons_zero] at k7; have H7:=hide (aI hown7 (aI hgrow7 hat7)); clear hown7 hgrow7 hat7 g7)
   exact enI_next HX.out.2.2.2.2.2.1 HX.out.2.2.2.2.2.2.2.2.2 HX.out.1 HX.out.2.2.1 HX.out.2.2.2.1 HX.out.2.2.2.2.2.2.1 hne8 hnw (by have:=H3.out.2.2.2.2.2.2.1; omega) H5.out.2.2.1 H5.out.1 H5.out.2.1.2 H7.out.1 H7.out.2.1 H7.out.2.2
  case done =>
   rintro D X hD S hK
   have hSo:=HE0.out.only.size
   have HX:=hide (aI S (aI hD hK))
   clear S hD hK
   gi_wp2
   obtain ⟨Ar,cr,hraw,hown,_⟩:=HX.out.1.raw
   have hl0 : ((l.toNat : Nat) : Int) = l:=by
    have:=HL.out
    rw [this]
    split <;> rfl
   have HLH:=hide (fun w : World=>by
    have:=layHead_any W H 8 6 l.toNat w
    rw [hl0] at this
    exact this)
   have HPK:=hide (fun (X1 : World) (hx1 : Only [] X X1)=>HPk.out.1 Ar (rawB q M W H l).length cr X1 ((Holds.of_own hown).keep hx1 (by simp)) rfl (by obtain ⟨A6,c6,he,h1,h2⟩:=own_shape hown; injection he with e1 _ e3; subst e1 e3; exact h1))
   have n8:=later_cell (show X.cell? ⟨w2.heap.size + 1,0,none⟩ = some (.slice Ar (rawB q M W H l).length cr) from hraw.cell 0)
   have n0:=later_cell (show X.cell? ⟨w1.heap.size,0,none⟩ = some (.int .i64 (W : Int)) from HX.out.1.head.cell 0)
   have n1:=later_cell (show X.cell? ⟨w1.heap.size,1,none⟩ = some (.int .i64 (H : Int)) from HX.out.1.head.cell 1)
   have n2:=later_cell (show X.cell? ⟨w1.heap.size,2,none⟩ = some (.int .i64 8) from HX.out.1.head.cell 2)
   have n3:=later_cell (show X.cell? ⟨w1.heap.size,3,none⟩ = some (.int .i64 6) from HX.out.1.head.cell 3)
   have n4:=later_cell (show X.cell? ⟨w1.heap.size,4,none⟩ = some (.int .i64 l) from HX.out.1.head.cell 4)
   refine wpIn_wide.2 ?_
   refine region_frm 7 56 (fun i=>if i = 1 then some (fsOwnB X.heap.size 13 (headB W H 8 6 l.toNat)) else if i = 4 then some (fsOwnB X.heap.size pk.length pk) else none) (fun _=>none) (by kernel_rfl) (by kernel_rfl) (by kernel_rfl) (by kernel_rfl) (by rfl) (by rfl) (fun i hi=>?_) (fun i S hS=>?_) ?_
   ·have hi : 10 <= i:=hi
    show (if i = 1 then _ else _) = none
    iterate 2 rw [if_neg (by omega)]
   ·repeat' split at hS
    all_goals first | (injection hS with hS; subst hS; exact fsOwnB_keep _ _ _) | cases hS
   simp only [List.take_succ_cons,List.take_zero,List.drop_succ_cons,List.drop_zero]
   refine wpFrm_chunk 1 (by kernel_rfl) (by rfl) ?_
   simp only [List.take_succ_cons,List.take_zero,List.drop_succ_cons,List.drop_zero,List.length_cons,List.length_nil,Nat.zero_add]
   iterate 1 (go_big_quiet_step (fail))
   refine wpQuiet_nil ?_
   refine wpFrm_step (fsOwnB X.heap.size 13 (headB W H 8 6 l.toNat)) rfl (by rfl) ⟨_,none,0,rfl⟩ (fun w' ho hk=>?_) (fun v hv=>?_)
   ·clear hk
    change frmUpon _ _ [] _ _
    go_simp
    refine ⟨rfl,(HLH.out w').mono ?_⟩
    rintro e y ⟨u,rfl,hu,hoy⟩
    exact ⟨_,rfl,hoy,fsOwnB_call ho.size hu⟩
   obtain ⟨Ah,ch,rfl⟩:=hv
   go_simp
   refine wpFrm_chunk 2 (by kernel_rfl) (by rfl) ?_
   simp only [List.take_succ_cons,List.take_zero,List.drop_succ_cons,List.drop_zero,List.length_cons,List.length_nil,Nat.zero_add,Nat.reduceAdd]
   iterate 2 (go_big_quiet_step (fail))
   refine wpQuiet_nil ?_
   refine wpFrm_step (fsOwnB X.heap.size pk.length pk) rfl (by rfl) ⟨_,none,0,rfl⟩ (fun w' ho hk=>?_) (fun v hv=>?_)
   ·clear hk
    change frmUpon _ _ [] _ _
    go_simp
    refine ⟨rfl,(HPK.out w' ho).mono ?_⟩
    rintro e y ⟨u,rfl,hu,hoy⟩
    exact ⟨_,rfl,hoy,fsOwnB_call ho.size hu⟩
   obtain ⟨Ap,cp,rfl⟩:=hv
   go_simp
   refine wpFrm_chunk 2 (by kernel_rfl) (by rfl) ?_
   simp only [List.take_succ_cons,List.take_zero,List.drop_succ_cons,List.drop_zero,List.length_cons,List.length_nil,Nat.zero_add,Nat.reduceAdd]
   iterate 2 (go_big_quiet_step (fail))
   refine wpQuiet_nil ?_
   intro y4 ho4 hT
   have h1:=hT 1 (by omega)
   have h1 : (fsOwnB X.heap.size 13 (headB W H 8 6 l.toNat)).pure (.slice Ah 13 ch) /\ (fsOwnB X.heap.size 13 (headB W H 8 6 l.toNat)).fact (.slice Ah 13 ch) y4:=h1
   have h4:=hT 4 (by omega)
   have h4 : (fsOwnB X.heap.size pk.length pk).pure (.slice Ap pk.length cp) /\ (fsOwnB X.heap.size pk.length pk).fact (.slice Ap pk.length cp) y4:=h4
   have q1:=h1.2 Ah ch rfl
   have q4:=h4.2 Ap cp rfl
   clear hT h1 h4 n8 n0 n1 n2 n3 n4
   have o5:=(Only.refl [] y4).alloc (.cells #[.string ⟨#[73,72,68,82]⟩,.slice Ah 13 ch,.string ⟨#[73,68,65,84]⟩,.slice Ap pk.length cp,.string ⟨#[73,69,78,68]⟩,.slice none 0 0] 53)
   have hrow:=Has.new y4 53 #[.string ⟨#[73,72,68,82]⟩,.slice Ah 13 ch,.string ⟨#[73,68,65,84]⟩,.slice Ap pk.length cp,.string ⟨#[73,69,78,68]⟩,.slice none 0 0]
   have c1:=CvHas.own (k:=[73,72,68,82]) (own_keep q1 o5 (by simp)) (headB_length _ _ _ _ _)
   have c4:=CvHas.own (k:=[73,68,65,84]) (own_keep q4 o5 (by simp)) rfl
   have c6 : CvHas (y4.alloc (.cells #[.string ⟨#[73,72,68,82]⟩,.slice Ah 13 ch,.string ⟨#[73,68,65,84]⟩,.slice Ap pk.length cp,.string ⟨#[73,69,78,68]⟩,.slice none 0 0] 53)) ⟨⟨[73,69,78,68],[]⟩,none,0⟩:=⟨Holds.empty _ _ _,Nat.le_refl _,fun _=>rfl⟩
   have hD4 : y4.heap[D]? = some (.deferred (some [])):=(ho4.block D (Array.getElem?_eq_some_iff.1 HX.out.2.2).1 (by simp)).trans HX.out.2.2
   have hD5:=(o5.block D (Array.getElem?_eq_some_iff.1 hD4).1 (by simp)).trans hD4
   have HLay:=hide (pgLay_any (some ⟨y4.heap.size,0,none⟩) 3 3 [⟨⟨[73,72,68,82],headB W H 8 6 l.toNat⟩,Ah,ch⟩,⟨⟨[73,68,65,84],pk⟩,Ap,cp⟩,⟨⟨[73,69,78,68],[]⟩,none,0⟩] _ ⟨rfl,fun _=>⟨_,rfl,hrow.lt,fun j u hu=>by rw [add_zero_of,hrow.cell,List.getElem?_toArray]; exact hu⟩⟩ rfl (Nat.le_refl _) (fun p hp=>by
    rcases List.mem_cons.1 hp with rfl | hp
    ·exact c1
    rcases List.mem_cons.1 hp with rfl | hp
    ·exact c4
    ·obtain rfl : p = _:=by simpa using hp
     exact c6) (by
    have:=HPk.out.2
    simp [layN,headB_length]
    omega))
   have H9:=hide (aI ((HX.out.1.only.trans ho4 (S:=[]) (by simp)).trans o5 (S:=[]) (by simp)) hD5)
   clear o5 hrow c1 c4 c6 hD4 hD5 q1 q4 ho4
   go_wp2_with fail
   refine (HLay.out).mono ?_
   rintro e y9 ⟨A9,n9,c9,rfl,L9⟩
   have hD9:=(L9.only.block D (Array.getElem?_eq_some_iff.1 H9.out.2).1 (by simp)).trans H9.out.2
   have HL9:=hide (aI L9 hD9)
   clear L9 hD9
   go_wp2_with fail
   gi_wp2
   refine ⟨by simp,.inl ⟨_,_,rfl,run_takeDeferred HL9.out.2,?_⟩⟩
   exact ⟨_,results_tmp rfl _ _ _,A9,n9,c9,rfl,(HL9.out.1.back H9.out.1).put _ (by have:=HX.out.2.1; omega) HL9.out.2 rfl⟩
  case stop =>
   rintro D c2 pre X _ _ h _
   exact h.elim
end Go.Proofs.YtjfjmkkkbcgohaaGreatDoor
