import Derived.Test.YtjfjmkkkbcgohaaGreatDoorMPgPx
namespace Go.Proofs.YtjfjmkkkbcgohaaGreatDoor
open Go Go.RowKit
def tupBlk : Value -> List Nat
 | .tuple vs=>((vs[0]?).map blkOf).getD []
 | _=>[]
theorem tup_inj {A A' : Option Addr} {n c c' : Nat} {e : Value} (h : Value.tuple #[.slice A n c,e] = .tuple #[.slice A' n c',e]) : A = A' /\ c = c':=by
 injection h with h
 have:=congrArg (·[0]?) h
 simpa using this
theorem blkOf_own {w : World} {B e size n c k : Nat} {A : Option Addr} {xs : List Value} (h : w.ownsRow B e size (.slice A n c) n xs) (hk : k ∈ blkOf (.slice A n c)) : B <= k /\ k < w.heap.size:=by
 cases A with
 | none=>simp [blkOf] at hk
 | some a =>
   have : k = a.block:=by simpa [blkOf] using hk
   subst this
   exact own_at h (b:=a.block) (by simp [Value.ownBlock])
def fsRowE (B : Nat) (l : List UInt8) (e : Int) : FS:=⟨fun v=>∃ A c,v = .tuple #[.slice A l.length c,.int .i64 e],fun v w=>∀ A c,v = .tuple #[.slice A l.length c,.int .i64 e] -> w.ownsRow B 5 1 (.slice A l.length c) l.length (bvals l),tupBlk⟩
theorem fsRowE_keep (B : Nat) (l : List UInt8) (e : Int) (v : Value) (w w' : World) (T : List Nat) (ho : Only T w w') (hT : ∀ k ∈ T,B <= k /\ k ∉ (fsRowE B l e).own v) (h : (fsRowE B l e).fact v w) : (fsRowE B l e).fact v w':=fun A c he=>by
 refine own_keep (h A c he) ho fun b hb hm=>(hT b hm).2 ?_
 subst he
 show b ∈ blkOf (.slice A l.length c)
 cases A with
 | none=>simp [Value.ownBlock] at hb
 | some a =>
   have : a.block = b:=by simpa [Value.ownBlock] using hb
   subst this
   exact List.mem_singleton_self _
theorem fsRowE_call {B : Nat} {fr : List UInt8} {E0 : Int} {w x : World} {u : Value} (hB : B <= w.heap.size) (hu : x.ownsRow w.heap.size 5 1 u fr.length (bvals fr)) :
 (fsRowE B fr E0).pure (.tuple #[u,.int .i64 E0]) /\ (fsRowE B fr E0).fact (.tuple #[u,.int .i64 E0]) x /\ ∀ k ∈ (fsRowE B fr E0).own (.tuple #[u,.int .i64 E0]),w.heap.size <= k /\ k < x.heap.size:=by
 obtain ⟨A6,c6,rfl,_,_⟩:=own_shape hu
 refine ⟨⟨A6,c6,rfl⟩,fun A c he=>?_,fun k hk=>?_⟩
 ·obtain ⟨rfl,rfl⟩:=tup_inj he
  exact own_mono hu hB
 ·exact blkOf_own hu hk
theorem own_lit1 (W : World) (q : Nat) : (W.alloc (.cells #[.int .u8 ((q : Int) % 256)] 5)).ownsRow W.heap.size 5 1 (.slice (some ⟨W.heap.size,0,none⟩) 1 1) 1 (bvals [UInt8.ofNat q]) :=
 ⟨rfl,.inr ⟨W.heap.size,1,_,rfl,Nat.le_refl _,Has.new W _ _,Nat.le_refl _,by unfold maxLen; omega,rfl,by simp [bvals]⟩⟩
theorem step_eq : rowI 1 (smpV 6) 8 = 4:=by decide
set_option maxRecDepth 100000 in
set_option maxHeartbeats 16000000 in
theorem doIt_any (Z : List Nat) (r : Rw) (ga gm gk gh : Nat) (W H l : Int) (q : Nat) (A : Addr) (n c : Nat) (M al : List UInt8) (w : World) (h : RwOk r W H) (hW : W <= 16384) (hH : H <= 16384) (hq : q <= 4) (hb : Holds w 1 (some A) n (bvals M)) (hM : M.length = n) (hn : (n : Int) = 4 * (W * H)) (hc : n <= c) (hal : al.length <= 1000000) (hAg : 0 < n -> A.block ≠ ga)
 (B : DoBox Z ga gm gk gh W H q l A n c al w) (hne : ga ≠ gm /\ ga ≠ gk /\ ga ≠ gh) (hZ : ∀ k ∈ Z,k < w.heap.size) :
 Calls Tryz.prog 34 #[r.val,.pointer (some ⟨ga,0,none⟩),.pointer (some ⟨gm,0,none⟩),.pointer (some ⟨gk,0,none⟩),.pointer (some ⟨gh,0,none⟩)] w fun e w' =>
  ∃ Av cv,e = .returned (.slice Av (doStep q (pickL M r W r.w.toNat) al r.y).1.length cv) /\ w'.ownsRow w.heap.size 5 1 (.slice Av (doStep q (pickL M r W r.w.toNat) al r.y).1.length cv) (doStep q (pickL M r W r.w.toNat) al r.y).1.length (bvals (doStep q (pickL M r W r.w.toNat) al r.y).1) /\
    DoBox Z ga gm gk gh W H q l A n c (doStep q (pickL M r W r.w.toNat) al r.y).2 w' /\ Only [ga] w w':=by
 obtain ⟨i0,hi0,hz0,hz1,hz2⟩:=info_of u8_info
 have hw0:=h.w0
 have hplen:=pickL_length h hW hH (by rw [hM]; exact hn) r.w.toNat (by omega)
 have HK:=hide (fun (x : World) (hx : Holds x 1 (some A) n (bvals M))=>pick_any r W H A n c M x h hW hH hx hM hn hc)
 obtain ⟨Aa,ca,ha,hah,hane⟩:=B.ahead
 obtain ⟨Ab,cb,am,ham⟩ : ∃ (Ab : Option Addr) (cb : Nat) (am : List UInt8),(r.y = 0 -> Ab = none /\ cb = 0 /\ am = []) /\ (r.y ≠ 0 -> Ab = Aa /\ cb = ca /\ am = al):=by
  by_cases hy : r.y = 0
  ·exact ⟨none,0,[],fun _=>⟨rfl,rfl,rfl⟩,fun h=>absurd hy h⟩
  ·exact ⟨Aa,ca,al,fun h=>absurd h hy,fun _=>⟨rfl,rfl,rfl⟩⟩
 have hame : am = if r.y = 0 then [] else al:=by
  by_cases hy : r.y = 0
  ·rw [if_pos hy]; exact (ham.1 hy).2.2
  ·rw [if_neg hy]; exact (ham.2 hy).2.2
 have HB:=hide (aI B (aI hb (aI hne hAg)))
 have hbox:=Has.new w 49 r.cells
 have HA:=hide (aI ha (aI hah hane))
 have HZZ:=hide hZ
 clear hZ
 have hab2 : 0 < am.length -> ∀ ad,Ab = some ad -> ad.block ∉ Z:=by
  by_cases hy : r.y = 0
  ·rw [(ham.1 hy).2.2]; exact fun h=>absurd h (Nat.lt_irrefl _)
  ·rw [(ham.2 hy).1,(ham.2 hy).2.2]; exact hane
 have HX:=hide (aI hame (aI hplen (aI hw0 (aI hq (aI hal hab2)))))
 clear hab2
 obtain ⟨now,hnow⟩ : ∃ now,now = pickL M r W r.w.toNat:=⟨_,rfl⟩
 rw [<- hnow] at HK HX ⊢
 unfold doStep
 rw [<- hame]
 obtain ⟨E0,hE0⟩ : ∃ E0,E0 = fErr (q : Int) 4 now.length am.length:=⟨_,rfl⟩
 obtain ⟨fr,hfr⟩ : ∃ fr,fr = flR false (q : Int) 4 now am:=⟨_,rfl⟩
 rw [<- hE0,<- hfr]
 obtain ⟨ds,hds⟩ : ∃ ds : List UInt8 × List UInt8,ds = if E0 = 0 then (UInt8.ofNat (q : Int).toNat :: fr,now) else ([],am):=⟨_,rfl⟩
 rw [<- hds]
 have HEE:=hide (aI hE0 (aI hfr hds))
 clear hE0 hfr hds
 have hak:=ha.alloc (.cells r.cells 49)
 have a0:=hak.cell 0
 have af:=hak.free 0
 dsimp only [Rw.cells] at a0 af
 simp only [List.getElem?_toArray,List.getElem?_cons_zero] at a0
 obtain ⟨rX,rY,rDX,rDY,ry,rn⟩:=r
 dsimp only at *
 clear hb hM hn hc hal hAg B h hW hH hq hah hane ha hak hbox hw0 hplen hame
 unfold Rw.val
 have hrow0:=Has.new w 49 #[.int .i64 rX,.int .i64 rY,.int .i64 rDX,.int .i64 rDY,.int .i64 (ry : Int),.int .i64 rn]
 have hoa : Only [] w (w.alloc (.cells #[.int .i64 rX,.int .i64 rY,.int .i64 rDX,.int .i64 rDY,.int .i64 (ry : Int),.int .i64 rn] 49)):=(Only.refl [] w).alloc _
 have HRo:=hide (aI hrow0 hoa)
 clear hrow0 hoa
 by_cases hy : ry = 0
 case' pos =>
  obtain ⟨q1,q2,q3⟩:=ham.1 hy
  have hyb : ((ry : Int) == 0) = true:=by rw [hy]; rfl
  have hset : ∀ g t cs,g ≠ ga -> Has w g t cs -> Has ((w.alloc (.cells #[.int .i64 rX,.int .i64 rY,.int .i64 rDX,.int .i64 rDY,.int .i64 (ry : Int),.int .i64 rn] 49)).setCell ⟨ga,0,none⟩ (.slice none 0 0)) g t cs:=fun g t cs hg hh=>(hh.alloc _).other hg _
  have e0:=hset _ _ _ (Ne.symm HB.out.2.2.1.1) HB.out.1.mat
  have e1:=hset _ _ _ (Ne.symm HB.out.2.2.1.2.1) HB.out.1.kind
  have e2:=hset _ _ _ (Ne.symm HB.out.2.2.1.2.2) HB.out.1.head
  have e3 : Has ((w.alloc (.cells #[.int .i64 rX,.int .i64 rY,.int .i64 rDX,.int .i64 rDY,.int .i64 (ry : Int),.int .i64 rn] 49)).setCell ⟨ga,0,none⟩ (.slice none 0 0)) ga 22 #[.slice Ab am.length cb]:=by rw [q1,q2,q3]; exact (HA.out.1.alloc _).set 0 _
  have hos : Only [ga] (w.alloc (.cells #[.int .i64 rX,.int .i64 rY,.int .i64 rDX,.int .i64 rDY,.int .i64 (ry : Int),.int .i64 rn] 49)) ((w.alloc (.cells #[.int .i64 rX,.int .i64 rY,.int .i64 rDX,.int .i64 rDY,.int .i64 (ry : Int),.int .i64 rn] 49)).setCell ⟨ga,0,none⟩ (.slice none 0 0)):=(Only.refl _ _).setCell (by simp) _
  have e4 : Only [ga] w ((w.alloc (.cells #[.int .i64 rX,.int .i64 rY,.int .i64 rDX,.int .i64 rDY,.int .i64 (ry : Int),.int .i64 rn] 49)).setCell ⟨ga,0,none⟩ (.slice none 0 0)):=(HRo.out.2.of_nil).trans hos (fun k hk _=>hk)
  have hrb : Has ((w.alloc (.cells #[.int .i64 rX,.int .i64 rY,.int .i64 rDX,.int .i64 rDY,.int .i64 (ry : Int),.int .i64 rn] 49)).setCell ⟨ga,0,none⟩ (.slice none 0 0)) w.heap.size 49 #[.int .i64 rX,.int .i64 rY,.int .i64 rDX,.int .i64 rDY,.int .i64 (ry : Int),.int .i64 rn]:=HRo.out.1.other (fun e=>by have h1:=HA.out.1.lt; have e : w.heap.size = ga:=e; omega) _
  have e5 : Holds ((w.alloc (.cells #[.int .i64 rX,.int .i64 rY,.int .i64 rDX,.int .i64 rDY,.int .i64 (ry : Int),.int .i64 rn] 49)).setCell ⟨ga,0,none⟩ (.slice none 0 0)) 1 Ab am.length (bvals am):=by rw [q1,q3]; exact Holds.empty _ _ _
  clear hy hset ham q1 q2 q3
 case' neg =>
  obtain ⟨rfl,rfl,rfl⟩:=ham.2 hy
  have hyb : ((ry : Int) == 0) = false:=by
   have : ¬ (ry : Int) = 0:=by omega
   simpa using hy
  have e0:=HB.out.1.mat.alloc (.cells #[.int .i64 rX,.int .i64 rY,.int .i64 rDX,.int .i64 rDY,.int .i64 (ry : Int),.int .i64 rn] 49)
  have e1:=HB.out.1.kind.alloc (.cells #[.int .i64 rX,.int .i64 rY,.int .i64 rDX,.int .i64 rDY,.int .i64 (ry : Int),.int .i64 rn] 49)
  have e2:=HB.out.1.head.alloc (.cells #[.int .i64 rX,.int .i64 rY,.int .i64 rDX,.int .i64 rDY,.int .i64 (ry : Int),.int .i64 rn] 49)
  have e3:=HA.out.1.alloc (.cells #[.int .i64 rX,.int .i64 rY,.int .i64 rDX,.int .i64 rDY,.int .i64 (ry : Int),.int .i64 rn] 49)
  have e4 : Only [ga] w (w.alloc (.cells #[.int .i64 rX,.int .i64 rY,.int .i64 rDX,.int .i64 rDY,.int .i64 (ry : Int),.int .i64 rn] 49)):=HRo.out.2.of_nil
  have hrb:=HRo.out.1
  have e5:=HA.out.2.1.keep HRo.out.2 (by simp)
  clear hy ham
 all_goals
  have m0:=e0.cell 0
  have m1:=e0.cell 1
  have m2:=e0.cell 2
  have t0:=hrb.cell 0
  have t1:=hrb.cell 1
  have t2:=hrb.cell 2
  have t3:=hrb.cell 3
  have t4:=hrb.cell 4
  have t5:=hrb.cell 5
  simp only [List.getElem?_toArray,List.getElem?_cons_zero,List.getElem?_cons_succ] at m0 m1 m2 t0 t1 t2 t3 t4 t5
  have HE:=hide (aI e0 (aI e1 (aI e2 (aI e3 (aI e4 e5)))))
  clear hrb e0 e1 e2 e3 e4 e5
  go_enter Tryz.func34,Tryz.ntmps34
  go_wp2_with fail
  refine Calls.mono (HK.out _ (HB.out.2.1.keepPos HE.out.2.2.2.2.1 (fun h0 ad ha _ hm=>by injection ha with ha; subst ha; exact HB.out.2.2.2 h0 (by simpa using hm)))) ?_
  rintro e w2 ⟨An,cn,rfl,hown,ho2⟩
  have f0:=HE.out.1.only ho2 (by simp)
  have f1:=HE.out.2.1.only ho2 (by simp)
  have f2:=HE.out.2.2.1.only ho2 (by simp)
  have f3:=HE.out.2.2.2.1.only ho2 (by simp)
  have f4:=HE.out.2.2.2.2.1.trans ho2 (S:=[ga]) (by simp)
  have f5:=HE.out.2.2.2.2.2.keep ho2 (by simp)
  have f6:=own_mono hown HE.out.2.2.2.2.1.size
  have f7:=HA.out.1.lt
  have HF:=hide (aI f0 (aI f1 (aI f2 (aI f3 (aI f4 (aI f5 (aI f6 f7)))))))
  have l1:=later_cell (show w2.cell? _ = some (.int .i64 (q : Int)) from f1.cell 0)
  have l2:=later_cell (show w2.cell? _ = some (.int .i64 W) from f2.cell 0)
  have l3:=later_cell (show w2.cell? _ = some (.int .i64 H) from f2.cell 1)
  have l4:=later_cell (show w2.cell? _ = some (.int .i64 8) from f2.cell 2)
  have l5:=later_cell (show w2.cell? _ = some (.int .i64 6) from f2.cell 3)
  have l6:=later_cell (show w2.cell? _ = some (.int .i64 l) from f2.cell 4)
  have l7:=later_cell (show w2.cell? _ = some (.slice Ab am.length cb) from f3.cell 0)
  clear f0 f1 f2 f3 f4 f5 f6 f7 HE hown ho2 m0 m1 m2 t0 t1 t2 t3 t4 t5 hyb a0 af HRo HK hnow HA HB
  have HS1:=hide (fun x : World=>step_eq ▸ pgStep_any W H 8 6 l x)
  have HD:=hide (fun (x : World) (hx : Only [] w2 x)=>do_any (q : Int) 4 An Ab (4 * rn.toNat) cn am.length cb now am x (Holds.of_own (own_keep HF.out.2.2.2.2.2.2.1 hx (by simp))) HX.out.2.1 (HF.out.2.2.2.2.2.1.keep hx (by simp)) rfl (by have:=HX.out.2.2.1; omega))
  rw [<- HX.out.2.1,<- HEE.out.1,<- HEE.out.2.1] at HD
  rw [HX.out.2.1] at HD
  go_wp2_with fail
  refine region_frm 10 33 (fun i=>if i = 4 then some (fsVal (.int .i64 4)) else if i = 5 then some (fsRowE w2.heap.size fr (E0 : Int)) else none) (fun _=>none) (by kernel_rfl) (by kernel_rfl) (by kernel_rfl) (by kernel_rfl) (by rfl) (by rfl) (fun i hi=>?_) (fun i S hS=>?_) ?_
  ·have hi : 11 <= i:=hi
   show (if i = 4 then _ else _) = none
   iterate 2 rw [if_neg (by omega)]
  ·repeat' split at hS
   all_goals first | (injection hS with hS; subst hS; first | exact fsRowE_keep _ _ _ | exact fun _ _ _ _ _ _ _=>trivial) | cases hS
  simp only [List.take_succ_cons,List.take_zero,List.drop_succ_cons,List.drop_zero]
  refine wpFrm_chunk 4 (by kernel_rfl) (by rfl) ?_
  simp only [List.take_succ_cons,List.take_zero,List.drop_succ_cons,List.drop_zero,List.length_cons,List.length_nil,Nat.zero_add,Nat.reduceAdd]
  iterate 4 (go_big_quiet_step (fail))
  refine wpQuiet_nil ?_
  refine wpFrm_step (fsVal (.int .i64 4)) rfl (by rfl) ⟨_,rfl⟩ (fun w' ho hk=>?_) (fun v hv=>?_)
  ·clear hk
   change frmUpon _ _ [] _ _
   go_simp
   refine ⟨rfl,(HS1.out w').mono ?_⟩
   rintro e x ⟨rfl,hx⟩
   exact ⟨_,rfl,hx,rfl,trivial,fun k hk=>by simp [fsVal] at hk⟩
  obtain rfl : v = .int .i64 4:=hv
  go_simp
  refine wpFrm_step (fsRowE w2.heap.size fr (E0 : Int)) rfl (by rfl) ⟨_,none,0,rfl⟩ (fun w' ho hk=>?_) (fun v hv=>?_)
  ·clear hk
   change frmUpon _ _ [] _ _
   go_simp
   refine ⟨rfl,(HD.out w' ho).mono ?_⟩
   rintro e x ⟨u,rfl,hu,hx⟩
   exact ⟨_,rfl,hx,fsRowE_call ho.size hu⟩
  obtain ⟨Ao,co,rfl⟩:=hv
  go_simp
  refine wpFrm_chunk 4 (by kernel_rfl) (by rfl) ?_
  simp only [List.take_succ_cons,List.take_zero,List.drop_succ_cons,List.drop_zero,List.length_cons,List.length_nil,Nat.zero_add,Nat.reduceAdd]
  iterate 4 (go_big_quiet_step (fail))
  refine wpQuiet_nil ?_
  intro w4 ho4 hT
  have h5:=hT 5 (by omega)
  have h5 : (fsRowE w2.heap.size fr (E0 : Int)).pure (.tuple #[.slice Ao fr.length co,.int .i64 (E0 : Int)]) /\ (fsRowE w2.heap.size fr (E0 : Int)).fact (.tuple #[.slice Ao fr.length co,.int .i64 (E0 : Int)]) w4:=h5
  have h6:=h5.2 Ao co rfl
  clear hT h5 l2 l3 l4 l5 l6 l7 HD HS1
  have H4:=hide (aI h6 ho4)
  have k1 : w4.cell? ⟨gk,0,none⟩ = some (.int .i64 (q : Int)):=l1 ⟨w4,ho4⟩
  have k2 : w4.cell? ⟨ga,0,none⟩ = some (.slice Ab am.length cb):=(HF.out.2.2.2.1.only ho4 (by simp)).cell 0
  have k3 : w4.frozen? ⟨ga,0,none⟩ = false:=(HF.out.2.2.2.1.only ho4 (by simp)).free 0
  clear h6 ho4 l1
  have hgl : ga < w4.heap.size:=World.block_lt_of_cell? w4 ⟨ga,0,none⟩ k2
  have hg2 : ga < w2.heap.size:=HF.out.2.2.2.1.lt
  have hG:=hide (aI hgl hg2)
  clear hgl hg2
  by_cases hE : E0 = 0
  ·subst hE
   have p1:=own_lit1 (w4.setCell ⟨ga,0,none⟩ (.slice An (4 * rn.toNat) cn)) q
   rw [World.size_setCell] at p1
   have o1 : Only [ga] w4 (w4.setCell ⟨ga,0,none⟩ (.slice An (4 * rn.toNat) cn)):=(Only.refl _ _).setCell (by simp) _
   have o2 : Only [ga] w4 ((w4.setCell ⟨ga,0,none⟩ (.slice An (4 * rn.toNat) cn)).alloc (.cells #[.int .u8 ((q : Int) % 256)] 5)):=o1.alloc _
   have p2:=own_keep H4.out.1 o2 (fun b hb hm=>by
    have h1:=(own_at H4.out.1 hb).1
    have h2:=hG.out.2
    simp at hm
    omega)
   have hfl : fr.length = 4 * rn.toNat:=by
    rw [HEE.out.2.1]
    unfold flR
    rw [if_pos HEE.out.1.symm,fl_length]
    exact HX.out.2.1
   have H5:=hide (aI p1 (aI p2 (aI o2 hfl)))
   clear p1 p2 o1 o2 hfl
   have hbs : w.heap.size <= w4.heap.size:=Nat.le_trans HF.out.2.2.2.2.1.size H4.out.2.size
   have hbs:=hide hbs
   go_wp2_with (at_builtin; refine list_append _ rfl (.tmp 30) (.tmp 31) 22 rfl w4.heap.size 1 1 Tryz.underlying22 hi0 hz0 hz1 hz2 rfl (by omega) H5.out.1 rfl (Holds.of_own H5.out.2.1) rfl (bvals_one _) (by have:=H5.out.2.2.2; have:=HX.out.2.2.1; omega) (by omega) (by simp) ?_; intro A7 c7 w7 hown7 hgrow7 hat7; have H7:=hide (aI hown7 hgrow7); clear hown7 hgrow7 hat7)
   go_ret
   have hd : ds = (UInt8.ofNat q :: fr,now):=by have:=HEE.out.2.2; simpa using this
   have hlen : ds.1.length = 1 + fr.length:=by rw [hd,List.length_cons,Nat.add_comm]
   have o3:=(H4.out.2.of_nil (T:=[ga])).trans H5.out.2.2.1 (fun k hk hlt=>hk)
   have keep : ∀ g t cs,t ≠ 5 -> g ≠ ga -> Has w2 g t cs -> Has w7 g t cs:=fun g t cs ht hg hh=>by
    have h1:=hh.only o3 (by simpa using hg)
    exact h1.grown H7.out.2 (own_ne H5.out.1 h1 (Ne.symm ht))
   have hga : Has w7 ga 22 #[.slice An (4 * rn.toNat) cn]:=by
    have h1:=((HF.out.2.2.2.1.only H4.out.2 (by simp)).set 0 (.slice An (4 * rn.toNat) cn)).alloc (.cells #[.int .u8 ((q : Int) % 256)] 5)
    have h2:=h1.grown H7.out.2 (own_ne H5.out.1 h1 (by decide))
    exact h2
   have hnb : ∀ ad,An = some ad -> w.heap.size <= ad.block /\ ad.block < w2.heap.size:=fun ad ha=>own_at HF.out.2.2.2.2.2.2.1 (b:=ad.block) (by rw [ha]; rfl)
   have hgw:=HF.out.2.2.2.2.2.2.2
   have hnow : Holds w7 1 An (4 * rn.toNat) (bvals now):=by
    have h1:=(Holds.of_own HF.out.2.2.2.2.2.2.1).keep o3 (fun ad ha _ hm=>by
     have:=hnb ad ha
     simp at hm
     omega)
    exact h1.keep (only_of_grown H7.out.2) (fun ad ha _ hm=>by
     have h2:=hnb ad ha
     have h3:=H4.out.2.size
     simp [Value.ownBlock] at hm
     omega)
   rw [hlen]
   refine ⟨A7,c7,rfl,?_,?_,?_⟩
   ·rw [hd]
    exact own_mono H7.out.1 hbs.out
   ·rw [hd]
    refine ⟨⟨An,cn,?_,?_,fun _ ad ha=>?_⟩,keep _ _ _ (by decide) (Ne.symm hne.1) HF.out.1,keep _ _ _ (by decide) (Ne.symm hne.2.1) HF.out.2.1,keep _ _ _ (by decide) (Ne.symm hne.2.2) HF.out.2.2.1⟩
    ·dsimp only
     rw [HX.out.2.1]
     exact hga
    ·dsimp only
     rw [HX.out.2.1]
     exact hnow
    ·intro hm
     have h1:=HZZ.out _ hm
     have h2:=hnb ad ha
     omega
   ·refine (HF.out.2.2.2.2.1.trans o3 (S:=[ga]) (fun k hk hlt=>hk)).grown H7.out.2 (fun k hk hlt=>?_)
    have h1:=hbs.out
    simp [Value.ownBlock] at hk
    omega
  ·have hE' : ¬ (E0 : Int) = 0:=by omega
   go_wp2_with fail
   go_ret
   have hd : ds = ([],am):=by rw [HEE.out.2.2,if_neg hE]
   have keep : ∀ g t cs,Has w2 g t cs -> Has w4 g t cs:=fun g t cs hh=>hh.only H4.out.2 (by simp)
   rw [hd]
   refine ⟨none,0,rfl,World.ownsRow_nil _ _ _ _,⟨⟨Ab,cb,keep _ _ _ HF.out.2.2.2.1,HF.out.2.2.2.2.2.1.keep H4.out.2 (by simp),?_⟩,keep _ _ _ HF.out.1,keep _ _ _ HF.out.2.1,keep _ _ _ HF.out.2.2.1⟩,HF.out.2.2.2.2.1.trans H4.out.2 (S:=[ga]) (by simp)⟩
   exact HX.out.2.2.2.2.2
theorem ps_pos (l : Int) (i : Nat) : 0 <= psX l i /\ 0 <= psY l i /\ 1 <= psDX l i /\ 1 <= psDY l i:=by
 unfold psX psY psDX psDY adX adY adW adH
 refine ⟨?_,?_,?_,?_⟩ <;> (repeat' split) <;> omega
theorem sub_mul (n d m : Int) (hd : 1 <= d) (h : m <= n / d) : m * d <= n:=by
 have h1 : m * d <= n / d * d:=Int.mul_le_mul_of_nonneg_right h (by omega)
 have h2 : n / d * d <= n:=Int.ediv_mul_le n (by omega)
 omega
theorem rowOf_ok (W H l : Int) (i m : Nat) (hm : m < psH W H l i) : RwOk (rowOf W H l i m) W H:=by
 obtain ⟨s0,s1,s2,s3⟩:=ps_small l i
 obtain ⟨p0,p1,p2,p3⟩:=ps_pos l i
 have hr:=size_range (psX l i) (psY l i) (psDX l i) (psDY l i) W H
 unfold psH at hm
 have hok : sizeOkB (psX l i) (psY l i) (psDX l i) (psDY l i) W H = true:=by
  cases hc : sizeOkB (psX l i) (psY l i) (psDX l i) (psDY l i) W H with
  | true=>rfl
  | false =>
    unfold sizeH at hm
    rw [hc] at hm
    simp at hm
 have eW : psW W H l i = (W - psX l i - 1) / psDX l i + 1:=by unfold psW sizeW; rw [if_pos hok]
 have eH : sizeH (psX l i) (psY l i) (psDX l i) (psDY l i) W H = (H - psY l i - 1) / psDY l i + 1:=by unfold sizeH; rw [if_pos hok]
 refine ⟨⟨p0,s0⟩,⟨p1,s1⟩,⟨p2,s2⟩,⟨p3,s3⟩,?_,?_,fun x hx=>?_⟩
 ·exact ⟨hr.1.1,hr.1.2⟩
 ·show psY l i + (m : Int) * psDY l i < H
  rw [eH] at hm
  have:=sub_mul (H - psY l i - 1) (psDY l i) m p3 (by omega)
  omega
 ·show psX l i + (x : Int) * psDX l i < W
  have hx : (x : Int) < psW W H l i:=hx
  rw [eW] at hx
  have:=sub_mul (W - psX l i - 1) (psDX l i) x p2 (by omega)
  omega
theorem rows_ok (W H l : Int) (r : Rw) (h : r ∈ rowsL W H l) : RwOk r W H:=by
 unfold rowsL rowsTo at h
 obtain ⟨i,_,h2⟩:=List.mem_flatMap.1 h
 unfold rowsP at h2
 obtain ⟨m,h3,rfl⟩:=List.mem_map.1 h2
 exact rowOf_ok W H l i m (List.mem_range.1 h3)
def doG (q : Int) (M : List UInt8) (W : Int) (s : List UInt8 × List UInt8) (r : Rw) : List UInt8 × List UInt8 :=
 (s.1 ++ (doStep q (pickL M r W r.w.toNat) s.2 r.y).1,(doStep q (pickL M r W r.w.toNat) s.2 r.y).2)
def doL (q : Int) (M : List UInt8) (W : Int) (rs : List Rw) : List UInt8 × List UInt8:=rs.foldl (doG q M W) ([],[])
theorem doL_snoc (q : Int) (M : List UInt8) (W : Int) (rs : List Rw) (r : Rw) : doL q M W (rs ++ [r]) = doG q M W (doL q M W rs) r:=by simp [doL,List.foldl_append]
theorem doStep_len (q : Int) (now al : List UInt8) (y : Nat) : (doStep q now al y).1.length <= 1 + now.length:=by
 unfold doStep
 generalize (if y = 0 then [] else al) = u
 by_cases h : fErr q 4 now.length u.length = 0
 ·rw [if_pos h]
  unfold flR
  rw [if_pos h,List.length_cons,fl_length]
  omega
 ·rw [if_neg h]
  simp
theorem doStep_al (q : Int) (now al : List UInt8) (y : Nat) : (doStep q now al y).2.length <= max now.length al.length:=by
 unfold doStep
 have hu : (if y = 0 then [] else al).length <= al.length:=by split <;> simp
 generalize (if y = 0 then [] else al) = u at hu ⊢
 by_cases h : fErr q 4 now.length u.length = 0
 ·rw [if_pos h]
  exact Nat.le_max_left _ _
 ·rw [if_neg h]
  exact Nat.le_trans hu (Nat.le_max_right _ _)
theorem pgSnoc {α : Type} {P : List α -> Prop} (h0 : P []) (h1 : ∀ l x,P l -> P (l ++ [x])) (l : List α) : P l:=by
 have h : ∀ l : List α,P l.reverse:=fun l=>by
  induction l with
  | nil=>exact h0
  | cons x l ih=>rw [List.reverse_cons]; exact h1 _ _ ih
 have:=h l.reverse
 rwa [List.reverse_reverse] at this
theorem pickL_le (M : List UInt8) (r : Rw) (W : Int) (k : Nat) : (pickL M r W k).length <= 4 * k:=by
 induction k with
 | zero=>simp [pickL]
 | succ k ih =>
   rw [pickL_succ,List.length_append,List.length_take]
   omega
theorem doL_len (q : Int) (M : List UInt8) (W : Int) (b : Nat) (rs : List Rw) : (∀ r ∈ rs,r.w.toNat <= b) -> (doL q M W rs).1.length <= rs.length * (1 + 4 * b) /\ (doL q M W rs).2.length <= 4 * b:=by
 refine pgSnoc (P:=fun rs=>(∀ r ∈ rs,r.w.toNat <= b) -> (doL q M W rs).1.length <= rs.length * (1 + 4 * b) /\ (doL q M W rs).2.length <= 4 * b) ?_ ?_ rs
 ·intro _
  simp [doL]
 ·intro rs r ih h
  have ih:=ih (fun x hx=>h x (List.mem_append_left _ hx))
  have h1:=doStep_len q (pickL M r W r.w.toNat) (doL q M W rs).2 r.y
  have h2:=doStep_al q (pickL M r W r.w.toNat) (doL q M W rs).2 r.y
  have h3:=pickL_le M r W r.w.toNat
  have h4:=h r (List.mem_append_right _ (List.mem_singleton_self _))
  rw [doL_snoc]
  unfold doG
  rw [List.length_append,List.length_append,List.length_singleton,Nat.add_mul,Nat.one_mul]
  dsimp only
  refine ⟨by omega,?_⟩
  have : max (pickL M r W r.w.toNat).length (doL q M W rs).2.length <= 4 * b:=Nat.max_le.2 ⟨by omega,ih.2⟩
  omega
theorem rows_few (W H l : Int) (b : Nat) (hH : H <= b) (hb : b <= 100) : (rowsL W H l).length <= 7 * (b + 1):=by
 have : ∀ k,k <= 7 -> (rowsTo W H l k).length <= k * (b + 1):=fun k=>by
  induction k with
  | zero=>intro _; simp [rowsTo]
  | succ k ih =>
    intro hk
    have:=ih (by omega)
    rw [rowsTo_succ,List.length_append,rowsP_length,Nat.add_mul,Nat.one_mul]
    have h2 : psH W H l k <= b + 1:=by
     rcases Nat.eq_zero_or_pos (psH W H l k) with h0 | h0
     ·omega
     ·have h3:=(rowOf_ok W H l k (psH W H l k - 1) (by omega)).row
      have h4:=(rowOf_ok W H l k (psH W H l k - 1) (by omega)).dy
      have h5:=(rowOf_ok W H l k (psH W H l k - 1) (by omega)).y0
      have h3 : (rowOf W H l k (psH W H l k - 1)).Y + ((psH W H l k - 1 : Nat) : Int) * (rowOf W H l k (psH W H l k - 1)).DY < H:=h3
      have h6 : ((psH W H l k - 1 : Nat) : Int) * 1 <= ((psH W H l k - 1 : Nat) : Int) * (rowOf W H l k (psH W H l k - 1)).DY:=Int.mul_le_mul_of_nonneg_left h4.1 (by omega)
      omega
    omega
 have h7:=this (pgN l) (pgN_pos l).2
 unfold rowsL
 have:=(pgN_pos l).2
 have : pgN l * (b + 1) <= 7 * (b + 1):=Nat.mul_le_mul_right _ this
 omega
theorem rows_wide (W H l : Int) (b : Nat) (hW : W <= b) (r : Rw) (h : r ∈ rowsL W H l) : r.w.toNat <= b:=by
 have h1:=rows_ok W H l r h
 have h2:=h1.w0
 rcases Nat.eq_zero_or_pos r.w.toNat with h0 | h0
 ·omega
 ·have h3:=h1.col (r.w.toNat - 1) (by omega)
  have h4:=h1.dx
  have h5:=h1.x0
  have h6 : ((r.w.toNat - 1 : Nat) : Int) * 1 <= ((r.w.toNat - 1 : Nat) : Int) * r.DX:=Int.mul_le_mul_of_nonneg_left h4.1 (by omega)
  omega
def rawB (q : Int) (M : List UInt8) (W H l : Int) : List UInt8:=(doL q M W (rowsL W H l)).1
theorem doL_small (q : Int) (M : List UInt8) (W H l : Int) (hW : W <= 64) (hH : H <= 64) (rs : List Rw) (h : rs <+: rowsL W H l) : (doL q M W rs).1.length <= 116935 /\ (doL q M W rs).2.length <= 256 /\ rs.length <= 455:=by
 have h1:=doL_len q M W 64 rs (fun r hr=>rows_wide W H l 64 hW r (h.subset hr))
 have h2:=rows_few W H l 64 hH (by omega)
 have h3:=h.length_le
 have h4 : rs.length * (1 + 4 * 64) <= 455 * (1 + 4 * 64):=Nat.mul_le_mul_right _ (by omega)
 omega
end Go.Proofs.YtjfjmkkkbcgohaaGreatDoor
