import Derived.Test.YtjfjmkkkbcgohaaGreatDoorMPiG
import Derived.Test.YtjfjmkkkbcgohaaGreatDoorMZlT
namespace Go.Proofs.YtjfjmkkkbcgohaaGreatDoor
open Go Go.RowKit
theorem rowI4 (w : Int) (h : 0 <= w /\ w <= 16384) : rowI w 4 8 = 4 * w:=by
 unfold rowI
 by_cases h1 : (1 <= w /\ w <= 16384) /\ ((1 : Int) <= 4 /\ (4 : Int) <= 4) /\ isDep 8 = true
 ·rw [if_pos h1]; omega
 ·rw [if_neg h1]
  by_cases h0 : w = 0
  ·rw [h0]; rfl
  ·exact absurd ⟨⟨by omega,by omega⟩,⟨by omega,by omega⟩,rfl⟩ h1
theorem rawS_app (s d : Int) (a b : List Rw) : rawS s d (a ++ b) = rawS s d a + rawS s d b:=by simp [rawS,List.sum_append]
theorem rawS_run (W H l : Int) (i n : Nat) : rawS 4 8 ((List.range n).map (rowOf W H l i)) = (n : Int) * (1 + 4 * psW W H l i):=by
 induction n with
 | zero=>simp [rawS]
 | succ n ih =>
   have hr:=size_range (psX l i) (psY l i) (psDX l i) (psDY l i) W H
   rw [List.range_succ,List.map_append,List.map_singleton,rawS_snoc,ih,show (rowOf W H l i n).w = psW W H l i from rfl,rowI4 (psW W H l i) ⟨hr.1.1,hr.1.2⟩]
   push_cast
   rw [Int.add_mul,Int.one_mul]
theorem rawS_to (W H l : Int) (S : Nat -> Int) (h0 : S 0 = 0) (hs : ∀ k,S (k + 1) = S k + psW W H l k * ((psH W H l k : Nat) : Int)) : ∀ k,rawS 4 8 (rowsTo W H l k) = ((rowsTo W H l k).length : Int) + 4 * S k
 | 0=>by rw [h0]; simp [rowsTo,rawS]
 | k + 1=>by
   rw [rowsTo_succ,rawS_app,rawS_to W H l S h0 hs k,hs,List.length_append,rowsP_length]
   unfold rowsP
   rw [rawS_run,Int.mul_add,Int.mul_one,Int.mul_left_comm,Int.mul_comm (psH W H l k : Int)]
   push_cast
   omega
theorem rawS_all (W H l : Int) (hW : 1 <= W /\ W <= 16384) (hH : 1 <= H /\ H <= 16384) : rawS 4 8 (rowsL W H l) = ((rowsL W H l).length : Int) + 4 * (W * H):=by
 unfold rowsL
 by_cases hl : l = 0
 ·subst hl
  rw [show pgN 0 = 1 from rfl,rawS_to W H 0 (fun k=>if k = 0 then 0 else W * H + ((k : Int) - 1) * (psW W H 0 0 * ((psH W H 0 0 : Nat) : Int))) rfl (fun k=>?_) 1]
  ·simp
  ·have e1 : psW W H 0 k = psW W H 0 0:=rfl
   have e2 : psH W H 0 k = psH W H 0 0:=rfl
   have e3 : psW W H 0 0 * ((psH W H 0 0 : Nat) : Int) = W * H:=by
    rw [<- psH_int]
    have hok : sizeOkB 0 0 1 1 W H = true:=decide_eq_true ⟨hW,hH,⟨by omega,by omega⟩,⟨by omega,by omega⟩,by omega,by omega⟩
    show sizeW 0 0 1 1 W H * sizeH 0 0 1 1 W H = W * H
    unfold sizeW sizeH
    rw [if_pos hok,if_pos hok]
    congr 1 <;> omega
   rw [e1,e2,e3]
   cases k with
   | zero=>simp
   | succ k =>
     rw [if_neg (by omega),if_neg (by omega)]
     push_cast
     generalize W * H = z
     rw [show (k : Int) + 1 + 1 - 1 = (k : Int) + 1 - 1 + 1 by omega,Int.add_mul,Int.one_mul,Int.add_assoc]
 ·rw [show pgN l = 7 from if_neg hl,rawS_to W H l (adSum W H) rfl (fun k=>?_) 7,ad_in W H hW hH]
  rw [adSum,<- psH_int]
  unfold psW
  rw [show psX l k = adX k from if_neg hl,show psY l k = adY k from if_neg hl,show psDX l k = adW k from if_neg hl,show psDY l k = adH k from if_neg hl]
theorem doL_size (q : Nat) (hq : q <= 4) (M : List UInt8) (W H l : Int) (hW : W <= 16384) (hH : H <= 16384) (hn : (M.length : Int) = 4 * (W * H)) : ∀ pre : List Rw,pre <+: rowsL W H l -> ((doL q M W pre).1.length : Int) = rawS 4 8 pre:=by
 refine pgSnoc (P:=fun pre=>pre <+: rowsL W H l -> ((doL q M W pre).1.length : Int) = rawS 4 8 pre) ?_ ?_
 ·intro _; simp [doL,rawS]
 ·intro pre x ih hpre
  obtain ⟨h1,h2⟩:=doL_next q hq M W H l hW hH hn _ pre x rfl hpre
  have hok:=rows_ok W H l x (hpre.subset (by simp))
  have hw0:=hok.w0
  have hpl:=pickL_length hok hW hH hn x.w.toNat (by omega)
  have hfl:=(flip_rw false (k:=q) (s:=4) (l:=pickL M x W x.w.toNat) (u:=if x.y = 0 then [] else (doL q M W pre).2) (by rw [hpl]; exact h1)).1
  rw [h2,rawS_snoc,<- ih ((List.prefix_append _ _).trans hpre),rowI4 _ ⟨hw0.1,hw0.2⟩]
  simp only [List.length_append,List.length_cons,hfl,hpl]
  push_cast
  omega
theorem rawB_size (q : Nat) (hq : q <= 4) (M : List UInt8) (W H l : Int) (hW : 1 <= W /\ W <= 64) (hH : 1 <= H /\ H <= 64) (hn : (M.length : Int) = 4 * (W * H)) : ((rawB q M W H l).length : Int) = rawZ W H 8 6 l /\ (rawB q M W H l).length <= 16839:=by
 have h1:=doL_size q hq M W H l (by omega) (by omega) hn (rowsL W H l) (List.prefix_refl _)
 have h2:=rawS_all W H l (by omega) (by omega)
 have h3:=rows_few W H l 64 hH.2 (by omega)
 have h4 : W * H <= 64 * 64:=Int.mul_le_mul hW.2 hH.2 (by omega) (by omega)
 refine ⟨h1,?_⟩
 unfold rawB
 omega
def pkB (q : Nat) (M : List UInt8) (W H l : Int) : List UInt8:=[0x78,0x01] ++ storeB true (rawB q M W H l) ++ bigN (adWord (adOf (rawB q M W H l)))
theorem pkB_size (q : Nat) (M : List UInt8) (W H l : Int) : (pkB q M W H l).length = (rawB q M W H l).length + 11:=by
 unfold pkB
 simp [storeB_length,bigN]
 omega
theorem pkB_packed (q : Nat) (M : List UInt8) (W H l : Int) (h : (rawB q M W H l).length <= 16839) : PackS (rawB q M W H l) (pkB q M W H l):=⟨by omega,rfl⟩
theorem pkB_pack (q : Nat) (M : List UInt8) (W H l : Int) (h : (rawB q M W H l).length <= 16839) (A1 : Option Addr) (n1 c1 : Nat) (w1 : World) (hb : Holds w1 1 A1 n1 (bvals (rawB q M W H l))) (hl : (rawB q M W H l).length = n1) (hc : n1 <= c1) :
 Calls Tryz.prog 18 #[.slice A1 n1 c1,.bool false] w1 fun e w'=>∃ v,e = .returned v /\ w'.ownsRow w1.heap.size 5 1 v (pkB q M W H l).length (bvals (pkB q M W H l)) /\ Only [] w1 w':=by
 refine (pack_store A1 n1 c1 (rawB q M W H l) w1 hb hl hc (by omega) (fun bs=>bs = storeB true (rawB q M W H l)) (fun bs h=>by rw [h,storeB_length]; omega) fun w2 ho=>?_).mono ?_
 ·refine (store_any A1 n1 c1 (rawB q M W H l) w2 (hb.keep ho (by simp)) hl (by omega)).mono ?_
  rintro e w' ⟨v,rfl,h1,h2⟩
  exact ⟨v,_,rfl,rfl,h1,h2⟩
 ·rintro e w' ⟨v,bs,rfl,rfl,how,ho⟩
  exact ⟨v,rfl,how,ho⟩
set_option maxRecDepth 100000 in
set_option maxHeartbeats 8000000 in
theorem unpk_any (w0 : World) (g : Nat) (W H q : Nat) (l : Int) (P : PgPt) (M : List UInt8) (w : World) (hp : PtHas w0 g W H 8 6 l P w) (hpk : P.packed = pkB q M W H l) (hT : Tab w)
 (hW : 1 <= W /\ W <= 64) (hH : 1 <= H /\ H <= 64) (hq : q <= 4) (hn : M.length = 4 * (W * H)) :
 Calls Tryz.prog 20 #[.pointer (some ⟨g,0,none⟩)] w fun e w'=>∃ Ar cr,e = .returned (.tuple #[.slice Ar (rawB q M W H l).length cr,.int .i64 0]) /\ Holds w' 1 Ar (rawB q M W H l).length (bvals (rawB q M W H l)) /\ (rawB q M W H l).length <= cr /\ Only [] w w':=by
 have hnn : (M.length : Int) = 4 * ((W : Int) * (H : Int)):=by rw [hn]; push_cast; rfl
 obtain ⟨hz,hsm⟩:=rawB_size q hq M W H l (by omega) (by omega) hnn
 have hpl:=pkB_size q M W H l
 have hpp:=pkB_packed q M W H l hsm
 have hbx : ∃ cs Ak ck,Has w g 105 cs /\ cs[0]? = some (.int .i64 (W : Int)) /\ cs[1]? = some (.int .i64 (H : Int)) /\ cs[2]? = some (.int .i64 8) /\ cs[3]? = some (.int .i64 6) /\ cs[4]? = some (.int .i64 l) /\ cs[8]? = some (.slice Ak (pkB q M W H l).length ck) /\ Holds w 1 Ak (pkB q M W H l).length (bvals (pkB q M W H l)) /\ (pkB q M W H l).length <= ck /\ (Ak = none -> ck = 0):=by
  obtain ⟨Ap,cp,Ac,cc,Ak,ck,h1,_,_,_,_,h6⟩:=hp.box
  rw [hpk] at h6
  obtain ⟨A6,c6,he,e1,e2⟩:=own_shape h6
  injection he with ea _ ec
  subst ea ec
  exact ⟨_,Ak,ck,h1,rfl,rfl,rfl,rfl,rfl,by rw [<- hpk]; rfl,Holds.of_own h6,e1,e2⟩
 obtain ⟨cs,Ak,ck,hbox,k0,k1,k2,k3,k4,k8,hbk,hck,hAk⟩:=hbx
 generalize pkB q M W H l = pk at *
 generalize rawB q M W H l = raw at *
 have c0:=(hbox.cell 0).trans k0
 have c1:=(hbox.cell 1).trans k1
 have c2:=(hbox.cell 2).trans k2
 have c3:=(hbox.cell 3).trans k3
 have c4:=(hbox.cell 4).trans k4
 have HB:=hide (aI hbox (aI k8 (aI hbk (aI hck (aI hAk (aI hT (aI hsm (aI hpl hpp))))))))
 have HR:=hide (fun x : World=>rawSize_any W H 8 6 l x)
 rw [<- hz] at HR
 clear hbox k0 k1 k2 k3 k4 k8 hbk hck hAk hT hsm hpl hpp hp hpk hn hnn hz hW hH hq
 go_enter Tryz.func20,Tryz.ntmps20
 go_wp2_with fail
 refine (HR.out _).mono ?_
 rintro e w1 ⟨rfl,ho1⟩
 have d8:=((HB.out.1.only ho1 (by simp)).cell 8).trans HB.out.2.1
 have HO:=hide ho1
 clear c0 c1 c2 c3 c4 HR ho1
 go_wp2_with fail
 refine (unpack_sto HB.out.2.2.2.2.2.2.2.2 [] Ak pk.length ck raw.length w1 (HB.out.2.2.2.2.2.1.only HO.out (by simp)) (by simp) (by rw [List.append_nil]; exact HB.out.2.2.1.keep HO.out (by simp)) HB.out.2.2.2.1 HB.out.2.2.2.2.1 (by have:=HB.out.2.2.2.2.2.2.1; have:=HB.out.2.2.2.2.2.2.2.1; omega) (Nat.le_refl _) (by have:=HB.out.2.2.2.2.2.2.1; omega)).mono ?_
 rintro e w2 ⟨ho2,v,rfl,how⟩
 obtain ⟨Ar,cr,rfl,hcr,_⟩:=own_shape how
 have e8:=(((HB.out.1.only HO.out (by simp)).only ho2 (by simp)).cell 8).trans HB.out.2.1
 have H2:=hide (aI (Holds.of_own how) (aI hcr (HO.out.trans ho2 (S:=[]) (by simp))))
 have hx1 : ¬ (raw.length : Int) < (raw.length : Int):=by omega
 have hx2 : ¬ (pk.length : Int) < (pk.length : Int):=by omega
 clear how hcr ho2 d8
 go_wp2_with fail
 go_ret2
 exact ⟨Ar,cr,rfl,H2.out.1,H2.out.2.1,H2.out.2.2⟩
theorem crcW_lt (l : List UInt8) : crcW l < 4294967296:=by unfold crcW; omega
theorem big_four (s : Nat) (hs : s < 4294967296) (rest : List UInt8) : bigOf (four4 s ++ rest) = s:=by
 show (UInt8.ofNat (s / 16777216)).toNat * 16777216 + (UInt8.ofNat (s / 65536)).toNat * 65536 + (UInt8.ofNat (s / 256)).toNat * 256 + (UInt8.ofNat s).toNat = s
 simp only [UInt8.toNat_ofNat']
 omega
theorem kind4_four (k : List UInt8) (h : k.length = 4) : kind4 k = k:=by
 unfold kind4
 rw [h,Nat.sub_self,List.replicate_zero,List.append_nil,List.take_of_length_le (by omega)]
structure CkOk (p : Ck) : Prop where
 four : p.k.length = 4
 lett : p.k.all lettB = true
 len : p.d.length <= 2147483647
theorem layC_next {p : Ck} (h : CkOk p) (rest : List UInt8) : nxE (layC p ++ rest) = 0 /\ ckOf (layC p ++ rest) = p /\ (layC p ++ rest).drop (12 + bigOf (layC p ++ rest)) = rest:=by
 have hk:=kind4_four p.k h.four
 have hl:=h.len
 have h4:=h.four
 have e : layC p ++ rest = four4 p.d.length ++ (p.k ++ (p.d ++ (four4 (crcW (p.k ++ p.d)) ++ rest))):=by
  unfold layC
  rw [hk]
  simp only [List.append_assoc]
 have hb : bigOf (layC p ++ rest) = p.d.length:=by rw [e,big_four _ (by omega)]
 have d4 : (layC p ++ rest).drop 4 = p.k ++ (p.d ++ (four4 (crcW (p.k ++ p.d)) ++ rest)):=by rw [e]; rfl
 have d8 : (layC p ++ rest).drop 8 = p.d ++ (four4 (crcW (p.k ++ p.d)) ++ rest):=by
  rw [show 8 = 4 + 4 from rfl,<- List.drop_drop,d4,<- h4,List.drop_left]
 have t4 : ((layC p ++ rest).drop 4).take 4 = p.k:=by rw [d4,<- h4,List.take_left]
 have dl : (layC p ++ rest).drop (8 + p.d.length) = four4 (crcW (p.k ++ p.d)) ++ rest:=by rw [<- List.drop_drop,d8,List.drop_left]
 have tt : ((layC p ++ rest).drop 4).take (4 + p.d.length) = p.k ++ p.d:=by
  rw [d4,<- List.append_assoc,List.take_append_of_le_length (by simp; omega),List.take_of_length_le (by simp; omega)]
 have hlen : (layC p ++ rest).length = p.d.length + 12 + rest.length:=by rw [List.length_append,layC_length]
 refine ⟨?_,?_,?_⟩
 ·unfold nxE
  rw [hb,if_neg (by omega),if_neg (by omega),if_neg (by omega),t4,h.lett,if_neg (by decide),if_neg (by omega),tt,dl,big_four _ (crcW_lt _),if_pos rfl]
 ·unfold ckOf
  rw [t4,hb,d8,List.take_left]
 ·rw [hb,show 12 + p.d.length = 8 + p.d.length + 4 by omega,<- List.drop_drop,dl]
  rfl
theorem cks_laid (last : Ck) (hl : CkOk last) (hk : last.k = iend) (rest : List UInt8) : ∀ cs : List Ck,(∀ c ∈ cs,CkOk c /\ c.k ≠ iend) -> cks ((cs ++ [last]).flatMap layC ++ rest) = (0,cs ++ [last])
 | [],_=>by
   obtain ⟨h1,h2,_⟩:=layC_next hl rest
   rw [List.nil_append,List.flatMap_cons,List.flatMap_nil,List.append_nil,cks_end h1 (by rw [h2]; exact hk),h2]
 | c :: cs,h=>by
   obtain ⟨hc,hn⟩:=h c List.mem_cons_self
   obtain ⟨h1,h2,h3⟩:=layC_next hc ((cs ++ [last]).flatMap layC ++ rest)
   rw [List.cons_append,List.flatMap_cons,List.append_assoc,cks_more h1 (by rw [h2]; exact hn),h2,h3,cks_laid last hl hk rest cs (fun c hc=>h c (List.mem_cons_of_mem _ hc))]
   rfl
theorem begE_laid (rest : List UInt8) : begE (sigB ++ rest) = 0:=by
 unfold begE
 have : min (sigB ++ rest).length 8 = 8:=by simp [sigB]
 rw [this,if_pos (by rfl),if_neg (by simp [sigB])]
theorem ch_laid (last : Ck) (hl : CkOk last) (hk : last.k = iend) (cs : List Ck) (h : ∀ c ∈ cs,CkOk c /\ c.k ≠ iend) : chE (layB (cs ++ [last])) = 0 /\ chL (layB (cs ++ [last])) = cs ++ [last]:=by
 have hb:=begE_laid ((cs ++ [last]).flatMap layC)
 have hc:=cks_laid last hl hk [] cs h
 rw [List.append_nil] at hc
 unfold chE chL layB
 rw [hb,if_pos rfl,if_pos rfl,show (sigB ++ (cs ++ [last]).flatMap layC).drop 8 = (cs ++ [last]).flatMap layC from rfl,hc]
 exact ⟨rfl,rfl⟩
def tkC (P : PgPt) (c : Ck) : Nat × PgPt:=if c.k = idat then takeI P c.d else if c.k = iend then takeN P c.d else (0,{ P with last:=c.k })
def TkOk (c : Ck) : Prop:=c.k = idat \/ c.k = iend \/ ∃ x t,c.k = x :: t /\ 97 <= x.toNat /\ x :: t ≠ [116,82,78,83]
theorem tkC_len (P : PgPt) (c : Ck) : (tkC P c).2.packed.length <= P.packed.length + c.d.length:=by
 unfold tkC takeI takeN takeD
 repeat' split
 all_goals first | (simp; done) | (simp; omega)
theorem tk_any (w0 : World) (g : Nat) (W H d c l : Int) (P : PgPt) (A : Option Addr) (cb : Nat) (p : Ck) (w : World) (h : PtHas w0 g W H d c l P w) (hb : Old w0 w A p.d) (hlen : P.packed.length + p.d.length <= 1000000000) (hk : TkOk p) :
 Calls Tryz.prog 51 #[.pointer (some ⟨g,0,none⟩),.agg #[.string ⟨p.k.toArray⟩,.slice A p.d.length cb]] w fun e w'=>e = .returned (.int .i64 (tkC P p).1) /\ PtHas w0 g W H d c l (tkC P p).2 w' /\ KeepU g w w':=by
 unfold tkC
 by_cases h1 : p.k = idat
 ·rw [if_pos h1,h1]
  exact takeI_any w0 g W H d c l P A p.d.length cb p.d w h hb rfl hlen
 by_cases h2 : p.k = iend
 ·rw [if_neg h1,if_pos h2,h2]
  exact takeN_any w0 g W H d c l P A p.d.length cb p.d w h rfl
 ·rw [if_neg h1,if_neg h2]
  rcases hk with hk | hk | ⟨x,t,hk,hx,ht⟩
  ·exact absurd hk h1
  ·exact absurd hk h2
  ·rw [hk]
   exact takeO_any w0 g W H d c l P A p.d.length cb x t w h hx ht
def gaF : List Ck -> PgPt -> Nat × PgPt
 | [],P=>(0,P)
 | c :: cs,P=>if (tkC P c).1 = 0 then gaF cs (tkC P c).2 else tkC P c
def szL (cs : List Ck) : Nat:=(cs.map fun c=>c.d.length).sum
def noPt : PgPt:=⟨[],[],false,[],false,[]⟩
theorem chk_elem : Tryz.prog.underlying 90 = some (.slice (Tryz.prog.elem 90)):=by kernel_rfl
theorem chk_size (w : World) : (sizeOf (Tryz.prog.elem 90)).run Tryz.prog w = .ok 2 w:=by kernel_rfl
theorem run_behind (g m c : Nat) (hm : 0 < m) (hc : m + 1 <= c) (w : World) (z : Int) (hz : z = 1) :
 (Instr.slice 90 (.slice (some ⟨g,0,none⟩) (m + 1) c) (some (.int .i64 z)) none none).run Tryz.prog w = .ok (.slice (some ⟨g,2,none⟩) m (c - 1)) w:=by
 subst hz
 rw [run_slice_l (w:=w) 90 (some ⟨g,0,none⟩) (m + 1) c chk_elem .i64 1 (by omega) (by omega),chk_size]
 simp only [Result.andThen_ok,sliced]
 rw [if_neg (by omega)]
 simp [add_zero_of]
structure GaSt (w : World) (g gq gh : Nat) (W H l : Int) (cur : Array Value) (rs : List Ck) (todo : List Ck) (P : PgPt) (wr : World) : Prop where
 pts : PtHas w g W H 8 6 l P wr
 row : Has wr gq 53 cur
 head : Has wr gh 36 #[.int .i64 W,.int .i64 H,.int .i64 8,.int .i64 6,.int .i64 l]
 ran : gaF rs noPt = gaF todo P
 few : P.packed.length + szL todo <= 1000000000
theorem GaSt.idle {w : World} {g gq gh : Nat} {W H l : Int} {cur : Array Value} {rs todo : List Ck} {P : PgPt} {wr w' : World} (S : GaSt w g gq gh W H l cur rs todo P wr) (ho : Only [] wr w') : GaSt w g gq gh W H l cur rs todo P w' :=
 ⟨S.pts.idle ho,S.row.only ho (by simp),S.head.only ho (by simp),S.ran,S.few⟩
theorem GaSt.take {w : World} {g gq gh : Nat} {W H l : Int} {cur : Array Value} {rs todo : List Ck} {P : PgPt} {c : Ck} {wr w' : World} (S : GaSt w g gq gh W H l cur rs (c :: todo) P wr) (h0 : (tkC P c).1 = 0) (hp : PtHas w g W H 8 6 l (tkC P c).2 w') (hk : KeepU g wr w') (h1 : gq ≠ g) (h2 : gh ≠ g) : GaSt w g gq gh W H l cur rs todo (tkC P c).2 w' :=
 ⟨hp,hk _ _ _ (by decide) h1 S.row,hk _ _ _ (by decide) h2 S.head,by rw [S.ran,gaF,if_pos h0],by
   have:=S.few
   have:=tkC_len P c
   simp only [szL,List.map_cons,List.sum_cons] at *
   omega⟩
def Gathered (w : World) (W H l px : Int) (rs : List Ck) (e : Ending) (w' : World) : Prop :=
 Only [] w w' /\ ((px < W * H /\ e = .returned (.tuple #[.pointer none,.int .i64 5])) \/ (W * H <= px /\ (gaF rs noPt).1 ≠ 0 /\ e = .returned (.tuple #[.pointer none,.int .i64 ((gaF rs noPt).1 : Nat)])) \/
  (W * H <= px /\ (gaF rs noPt).1 = 0 /\ (gaF rs noPt).2.hasDat = false /\ e = .returned (.tuple #[.pointer none,.int .i64 3])) \/
  (W * H <= px /\ (gaF rs noPt).1 = 0 /\ (gaF rs noPt).2.hasDat = true /\ ∃ g,e = .returned (.tuple #[.pointer (some ⟨g,0,none⟩),.int .i64 0]) /\ PtHas w g W H 8 6 l (gaF rs noPt).2 w'))
theorem ckvs_at (ps : List Cv) (j : Nat) (p : Cv) (h : ps[j]? = some p) : (ckvs ps)[2 * j]? = some (.string ⟨p.ck.k.toArray⟩) /\ (ckvs ps)[2 * j + 1]? = some (.slice p.A p.ck.d.length p.c):=by
 induction ps generalizing j with
 | nil=>simp at h
 | cons q ps ih =>
   cases j with
   | zero =>
     obtain rfl : q = p:=by simpa using h
     exact ⟨rfl,rfl⟩
   | succ j =>
     have:=ih j (by simpa using h)
     rw [show 2 * (j + 1) = 2 * j + 1 + 1 by omega]
     have e : ckvs (q :: ps) = .string ⟨q.ck.k.toArray⟩ :: .slice q.A q.ck.d.length q.c :: ckvs ps:=rfl
     rw [e]
     exact this
set_option maxRecDepth 100000 in
set_option maxHeartbeats 16000000 in
theorem pgGather_any (A : Option Addr) (n c : Nat) (l : List UInt8) (px : Int) (W H la : Int) (c0 : Ck) (rs : List Ck) (w : World) (hb : Holds w 1 A n (bvals l)) (hl : l.length = n) (hc : n <= c) (hn : n <= 1000000000)
 (h1 : chE l = 0) (h2 : chL l = c0 :: rs) (hd : hdE c0 = 0) (hv : hdV c0 = .agg #[.int .i64 W,.int .i64 H,.int .i64 8,.int .i64 6,.int .i64 la]) (hr : rs ≠ []) (hk : ∀ r ∈ rs,TkOk r) (hsz : szL rs <= 1000000000) (hW : 0 <= W * H /\ W * H <= 4096) :
 Calls Tryz.prog 19 #[.slice A n c,.int .i64 px] w (Gathered w W H la px rs):=by
 have HS:=hide (split_any A n c l w hb hl hc hn)
 have HF:=hide (aI h1 (aI h2 (aI hd (aI hv (aI hr (aI hk (aI hsz hW)))))))
 clear hb hl hc hn h1 h2 hd hv hr hk hsz hW
 go_enter Tryz.func19,Tryz.ntmps19
 go_wp2_with fail
 refine (HS.out).mono ?_
 rintro e w1 ⟨ho1,(⟨hbad,_⟩ | ⟨_,ps,v,rfl,hmap,hown,hcv⟩)⟩
 ·rw [HF.out.1] at hbad; exact absurd hbad (by omega)
 rw [HF.out.2.1] at hmap
 obtain ⟨p0,qs,rfl,hp0,hqs⟩ : ∃ p0 qs,ps = p0 :: qs /\ p0.ck = c0 /\ qs.map Cv.ck = rs:=by
  cases ps with
  | nil=>cases hmap
  | cons p ps =>
    rw [List.map_cons] at hmap
    injection hmap with e1 e2
    exact ⟨p,ps,rfl,e1,e2⟩
 obtain ⟨Aq,cq,rfl,hcq,_⟩:=own_shape hown
 obtain ⟨gq,cur,hA,hgq,hrow,hget⟩:=own_has hown (by simp)
 subst hA
 have hq0 : 0 < qs.length:=by
  cases qs with
  | nil=>exact absurd hqs.symm HF.out.2.2.2.2.1
  | cons q qs=>simp
 obtain ⟨m,hm⟩ : ∃ m,m = qs.length:=⟨_,rfl⟩
 rw [List.length_cons,<- hm] at hcq ⊢
 rw [<- hm] at hq0
 obtain ⟨i0,i1⟩:=ckvs_at (p0 :: qs) 0 p0 rfl
 have k0:=(hrow.cell 0).trans (hget _ _ i0)
 have k1:=(hrow.cell 1).trans (hget _ _ i1)
 have hcv0 : CvHas w p0:=by
  have:=(hcv p0 List.mem_cons_self).1
  refine ⟨this.1,by rw [this.2]; exact Nat.le_refl _,fun hA=>?_⟩
  rw [<- this.2]
  rcases Nat.eq_zero_or_pos p0.ck.d.length with h | h
  ·exact h
  ·obtain ⟨ad,h3,_⟩:=this.1.2 h
   rw [hA] at h3
   cases h3
 have HRd:=hide (fun (x : World) (hx : Only [] w x)=>pgReadHead_any p0 x (hcv0.only hx (by simp)))
 rw [hp0,HF.out.2.2.1,HF.out.2.2.2.1] at HRd
 rw [hp0] at k0 k1
 have H1:=hide (aI ho1 (aI hown (aI hcv (aI hqs (aI hcq (aI hgq (aI hrow (aI hget hm))))))))
 have HQ:=hide hq0
 clear ho1 hown hcv hqs hcq hgq hrow hget hm i0 i1 hcv0 hmap HS hp0 hq0
 go_wp2_with fail
 refine (HRd.out w1 H1.out.1).mono ?_
 rintro e w2 ⟨ho2,rfl⟩
 have hZ:=HF.out.2.2.2.2.2.2.2
 obtain ⟨Z,hZe⟩ : ∃ Z,Z = W * H:=⟨_,rfl⟩
 have hwh : Go.RowKit.wrap64 (W * H) = Z:=by rw [hZe]; unfold Go.RowKit.wrap64; omega
 obtain ⟨mp,hmp⟩ : ∃ mp : Int,min px 67108864 = mp:=⟨_,rfl⟩
 have hmz : mp < Z ↔ px < Z:=by rw [<- hmp,hZe]; omega
 have H2:=hide (aI ho2 (H1.out.1.trans ho2 (S:=[]) (by simp)))
 have HZ:=hide (aI hZe hmz)
 clear ho2 k0 k1 HRd hZe hZ hmz
 by_cases hpx : mp < Z
 ·go_wp2_with fail
  go_ret2
  exact ⟨H2.out.2.alloc _,.inl ⟨by rw [<- HZ.out.1]; exact HZ.out.2.1 hpx,rfl⟩⟩
 have hsl:=run_behind gq m cq HQ.out H1.out.2.2.2.2.1
 go_wp2_with fail
 have hh:=(Has.new w2 36 #[.int .i64 W,.int .i64 H,.int .i64 8,.int .i64 6,.int .i64 la]).alloc (.cells #[.int .i64 W,.int .i64 H,.int .i64 8,.int .i64 6,.int .i64 la,.slice none 0 0,.slice none 0 0,.bool false,.slice none 0 0,.bool false,.string ⟨#[]⟩] 105)
 have hp:=Has.new (w2.alloc (.cells #[.int .i64 W,.int .i64 H,.int .i64 8,.int .i64 6,.int .i64 la] 36)) 105 #[.int .i64 W,.int .i64 H,.int .i64 8,.int .i64 6,.int .i64 la,.slice none 0 0,.slice none 0 0,.bool false,.slice none 0 0,.bool false,.string ⟨#[]⟩]
 have o3 : Only [] w2 ((w2.alloc (.cells #[.int .i64 W,.int .i64 H,.int .i64 8,.int .i64 6,.int .i64 la] 36)).alloc (.cells #[.int .i64 W,.int .i64 H,.int .i64 8,.int .i64 6,.int .i64 la,.slice none 0 0,.slice none 0 0,.bool false,.slice none 0 0,.bool false,.string ⟨#[]⟩] 105)):=((Only.refl [] w2).alloc _).alloc _
 rw [World.size_alloc] at hp
 generalize (w2.alloc (.cells #[.int .i64 W,.int .i64 H,.int .i64 8,.int .i64 6,.int .i64 la] 36)).alloc (.cells #[.int .i64 W,.int .i64 H,.int .i64 8,.int .i64 6,.int .i64 la,.slice none 0 0,.slice none 0 0,.bool false,.slice none 0 0,.bool false,.string ⟨#[]⟩] 105) = w3 at *
 have S0 : GaSt w (w2.heap.size + 1) gq w2.heap.size W H la cur rs rs noPt w3:=by
  have hsz:=H2.out.2.size
  exact ⟨⟨⟨none,0,none,0,none,0,hp,⟨Holds.empty _ _ _,fun h=>absurd h (by decide)⟩,Nat.le_refl _,⟨Holds.empty _ _ _,fun h=>absurd h (by decide)⟩,Nat.le_refl _,World.ownsRow_nil _ _ _ _⟩,by omega,H2.out.2.trans o3 (by simp)⟩,(H1.out.2.2.2.2.2.2.1.only H2.out.1 (by simp)).only o3 (by simp),hh,rfl,by have:=HF.out.2.2.2.2.2.2.1; show 0 + szL rs <= _; omega⟩
 have hgne : gq ≠ w2.heap.size + 1 /\ w2.heap.size ≠ w2.heap.size + 1:=by
  have:=(H1.out.2.2.2.2.2.2.1.only H2.out.1 (by simp)).lt
  omega
 have hrl : rs.length = m:=by rw [<- H1.out.2.2.2.1,List.length_map,H1.out.2.2.2.2.2.2.2.2]
 have hml : m <= 9223372036854775806:=by
  rcases H1.out.2.1.2 with ⟨hv,_⟩ | ⟨g',cap,cur',hv,_,_,h3,h4,_⟩
  ·cases hv
  ·have:=H1.out.2.2.2.2.2.2.2.2
   simp only [List.length_cons] at h3
   unfold maxLen at h4
   omega
 have HM:=hide hml
 clear hml
 have HS0:=hide (aI S0 (aI hgne hrl))
 have HX:=hide hpx
 clear hh hp o3 S0 hgne hrl hsl hwh hmp hpx
 go_loopw [45] (fun vi wr=>∃ j : Nat,j <= m /\ vi = .int .i64 (j : Int) /\ ∃ P,GaSt w (w2.heap.size + 1) gq w2.heap.size W H la cur rs (rs.drop j) P wr) (fun vi _=>m - (intOf vi).toNat)
 case atStart=>exact ⟨0,Nat.zero_le _,rfl,noPt,HS0.out.1⟩
 case round =>
  obtain ⟨j,hj,rfl,P,S⟩:=hrel
  by_cases hlt : j < m
  ·have hlt' : (j : Int) < (m : Int):=by omega
   obtain ⟨pj,hpj⟩ : ∃ pj,qs[j]? = some pj:=⟨qs[j]'(by have:=H1.out.2.2.2.2.2.2.2.2; omega),List.getElem?_eq_getElem _⟩
   have hrj : rs[j]? = some pj.ck:=by rw [<- H1.out.2.2.2.1,List.getElem?_map,hpj]; rfl
   have hdr : rs.drop j = pj.ck :: rs.drop (j + 1):=by
    obtain ⟨hlt2,he⟩:=List.getElem?_eq_some_iff.1 hrj
    rw [List.drop_eq_getElem_cons hlt2,he]
   rw [hdr] at S
   obtain ⟨i0,i1⟩:=ckvs_at (p0 :: qs) (j + 1) pj (by simpa using hpj)
   have e0:=(S.row.cell (2 * (j + 1))).trans (H1.out.2.2.2.2.2.2.2.1 _ _ i0)
   have e1:=(S.row.cell (2 * (j + 1) + 1)).trans (H1.out.2.2.2.2.2.2.2.1 _ _ i1)
   rw [show 2 * (j + 1) = 2 + j * 2 by omega] at e0
   rw [show 2 * (j + 1) + 1 = 2 + j * 2 + 1 by omega] at e1
   have hcj:=(H1.out.2.2.1 pj (List.mem_cons_of_mem _ (List.mem_of_getElem? hpj))).1
   have hold : Old w wr pj.A pj.ck.d:=⟨hcj.1.keep S.pts.only (by simp),fun h0 ad ha=>hcj.1.blk h0 ad ha⟩
   have hkj:=HF.out.2.2.2.2.2.1 pj.ck (List.mem_of_getElem? hrj)
   have ho1:=(Only.refl [] wr).alloc (.cells #[.string ⟨pj.ck.k.toArray⟩,.slice pj.A pj.ck.d.length pj.c] 53)
   have S1:=S.idle ho1
   have HT:=hide (tk_any w (w2.heap.size + 1) W H 8 6 la P pj.A pj.c pj.ck _ S1.pts (hold.only ho1 (by simp)) (by have:=S.few; simp only [szL,List.map_cons,List.sum_cons] at this; omega) hkj)
   have HS:=hide S1
   clear S i0 i1 hcj hold hkj ho1 S1 hdr
   go_wp2_with fail
   refine (HT.out).mono ?_
   rintro e w4 ⟨rfl,hP,hK⟩
   have HK:=hide (aI hP hK)
   clear hP hK HT e0 e1
   by_cases h0 : (tkC P pj.ck).1 = 0
   ·have H0:=hide h0
    rw [h0]
    clear h0
    go_wp2_with fail
    go_roundw
    case rel=>exact ⟨j + 1,hlt,by rw [show RowKit.wrap64 ((j : Int) + 1) = ((j + 1 : Nat) : Int) by (have:=HM.out; unfold RowKit.wrap64; omega)],_,HS.out.take H0.out HK.out.1 HK.out.2 HS0.out.2.1.1 HS0.out.2.1.2⟩
    case measure=>rw [show RowKit.wrap64 ((j : Int) + 1) = ((j + 1 : Nat) : Int) by (have:=HM.out; unfold RowKit.wrap64; omega)]; simp [intOf]; omega
   ·have hran : gaF rs noPt = tkC P pj.ck:=by rw [HS.out.ran,gaF,if_neg h0]
    have H0:=hide (aI hran h0)
    clear hran
    obtain ⟨E,hE⟩ : ∃ E,E = (tkC P pj.ck).1:=⟨_,rfl⟩
    rw [<- hE] at h0 ⊢
    have h0' : ¬ (E : Int) = 0:=by omega
    have HE:=hide hE
    clear h0 hE
    go_wp2_with fail
    go_ret2
    exact ⟨HK.out.1.only,.inr (.inl ⟨by rw [<- HZ.out.1]; have:=HZ.out.2; have:=HX.out; omega,by rw [H0.out.1]; exact H0.out.2,by rw [H0.out.1,<- HE.out]; rfl⟩)⟩
  ·obtain rfl : j = m:=by omega
   have hlt' : ¬ (j : Int) < (j : Int):=by omega
   rw [List.drop_of_length_le (by rw [HS0.out.2.2]; exact Nat.le_refl _)] at S
   have hbx : ∃ cs,Has wr (w2.heap.size + 1) 105 cs /\ cs[9]? = some (.bool P.hasDat):=by
    obtain ⟨Ap,cp,Ac,cc,Ak,ck,h1,_⟩:=S.pts.box
    exact ⟨_,h1,rfl⟩
   obtain ⟨cs,hbx,hb9⟩:=hbx
   have b9:=(hbx.cell 9).trans hb9
   have d3 : World.cell? wr ⟨w2.heap.size,3,none⟩ = some (.int .i64 6):=S.head.cell 3
   have HS:=hide S
   clear S hbx hb9
   have hran : gaF rs noPt = (0,P):=HS.out.ran
   have HR:=hide hran
   clear hran
   have hge : Z <= px:=by have:=HZ.out.2; have:=HX.out; omega
   rw [HZ.out.1] at hge
   have HG:=hide hge
   clear hge
   cases hd : P.hasDat with
   | false =>
     rw [hd] at b9
     have HD:=hide hd
     clear hd
     go_wp2_with fail
     go_ret2
     exact ⟨HS.out.pts.only,.inr (.inr (.inl ⟨HG.out,by rw [HR.out],by rw [HR.out]; exact HD.out,rfl⟩))⟩
   | true =>
     rw [hd] at b9
     have HD:=hide hd
     clear hd
     go_wp2_with fail
     go_ret2
     exact ⟨HS.out.pts.only,.inr (.inr (.inr ⟨HG.out,by rw [HR.out],by rw [HR.out]; exact HD.out,_,rfl,by rw [HR.out]; exact HS.out.pts⟩))⟩
set_option maxRecDepth 100000 in
set_option maxHeartbeats 8000000 in
theorem dec_err (A : Option Addr) (n c : Nat) (px : Int) (E : Nat) (w : World) (hE : E ≠ 0)
 (hg : ∀ x,Only [] w x -> Calls Tryz.prog 19 #[.slice A n c,.int .i64 px] x fun e w'=>Only [] x w' /\ e = .returned (.tuple #[.pointer none,.int .i64 (E : Nat)])) :
 Calls Tryz.prog 7 #[.slice A n c,.int .i64 px] w fun e w'=>e = .returned (.tuple #[mval 0 0 none 0 0,.int .i64 (E : Nat)]) /\ Only [] w w':=by
 have o1:=(Only.refl [] w).alloc (.cells #[.int .i64 0,.int .i64 0,.slice none 0 0] 24)
 have h1:=Has.new w 24 #[.int .i64 0,.int .i64 0,.slice none 0 0]
 have HG:=hide (hg _ o1)
 have hE0 : ¬ (E : Int) = 0:=by omega
 have H1:=hide (aI o1 h1)
 clear o1 h1 hE hg
 go_enter Tryz.func7,Tryz.ntmps7
 go_wp2_with fail
 refine (HG.out).mono ?_
 rintro e w2 ⟨ho2,rfl⟩
 have h2:=H1.out.2.only ho2 (by simp)
 have H2:=hide (aI (H1.out.1.trans ho2 (S:=[]) (by simp)) h2)
 have c0 : World.cell? w2 ⟨w.heap.size,0,none⟩ = some (.int .i64 0):=h2.cell 0
 have c1 : World.cell? w2 ⟨w.heap.size,1,none⟩ = some (.int .i64 0):=h2.cell 1
 have c2 : World.cell? w2 ⟨w.heap.size,2,none⟩ = some (.slice none 0 0):=h2.cell 2
 have f0:=h2.free 0
 have f1:=h2.free 1
 have f2:=h2.free 2
 clear ho2 h2
 go_wp2_with fail
 have h3:=((H2.out.2.set 0 (.int .i64 0)).set 1 (.int .i64 0)).set 2 (.slice none 0 0)
 have os : Only [w.heap.size] w2 (((w2.setCell ⟨w.heap.size,0,none⟩ (.int .i64 0)).setCell ⟨w.heap.size,1,none⟩ (.int .i64 0)).setCell ⟨w.heap.size,2,none⟩ (.slice none 0 0)):=(((Only.refl _ w2).setCell (by simp) _).setCell (by simp) _).setCell (by simp) _
 exact bodyPost_ret (results_row_two Tryz.results7 _ _ w.heap.size 24 _ _ rfl h3 Tryz.underlying24 rfl (by kernel_rfl)) rfl ⟨rfl,H2.out.1.trans os (by intro k hk hl; simp at hk; omega)⟩
set_option maxRecDepth 100000 in
set_option maxHeartbeats 8000000 in
theorem dec_ok (A : Option Addr) (n c : Nat) (px : Int) (W H q : Nat) (l : Int) (P : PgPt) (M : List UInt8) (w : World) (hcl : P.clr = []) (hpk : P.packed = pkB q M W H l) (hT : Tab w)
 (hW : 1 <= W /\ W <= 64) (hH : 1 <= H /\ H <= 64) (hq : q <= 4) (hn : M.length = 4 * (W * H))
 (hg : ∀ x,Only [] w x -> Calls Tryz.prog 19 #[.slice A n c,.int .i64 px] x fun e w'=>Only [] x w' /\ ∃ g,e = .returned (.tuple #[.pointer (some ⟨g,0,none⟩),.int .i64 0]) /\ PtHas x g W H 8 6 l P w') :
 Calls Tryz.prog 7 #[.slice A n c,.int .i64 px] w fun e w'=>∃ gi ci,e = .returned (.tuple #[mval W H (some ⟨gi,0,none⟩) (4 * (W * H)) ci,.int .i64 0]) /\ w'.ownsRow w.heap.size 5 1 (.slice (some ⟨gi,0,none⟩) (4 * (W * H)) ci) (4 * (W * H)) (bvals M) /\ Only [] w w':=by
 have o1:=(Only.refl [] w).alloc (.cells #[.int .i64 0,.int .i64 0,.slice none 0 0] 24)
 have h1:=Has.new w 24 #[.int .i64 0,.int .i64 0,.slice none 0 0]
 have HG:=hide (hg _ o1)
 have H1:=hide (aI o1 (aI h1 (hT.only o1 (by simp))))
 have HB:=hide (aI hcl (aI hpk (aI hW (aI hH (aI hq hn)))))
 clear o1 h1 hg hcl hpk hT hW hH hq hn
 go_enter Tryz.func7,Tryz.ntmps7
 go_wp2_with fail
 refine (HG.out).mono ?_
 rintro e w2 ⟨ho2,g,rfl,hp⟩
 have H2:=hide (aI (H1.out.2.1.only ho2 (by simp)) (aI ho2 (aI hp (H1.out.2.2.only ho2 (by simp)))))
 clear ho2 hp HG
 go_wp2_with fail
 refine (unpk_any _ g W H q l P M w2 H2.out.2.2.1 HB.out.2.1 H2.out.2.2.2 HB.out.2.2.1 HB.out.2.2.2.1 HB.out.2.2.2.2.1 HB.out.2.2.2.2.2).mono ?_
 rintro e w3 ⟨Ar,cr,rfl,hbr,hcr,ho3⟩
 have H3:=hide (aI (H2.out.1.only ho3 (by simp)) (aI ho3 (aI (H2.out.2.2.1.idle ho3) (aI hbr hcr))))
 clear ho3 hbr hcr
 go_wp2_with fail
 refine (image_any _ g W H q (4 * (W * H)) l P M Ar _ cr w3 H3.out.2.2.1 HB.out.1 H3.out.2.2.2.1 rfl H3.out.2.2.2.2 HB.out.2.2.1 HB.out.2.2.2.1 HB.out.2.2.2.2.1 HB.out.2.2.2.2.2 rfl).mono ?_
 rintro e w4 ⟨gi,ci,rfl,how,ho4⟩
 have h4:=H3.out.1.only ho4 (by simp)
 have c0 : World.cell? w4 ⟨w.heap.size,0,none⟩ = some (.int .i64 0):=h4.cell 0
 have c1 : World.cell? w4 ⟨w.heap.size,1,none⟩ = some (.int .i64 0):=h4.cell 1
 have c2 : World.cell? w4 ⟨w.heap.size,2,none⟩ = some (.slice none 0 0):=h4.cell 2
 have f0:=h4.free 0
 have f1:=h4.free 1
 have f2:=h4.free 2
 have H4:=hide (aI h4 (aI how ho4))
 clear h4 how ho4
 unfold mval
 go_wp2_with fail
 have h5:=((H4.out.1.set 0 (.int .i64 (W : Int))).set 1 (.int .i64 (H : Int))).set 2 (.slice (some ⟨gi,0,none⟩) (4 * (W * H)) ci)
 have os : Only [w.heap.size] w4 (((w4.setCell ⟨w.heap.size,0,none⟩ (.int .i64 (W : Int))).setCell ⟨w.heap.size,1,none⟩ (.int .i64 (H : Int))).setCell ⟨w.heap.size,2,none⟩ (.slice (some ⟨gi,0,none⟩) (4 * (W * H)) ci)):=(((Only.refl _ w4).setCell (by simp) _).setCell (by simp) _).setCell (by simp) _
 have hl1:=H1.out.1.size
 have hl3:=H3.out.1.lt
 have o4 : Only [] w w4:=((H1.out.1.trans H2.out.2.1 (S:=[]) (by simp)).trans H3.out.2.1 (S:=[]) (by simp)).trans H4.out.2.2 (by simp)
 refine bodyPost_ret (results_row_two Tryz.results7 _ _ w.heap.size 24 _ _ rfl h5 Tryz.underlying24 rfl (by kernel_rfl)) rfl ⟨gi,ci,rfl,own_mono (own_keep H4.out.2.1 os (fun b hb hm=>?_)) (by omega),o4.trans os (by intro k hk hl; simp at hk; omega)⟩
 have hm:=List.mem_singleton.1 hm
 have:=(own_at H4.out.2.1 hb).1
 omega
theorem dec_gath_ok (A : Option Addr) (n c : Nat) (l : List UInt8) (px : Int) (W H q : Nat) (la : Int) (c0 : Ck) (rs : List Ck) (M : List UInt8) (w : World) (hb : Holds w 1 A n (bvals l)) (hl : l.length = n) (hc : n <= c) (hn : n <= 1000000000)
 (h1 : chE l = 0) (h2 : chL l = c0 :: rs) (hd : hdE c0 = 0) (hv : hdV c0 = .agg #[.int .i64 W,.int .i64 H,.int .i64 8,.int .i64 6,.int .i64 la]) (hr : rs ≠ []) (hk : ∀ r ∈ rs,TkOk r) (hsz : szL rs <= 1000000000)
 (hT : Tab w) (hW : 1 <= W /\ W <= 64) (hH : 1 <= H /\ H <= 64) (hq : q <= 4) (hM : M.length = 4 * (W * H)) (hpx : ((W * H : Nat) : Int) <= px)
 (hg0 : (gaF rs noPt).1 = 0) (hgd : (gaF rs noPt).2.hasDat = true) (hcl : (gaF rs noPt).2.clr = []) (hpk : (gaF rs noPt).2.packed = pkB q M W H la) :
 Calls Tryz.prog 7 #[.slice A n c,.int .i64 px] w fun e w'=>∃ gi ci,e = .returned (.tuple #[mval W H (some ⟨gi,0,none⟩) (4 * (W * H)) ci,.int .i64 0]) /\ w'.ownsRow w.heap.size 5 1 (.slice (some ⟨gi,0,none⟩) (4 * (W * H)) ci) (4 * (W * H)) (bvals M) /\ Only [] w w':=by
 have hp : W * H <= 64 * 64:=Nat.mul_le_mul hW.2 hH.2
 have hwh : (W : Int) * (H : Int) = ((W * H : Nat) : Int):=by push_cast; rfl
 refine dec_ok A n c px W H q la _ M w hcl hpk hT hW hH hq hM fun x hx=>?_
 refine (pgGather_any A n c l px W H la c0 rs x (hb.keep hx (by simp)) hl hc hn h1 h2 hd hv hr hk hsz (by rw [hwh]; omega)).mono ?_
 rintro e w' ⟨ho,(⟨hlt,_⟩ | ⟨_,hne,_⟩ | ⟨_,_,hne,_⟩ | ⟨_,_,_,g,rfl,hpt⟩)⟩
 ·rw [hwh] at hlt; omega
 ·exact absurd hg0 hne
 ·rw [hgd] at hne; cases hne
 ·exact ⟨ho,g,rfl,hpt⟩
theorem dec_gath_long (A : Option Addr) (n c : Nat) (l : List UInt8) (px : Int) (W H : Nat) (la : Int) (c0 : Ck) (rs : List Ck) (w : World) (hb : Holds w 1 A n (bvals l)) (hl : l.length = n) (hc : n <= c) (hn : n <= 1000000000)
 (h1 : chE l = 0) (h2 : chL l = c0 :: rs) (hd : hdE c0 = 0) (hv : hdV c0 = .agg #[.int .i64 W,.int .i64 H,.int .i64 8,.int .i64 6,.int .i64 la]) (hr : rs ≠ []) (hk : ∀ r ∈ rs,TkOk r) (hsz : szL rs <= 1000000000)
 (hW : 1 <= W /\ W <= 64) (hH : 1 <= H /\ H <= 64) (hpx : px < ((W * H : Nat) : Int)) :
 Calls Tryz.prog 7 #[.slice A n c,.int .i64 px] w fun e w'=>e = .returned (.tuple #[mval 0 0 none 0 0,.int .i64 5]) /\ Only [] w w':=by
 have hp : W * H <= 64 * 64:=Nat.mul_le_mul hW.2 hH.2
 have hwh : (W : Int) * (H : Int) = ((W * H : Nat) : Int):=by push_cast; rfl
 refine dec_err A n c px 5 w (by decide) fun x hx=>?_
 refine (pgGather_any A n c l px W H la c0 rs x (hb.keep hx (by simp)) hl hc hn h1 h2 hd hv hr hk hsz (by rw [hwh]; omega)).mono ?_
 rintro e w' ⟨ho,(⟨_,rfl⟩ | ⟨hle,_⟩ | ⟨hle,_⟩ | ⟨hle,_⟩)⟩
 ·exact ⟨ho,rfl⟩
 all_goals (rw [hwh] at hle; omega)
end Go.Proofs.YtjfjmkkkbcgohaaGreatDoor
