import Derived.Test.YtjfjmkkkbcgohaaGreatDoorMFlZ
namespace Go.Proofs.YtjfjmkkkbcgohaaGreatDoor
open Go Go.RowKit
structure Btw (w : World) (g gf gw gt : Nat) (f : DF) (rp vo : Value) (B : List UInt8) (a o : Nat) (s : GSt) (x : List UInt8) : Prop where
 on : On w g gf gw (gt :: Gs) f rp vo s.out x
 wt : f.wt = .slice (some ⟨gt,0,none⟩) (a - o) 4
 wts : w.ownsRow 0 5 1 (.slice (some ⟨gt,0,none⟩) (a - o) 4) (a - o) (bvals ((B.take a).drop o))
 gwt : gw ≠ gt
 md : Md w f s
 k : f.k = s.k
 wf : s.Wf
 pt : Pt s o f.ps
 ps : f.ps < 8
 oa : o <= a
 aB : a <= B.length
 pa : 8 * o + f.ps <= 8 * a
 fx : f.fx = .pointer none \/ CdV w f.fx fixedL fixedD2
 gg : g ∉ Gs /\ gf ∉ Gs /\ gw ∉ Gs
 gtG : gt ∉ Gs
 k11 : s.k ≠ 11
 far : 8 * a < (Nx B f.most s).1
theorem few_wait {B : List UInt8} {a o q most : Nat} {s : GSt} (hwf : s.Wf) (hk : s.k ≠ 11) (hp : Pt s o q) (hq : q < 8) (hf : 8 * a < (Nx B most s).1) : a - o <= 4:=by
 have h1:=GSt.nx_top (L0:=fixedL) (D0:=fixedD2) (N:=num B) (most:=most) hwf hk
 change 8 * a < (s.nx fixedL fixedD2 (num B) most).1 at hf
 have h2 : s.p <= 8 * o + 8:=by
  unfold Pt at hp
  rw [hp]
  split
  ·unfold toByte; omega
  ·omega
 omega
theorem Pt.le {s : GSt} {o q a : Nat} (h : Pt s o q) (ha : 8 * o + q <= 8 * a) : s.p <= 8 * a:=by
 unfold Pt at h
 rw [h]
 split
 ·unfold toByte; omega
 ·exact ha
theorem own_front {w : World} {base e c n : Nat} {A : Option Addr} {xs : List Value} (h : w.ownsRow base e 1 (.slice A n c) n xs) (k : Nat) (hk : k <= n) : w.ownsRow base e 1 (.slice A k c) k (xs.take k):=by
 refine ⟨by rw [List.length_take,h.1]; omega,?_⟩
 rcases h.2 with ⟨hv,h0⟩ | ⟨gb,cap,cur,hv,hb,hg,h1,h2,h3,h4⟩
 ·injection hv with hA _ hc
  subst hA hc
  obtain rfl : k = 0:=by omega
  exact .inl ⟨rfl,rfl⟩
 ·injection hv with hA _ hc
  subst hA hc
  refine .inr ⟨gb,c,cur,rfl,hb,hg,by omega,h2,h3,?_⟩
  rw [<- h4,List.take_take]
  congr 1
  omega
theorem fault_on {w : World} {g gf gw gr : Nat} {K : List Nat} {f : DF} {v vo rp : Value} {l : List UInt8} {q : Nat} {all x all' x' : List UInt8} (h : On w g gf gw [] f rp vo all x) (h1 : Rn w g gf gw gr K f v vo l q all' x') (c : Nat) : On (w.setCell ⟨g,2,none⟩ (.int .i64 (c : Int))) g gf gw [] { f with fault:=c } rp vo all x:=by
 have oW : Only [g] w (w.setCell ⟨g,2,none⟩ (.int .i64 (c : Int))):=(Only.refl [g] _).setCell (by simp) _
 exact ⟨Dc.set_fault h.dec c,h.ring.only oW (by simpa using fun e=>h.g_gw e.symm),h.wb,h.wn,Has.only h.flow oW (by simpa using fun e=>h.g_gf e.symm),own_keep h.out oW (fun b hb hm=>by
  obtain rfl : b = g:=by simpa using hm
  exact h.g_vo hb.symm),h.gw_,by simp⟩
def Fed (B : List UInt8) (a n : Nat) (g gf gw gt : Nat) (f : DF) (vo : Value) (x : List UInt8) (s : GSt) (w : World) (c : Nat) (w' : World) : Prop :=
 ∃ (y : List UInt8) (rp vo' : Value) (f' : DF),Only ([g,gf,gw,gt] ++ vo.ownBlock.toList) w w' /\ (∀ b,vo'.ownBlock = some b -> vo.ownBlock = some b \/ w.heap.size <= b) /\
   f'.most = f.most /\ f'.used = f.used /\ f'.total = f.total /\ f'.z = f.z /\ f'.tail = f.tail /\ s.out.length + y.length <= f.most /\
   (((f'.fault = f.fault /\ f'.wt = f.wt) /\ f'.k = 11 /\ ∃ t,End B (a + n) f.most s 0 t /\ a + c = (t.p + 7) / 8 /\ 0 < c /\ c <= n /\ t.out = s.out ++ y /\ On w' g gf gw [] f' rp vo' (s.out ++ y) (x ++ y)) \/
     (f'.fault = f.fault /\ c = n /\ ∃ o' t,End B (a + n) f.most s 2 t /\ t.out = s.out ++ y /\ Btw w' g gf gw gt f' rp vo' B (a + n) o' t (x ++ y)) \/
     ((f'.fault = 3 \/ f'.fault = 5) /\ c = n /\ ∃ t,(End B (a + n) f.most s f'.fault t /\ f'.k ≠ 11 /\ f'.wt = f.wt) /\ On w' g gf gw [] f' rp vo' (s.out ++ y) (x ++ y)))
set_option maxRecDepth 100000 in
set_option maxHeartbeats 8000000 in
theorem feed_by (B : List UInt8) {P : GSt -> Prop} (hBy : StepsBy B P) (a o n cb : Nat) (A : Option Addr) (g gf gw gt : Nat) (f : DF) (rp vo : Value) (x : List UInt8) (s : GSt) (w : World) (h : Btw w g gf gw gt f rp vo B a o s x)
 (hb : Holds w 1 A n (bvals ((B.drop a).take n))) (hn : 0 < n) (hn2 : n <= 4096) (han : a + n <= B.length) (hl : s.out.length <= f.most) (hmost : f.most <= 1073741824) (hx : x.length <= s.out.length) (hs0 : P s) :
 Calls Tryz.prog 158 #[.pointer (some ⟨g,0,none⟩),.pointer (some ⟨gf,0,none⟩),.slice A n cb] w (fun e w'=>∃ c : Nat,e = .returned (.int .i64 (c : Int)) /\ Fed B a n g gf gw gt f vo x s w c w'):=by
 have hm4:=few_wait h.wf h.k11 h.pt h.ps h.far
 have c7 : w.cell? ⟨g,7,none⟩ = some (.slice (some ⟨gt,0,none⟩) (a - o) 4):=by have:=h.on.dec.wt; rw [h.wt] at this; exact this
 have hlW : ((B.take a).drop o).length = a - o:=part_length B a o h.aB
 have hlP : ((B.drop a).take n).length = n:=by rw [List.length_take,List.length_drop]; omega
 have hall : (B.take a).drop o ++ (B.drop a).take n = (B.take (a + n)).drop o:=by
  rw [List.take_add,List.drop_append_of_le_length (by rw [List.length_take]; have:=h.oa; have:=h.aB; omega)]
 have HI:=hide (aI h (aI hl (aI hmost (aI hx (aI hall (aI hlW hlP))))))
 have HN:=hide (aI hn (aI hn2 (aI han hm4)))
 have hoa:=h.oa
 have hflow:=h.on.flow
 have hvolt : ∀ b,vo.ownBlock = some b -> b < w.heap.size:=fun b hb=>(h.on.out.lt b hb).2
 have hgtlt : gt < w.heap.size:=(h.wts.lt gt rfl).2
 obtain ⟨m,hm⟩ : ∃ m,m = a - o:=⟨_,rfl⟩
 rw [<- hm] at c7 hm4
 have HM:=hide hm
 obtain ⟨l,hl0⟩ : ∃ l,l = (B.take (a + n)).drop o:=⟨_,rfl⟩
 have hll : l.length = m + n:=by rw [hl0,part_length B (a + n) o han]; omega
 have hsrc : Src B (a + n) o l:=⟨hl0,by omega,han⟩
 have hP : Holds (w.alloc (.cells #[.slice (some ⟨gt,0,none⟩) m 4,.slice A n cb] 22)) 1 (some ⟨w.heap.size,0,none⟩) 2 ([(⟨some ⟨gt,0,none⟩,4,(B.take a).drop o⟩ : CPart),⟨A,cb,(B.drop a).take n⟩].map CPart.val):=by
  have:=Holds.lit w #[.slice (some ⟨gt,0,none⟩) m 4,.slice A n cb] 22
  simpa [CPart.val,hlW,hlP,hm] using this
 have hps2 : ∀ p ∈ [(⟨some ⟨gt,0,none⟩,4,(B.take a).drop o⟩ : CPart),⟨A,cb,(B.drop a).take n⟩],Holds (w.alloc (.cells #[.slice (some ⟨gt,0,none⟩) m 4,.slice A n cb] 22)) 1 p.A p.l.length (bvals p.l):=by
  intro p hp
  simp only [List.mem_cons,List.not_mem_nil,or_false] at hp
  rcases hp with rfl | rfl
  ·show Holds _ 1 (some ⟨gt,0,none⟩) ((B.take a).drop o).length _
   rw [hlW]
   exact (Holds.of_own h.wts).keep ((Only.refl [] _).alloc _) (by simp)
  ·show Holds _ 1 A ((B.drop a).take n).length _
   rw [hlP]
   exact hb.keep ((Only.refl [] _).alloc _) (by simp)
 have hcon:=concat_any (some ⟨w.heap.size,0,none⟩) 2 _ _ hP (by simp) hps2
 have hallE : CPart.all [(⟨some ⟨gt,0,none⟩,4,(B.take a).drop o⟩ : CPart),⟨A,cb,(B.drop a).take n⟩] = l:=by
  unfold CPart.all
  simp only [List.map_cons,List.map_nil,List.flatten_cons,List.flatten_nil,List.append_nil]
  rw [hall,hl0]
 rw [hallE,hll] at hcon
 have HCON:=hide (hcon (by omega) (by omega))
 have HL:=hide (aI hll (aI hsrc (aI hflow (aI hvolt hgtlt))))
 have HPS:=hide (aI h.ps h.pa)
 have HBy:=hide (aI hBy hs0)
 clear hBy hs0 h hb hl hmost hx hall hlW hlP hm hoa han hP hps2 hcon hallE hl0 hll hsrc hflow hvolt hgtlt
 go_enter Tryz.func158,Tryz.ntmps158
 go_wp2_with fail
 refine (HCON.out).mono ?_
 rintro e w2 ⟨v2,rfl,hown2,ho2⟩
 obtain ⟨A2,c2,rfl,_,hA2⟩:=own_shape hown2
 have o02 : Only [] w w2:=((Only.refl [] w).alloc _).trans ho2 (by simp)
 have hNR:=newReader_any A2 (m + n) c2 l w2 (Holds.of_own hown2) HL.out.1 (by have:=HN.out; have:=HM.out; omega) (fun h0=>⟨hA2 h0,by
  rcases hown2.2 with ⟨_,h1⟩ | ⟨gb,cap,cur,hv,_⟩
  ·exact h1
  ·rw [h0] at hv; cases hv⟩)
 have H2:=hide (aI hown2 (aI o02 hNR))
 clear hown2 ho2 hA2 o02 hNR HCON
 go_wp2_with fail
 refine (H2.out.2.2).mono ?_
 rintro e w3 ⟨gr,v,rfl,hgr,hv,hrd,ho3⟩
 have o03 : Only [] w w3:=H2.out.2.1.trans ho3 (by simp)
 have hfl3:=Has.only HL.out.2.2.1 o03 (by simp)
 have k3 : w3.cell? ⟨gf,0,none⟩ = some rp:=hfl3.cell 0
 have f3 : w3.frozen? ⟨gf,0,none⟩ = false:=hfl3.free 0
 have H3:=hide (aI hgr (aI hv (aI hrd (aI o03 (aI (Holds.of_own H2.out.1 |>.keep ho3 (by simp)) hfl3)))))
 clear hgr hv hrd ho3 o03 hfl3
 go_wp2_with fail
 have o34 : Only [gf] w3 (w3.setCell ⟨gf,0,none⟩ (.pointer (some ⟨gr,0,none⟩))):=(Only.refl [gf] _).setCell (by simp) _
 have o04 : Only [gf] w (w3.setCell ⟨gf,0,none⟩ (.pointer (some ⟨gr,0,none⟩))):=H3.out.2.2.2.1.of_nil.trans o34 (by simp)
 have hB:=HI.out.1
 have hsz3:=Nat.le_trans H2.out.2.1.size (show w2.heap.size <= gr from H3.out.1)
 have hgfgr : gf ≠ gr:=Has.ne H3.out.2.2.2.2.2 H3.out.2.2.1.1 (by decide)
 have hfl4 : Has (w3.setCell ⟨gf,0,none⟩ (.pointer (some ⟨gr,0,none⟩))) gf 243 #[.pointer (some ⟨gr,0,none⟩),vo]:=H3.out.2.2.2.2.2.set 0 _
 have hrd4 : Rd (w3.setCell ⟨gf,0,none⟩ (.pointer (some ⟨gr,0,none⟩))) gr v l 0:=H3.out.2.2.1.only o34 (by simpa using fun e=>hgfgr e.symm) (fun b hb hm=>by simp at hm; subst hm; exact own_ne H3.out.2.2.1.2.1 H3.out.2.2.2.2.2 (by decide) hb.symm)
 have hhl4 : Holds (w3.setCell ⟨gf,0,none⟩ (.pointer (some ⟨gr,0,none⟩))) 1 A2 (m + n) (bvals l):=H3.out.2.2.2.2.1.keep o34 (fun ad ha _ hm=>by
  simp at hm
  have h1:=H2.out.1
  rw [ha] at h1
  have h2:=own_ne h1 (HL.out.2.2.1.only H2.out.2.1 (by simp)) (by decide)
  exact h2 (by rw [<- hm]; rfl))
 have hO : Other w [gf]:=fun k hk _=>by
  obtain rfl : k = gf:=by simpa using hk
  exact ⟨⟨_,_,_,HL.out.2.2.1,by decide,by decide⟩,hB.gg.2.1⟩
 have hgg:=hB.on.g_gf
 have hggw:=hB.on.gf_gw
 have hgfvo:=hB.on.gf_vo
 have hdec4:=Has.only hB.on.dec o04 (by simpa using hgg)
 have hgtgf : gf ≠ gt:=fun e=>own_ne hB.wts HL.out.2.2.1 (by decide) (by rw [e]; rfl)
 have hwts4 : (w3.setCell ⟨gf,0,none⟩ (.pointer (some ⟨gr,0,none⟩))).ownsRow 0 5 1 (.slice (some ⟨gt,0,none⟩) (a - o) 4) (a - o) (bvals ((B.take a).drop o)):=own_keep hB.wts o04 (fun b hb hm=>by
  simp at hm; subst hm; injection hb with hb; exact hgtgf hb.symm)
 have hGsz:=hB.md.tab.gs
 have hR4 : Rn (w3.setCell ⟨gf,0,none⟩ (.pointer (some ⟨gr,0,none⟩))) g gf gw gr (v.ownBlock.toList ++ (gt :: Gs)) f v vo l 0 s.out x:=by
  refine ⟨⟨hdec4,hB.on.ring.only o04 (by simpa using fun e=>hggw e.symm),hB.on.wb,hB.on.wn,hfl4,own_keep hB.on.out o04 (fun b hb hm=>by simp at hm; subst hm; exact hgfvo hb.symm),hB.on.gw_,fun k hk=>?_⟩,hrd4,fun b hb=>List.mem_append.2 (.inl (mem_own.2 hb)),fun hm=>?_,fun k hk=>List.mem_append.2 (.inr (List.mem_cons_of_mem _ hk)),⟨hB.gg.1,hB.gg.2.1,fun hm=>?_⟩,hB.fx.imp id (fun hx=>hx.keep o04 hO)⟩
  ·rcases List.mem_append.1 hk with hk | hk
   ·have hk:=mem_own.1 hk
    have h1:=H3.out.2.1 k hk
    have h2:=H2.out.2.1.size
    refine ⟨fun he=>?_,?_⟩
    ·have:=HL.out.2.2.2.1 k he; omega
    ·have:=(H3.out.2.2.1.2.1.lt k hk).2
     simpa using this
   ·exact ⟨(hB.on.apart k hk).1,Nat.lt_of_lt_of_le (hB.on.apart k hk).2 o04.size⟩
  ·rcases List.mem_append.1 hm with hm | hm
   ·have h1:=H3.out.2.1 gw (mem_own.1 hm)
    have h2:=H2.out.2.1.size
    obtain ⟨ws,hws,_⟩:=hB.on.ring
    have:=hws.lt
    omega
   ·rcases List.mem_cons.1 hm with hm | hm
    ·exact hB.gwt hm
    ·exact hB.gg.2.2 hm
  ·have:=hGsz gr hm; omega
 have hmd4 : Md (w3.setCell ⟨gf,0,none⟩ (.pointer (some ⟨gr,0,none⟩))) f s:=hB.md.keep o04 hO
 have k8 : (w3.setCell ⟨gf,0,none⟩ (.pointer (some ⟨gr,0,none⟩))).cell? ⟨g,8,none⟩ = some (.int .i64 (f.ps : Int)):=Dc.ps hdec4
 have k0 : (w3.setCell ⟨gf,0,none⟩ (.pointer (some ⟨gr,0,none⟩))).cell? ⟨gf,0,none⟩ = some (.pointer (some ⟨gr,0,none⟩)):=hfl4.cell 0
 have H4:=hide (aI o04 (aI hR4 (aI hwts4 (aI hhl4 (aI hsz3 hmd4)))))
 clear o34 o04 hB hsz3 hgfgr hfl4 hrd4 hhl4 hO hgg hggw hgfvo hdec4 hwts4 hR4 k3 f3 hgtgf hGsz hmd4
 generalize w3.setCell ⟨gf,0,none⟩ (.pointer (some ⟨gr,0,none⟩)) = w4 at *
 have hBt:=bits_any gr v l 0 (f.ps : Int) w4.drew (H4.out.2.1.rd.drewN 1)
 have ok : okBits l.length 0 (f.ps : Int) = true:=by
  have h1:=HL.out.1
  have h2:=HN.out
  have h3:=HM.out
  have h4:=HPS.out
  unfold okBits
  simp
  omega
 rw [ok] at hBt
 simp only [if_true,Int.toNat_natCast,Nat.zero_add] at hBt
 have HBt:=hide hBt
 clear hBt ok
 go_still_tail 8,(by kernel_rfl)
 change wpList _ _ _ _ _ w4.drew
 go_wp2_with fail
 refine (HBt.out).mono ?_
 rintro e w5 ⟨rfl,ho5,hr5⟩
 have hR5:=(H4.out.2.1.drewN 1).read ho5 hr5
 have o45 : Only [gr] w4 w5:=((Only.refl [gr] w4).drew).trans ho5 (by simp)
 have hmd5:=H4.out.2.1.mdr H4.out.2.2.2.2.2 o45
 have HRun:=hide (run_by B HBy.out.1 (a + n) o l HL.out.2.1 g gf gw gr _ f v vo f.ps x s w5 hR5 HI.out.1.k hmd5 HI.out.1.wf HI.out.1.pt HI.out.2.1 HI.out.2.2.1 HI.out.2.2.2.1 HBy.out.2)
 have H5:=hide (aI o45 hR5)
 clear ho5 hr5 hR5 o45 k8 k0 HBt hmd5
 go_wp2_with fail
 refine (HRun.out).mono ?_
 rintro e w6 ⟨c,rfl,q',y,vo',f',hR6,hS6,hsm,hy,hcase⟩
 have k6 : w6.cell? ⟨gf,0,none⟩ = some (.pointer (some ⟨gr,0,none⟩)):=Has.cell hR6.on.flow 0
 have HAt:=hide (at_any gr v (q' : Int) w6 hR6.rd.1)
 have hqb : q' <= 8 * l.length:=hR6.rd.2.2.2
 have hqb2 : q' <= 1000000:=by have:=HL.out.1; have:=HN.out; have:=HM.out; omega
 have fr : Only ([g,gf,gw,gt] ++ vo.ownBlock.toList) w w6:=by
  refine ((H4.out.1.weak (T:=[g,gf,gw,gt] ++ vo.ownBlock.toList) (by simp)).trans H5.out.1 (fun i hi hlt=>?_)).trans hS6.only (fun i hi hlt=>?_)
  ·obtain rfl : i = gr:=by simpa using hi
   have:=H4.out.2.2.2.2.1; omega
  ·simp only [List.mem_append,List.mem_cons,List.not_mem_nil,or_false] at hi ⊢
   rcases hi with (rfl | rfl | rfl | rfl) | hi
   ·simp
   ·simp
   ·simp
   ·have:=H4.out.2.2.2.2.1; omega
   ·exact .inr hi
 have hvo6 : ∀ b,vo'.ownBlock = some b -> vo.ownBlock = some b \/ w.heap.size <= b:=fun b hb=>(hS6.own b hb).imp id (fun h=>Nat.le_trans (Nat.le_trans H4.out.1.size H5.out.1.size) h)
 have hon6 : On w6 g gf gw [] f' (.pointer (some ⟨gr,0,none⟩)) vo' (s.out ++ y) (x ++ y):=⟨hR6.on.dec,hR6.on.ring,hR6.on.wb,hR6.on.wn,hR6.on.flow,hR6.on.out,hR6.on.gw_,by simp⟩
 have HF:=hide (aI fr (aI hvo6 hon6))
 have H6:=hide (aI hR6 (aI hS6 (aI hsm (aI hy hqb))))
 clear hR6 hS6 hsm hy hqb HRun fr hvo6 hon6
 rcases hcase with ⟨rfl,h11,t,hE,hto,htp⟩ | ⟨rfl,t,hE,hto,hMt,hPt,hkt,hk11⟩ | ⟨hc,hk11,t,hE⟩
 ·have hfar:=hE.far HI.out.1.k11
  have hfar2 : 8 * a < (s.nx fixedL fixedD2 (num B) f.most).1:=HI.out.1.far
  have hEon:=(hE.on (HI.out.1.pt.le (by have:=HI.out.1.pa; omega))).2.1
  have HE:=hide (aI h11 (aI hE (aI hto (aI htp (aI (show 8 * a < t.p by omega) hEon)))))
  have hq : RowKit.wrap64 (((q' : Int) + 7) / 8 - (m : Int)) = (((q' + 7) / 8 - m : Nat) : Int):=by
   have h1:=HM.out
   have h2:=HI.out.1.oa
   have h3:=HN.out
   rw [IntWalk.wrap64_in _ ⟨by omega,by omega⟩]
   omega
  have hq2 : ((q' : Int) + 7) / 8 - (m : Int) = (((q' + 7) / 8 - m : Nat) : Int):=by
   have h1:=HM.out
   have h2:=HI.out.1.oa
   omega
  clear h11 hE hto htp hfar hfar2 hEon
  go_wp2_with fail
  refine (HAt.out).mono ?_
  rintro e w7 ⟨rfl,rfl⟩
  go_wp2_with fail
  go_ret
  have h1:=HM.out
  have h2:=HI.out.1.oa
  have h4:=HE.out.2.2.2
  have h5:=H6.out.2.2.2.2
  have h6:=HL.out.1
  exact ⟨(q' + 7) / 8 - m,by first | rfl | exact ret_int hq | exact ret_int hq2,y,_,vo',f',HF.out.1,HF.out.2.1,H6.out.2.2.1.most,H6.out.2.2.1.used,H6.out.2.2.1.total,H6.out.2.2.1.z,H6.out.2.2.1.tail,H6.out.2.2.2.1,.inl ⟨⟨H6.out.2.2.1.fault,H6.out.2.2.1.wt⟩,HE.out.1,t,HE.out.2.1,by omega,by omega,by omega,HE.out.2.2.1,HF.out.2.2⟩⟩
 ·have hB:=HI.out.1
  have h1:=HM.out
  have hlen:=HL.out.1
  have hqb:=H6.out.2.2.2.2
  have hwf : f'.wt = .slice (some ⟨gt,0,none⟩) m 4:=by rw [H6.out.2.2.1.wt,hB.wt,HM.out]
  have k7 : w6.drew.cell? ⟨g,7,none⟩ = some (.slice (some ⟨gt,0,none⟩) m 4):=by have:=H6.out.1.on.dec.wt; rw [hwf] at this; exact this
  have hsl0 : ∀ w',(Instr.slice 22 (.slice (some ⟨gt,0,none⟩) m 4) none (some (.int .i64 0)) none).run Tryz.prog w' = .ok (.slice (some ⟨gt,0,none⟩) 0 4) w':=run_upto (some ⟨gt,0,none⟩) m 4 0 (Nat.zero_le _)
  have hlow : ∀ ad,A2 = some ad -> w.heap.size < ad.block /\ ad.block < w2.heap.size:=fun ad ha=>by
   have:=H2.out.1.lt ad.block (by rw [ha]; rfl)
   simp at this
   omega
  have hhl6 : Holds w6.drew 1 A2 (m + n) (bvals l):=by
   have ha4 : Holds w5 1 A2 (m + n) (bvals l):=H4.out.2.2.2.1.keep H5.out.1 (fun ad ha _ hm=>by
    have h2:=hlow ad ha
    have h3:=H3.out.1
    obtain h4 : ad.block = gr:=by simpa using hm
    omega)
   refine (ha4.keep H6.out.2.1.only (fun ad ha _ hm=>?_)).keep ((Only.refl [] w6).drew) (by simp)
   have h2:=hlow ad ha
   have h3:=H3.out.1
   have h4:=hB.on.dec.lt
   have h5:=HL.out.2.2.1.lt
   obtain ⟨ws,hws,_⟩:=hB.on.ring
   have h6:=hws.lt
   simp only [List.mem_append,List.mem_cons,List.not_mem_nil,or_false] at hm
   rcases hm with (hm | hm | hm | hm) | hm
   ·omega
   ·omega
   ·omega
   ·omega
   ·have:=HL.out.2.2.2.1 _ (mem_own.1 hm); omega
  have hc2 : m + n <= c2:=by
   obtain ⟨A',c',hv,hnc,_⟩:=own_shape H2.out.1
   injection hv with _ _ hc
   all_goals omega
  obtain ⟨k,hk⟩ : ∃ k,k = q' / 8:=⟨_,rfl⟩
  have hk8 : IntKind.i64.wrap ((q' : Int) / 8) = (k : Int):=Go.Proofs.YtjfjmkkkbcgohaaGreatDoor.wrap64 (n:=k) (by omega) (by omega)
  have hkm : (k : Int) <= (m : Int) + (n : Int):=by omega
  obtain ⟨A8,c8,hsl8,hh8,_,_⟩:=run_from hhl6 hlen hc2 k (by omega)
  have hshort : 8 * (a + n) < (t.nx fixedL fixedD2 (num B) f.most).1:=by
   rcases hE.steps.2 with ⟨h,_⟩ | ⟨_,⟨_,h⟩ | ⟨h,_⟩⟩
   ·omega
   ·exact h
   ·omega
  have hwft : t.Wf:=hE.steps.1.wf okL okD hB.wf
  have hPt2 : Pt t (o + k) (q' % 8):=by
   unfold Pt at hPt ⊢
   have htq : toByte q' = toByte (q' % 8):=by unfold toByte; omega
   rw [hPt]
   split <;> omega
  have hm4 : a + n - (o + k) <= 4:=few_wait hwft hk11 hPt2 (by omega) hshort
  have hoa:=hB.oa
  have hroom : 0 + (m + n - k) <= 4:=by omega
  have HK:=hide (aI hk (aI hshort (aI hwft hPt2)))
  have hold : w6.drew.ownsRow 0 5 1 (.slice (some ⟨gt,0,none⟩) 0 4) 0 []:=by
   have hw6 : w6.ownsRow 0 5 1 (.slice (some ⟨gt,0,none⟩) (a - o) 4) (a - o) (bvals ((B.take a).drop o)):=by
    refine own_keep (own_keep H4.out.2.2.1 H5.out.1 (fun b hb hm=>?_)) H6.out.2.1.only (fun b hb hm=>?_)
    ·injection hb with hb
     have h2:=H4.out.2.2.2.2.1
     have h3:=HL.out.2.2.2.2
     obtain h4 : b = gr:=by simpa using hm
     have h5 : gt = b:=hb
     omega
    ·injection hb with hb
     have hb : gt = b:=hb
     have h3:=HL.out.2.2.2.2
     simp only [List.mem_append,List.mem_cons,List.not_mem_nil,or_false] at hm
     rcases hm with (hm | hm | hm | hm) | hm
     ·exact own_ne hB.wts hB.on.dec (DF.ty_ne _ (by decide) (by decide)) (by rw [<- hm,<- hb]; rfl)
     ·exact own_ne hB.wts hB.on.flow (by decide) (by rw [<- hm,<- hb]; rfl)
     ·exact hB.gwt (by rw [<- hm,<- hb])
     ·have:=H4.out.2.2.2.2.1; omega
     ·exact (hB.on.apart gt (List.mem_cons_self ..)).1 (by rw [hb]; exact mem_own.1 hm)
   have:=own_front hw6 0 (Nat.zero_le _)
   rw [List.take_zero] at this
   exact this
  have hggt : g ≠ gt:=fun e=>own_ne hold H6.out.1.on.dec (DF.ty_ne _ (by decide) (by decide)) (by rw [e]; rfl)
  have hdc6 : Dc w6.drew g f':=H6.out.1.on.dec
  have hne7 : some g ≠ some gt:=fun e=>hggt (Option.some.inj e)
  have hone8:=bvals_one (l.drop k)
  obtain ⟨i0,hi0,hz0,hz1,hz2⟩:=info_of u8_info
  have HE:=hide (aI hE (aI hto (aI hMt (aI hkt (aI hk11 hggt)))))
  have HQ:=hide (aI hlow (aI hhl6 (aI hwf (aI hlen hm4))))
  clear hE hto hMt hPt hkt hk11 hB h1 hlen hqb hlow hhl6 hwf hk hshort hwft hPt2 hm4 hoa hggt
  go_wp2_with fail
  refine (HAt.out).mono ?_
  rintro e w7 ⟨rfl,rfl⟩
  go_wp2_with fail
  go_region_law ((refine step_append_in _ rfl (.tmp 64) (.tmp 68) 22 rfl 0 Tryz.underlying22 hi0 hz1 hold rfl hh8 rfl hone8 hroom ?_; intro w9 hown9 hgrow; have cw7 : w9.cell? ⟨g,7,none⟩ = some f'.wt:=Dc.wt (Has.grown hdc6 hgrow hne7); have fw7 : w9.frozen? ⟨g,7,none⟩ = false:=Has.free (Has.grown hdc6 hgrow hne7) 7))
  all_goals
   have hR6:=H6.out.1
   have hB:=HI.out.1
   have hdc9 : Dc w9 g f':=Has.grown hdc6 hgrow hne7
   have hown9' : w9.ownsRow 0 5 1 (.slice (some ⟨gt,0,none⟩) (m + n - k) 4) (m + n - k) (bvals (l.drop k)):=by simpa using hown9
   have ho9 : Only [gt] w6 w9:=((Only.refl _ w6).drew).grown hgrow (fun b hb _=>by injection hb with hb; rw [<- hb]; simp)
   have hdc10 : Dc (w9.setCell ⟨g,7,none⟩ (.slice (some ⟨gt,0,none⟩) (m + n - k) 4)) g { f' with wt:=.slice (some ⟨gt,0,none⟩) (m + n - k) 4 }:=Dc.set_wt hdc9 _
   have k8 : (w9.setCell ⟨g,7,none⟩ (.slice (some ⟨gt,0,none⟩) (m + n - k) 4)).cell? ⟨g,8,none⟩ = some (.int .i64 (f'.ps : Int)):=hdc10.ps
   have f8 : (w9.setCell ⟨g,7,none⟩ (.slice (some ⟨gt,0,none⟩) (m + n - k) 4)).frozen? ⟨g,8,none⟩ = false:=Has.free hdc10 8
   have H9:=hide (aI hown9' (aI ho9 hdc9))
   have hmod : (q' : Int).tmod 8 = ((q' % 8 : Nat) : Int):=rfl
   clear hown9 hown9' ho9 hdc9 hR6 hB hdc10 hgrow
   go_wp2_with fail
   go_ret
   have hR6:=H6.out.1
   have hB:=HI.out.1
   have hm1:=HM.out
   have hk1:=HK.out.1
   have hoa:=hB.oa
   have hqb:=H6.out.2.2.2.2
   have hlen:=HQ.out.2.2.2.1
   have oWa : Only [g] w9 ((w9.setCell ⟨g,7,none⟩ (.slice (some ⟨gt,0,none⟩) (m + n - k) 4)).setCell ⟨g,8,none⟩ (.int .i64 ((q' % 8 : Nat) : Int))):=((Only.refl [g] _).setCell (by simp) _).setCell (by simp) _
   have hd2 : Dc ((w9.setCell ⟨g,7,none⟩ (.slice (some ⟨gt,0,none⟩) (m + n - k) 4)).setCell ⟨g,8,none⟩ (.int .i64 ((q' % 8 : Nat) : Int))) g { f' with wt:=.slice (some ⟨gt,0,none⟩) (m + n - k) 4,ps:=q' % 8 }:=Dc.set_ps (Dc.set_wt H9.out.2.2 _) _
   change ∃ c : Nat,_ /\ Fed B a n g gf gw gt f vo x s w c ((w9.setCell ⟨g,7,none⟩ (.slice (some ⟨gt,0,none⟩) (m + n - k) 4)).setCell ⟨g,8,none⟩ (.int .i64 ((q' % 8 : Nat) : Int)))
   generalize (w9.setCell ⟨g,7,none⟩ (.slice (some ⟨gt,0,none⟩) (m + n - k) 4)).setCell ⟨g,8,none⟩ (.int .i64 ((q' % 8 : Nat) : Int)) = wz at *
   have o6z : Only [g,gt] w6 wz:=(H9.out.2.1.weak (T:=[g,gt]) (by simp)).trans oWa (by simp)
   have hgtK : gt ∈ v.ownBlock.toList ++ (gt :: Gs):=List.mem_append.2 (.inr (List.mem_cons_self ..))
   have hnS : ∀ t cs b,Has w6 b t cs -> t ≠ f'.ty -> t ≠ 5 -> b ∉ [g,gt]:=fun t cs b hh h1 h2 hm=>by
    simp only [List.mem_cons,List.not_mem_nil,or_false] at hm
    rcases hm with rfl | rfl
    ·exact Has.ne hh hR6.on.dec h1 rfl
    ·exact own_ne hold (t:=t) (cs:=cs) (g:=b) hh (fun e=>h2 e.symm) rfl
   have hgvo:=hR6.on.g_vo
   have hvon : ∀ b,vo'.ownBlock = some b -> b ∉ [g,gt]:=fun b hb hm=>by
    simp only [List.mem_cons,List.not_mem_nil,or_false] at hm
    rcases hm with rfl | rfl
    ·exact hgvo hb.symm
    ·exact (hR6.on.apart b hgtK).1 hb
   have hgwn : gw ∉ [g,gt]:=fun hm=>by
    simp only [List.mem_cons,List.not_mem_nil,or_false] at hm
    rcases hm with h | h
    ·exact hR6.on.g_gw h.symm
    ·exact hB.gwt h
   have hgtG : gt ∉ Gs:=hB.gtG
   have hOz : Other w6 [g,gt]:=fun b hb _=>by
    simp only [List.mem_cons,List.not_mem_nil,or_false] at hb
    rcases hb with rfl | rfl
    ·exact ⟨⟨_,_,_,hR6.on.dec,DF.ne_ty _ (by decide) (by decide),DF.ne_ty _ (by decide) (by decide)⟩,hB.gg.1⟩
    ·refine ⟨?_,hgtG⟩
     rcases hold.2 with ⟨h0,_⟩ | ⟨gb,cap,cur,hv,_,hh,_⟩
     ·cases h0
     ·injection hv with hv
      injection hv with hv
      injection hv with hv
      subst hv
      exact ⟨_,_,_,hh,by decide,by decide⟩
   have hwz : wz.ownsRow 0 5 1 (.slice (some ⟨gt,0,none⟩) (a + n - (o + k)) 4) (a + n - (o + k)) (bvals ((B.take (a + n)).drop (o + k))):=by
    have h1:=own_keep H9.out.1 oWa (fun b hb hm=>by
     obtain rfl : b = g:=by simpa using hm
     injection hb with hb
     exact HE.out.2.2.2.2.2 hb.symm)
    rw [HL.out.2.1.eq,List.drop_drop] at h1
    rw [show a + n - (o + k) = m + n - k by omega]
    exact h1
   have hfrz : Only ([g,gf,gw,gt] ++ vo.ownBlock.toList) w wz:=HF.out.1.trans o6z (fun i hi _=>by
    simp only [List.mem_cons,List.not_mem_nil,or_false] at hi
    rcases hi with rfl | rfl
    ·simp
    ·simp)
   refine ⟨n,rfl,y,.pointer (some ⟨gr,0,none⟩),vo',{ f' with wt:=.slice (some ⟨gt,0,none⟩) (m + n - k) 4,ps:=q' % 8 },hfrz,HF.out.2.1,H6.out.2.2.1.most,H6.out.2.2.1.used,H6.out.2.2.1.total,H6.out.2.2.1.z,H6.out.2.2.1.tail,H6.out.2.2.2.1,.inr (.inl ⟨H6.out.2.2.1.fault,rfl,o + k,t,HE.out.1,HE.out.2.1,?_⟩)⟩
   have hMz:=HE.out.2.2.1.keep o6z hOz
   refine ⟨⟨hd2,?_,hR6.on.wb,?_,hR6.on.flow.only o6z (hnS _ _ _ hR6.on.flow (DF.ty_ne _ (by decide) (by decide)) (by decide)),own_keep hR6.on.out o6z hvon,hR6.on.gw_,fun b hb=>⟨(hR6.on.apart b (List.mem_append.2 (.inr hb))).1,Nat.lt_of_lt_of_le (hR6.on.apart b (List.mem_append.2 (.inr hb))).2 o6z.size⟩⟩,?_,hwz,hB.gwt,⟨hMz.last,hMz.left,hMz.co,hMz.sy,hMz.le,hMz.hd,hMz.tab⟩,HE.out.2.2.2.1,HK.out.2.2.1,HK.out.2.2.2,?_,?_,HN.out.2.2.1,?_,hR6.fx.imp id (fun hx=>hx.keep o6z hOz),hB.gg,hgtG,HE.out.2.2.2.2.1,?_⟩
   ·rw [HE.out.2.1]; exact hR6.on.ring.only o6z hgwn
   ·rw [HE.out.2.1]; exact hR6.on.wn
   ·show Value.slice (some ⟨gt,0,none⟩) (m + n - k) 4 = .slice (some ⟨gt,0,none⟩) (a + n - (o + k)) 4
    rw [show a + n - (o + k) = m + n - k by omega]
   ·show q' % 8 < 8; omega
   ·omega
   ·show 8 * (o + k) + q' % 8 <= 8 * (a + n)
    omega
   ·show 8 * (a + n) < (t.nx fixedL fixedD2 (num B) f'.most).1
    rw [H6.out.2.2.1.most]
    exact HK.out.2.1
 ·have k2:=H6.out.1.on.dec.fault
  have f2 : w6.frozen? ⟨g,2,none⟩ = false:=Has.free H6.out.1.on.dec 2
  have HE:=hide (aI hE (aI hk11 H6.out.2.2.1.wt))
  clear hE hk11
  rcases hc with rfl | rfl
  all_goals
   go_wp2_with fail
   refine (HAt.out).mono ?_
   rintro e w7 ⟨rfl,rfl⟩
   go_wp2_with fail
   go_ret
   have h1:=H6.out.1
   first
    | exact ⟨n,rfl,y,_,vo',{ f' with fault:=3 },HF.out.1.trans ((Only.refl [g] w6).setCell (by simp) _) (by simp),HF.out.2.1,H6.out.2.2.1.most,H6.out.2.2.1.used,H6.out.2.2.1.total,H6.out.2.2.1.z,H6.out.2.2.1.tail,H6.out.2.2.2.1,.inr (.inr ⟨.inl rfl,rfl,t,HE.out,fault_on HF.out.2.2 h1 3⟩)⟩
    | exact ⟨n,rfl,y,_,vo',{ f' with fault:=5 },HF.out.1.trans ((Only.refl [g] w6).setCell (by simp) _) (by simp),HF.out.2.1,H6.out.2.2.1.most,H6.out.2.2.1.used,H6.out.2.2.1.total,H6.out.2.2.1.z,H6.out.2.2.1.tail,H6.out.2.2.2.1,.inr (.inr ⟨.inr rfl,rfl,t,HE.out,fault_on HF.out.2.2 h1 5⟩)⟩
end Go.Proofs.YtjfjmkkkbcgohaaGreatDoor
