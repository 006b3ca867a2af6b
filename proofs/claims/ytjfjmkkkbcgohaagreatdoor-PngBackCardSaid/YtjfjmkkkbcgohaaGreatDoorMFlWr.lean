import Derived.Test.YtjfjmkkkbcgohaaGreatDoorMFlT
namespace Go.Proofs.YtjfjmkkkbcgohaaGreatDoor
open Go Go.RowKit
structure Rest (w : World) (g gw gt : Nat) (f : DF) (B : List UInt8) (a o : Nat) (s : GSt) : Prop where
 dec : Dc w g f
 ring : Rg w gw s.out
 wb : f.wb = .slice (some ⟨gw,0,none⟩) 32768 32768
 wn : f.wn = s.out.length
 wt : f.wt = .slice (some ⟨gt,0,none⟩) (a - o) 4
 wts : w.ownsRow 0 5 1 (.slice (some ⟨gt,0,none⟩) (a - o) 4) (a - o) (bvals ((B.take a).drop o))
 gwt : gw ≠ gt
 md : Md w f s
 k : f.k = s.k
 wf : s.Wf
 pt : Pt s o f.ps
 ps : f.ps < 8
 oa : o <= a
 aB : a <= B.length
 pa : 8 * o + f.ps <= 8 * a
 fx : f.fx = .pointer none \/ CdV w f.fx fixedL fixedD2
 gg : g ∉ Gs /\ gw ∉ Gs /\ gt ∉ Gs
 k11 : s.k ≠ 11
 far : 8 * a < (Nx B f.most s).1
 fault : f.fault = 0
def Wrote (B : List UInt8) (a n : Nat) (g gw gt : Nat) (f : DF) (s : GSt) (w : World) (e : Ending) (w' : World) : Prop :=
 ∃ (c : Nat) (y : List UInt8) (v : Value) (f' : DF),e = .returned (.tuple #[v,.int .i64 (c : Int)]) /\ Only [g,gw,gt] w w' /\ (∀ b,v.ownBlock = some b -> w.heap.size <= b) /\ f'.most = f.most /\ f'.z = f.z /\ f'.tail = f.tail /\ Dc w' g f' /\ f'.fault = c /\
   f'.wb = .slice (some ⟨gw,0,none⟩) 32768 32768 /\
   ((c = 0 /\ w'.ownsRow 0 5 1 v y.length (bvals y) /\ f'.total = f.total + y.length /\ s.out.length + y.length <= f.most /\
       ((f'.k = 11 /\ ∃ t,End B (a + n) f.most s 0 t /\ f'.used = f.used + ((t.p + 7) / 8 - a) /\ t.p <= 8 * (a + n) /\ t.out = s.out ++ y /\ ∃ z,f'.wt = .slice (some ⟨gt,0,none⟩) z 4) \/
         (f'.used = f.used + n /\ ∃ o' t,End B (a + n) f.most s 2 t /\ t.out = s.out ++ y /\ Rest w' g gw gt f' B (a + n) o' t))) \/
     ((c = 3 \/ c = 5) /\ v = .slice none 0 0 /\ f'.used = f.used /\ ∃ t,End B (a + n) f.most s c t /\ f'.k ≠ 11 /\ ∃ z,f'.wt = .slice (some ⟨gt,0,none⟩) z 4))
theorem run_between {w : World} {A : Option Addr} {n c : Nat} {l : List UInt8} (h : Holds w 1 A n (bvals l)) (hn : n <= c) (k m hi : Nat) (hm : 0 < m) (hk : k + m <= n) (he : hi = k + m) :
 ∃ A' c',(∀ w',(Instr.slice 22 (.slice A n c) (some (.int .i64 (k : Int))) (some (.int .i64 (hi : Int))) none).run Tryz.prog w' = .ok (.slice A' m c') w') /\ Holds w 1 A' m (bvals ((l.drop k).take m)):=by
 refine ⟨A.map (·.add (k * 1)),c - k,fun w'=>?_,?_⟩
 ·rw [run_slice_lh (w:=w') 22 A n c bytes_elem .i64 .i64 k hi (by omega) (by omega) (by omega),bytes_size]
  have hck : ¬ c = k:=by omega
  simp [sliced,Result.andThen,hck]
  omega
 ·have:=h.cut hk
  rw [Nat.mul_one,Nat.mul_one,<- bvals_drop,<- bvals_take] at this
  rw [Nat.mul_one]
  exact this
def Wlp (B : List UInt8) (a n : Nat) (g G gw gt : Nat) (f : DF) (s : GSt) (w : World) (i : Value) (wr : World) : Prop :=
 ∃ (u : Nat) (y : List UInt8) (rp vo : Value) (f' : DF),i = .int .i64 (u : Int) /\ u <= n /\ Only [g,gw,gt] w wr /\ (∀ b,vo.ownBlock = some b -> w.heap.size <= b) /\
   f'.most = f.most /\ f'.used = f.used /\ f'.total = f.total /\ f'.z = f.z /\ f'.tail = f.tail /\ s.out.length + y.length <= f.most /\
   (((f'.fault = 0 /\ ∃ z,f'.wt = .slice (some ⟨gt,0,none⟩) z 4) /\ f'.k = 11 /\ ∃ t,End B (a + n) f.most s 0 t /\ a + u = (t.p + 7) / 8 /\ t.p <= 8 * (a + n) /\ t.out = s.out ++ y /\ On wr g G gw [] f' rp vo (s.out ++ y) y) \/
     (f'.fault = 0 /\ ∃ o t,End B (a + u) f.most s 2 t /\ t.out = s.out ++ y /\ Btw wr g G gw gt f' rp vo B (a + u) o t y) \/
     ((f'.fault = 3 \/ f'.fault = 5) /\ ∃ t,(End B (a + n) f.most s f'.fault t /\ f'.k ≠ 11 /\ ∃ z,f'.wt = .slice (some ⟨gt,0,none⟩) z 4) /\ On wr g G gw [] f' rp vo (s.out ++ y) y))
theorem Wlp.start {B : List UInt8} {a o n g gw gt : Nat} {f : DF} {s : GSt} {w : World} (h : Rest w g gw gt f B a o s) (hl : s.out.length <= f.most) :
 Wlp B a n g w.heap.size gw gt f s w (.int .i64 0) (w.alloc (.cells #[.pointer none,.slice none 0 0] 243)):=by
 have hgf : Has (w.alloc (.cells #[.pointer none,.slice none 0 0] 243)) w.heap.size 243 #[.pointer none,.slice none 0 0]:=Has.new w _ _
 have o0 : Only [] w (w.alloc (.cells #[.pointer none,.slice none 0 0] 243)):=(Only.refl [] w).alloc _
 have hG:=h.md.tab.gs
 refine ⟨0,[],.pointer none,.slice none 0 0,f,rfl,Nat.zero_le _,o0.of_nil,by simp [Value.ownBlock],rfl,rfl,rfl,rfl,rfl,by simpa using hl,.inr (.inl ⟨h.fault,o,s,.short s h.k11 h.far,by simp,?_⟩)⟩
 refine ⟨⟨Has.only h.dec o0 (by simp),h.ring.only o0 (by simp),h.wb,h.wn,hgf,World.ownsRow_nil _ _ _ _,by simp [Value.ownBlock],fun k hk=>⟨by simp [Value.ownBlock],?_⟩⟩,h.wt,own_keep h.wts o0 (by simp),h.gwt,h.md.keep o0 (Other.nil _),h.k,h.wf,h.pt,h.ps,h.oa,h.aB,h.pa,h.fx.imp id (fun hx=>hx.keep o0 (Other.nil _)),⟨h.gg.1,fun hm=>by have:=hG _ hm; omega,h.gg.2.1⟩,h.gg.2.2,h.k11,h.far⟩
 have hsz:=o0.size
 rcases List.mem_cons.1 hk with rfl | hk
 ·have:=(h.wts.lt k rfl).2; omega
 ·have:=hG k hk; omega
theorem Wlp.next {B : List UInt8} {a n g G gw gt u m c : Nat} {f f' : DF} {s t : GSt} {w wr w2 : World} {y : List UInt8} {vo : Value} (hun : u + m <= n) (hm0 : 0 < m) (hfr : Only [g,gw,gt] w wr) (hvo : ∀ b,vo.ownBlock = some b -> w.heap.size <= b) (hG : w.heap.size <= G)
 (hmo : f'.most = f.most) (hus : f'.used = f.used) (hto : f'.total = f.total) (hz : f'.z = f.z) (htl : f'.tail = f.tail) (hf0 : f'.fault = 0) (hE : End B (a + u) f.most s 2 t) (htout : t.out = s.out ++ y) (ho : s.p <= 8 * (a + u)) {z : Nat} (hwt : f'.wt = .slice (some ⟨gt,0,none⟩) z 4)
 (hF : Fed B (a + u) m g G gw gt f' vo y t wr c w2) : Wlp B a n g G gw gt f s w (.int .i64 ((u + c : Nat) : Int)) w2 /\ 0 < c /\ c <= m:=by
 obtain ⟨y2,rp2,vo2,f2,hfr2,hvo2,h1,h2,h3,h4,h5,hle,hcase⟩:=hF
 have hsz:=hfr.size
 have hw : ∀ i,i ∈ [g,G,gw,gt] ++ vo.ownBlock.toList -> i < w.heap.size -> i ∈ [g,gw,gt]:=fun i hi hlt=>by
  simp only [List.mem_append,List.mem_cons,List.not_mem_nil,or_false] at hi ⊢
  rcases hi with (rfl | rfl | rfl | rfl) | hi
  ·simp
  ·omega
  ·simp
  ·simp
  ·have:=hvo i (mem_own.1 hi); omega
 rw [hmo] at hcase hle
 rw [htout] at hcase hle
 rw [List.length_append] at hle
 have hle2 : s.out.length + (y ++ y2).length <= f.most:=by rw [List.length_append]; omega
 have hvo3 : ∀ b,vo2.ownBlock = some b -> w.heap.size <= b:=fun b hb=>by
  rcases hvo2 b hb with h | h
  ·exact hvo b h
  ·omega
 have wide : ∀ {e t2},e ≠ 2 -> End B (a + u + m) f.most t e t2 -> End B (a + n) f.most s e t2:=fun he h=>(hE.more (by omega) h).wide he (by omega)
 rcases hcase with ⟨q1,q2,t2,q3,q4,q5,q6,q7,q8⟩ | ⟨q1,q2,o2,t2,q3,q4,q5⟩ | ⟨q1,q2,t2,q3,q4⟩
 ·have hE2:=wide (by decide) q3
  refine ⟨⟨u + c,y ++ y2,rp2,vo2,f2,rfl,by omega,hfr.trans hfr2 hw,hvo3,h1.trans hmo,h2.trans hus,h3.trans hto,h4.trans hz,h5.trans htl,hle2,.inl ⟨⟨q1.1.trans hf0,z,q1.2.trans hwt⟩,q2,t2,hE2,by omega,(hE2.on (by omega)).2.1,by rw [q7,List.append_assoc],by rw [<- List.append_assoc]; exact q8⟩⟩,q5,q6⟩
 ·subst q2
  refine ⟨⟨u + c,y ++ y2,rp2,vo2,f2,rfl,by omega,hfr.trans hfr2 hw,hvo3,h1.trans hmo,h2.trans hus,h3.trans hto,h4.trans hz,h5.trans htl,hle2,.inr (.inl ⟨q1.trans hf0,o2,t2,?_,by rw [q4,List.append_assoc],?_⟩)⟩,?_,Nat.le_refl _⟩
  ·rw [<- Nat.add_assoc]; exact hE.more (by omega) q3
  ·rw [<- Nat.add_assoc]; exact q5
  ·exact hm0
 ·have h25 : f2.fault ≠ 2:=by omega
  refine ⟨⟨u + c,y ++ y2,rp2,vo2,f2,rfl,by omega,hfr.trans hfr2 hw,hvo3,h1.trans hmo,h2.trans hus,h3.trans hto,h4.trans hz,h5.trans htl,hle2,.inr (.inr ⟨q1,t2,⟨wide h25 q3.1,q3.2.1,z,q3.2.2.trans hwt⟩,by rw [<- List.append_assoc]; exact q4⟩)⟩,?_,by omega⟩
  omega
set_option maxRecDepth 100000 in
set_option maxHeartbeats 8000000 in
theorem write_by (B : List UInt8) {P : GSt -> Prop} (hBy : StepsBy B P) (a o n cb : Nat) (A : Option Addr) (g gw gt : Nat) (f : DF) (s : GSt) (w : World) (h : Rest w g gw gt f B a o s)
 (hb : Holds w 1 A n (bvals ((B.drop a).take n))) (hcb : n <= cb) (han : a + n <= B.length) (hB : B.length <= 90000) (hl : s.out.length <= f.most) (hmost : f.most <= 1073741824) (hu : f.used + n <= 1000000000) (ht : f.total <= 1000000000)
 (hA : 0 < n -> ∀ ad,A = some ad -> ad.block ∉ [g,gw,gt]) (hs0 : P s) :
 Calls Tryz.prog 154 #[.pointer (some ⟨g,0,none⟩),.slice A n cb] w (Wrote B a n g gw gt f s w):=by
 have hsp : s.p <= 8 * a:=h.pt.le h.pa
 have HI:=hide (aI h (aI hb (aI han (aI hB (aI hl (aI hmost (aI hA (aI hcb hsp))))))))
 have HU:=hide (aI hu ht)
 have HST:=hide (Wlp.start (n:=n) h hl)
 have HBy:=hide (aI hBy hs0)
 clear hBy hs0 h hb han hB hl hmost hA hcb hu ht hsp
 go_enter Tryz.func154,Tryz.ntmps154
 go_wp2_with fail
 go_loopw [7] (fun i wr=>Wlp B a n g w.heap.size gw gt f s w i wr) (fun i _=>n - (intOf i).toNat)
 case atStart=>exact HST.out
 case round =>
  obtain ⟨u,y,rp,vo,f',rfl,hun,hfr,hvo,hmo,hus,hto,hz,htl,hy,hcase⟩:=hrel
  rcases hcase with ⟨h0,h11,t,hE,hau,htp,hto2,hon⟩ | ⟨h0,o',t,hE,hto2,hbt⟩ | ⟨h35,t,hE,hon⟩
  ·have k2 : wr.cell? ⟨g,2,none⟩ = some (.int .i64 0):=by have:=hon.dec.fault; rw [h0.1] at this; exact this
   have hD:=hide (done_any g f' wr hon.dec true (by rw [h11]; rfl))
   have hfin : ∀ wz,Only [g] wr wz -> Dc wz g { f' with used:=f'.used + u,total:=f'.total + y.length } -> Wrote B a n g gw gt f s w (.returned (.tuple #[vo,.int .i64 0])) wz:=fun wz ho hd=>by
    refine ⟨0,y,vo,{ f' with used:=f'.used + u,total:=f'.total + y.length },rfl,hfr.trans ho (by simp),hvo,hmo,hz,htl,hd,h0.1,hon.wb,.inl ⟨rfl,own_keep hon.out ho (fun b hb hm=>?_),?_,hy,.inl ⟨h11,t,hE,?_,htp,hto2,h0.2⟩⟩⟩
    ·obtain rfl : b = g:=by simpa using hm
     exact hon.g_vo hb.symm
    ·show f'.total + y.length = f.total + y.length
     rw [hto]
    ·show f'.used + u = f.used + ((t.p + 7) / 8 - a)
     rw [hus]; omega
   have HFIN:=hide hfin
   have k3:=hon.dec.used
   have q3 : wr.frozen? ⟨g,3,none⟩ = false:=Has.free hon.dec 3
   have hgn : g ≠ w.heap.size:=hon.g_gf
   have hgn' : w.heap.size ≠ g:=fun e=>hgn e.symm
   have hub : f'.used + u <= 1000000000:=by have:=HU.out.1; omega
   have htb : f'.total <= 1000000000:=by have:=HU.out.2; omega
   have hyb : y.length <= 1073741824:=by have:=HI.out.2.2.2.2.2.1; omega
   obtain ⟨Av,cv,rfl,_,_⟩:=own_shape hon.out
   have HJ:=hide hon
   clear hfr hvo hmo hus hto hz htl hy hon h0 hE hto2 hfin h11 hau htp
   go_wp2_with fail
   refine (hD.out).mono ?_
   rintro e w1 ⟨rfl,rfl⟩
   go_wp2_with fail
   have d3 : Dc (wr.setCell ⟨g,3,none⟩ (.int .i64 ((f'.used : Int) + (u : Int)))) g { f' with used:=f'.used + u }:=Dc.set_used HJ.out.dec (f'.used + u)
   have o3 : Only [g] wr (wr.setCell ⟨g,3,none⟩ (.int .i64 ((f'.used : Int) + (u : Int)))):=(Only.refl [g] wr).setCell (by simp) _
   have k4 : (wr.setCell ⟨g,3,none⟩ (.int .i64 ((f'.used : Int) + (u : Int)))).drew.cell? ⟨g,4,none⟩ = some (.int .i64 (f'.total : Int)):=d3.total
   have q4 : (wr.setCell ⟨g,3,none⟩ (.int .i64 ((f'.used : Int) + (u : Int)))).drew.frozen? ⟨g,4,none⟩ = false:=Has.free d3 4
   have k1 : (wr.setCell ⟨g,3,none⟩ (.int .i64 ((f'.used : Int) + (u : Int)))).drew.cell? ⟨w.heap.size,1,none⟩ = some (.slice Av y.length cv):=(Has.only HJ.out.flow o3 (by simpa using hgn')).cell 1
   have HD:=hide (aI d3 o3)
   clear d3 o3
   generalize wr.setCell ⟨g,3,none⟩ (.int .i64 ((f'.used : Int) + (u : Int))) = w3 at *
   go_region
   all_goals
    have k5 : (w3.setCell ⟨g,4,none⟩ (.int .i64 ((f'.total : Int) + (y.length : Int)))).drew.cell? ⟨w.heap.size,1,none⟩ = some (.slice Av y.length cv):=by
     have:=(Has.only HJ.out.flow (HD.out.2.trans (((Only.refl [g] w3).setCell (p:=⟨g,4,none⟩) (by simp) (.int .i64 ((f'.total : Int) + (y.length : Int)))).drew) (by simp)) (by simpa using hgn')).cell 1
     exact this
    go_wp2_with fail
    go_ret2
    exact HFIN.out _ (HD.out.2.trans (((Only.refl [g] w3).setCell (p:=⟨g,4,none⟩) (by simp) (.int .i64 ((f'.total : Int) + (y.length : Int)))).drew) (by simp)) (Dc.set_total HD.out.1 (f'.total + y.length))
  ·have hwn : u = n \/ u < n:=by omega
   have hD:=hide (done_any g f' wr hbt.on.dec false (decide_eq_false (by have h1:=hbt.k; have h2:=hbt.k11; omega)))
   have k2 : wr.cell? ⟨g,2,none⟩ = some (.int .i64 0):=by have:=hbt.on.dec.fault; rw [h0] at this; exact this
   by_cases hu : u < n
   ·obtain ⟨m,hm⟩ : ∃ m,m = min 4096 (n - u):=⟨_,rfl⟩
    have hbr : Holds wr 1 A n (bvals ((B.drop a).take n)):=HI.out.2.1.keepPos hfr (fun h0 ad ha _=>HI.out.2.2.2.2.2.2.1 h0 ad ha)
    obtain ⟨hi,hhi⟩ : ∃ hi,hi = u + m:=⟨_,rfl⟩
    obtain ⟨A',c',hsl,hhl⟩:=run_between hbr HI.out.2.2.2.2.2.2.2.1 u m hi (by omega) (by omega) hhi
    have hpart : (((B.drop a).take n).drop u).take m = (B.drop (a + u)).take m:=by
     rw [List.drop_take,List.take_take,Nat.min_eq_left (by omega),List.drop_drop]
    rw [hpart] at hhl
    have hFd:=feed_by B HBy.out.1 (a + u) o' m c' A' g w.heap.size gw gt f' rp vo y t wr hbt hhl (by omega) (by omega) (by have:=HI.out.2.2.1; omega) (by rw [hmo,hto2,List.length_append]; exact hy) (by rw [hmo]; exact HI.out.2.2.2.2.2.1) (by rw [hto2,List.length_append]; omega) (HBy.out.1.1 _ _ _ _ hE.steps.1 HBy.out.2)
    have hmin : (if (n : Int) < (u : Int) + 4096 then (n : Int) else (u : Int) + 4096) = (hi : Int):=by split <;> omega
    have hub : u + 4096 <= 2000000000:=by have:=HU.out.1; omega
    have hnext:=fun c w2=>Wlp.next (n:=n) (c:=c) (w2:=w2) (show u + m <= n by omega) (show 0 < m by omega) hfr hvo (Nat.le_refl _) hmo hus hto hz htl h0 hE hto2 (by have:=HI.out.2.2.2.2.2.2.2.2; omega) hbt.wt
    have HJ:=hide (aI hFd (aI hnext hm))
    clear hfr hvo hmo hus hto hz htl hy h0 hE hto2 hbt hbr hhl hpart hFd hm hhi hwn hnext
    go_wp2_with fail
    refine (hD.out).mono ?_
    rintro e w1 ⟨rfl,rfl⟩
    go_wp2_with fail
    refine (HJ.out.1).mono ?_
    rintro e w2 ⟨c,rfl,hF⟩
    have hN:=HJ.out.2.1 c w2 hF
    have hcb : c <= 1000000000:=by have:=HU.out.1; have:=HJ.out.2.2; omega
    have HN:=hide hN
    clear hF hN
    go_wp2_with fail
    go_roundw
    case rel=>exact HN.out.1
    case measure=>have:=HN.out.2; have:=HJ.out.2.2; simp [intOf]; omega
   ·obtain rfl : u = n:=by omega
    have hon:=hbt.on
    have hfin : ∀ wz,Only [g] wr wz -> Dc wz g { f' with used:=f'.used + u,total:=f'.total + y.length } -> Wrote B a u g gw gt f s w (.returned (.tuple #[vo,.int .i64 0])) wz:=fun wz ho hd=>by
     have hO : Other wr [g]:=fun k hk _=>by
      obtain rfl : k = g:=by simpa using hk
      exact ⟨⟨_,_,_,hbt.on.dec,f'.ne_ty (by decide) (by decide),f'.ne_ty (by decide) (by decide)⟩,hbt.gg.1⟩
     have hM:=hbt.md.keep ho hO
     refine ⟨0,y,vo,{ f' with used:=f'.used + u,total:=f'.total + y.length },rfl,hfr.trans ho (by simp),hvo,hmo,hz,htl,hd,h0,hbt.on.wb,.inl ⟨rfl,own_keep hbt.on.out ho (fun b hb hm=>?_) |> fun h=>h,?_,hy,.inr ⟨?_,o',t,hE,hto2,⟨hd,hbt.on.ring.only ho (by simpa using fun e=>hbt.on.g_gw e.symm),hbt.on.wb,hbt.on.wn,hbt.wt,own_keep hbt.wts ho (fun b hb hm=>?_),hbt.gwt,⟨hM.last,hM.left,hM.co,hM.sy,hM.le,hM.hd,hM.tab⟩,hbt.k,hbt.wf,hbt.pt,hbt.ps,hbt.oa,hbt.aB,hbt.pa,hbt.fx.imp id (fun hx=>hx.keep ho hO),⟨hbt.gg.1,hbt.gg.2.2,hbt.gtG⟩,hbt.k11,hbt.far,h0⟩⟩⟩⟩
     ·obtain rfl : b = g:=by simpa using hm
      exact hbt.on.g_vo hb.symm
     ·show f'.total + y.length = f.total + y.length
      rw [hto]
     ·show f'.used + u = f.used + u
      rw [hus]
     ·obtain rfl : b = g:=by simpa using hm
      exact own_ne hbt.wts hbt.on.dec (DF.ty_ne _ (by decide) (by decide)) hb.symm
    have HFIN:=hide hfin
    have k3:=hon.dec.used
    have q3 : wr.frozen? ⟨g,3,none⟩ = false:=Has.free hon.dec 3
    have hgn : g ≠ w.heap.size:=hon.g_gf
    have hgn' : w.heap.size ≠ g:=fun e=>hgn e.symm
    have hub : f'.used + u <= 1000000000:=by have:=HU.out.1; omega
    have htb : f'.total <= 1000000000:=by have:=HU.out.2; omega
    have hyb : y.length <= 1073741824:=by have:=HI.out.2.2.2.2.2.1; omega
    obtain ⟨Av,cv,rfl,_,_⟩:=own_shape hon.out
    have HJ:=hide hon
    clear hfr hvo hmo hus hto hz htl hy hon h0 hE hto2 hfin hbt
    go_wp2_with fail
    refine (hD.out).mono ?_
    rintro e w1 ⟨rfl,rfl⟩
    go_wp2_with fail
    have d3 : Dc (wr.setCell ⟨g,3,none⟩ (.int .i64 ((f'.used : Int) + (u : Int)))) g { f' with used:=f'.used + u }:=Dc.set_used HJ.out.dec (f'.used + u)
    have o3 : Only [g] wr (wr.setCell ⟨g,3,none⟩ (.int .i64 ((f'.used : Int) + (u : Int)))):=(Only.refl [g] wr).setCell (by simp) _
    have k4 : (wr.setCell ⟨g,3,none⟩ (.int .i64 ((f'.used : Int) + (u : Int)))).drew.cell? ⟨g,4,none⟩ = some (.int .i64 (f'.total : Int)):=d3.total
    have q4 : (wr.setCell ⟨g,3,none⟩ (.int .i64 ((f'.used : Int) + (u : Int)))).drew.frozen? ⟨g,4,none⟩ = false:=Has.free d3 4
    have k1 : (wr.setCell ⟨g,3,none⟩ (.int .i64 ((f'.used : Int) + (u : Int)))).drew.cell? ⟨w.heap.size,1,none⟩ = some (.slice Av y.length cv):=(Has.only HJ.out.flow o3 (by simpa using hgn')).cell 1
    have HD:=hide (aI d3 o3)
    clear d3 o3
    generalize wr.setCell ⟨g,3,none⟩ (.int .i64 ((f'.used : Int) + (u : Int))) = w3 at *
    go_region
    all_goals
     have k5 : (w3.setCell ⟨g,4,none⟩ (.int .i64 ((f'.total : Int) + (y.length : Int)))).drew.cell? ⟨w.heap.size,1,none⟩ = some (.slice Av y.length cv):=by
      have:=(Has.only HJ.out.flow (HD.out.2.trans (((Only.refl [g] w3).setCell (p:=⟨g,4,none⟩) (by simp) (.int .i64 ((f'.total : Int) + (y.length : Int)))).drew) (by simp)) (by simpa using hgn')).cell 1
      exact this
     go_wp2_with fail
     go_ret2
     exact HFIN.out _ (HD.out.2.trans (((Only.refl [g] w3).setCell (p:=⟨g,4,none⟩) (by simp) (.int .i64 ((f'.total : Int) + (y.length : Int)))).drew) (by simp)) (Dc.set_total HD.out.1 (f'.total + y.length))
  ·have k2:=hon.dec.fault
   have HJ:=hide (aI hfr (aI hmo (aI hz (aI htl (aI hus (aI hE hon))))))
   clear hfr hvo hmo hus hto hz htl hy hE hon
   rcases h35 with h5 | h5
   all_goals
    rw [h5] at k2
    have H5:=hide h5
    clear h5
    go_wp2_with fail
    go_region
    all_goals
     go_wp2_with fail
     go_ret2
     have hJ:=HJ.out
     have hE:=hJ.2.2.2.2.2.1
     rw [H5.out] at hE
     exact ⟨_,[],.slice none 0 0,f',rfl,hJ.1.trans ((Only.refl [] wr).drew) (by simp),by simp [Value.ownBlock],hJ.2.1,hJ.2.2.1,hJ.2.2.2.1,Has.only hJ.2.2.2.2.2.2.dec ((Only.refl [] wr).drew) (by simp),H5.out,hJ.2.2.2.2.2.2.wb,.inr ⟨by first | exact .inl rfl | exact .inr rfl,rfl,hJ.2.2.2.2.1,t,hE⟩⟩
def tailZ (sm : Value) (part : Nat) (b : List UInt8) (n : Nat) : List Value:=[sm,.int .i64 (part : Int)] ++ (bvals b ++ [.int .i64 (n : Int)])
theorem arr4_elem : Tryz.prog.underlying 70 = some (.array (Tryz.prog.arrayLen 70) (Tryz.prog.elem 70)):=by kernel_rfl
theorem arr4_len : Tryz.prog.arrayLen 70 = 4:=by kernel_rfl
theorem arr4_size (w : World) : (sizeOf (Tryz.prog.elem 70)).run Tryz.prog w = .ok 1 w:=by kernel_rfl
theorem run_arr4_h (g o n : Nat) (hn : n <= 4) (w : World) : (Instr.sliceAt 70 (.pointer (some ⟨g,o,none⟩)) none (some (.int .i64 (n : Int))) none).run Tryz.prog w = .ok (.slice (some ⟨g,o,none⟩) n 4) w:=by
 rw [run_sliceAt_array_h w 70 ⟨g,o,none⟩ arr4_elem .i64 (n : Int) (by omega) (by rw [arr4_len]; omega),arr4_size]
 simp [slicedAt,Result.andThen,arr4_len,Addr.add]
theorem run_arr4_lh (g o l m : Nat) (hl : l < 4) (hm : l <= m) (hn : m <= 4) (w : World) : (Instr.sliceAt 70 (.pointer (some ⟨g,o,none⟩)) (some (.int .i64 (l : Int))) (some (.int .i64 (m : Int))) none).run Tryz.prog w = .ok (.slice (some ⟨g,o + l,none⟩) (m - l) (4 - l)) w:=by
 rw [run_sliceAt_array_lh w 70 ⟨g,o,none⟩ arr4_elem .i64 .i64 (l : Int) (m : Int) (by omega) (by omega) (by rw [arr4_len]; omega),arr4_size]
 have h1 : ¬ (4 : Nat) = l:=by omega
 simp [slicedAt,Result.andThen,arr4_len,add_none,h1]
theorem DF.cells_splice (f : DF) (j : Nat) (cs : List Value) :
 (f.cells.toList.take (357 + j) ++ cs ++ f.cells.toList.drop (357 + j + cs.length)).toArray = { f with tail:=f.tail.take j ++ cs ++ f.tail.drop (j + cs.length) }.cells:=by
 have h1 : f.cells.toList = (List.range 357).map f.at ++ f.tail:=by simp [DF.cells]
 have h2 : ((List.range 357).map f.at).length = 357:=by simp
 show _ = ((List.range 357).map f.at ++ (f.tail.take j ++ cs ++ f.tail.drop (j + cs.length))).toArray
 congr 1
 rw [h1,List.take_append,List.drop_append,h2,List.take_of_length_le (by omega),List.drop_eq_nil_of_le (by omega),show 357 + j - 357 = j by omega,show 357 + j + cs.length - 357 = j + cs.length by omega,List.nil_append]
 simp only [List.append_assoc]
theorem tailZ_splice (sm : Value) (part : Nat) (wb cs : List UInt8) (k n : Nat) (hk : k + cs.length <= wb.length) :
 (tailZ sm part wb n).take (2 + k) ++ bvals cs ++ (tailZ sm part wb n).drop (2 + k + (bvals cs).length) = tailZ sm part (wb.take k ++ cs ++ wb.drop (k + cs.length)) n:=by
 have h2 : ([sm,Value.int .i64 (part : Int)]).length = 2:=rfl
 unfold tailZ
 rw [bvals_length,List.take_append,List.drop_append,h2,List.take_of_length_le (by rw [h2]; omega),List.drop_eq_nil_of_le (by rw [h2]; omega),show 2 + k - 2 = k by omega,show 2 + k + cs.length - 2 = k + cs.length by omega,List.nil_append,
  List.take_append_of_le_length (by rw [bvals_length]; omega),List.drop_append_of_le_length (by rw [bvals_length]; omega),bvals_append,bvals_append,<- bvals_take,<- bvals_drop]
 simp only [List.append_assoc]
theorem tailZ_length (sm : Value) (part : Nat) (wb : List UInt8) (n : Nat) : (tailZ sm part wb n).length = wb.length + 3:=by unfold tailZ; simp [bvals]
theorem tailZ_n (sm : Value) (part : Nat) (wb : List UInt8) (n : Nat) (h : wb.length = 4) : (tailZ sm part wb n)[6]? = some (.int .i64 (n : Int)):=by
 unfold tailZ
 rw [List.getElem?_append_right (by show 2 <= 6; decide),List.getElem?_append_right (by rw [bvals_length]; show wb.length <= 6 - 2; omega),bvals_length]
 show [Value.int .i64 (n : Int)][6 - 2 - wb.length]? = _
 rw [h]; rfl
theorem tailZ_set_n (sm : Value) (part : Nat) (wb : List UInt8) (n m : Nat) (h : wb.length = 4) : (tailZ sm part wb n).set 6 (.int .i64 (m : Int)) = tailZ sm part wb m:=by
 unfold tailZ
 rw [List.set_append_right _ _ (by show 2 <= 6; decide),List.set_append_right _ _ (by rw [bvals_length]; show wb.length <= 6 - 2; omega),bvals_length]
 show _ ++ (_ ++ [Value.int .i64 (n : Int)].set (6 - 2 - wb.length) _) = _
 rw [h]; rfl
theorem step_copy_none {P : Program} (w : World) {ops : Array Oper} {o : Oper} {a : Act} {K : Act -> World -> Prop} {Q : Exit -> Act -> World -> Prop} {E : Prop} (hgd : o.guard = none) (d s : Operand) (t : TypeId) (hop : o.op = .call { callee:=.builtin .copy,args:=#[d,s],argTypes:=#[t,t] })
 (elem : TypeId) (dA sA : Option Addr) (dLen dCap sCap : Nat) (hu : P.underlying t = some (.slice elem)) (hs : (P.info? elem).map (·.size) = some 1)
 (hd : a.eval d = .slice dA dLen dCap) (hse : a.eval s = .slice sA 0 sCap)
 (h : K (a.put o.dst (.int .i64 0)) w) : if Region.wanted o (yielded ops a.tmps) = true then Oper.wp P o a w K Q else E:=by
 rw [if_pos (by simp [Region.wanted,hgd])]
 have hrun:=run_copy_none (P:=P) w t t o.type elem dA sA dLen dCap 0 sCap hu hs (by simp)
 unfold Oper.wp execOp
 simp only [hop,resolve,invoke,builtin,Sem.run_bind,Sem.run_pure,Result.andThen_ok,List.map_toArray,List.map_cons,List.map_nil,hd,hse,hrun]
 exact h
set_option maxRecDepth 100000 in
set_option maxHeartbeats 8000000 in
theorem gather_any (g : Nat) (f : DF) (sm : Value) (part k n m cb : Nat) (wb b : List UInt8) (ad : Addr) (w : World) (hd : Dc w g f) (ht : f.tail = tailZ sm part wb k) (hw : wb.length = 4) (hk : k < n) (hn : n <= 4)
 (hb : Holds w 1 (some ad) m (bvals b)) (hbl : b.length = m) (hcb : m <= cb) (hA : 0 < m -> ad.block ≠ g) (hm : m <= 1000000000) (c : Nat) (hc : c = min m (n - k)) :
 Calls Tryz.prog 145 #[.pointer (some ⟨g,0,none⟩),.slice (some ad) m cb,.int .i64 (n : Int)] w fun e w' =>
  ∃ A' c',e = .returned (.slice A' (m - c) c') /\ Dc w' g { f with tail:=tailZ sm part (wb.take k ++ b.take c ++ wb.drop (k + c)) (k + c) } /\ Only [g] w w' /\ Holds w' 1 A' (m - c) (bvals (b.drop c)) /\ m - c <= c' /\ (∀ ad',A' = some ad' -> ad'.block = ad.block) /\ A' ≠ none:=by
 have hcl : (b.take c).length = c:=by rw [List.length_take]; omega
 have c363 : w.cell? ⟨g,363,none⟩ = some (.int .i64 (k : Int)):=by have:=hd.tail 6; rw [ht,tailZ_n _ _ _ _ hw] at this; exact this
 have hs1:=run_arr4_lh g 359 k n (by omega) (by omega) hn
 have hcell : ∀ j v,(bvals (b.take c))[j]? = some v -> w.drew.cell? (ad.add j) = some v:=fun j v hv=>by
  show w.cell? (ad.add j) = some v
  refine hb.at_ ad rfl j v ?_
  rw [bvals_take,List.getElem?_take] at hv
  split at hv
  ·exact hv
  ·cases hv
 have hsz : (Tryz.prog.info? 5).map (·.size) = some 1:=by kernel_rfl
 have hlen : (bvals (b.take c)).length = Nat.min m (n - k):=by rw [bvals_length,hcl,hc]
 have hfit : 359 + k + (bvals (b.take c)).length <= f.cells.size:=by rw [bvals_length,hcl,DF.cells_size,ht,tailZ_length,hw]; omega
 have hone:=bvals_one (b.take c)
 have hdd : Has w.drew g f.ty f.cells:=hd
 have hI:=hide (aI hd (aI ht (aI hw (aI hb (aI hbl (aI hcl (aI hc hA)))))))
 have hcm : c <= m /\ c <= 4:=by omega
 have hkc : k + c <= 8:=by omega
 have hlc : (bvals (b.take c)).length = c:=by rw [bvals_length,hcl]
 clear hd ht hw hb hbl hcl hc hA
 go_enter Tryz.func145,Tryz.ntmps145
 go_wp2_with fail
 go_region_law ((refine step_copy _ rfl (.tmp 16) (.tmp 17) 22 rfl 5 g (359 + k) (n - k) (4 - k) ad m cb _ f.ty (bvals (b.take c)) Tryz.underlying22 hsz hdd hlen hcell hfit hone (by kernel_rfl) (by kernel_rfl) ?_; intro w3 hR3 hO3; have H3:=hide (aI hR3 hO3); clear hR3 hO3 hlen hcell hfit hone hdd; rw [hlc]))
 all_goals
  have hd:=hI.out.1
  have ht:=hI.out.2.1
  have hw:=hI.out.2.2.1
  have hcl:=hI.out.2.2.2.2.2.1
  have hcc:=hI.out.2.2.2.2.2.2.1
  have hd3 : Dc w3 g { f with tail:=tailZ sm part (wb.take k ++ b.take c ++ wb.drop (k + c)) k }:=by
   have h1:=H3.out.1
   rw [show 359 + k = 357 + (2 + k) by omega,DF.cells_splice,ht,tailZ_splice _ _ _ _ _ _ (by rw [hcl,hw]; omega),hcl] at h1
   exact h1
  have hw3 : (wb.take k ++ b.take c ++ wb.drop (k + c)).length = 4:=by
   rw [List.length_append,List.length_append,hcl,List.length_take,List.length_drop,hw]; omega
  have o3 : Only [g] w w3:=((Only.refl [g] w).drew).trans H3.out.2 (by simp)
  have k363 : w3.cell? ⟨g,363,none⟩ = some (.int .i64 (k : Int)):=by have:=hd3.tail 6; rw [tailZ_n _ _ _ _ hw3] at this; exact this
  have q363 : w3.frozen? ⟨g,363,none⟩ = false:=Has.free hd3 363
  have hb3 : ∀ m2 : Nat,Holds ((w3.setCell ⟨g,363,none⟩ (.int .i64 (((k + c : Nat) : Int)))).drewN m2) 1 (some ad) m (bvals b):=fun m2 =>
   hI.out.2.2.2.1.keepPos (o3.trans (((Only.refl [g] w3).setCell (by simp) _).drewN m2) (by simp)) (fun h0 ad' ha _ hm=>by
    injection ha with ha; subst ha
    exact hI.out.2.2.2.2.2.2.2 h0 (by simpa using hm))
  obtain ⟨A',c',hsl,hhl,hc',hblk⟩:=run_from (hb3 0) hI.out.2.2.2.2.1 hcb c hcm.1
  have hd4 : Dc (w3.setCell ⟨g,363,none⟩ (.int .i64 ((k + c : Nat) : Int))) g { f with tail:=tailZ sm part (wb.take k ++ b.take c ++ wb.drop (k + c)) (k + c) }:=by
   have h1:=Dc.set_tail hd3 6 (.int .i64 ((k + c : Nat) : Int))
   rw [tailZ_set_n _ _ _ _ _ hw3] at h1
   exact h1
  have hnn : A' ≠ none:=fun h=>by
   have h1:=hsl w
   rw [run_slice_l (w:=w) 22 (some ad) m cb bytes_elem .i64 c (by omega) (by omega),bytes_size,h] at h1
   by_cases hcc : cb = c <;> simp [sliced,Result.andThen,hcc] at h1
  have HSN:=hide hnn
  clear hnn
  have H4:=hide (aI hd4 (aI o3 (aI hhl (aI hc' hblk))))
  have e1 : (k : Int) + (c : Int) = ((k + c : Nat) : Int):=by omega
  obtain ⟨kc,hkc2⟩ : ∃ kc,kc = k + c:=⟨_,rfl⟩
  rw [<- hkc2] at e1 H4
  have HKC:=hide hkc2
  clear hd ht hw hcl hcc hd3 hw3 o3 hb3 hhl hc' hblk hd4 hkc2
  go_wp2_with fail
  go_ret
  rw [<- HKC.out]
  exact ⟨A',c',rfl,H4.out.1,H4.out.2.1.trans ((Only.refl [g] w3).setCell (by simp) _) (by simp),H4.out.2.2.1,H4.out.2.2.2.1,fun ad' ha=>by
   obtain ⟨ad2,h1,h2⟩:=H4.out.2.2.2.2 ad' ha
   injection h1 with h1
   rw [h2,h1],HSN.out⟩
set_option maxRecDepth 100000 in
set_option maxHeartbeats 8000000 in
theorem gather_none (g : Nat) (f : DF) (sm : Value) (part k n : Nat) (wb : List UInt8) (w : World) (hd : Dc w g f) (ht : f.tail = tailZ sm part wb k) (hw : wb.length = 4) (hk : k < n) (hn : n <= 4) :
 Calls Tryz.prog 145 #[.pointer (some ⟨g,0,none⟩),.slice none 0 0,.int .i64 (n : Int)] w fun e w'=>e = .returned (.slice none 0 0) /\ Dc w' g f /\ Only [g] w w':=by
 have c363 : w.cell? ⟨g,363,none⟩ = some (.int .i64 (k : Int)):=by have:=hd.tail 6; rw [ht,tailZ_n _ _ _ _ hw] at this; exact this
 have q363 : w.drew.frozen? ⟨g,363,none⟩ = false:=Has.free hd 363
 have d363 : w.drew.cell? ⟨g,363,none⟩ = some (.int .i64 (k : Int)):=c363
 have hs1:=run_arr4_lh g 359 k n (by omega) (by omega) hn
 have hsz : (Tryz.prog.info? 5).map (·.size) = some 1:=by kernel_rfl
 have hsl : ∀ w' : World,(Instr.slice 22 (.slice none 0 0) (some (.int .i64 0)) none none).run Tryz.prog w' = .ok (.slice none 0 0) w':=fun w'=>by
  rw [run_slice_l (w:=w') 22 none 0 0 bytes_elem .i64 0 (by omega) (by omega),bytes_size]
  simp [sliced,Result.andThen]
 have hI:=hide (aI hd (aI ht hw))
 clear hd ht hw
 go_enter Tryz.func145,Tryz.ntmps145
 go_wp2_with fail
 go_region_law ((refine step_copy_none _ rfl (.tmp 16) (.tmp 17) 22 rfl 5 (some ⟨g,359 + k,none⟩) none (n - k) (4 - k) 0 Tryz.underlying22 hsz (by kernel_rfl) (by kernel_rfl) ?_))
 all_goals
  go_wp2_with fail
  go_ret
  have h1:=Dc.set_tail (w:=w.drew) (g:=g) hI.out.1 6 (.int .i64 (k : Int))
  rw [hI.out.2.1,tailZ_set_n _ _ _ _ _ hI.out.2.2,<- hI.out.2.1] at h1
  exact ⟨rfl,h1,((Only.refl [g] w).drew).setCell (by simp) _⟩
theorem u8_and15 (x : Nat) (h : x < 256) : bits .and .u8 (x : Int) 15 = ((x % 16 : Nat) : Int):=by
 have:=u8_and_nat x 15 h (by omega)
 rw [show (15 : Nat) = 2 ^ 4 - 1 from rfl,Nat.and_two_pow_sub_one_eq_mod] at this
 exact this
set_option maxRecDepth 100000 in
theorem and32 : ∀ x,x < 256 -> ((x &&& 32 : Nat) = 0 ↔ x / 32 % 2 = 0):=by decide
theorem i64_or8 (a b : Nat) (hb : b < 256) (h : a < 256) : bits .or .i64 ((a : Int) * 256) (b : Int) = ((a * 256 + b : Nat) : Int):=by
 have h1 : (BitVec.ofInt 64 ((a : Int) * 256)).toNat = a * 2 ^ 8:=by rw [BitVec.toNat_ofInt]; omega
 have h2 : (BitVec.ofInt 64 (b : Int)).toNat = b:=by rw [BitVec.toNat_ofInt]; omega
 have key : (BitVec.ofInt 64 ((a : Int) * 256) ||| BitVec.ofInt 64 (b : Int)).toNat = a * 256 + b:=by
  rw [BitVec.toNat_or,h1,h2,Nat.or_comm,or_of_lt (by omega)]; omega
 show IntKind.i64.wrap ((BitVec.ofInt 64 ((a : Int) * 256) ||| BitVec.ofInt 64 (b : Int)).toNat : Nat) = _
 rw [key,IntKind.wrap_i64]
 omega
set_option maxRecDepth 100000 in
set_option maxHeartbeats 4000000 in
theorem mayBegin_any (g n x y : Nat) (w : World) (hx : x < 256) (hy : y < 256) (hn : n <= 2) (c0 : w.cell? ⟨g,359,none⟩ = some (.int .u8 (x : Int))) (c1 : w.cell? ⟨g,360,none⟩ = some (.int .u8 (y : Int))) (r : Bool)
 (hr : r = (decide (n = 0) || ((decide (x % 16 = 8) && decide (x / 16 <= 7)) && (decide (n = 1) || (decide ((x * 256 + y) % 31 = 0) && decide (y / 32 % 2 = 0)))))) :
 Calls Tryz.prog 146 #[.slice (some ⟨g,359,none⟩) n 4] w fun e w'=>e = .returned (.bool r) /\ ∃ m,w' = w.drewN m:=by
 obtain ⟨m1,hm1⟩ : ∃ m,m = x % 16:=⟨_,rfl⟩
 obtain ⟨d1,hd1⟩ : ∃ d,d = x / 16:=⟨_,rfl⟩
 obtain ⟨z,hz⟩ : ∃ z,z = x * 256 + y:=⟨_,rfl⟩
 obtain ⟨q,hq⟩ : ∃ q,q = z % 31:=⟨_,rfl⟩
 obtain ⟨v,hv⟩ : ∃ v,v = (y &&& 32 : Nat):=⟨_,rfl⟩
 have hv0 : v = 0 ↔ y / 32 % 2 = 0:=by rw [hv]; exact and32 y hy
 have e1 : bits .and .u8 (x : Int) 15 = (m1 : Int):=by rw [hm1]; exact u8_and15 x hx
 have e2 : (x : Int) / 16 = (d1 : Int):=by omega
 have e3 : bits .or .i64 ((x : Int) * 256) (y : Int) = (z : Int):=by rw [hz]; exact i64_or8 x y hy hx
 have e4 : (z : Int).tmod 31 = (q : Int):=by rw [hq]; rfl
 have e5 : bits .and .u8 (y : Int) 32 = (v : Int):=by rw [hv]; exact u8_and_nat y 32 hy (by decide)
 rw [<- hm1,<- hd1,<- hz,<- hq,(show decide (y / 32 % 2 = 0) = decide (v = 0) from by congr 1; exact propext hv0.symm)] at hr
 have b1 : m1 < 16:=by omega
 have b2 : d1 < 16:=by omega
 have w1 : IntKind.i64.wrap (x : Int) = (x : Int):=Go.Proofs.YtjfjmkkkbcgohaaGreatDoor.wrap64 rfl (by omega)
 have w2 : IntKind.i64.wrap (y : Int) = (y : Int):=Go.Proofs.YtjfjmkkkbcgohaaGreatDoor.wrap64 rfl (by omega)
 have w3 : IntKind.i64.wrap ((x : Int) * 256) = (x : Int) * 256:=Go.Proofs.YtjfjmkkkbcgohaaGreatDoor.wrap64 (n:=x * 256) (by omega) (by omega)
 have w4 : (x : Int) * 256 = ((x * 256 : Nat) : Int):=by omega
 have HN:=hide (aI hr (aI hn (aI b1 b2)))
 clear hm1 hd1 hz hq hv hv0 b1 b2 hx hy hr w4
 generalize (x : Int) = X at *
 generalize (y : Int) = Y at *
 generalize (z : Int) = Z at *
 rcases (show n = 0 \/ n = 1 \/ n = 2 by omega) with rfl | rfl | rfl
 ·obtain rfl : r = true:=HN.out.1
  clear HN
  go_enter Tryz.func146,Tryz.ntmps146
  go_wp2_with fail
  all_goals
   go_ret
   first | exact ⟨rfl,0,rfl⟩ | (exfalso; omega)
 ·clear hn
  by_cases hA : m1 = 8 /\ d1 <= 7
  ·have hA1 : (m1 : Int) = 8:=by omega
   have hA2 : ¬ (7 : Int) < (d1 : Int):=by omega
   obtain rfl : r = true:=by rw [HN.out.1]; simp [hA.1,hA.2]
   clear hA
   clear HN
   go_enter Tryz.func146,Tryz.ntmps146
   go_wp2_with fail
   all_goals
    go_ret
    first | exact ⟨rfl,0,rfl⟩ | (exfalso; omega)
  ·obtain rfl : r = false:=by
    rw [HN.out.1]
    rcases Decidable.em (m1 = 8) with h | h
    ·simp [h]; omega
    ·simp [h]
   have hA2 : ¬ ((m1 : Int) = 8 /\ (d1 : Int) <= 7):=by omega
   clear hA
   clear HN
   go_enter Tryz.func146,Tryz.ntmps146
   go_wp2_with fail
   all_goals
    go_ret
    first | exact ⟨rfl,0,rfl⟩ | (exfalso; omega)
 ·clear hn
  by_cases hA : m1 = 8 /\ d1 <= 7
  ·have hA1 : (m1 : Int) = 8:=by omega
   have hA2 : ¬ (7 : Int) < (d1 : Int):=by omega
   have hr2 : r = (decide (q = 0) && decide (v = 0)):=by rw [HN.out.1]; simp [hA.1,hA.2]
   clear hA
   by_cases hq : q = 0
   ·by_cases hv : v = 0
    ·subst hq hv
     obtain rfl : r = true:=hr2
     clear HN
     go_enter Tryz.func146,Tryz.ntmps146
     go_wp2_with fail
     go_region
     all_goals
      go_wp2_with fail
      go_ret
      first | exact ⟨rfl,_,rfl⟩ | (exfalso; omega)
    ·subst hq
     have hv2 : ¬ (v : Int) = 0:=by omega
     have hv3 : ((v : Int) == 0) = false:=by simpa using hv
     obtain rfl : r = false:=by rw [hr2]; simp [hv]
     clear hv hr2
     clear HN
     go_enter Tryz.func146,Tryz.ntmps146
     go_wp2_with fail
     go_region
     all_goals
      go_wp2_with fail
      go_ret
      first | exact ⟨rfl,_,rfl⟩ | (exfalso; omega)
   ·have hq2 : ¬ (q : Int) = 0:=by omega
    have hq3 : ((q : Int) == 0) = false:=by simpa using hq
    obtain rfl : r = false:=by rw [hr2]; simp [hq]
    clear hq hr2
    clear HN
    go_enter Tryz.func146,Tryz.ntmps146
    go_wp2_with fail
    go_region
    all_goals
     go_wp2_with fail
     go_ret
     first | exact ⟨rfl,_,rfl⟩ | (exfalso; omega)
  ·obtain rfl : r = false:=by
    rw [HN.out.1]
    rcases Decidable.em (m1 = 8) with h | h
    ·simp [h]; omega
    ·simp [h]
   have hA2 : ¬ ((m1 : Int) = 8 /\ (d1 : Int) <= 7):=by omega
   clear hA
   clear HN
   go_enter Tryz.func146,Tryz.ntmps146
   go_wp2_with fail
   all_goals
    go_ret
    first | exact ⟨rfl,0,rfl⟩ | (exfalso; omega)
end Go.Proofs.YtjfjmkkkbcgohaaGreatDoor
