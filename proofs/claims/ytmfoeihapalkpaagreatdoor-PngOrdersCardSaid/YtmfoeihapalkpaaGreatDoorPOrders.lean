/-
Proves: for any image, cut, kind, data and number PngOrders tells true, and leaves all that was there as it was.
-/
import Derived.Test.YtmfoeihapalkpaaGreatDoorMZlX
namespace Go.Proofs.YtmfoeihapalkpaaGreatDoor.porders
open Go Go.RowKit Go.ChangeShapes Go.WideShapes Go.ChangeAt
def okO (W H : Int) (n m k : Nat) : Prop:=(1 <= W /\ W <= 12) /\ (1 <= H /\ H <= 12) /\ (n : Int) = 4 * W * H /\ m <= 200 /\ k = 4
theorem mat_facts (W H : Int) (hW : 1 <= W /\ W <= 12) (hH : 1 <= H /\ H <= 12) : Go.RowKit.wrap64 (4 * W) = 4 * W /\ Go.RowKit.wrap64 (4 * W * H) = 4 * W * H:=by
 have hp : 4 * W * H <= 4 * 12 * 12:=Int.mul_le_mul (by omega) (by omega) (by omega) (by omega)
 have hp0 : 0 <= 4 * W * H:=Int.mul_nonneg (by omega) (by omega)
 unfold Go.RowKit.wrap64
 omega
theorem cut_nums (cut : Int) (dl : Nat) (h : dl <= 16850) : ∃ r : Int,∃ q : Nat,cut.tmod ((dl : Int) + 1) = r /\ q <= dl /\ Go.RowKit.wrap64 ((dl : Int) + 1) = (dl : Int) + 1 /\ (r < 0 -> Go.RowKit.wrap64 (0 - r) = (q : Int) /\ Go.RowKit.wrap64 (-r) = (q : Int)) /\ (¬ r < 0 -> r = (q : Int)):=by
 have hru : cut.tmod ((dl : Int) + 1) < (dl : Int) + 1:=Int.tmod_lt_of_pos _ (by omega)
 have hrl : -((dl : Int) + 1) < cut.tmod ((dl : Int) + 1):=by
  have h1:=Int.tmod_lt_of_pos (-cut) (b:=(dl : Int) + 1) (by omega)
  rw [Int.neg_tmod] at h1
  omega
 generalize cut.tmod ((dl : Int) + 1) = r at hru hrl
 refine ⟨r,(if r < 0 then 0 - r else r).toNat,rfl,?_,?_,?_,?_⟩
 ·split <;> omega
 ·unfold Go.RowKit.wrap64; omega
 ·intro h0
  rw [if_pos h0]
  unfold Go.RowKit.wrap64
  omega
 ·intro h0
  rw [if_neg h0]
  omega
theorem three_boxes (x4 : World) (a b c : Array Value) (t : TypeId) : ∃ y,y = ((x4.alloc (.cells a t)).alloc (.cells b t)).alloc (.cells c t) /\ Only [] x4 y /\ Has y x4.heap.size t a /\ Has y (x4.heap.size + 1) t b /\ Has y (x4.heap.size + 1 + 1) t c:=by
 have s1 : (x4.alloc (.cells a t)).heap.size = x4.heap.size + 1:=Array.size_push _
 have s2 : ((x4.alloc (.cells a t)).alloc (.cells b t)).heap.size = x4.heap.size + 1 + 1:=(Array.size_push _).trans (by rw [s1])
 have o1:=(Only.refl [] x4).alloc (.cells a t)
 have o2:=(Only.refl [] (x4.alloc (.cells a t))).alloc (.cells b t)
 have o3:=(Only.refl [] ((x4.alloc (.cells a t)).alloc (.cells b t))).alloc (.cells c t)
 have ra:=Has.new x4 t a
 have rb:=Has.new (x4.alloc (.cells a t)) t b
 have rc:=Has.new ((x4.alloc (.cells a t)).alloc (.cells b t)) t c
 rw [s1] at rb
 rw [s2] at rc
 exact ⟨_,rfl,(o1.trans o2 (S:=[]) (by simp)).trans o3 (S:=[]) (by simp),(ra.only o2 (by simp)).only o3 (by simp),rb.only o3 (by simp),rc⟩
theorem three_cv {ps : List Cv} {a b c : Ck} (h : ps.map Cv.ck = [a,b,c]) : ∃ p0 p1 p2,ps = [p0,p1,p2] /\ p0.ck = a /\ p1.ck = b /\ p2.ck = c:=by
 match ps,h with
 | [p0,p1,p2],h =>
   simp only [List.map_cons,List.map_nil,List.cons.injEq,and_true] at h
   exact ⟨p0,p1,p2,rfl,h.1,h.2.1,h.2.2⟩
theorem lay_row (g n : Nat) (ps : List Cv) (w : World) (hn : ps.length = n) (h0 : 0 < n) (hrow : Has w g 46 (ckvs ps).toArray) (hcv : ∀ p ∈ ps,CvHas w p) (hN : layN (ps.map Cv.ck) <= 100000000) :
 Calls Tryz.prog 14 #[.slice (some ⟨g,0,none⟩) n n] w fun e w'=>∃ A n' c',e = .returned (.slice A n' c') /\ (layB (ps.map Cv.ck)).length = n' /\ n' <= c' /\ Holds w' 1 A n' (bvals (layB (ps.map Cv.ck))) /\ Only [] w w':=by
 refine (pgLay_any (some ⟨g,0,none⟩) n n ps w ⟨by rw [ckvs_len,hn],fun _=>⟨_,rfl,hrow.lt,fun j u hu=>by rw [add_zero_of,hrow.cell,List.getElem?_toArray]; exact hu⟩⟩ hn (Nat.le_refl _) hcv hN).mono ?_
 rintro e w' ⟨A,n',c',rfl,L⟩
 have ht : (ps.map Cv.ck).take n = ps.map Cv.ck:=List.take_of_length_le (by rw [List.length_map]; omega)
 have hown:=L.own h0
 have hl:=L.len
 rw [ht] at hown hl
 obtain ⟨A3,c3,he,hc,_⟩:=own_shape hown
 cases he
 exact ⟨A,n',c',rfl,hl.symm,hc,Holds.of_own hown,L.only⟩
theorem vals6 (hd kl x d : List UInt8) (pA A2 qA A5 rA : Option Addr) (pc m c2 q qc c5 rc : Nat) (h1 : hd.length = 13) (hx : x.length = m) (hq : q <= d.length) :
 (ckvs [⟨⟨ihdr,hd⟩,pA,pc⟩,⟨⟨kl,x⟩,A2,c2⟩,⟨⟨idat,d.take q⟩,qA,qc⟩,⟨⟨idat,d.drop q⟩,A5,c5⟩,⟨⟨kl,x⟩,A2,c2⟩,⟨⟨iend,[]⟩,rA,rc⟩]).toArray =
   #[.string ⟨#[73,72,68,82]⟩,.slice pA 13 pc,.string ⟨kl.toArray⟩,.slice A2 m c2,.string ⟨#[73,68,65,84]⟩,.slice qA q qc,.string ⟨#[73,68,65,84]⟩,.slice A5 (d.length - q) c5,.string ⟨kl.toArray⟩,.slice A2 m c2,.string ⟨#[73,69,78,68]⟩,.slice rA 0 rc]:=by
 have e1 : (d.take q).length = q:=by rw [List.length_take]; omega
 unfold ckvs ckv
 simp only [List.flatMap_cons,List.flatMap_nil,List.length_drop,e1,h1,hx,List.length_nil]
 rfl
theorem vals5 (hd kl x d : List UInt8) (pA A2 qA A5 rA : Option Addr) (pc m c2 q qc c5 rc : Nat) (h1 : hd.length = 13) (hx : x.length = m) (hq : q <= d.length) :
 (ckvs [⟨⟨ihdr,hd⟩,pA,pc⟩,⟨⟨idat,d.take q⟩,qA,qc⟩,⟨⟨kl,x⟩,A2,c2⟩,⟨⟨idat,d.drop q⟩,A5,c5⟩,⟨⟨iend,[]⟩,rA,rc⟩]).toArray =
   #[.string ⟨#[73,72,68,82]⟩,.slice pA 13 pc,.string ⟨#[73,68,65,84]⟩,.slice qA q qc,.string ⟨kl.toArray⟩,.slice A2 m c2,.string ⟨#[73,68,65,84]⟩,.slice A5 (d.length - q) c5,.string ⟨#[73,69,78,68]⟩,.slice rA 0 rc]:=by
 have e1 : (d.take q).length = q:=by rw [List.length_take]; omega
 unfold ckvs ckv
 simp only [List.flatMap_cons,List.flatMap_nil,List.length_drop,e1,h1,hx,List.length_nil]
 rfl
theorem small_of (k : ByteArray) (kl : List UInt8) (hkl : k = ⟨kl.toArray⟩) (hs : k.size = 4) (h : ∀ i (hi : i < k.size),i < 4 -> 97 <= (k[i]'hi).toNat /\ (k[i]'hi).toNat <= 122) : Small kl:=by
 subst hkl
 have hl : kl.length = 4:=hs
 refine ⟨hl,fun b hb=>?_⟩
 obtain ⟨i,hi,rfl⟩:=List.getElem_of_mem hb
 exact h i (by rw [hs]; omega) (by omega)
theorem orders_has {x4 w' : World} {hd kl x d : List UInt8} {pA A2 qA A5 rA : Option Addr} {pc m c2 q qc c5 rc : Nat} (hq : q <= d.length) (v0 : CvHas x4 ⟨⟨ihdr,hd⟩,pA,pc⟩) (v1 : CvHas x4 ⟨⟨idat,d⟩,qA,qc⟩) (v2 : CvHas x4 ⟨⟨iend,[]⟩,rA,rc⟩)
 (hx : Holds x4 1 A2 m (bvals x)) (hxl : x.length = m) (hmc : m <= c2) (hA2 : A2 = none -> c2 = 0) (h5 : Holds x4 1 A5 (d.length - q) (bvals (d.drop q))) (hc5 : d.length - q <= c5) (hA5 : A5 = none -> c5 = 0) (ho : Only [] x4 w') :
 CvHas w' ⟨⟨ihdr,hd⟩,pA,pc⟩ /\ CvHas w' ⟨⟨kl,x⟩,A2,c2⟩ /\ CvHas w' ⟨⟨idat,d.take q⟩,qA,qc⟩ /\ CvHas w' ⟨⟨idat,d.drop q⟩,A5,c5⟩ /\ CvHas w' ⟨⟨iend,[]⟩,rA,rc⟩:=by
 have e1 : (d.take q).length = q:=by rw [List.length_take]; omega
 have e2 : (d.drop q).length = d.length - q:=List.length_drop
 refine ⟨v0.only ho (by simp),CvHas.only (w:=x4) ⟨?_,?_,hA2⟩ ho (by simp),CvHas.only (w:=x4) ⟨?_,?_,v1.2.2⟩ ho (by simp),CvHas.only (w:=x4) ⟨?_,?_,hA5⟩ ho (by simp),v2.only ho (by simp)⟩
 ·show Holds x4 1 A2 x.length _
  rw [hxl]; exact hx
 ·show x.length <= c2
  omega
 ·show Holds x4 1 qA (d.take q).length _
  rw [e1]; exact Holds.upto v1.1 q hq
 ·show (d.take q).length <= qc
  have:=v1.2.1
  have : d.length <= qc:=this
  omega
 ·show Holds x4 1 A5 (d.drop q).length _
  rw [e2]; exact h5
 ·show (d.drop q).length <= c5
  omega
set_option maxRecDepth 100000 in
set_option maxHeartbeats 8000000 in
theorem out (W H : Int) (A : Option Addr) (n c : Nat) (cut : Int) (k : ByteArray) (A2 : Option Addr) (m c2 : Nat) (z : Int) (w : World) (hT : Tab w) (h : ¬ okO W H n m k.size) :
 Calls Tryz.prog 6 #[mval W H A n c,.int .i64 cut,.string k,.slice A2 m c2,.int .i64 z] w fun e w'=>e = .returned (.bool true) /\ Only [] w w':=by
 have o1:=(Only.refl [] w).alloc (.cells #[.int .i64 W,.int .i64 H,.slice A n c] 24)
 have h1:=Has.new w 24 #[.int .i64 W,.int .i64 H,.slice A n c]
 have HK:=hide (knownP_any _ (hT.only o1 (by simp)))
 have H1:=hide (aI o1 h1)
 have hc : W < 1 \/ (¬ W < 1 /\ H < 1) \/ (¬ W < 1 /\ ¬ H < 1 /\ 12 < W) \/ (¬ W < 1 /\ ¬ H < 1 /\ ¬ 12 < W /\ 12 < H) \/ (¬ W < 1 /\ ¬ H < 1 /\ ¬ 12 < W /\ ¬ 12 < H /\ ¬ (n : Int) = 4 * W * H)
  \/ (¬ W < 1 /\ ¬ H < 1 /\ ¬ 12 < W /\ ¬ 12 < H /\ (n : Int) = 4 * W * H /\ 200 < m) \/ (¬ W < 1 /\ ¬ H < 1 /\ ¬ 12 < W /\ ¬ 12 < H /\ (n : Int) = 4 * W * H /\ ¬ 200 < m /\ ¬ k.size = 4):=by
  unfold okO at h
  by_cases c1 : W < 1
  ·exact .inl c1
  by_cases c2 : H < 1
  ·exact .inr (.inl ⟨c1,c2⟩)
  by_cases c3 : 12 < W
  ·exact .inr (.inr (.inl ⟨c1,c2,c3⟩))
  by_cases c4 : 12 < H
  ·exact .inr (.inr (.inr (.inl ⟨c1,c2,c3,c4⟩)))
  by_cases c5 : (n : Int) = 4 * W * H
  ·by_cases c6 : 200 < m
   ·exact .inr (.inr (.inr (.inr (.inr (.inl ⟨c1,c2,c3,c4,c5,c6⟩)))))
   ·exact .inr (.inr (.inr (.inr (.inr (.inr ⟨c1,c2,c3,c4,c5,c6,fun e=>h ⟨⟨by omega,by omega⟩,⟨by omega,by omega⟩,c5,by omega,e⟩⟩)))))
  ·exact .inr (.inr (.inr (.inr (.inl ⟨c1,c2,c3,c4,c5⟩))))
 unfold mval
 clear o1 h1 hT h
 rcases hc with h1 | ⟨h1,h2⟩ | ⟨h1,h2,h3⟩ | ⟨h1,h2,h3,h4⟩ | ⟨h1,h2,h3,h4,h5⟩ | ⟨h1,h2,h3,h4,h5,h6⟩ | ⟨h1,h2,h3,h4,h5,h6,h7⟩
 case' inr.inr.inr.inr.inl =>
  obtain ⟨w1,w2⟩:=mat_facts W H (by omega) (by omega)
  have hb5 : ((n : Int) != 4 * W * H) = true:=bne_iff_ne.2 h5
  clear h5
 case' inr.inr.inr.inr.inr.inl =>
  obtain ⟨w1,w2⟩:=mat_facts W H (by omega) (by omega)
  have hb5 : ((n : Int) != 4 * W * H) = false:=by rw [<- h5]; exact bne_self_eq_false' _
  have hb6 : (200 : Int) < (m : Int):=by omega
  clear h5 h6
 case' inr.inr.inr.inr.inr.inr =>
  obtain ⟨w1,w2⟩:=mat_facts W H (by omega) (by omega)
  have hb5 : ((n : Int) != 4 * W * H) = false:=by rw [<- h5]; exact bne_self_eq_false' _
  have hb6 : ¬ (200 : Int) < (m : Int):=by omega
  have hb7 : ((k.size : Int) != 4) = true:=bne_iff_ne.2 (by omega)
  clear h5 h6 h7
 all_goals
  go_enter Tryz.func6,Tryz.ntmps6
  go_wp2_with fail
  refine (HK.out).mono ?_
  rintro e x2 ⟨rfl,ho2⟩
  have hx2:=H1.out.2.only ho2 (by simp)
  have c0 : World.cell? x2 ⟨w.heap.size,0,none⟩ = some (.int .i64 W):=hx2.cell 0
  have c1 : World.cell? x2 ⟨w.heap.size,1,none⟩ = some (.int .i64 H):=hx2.cell 1
  have c2 : World.cell? x2 ⟨w.heap.size,2,none⟩ = some (.slice A n c):=hx2.cell 2
  have H2:=hide (H1.out.1.trans ho2 (S:=[]) (by simp))
  clear ho2 hx2
  go_wp2_with fail
  go_ret
  exact ⟨rfl,H2.out⟩
set_option maxRecDepth 100000 in
set_option maxHeartbeats 16000000 in
theorem main (W H : Nat) (A : Addr) (n c : Nat) (M : List UInt8) (cut : Int) (k : ByteArray) (A2 : Option Addr) (m c2 : Nat) (x : List UInt8) (z : Int) (w : World) (hT : Tab w) (hW : 1 <= W /\ W <= 12) (hH : 1 <= H /\ H <= 12) (hn : n = 4 * (W * H)) (hb : Holds w 1 (some A) n (bvals M)) (hM : M.length = n) (hc : n <= c)
 (hk : k.size = 4) (hx : Holds w 1 A2 m (bvals x)) (hxl : x.length = m) (hm : m <= 200) (hmc : m <= c2) (hA2 : A2 = none -> c2 = 0) :
 Calls Tryz.prog 6 #[mval W H (some A) n c,.int .i64 cut,.string k,.slice A2 m c2,.int .i64 z] w fun e w'=>e = .returned (.bool true) /\ Only [] w w':=by
 have o1:=(Only.refl [] w).alloc (.cells #[.int .i64 (W : Int),.int .i64 (H : Int),.slice (some A) n c] 24)
 have h1:=Has.new w 24 #[.int .i64 (W : Int),.int .i64 (H : Int),.slice (some A) n c]
 have HK:=hide (knownP_any _ (hT.only o1 (by simp)))
 have H1:=hide (aI o1 h1)
 have hnn : (n : Int) = 4 * (W : Int) * (H : Int):=by rw [hn]; push_cast; rw [Int.mul_assoc]
 have HMf:=hide (mat_facts (W : Int) (H : Int) (by omega) (by omega))
 have hb5 : ((n : Int) != 4 * (W : Int) * (H : Int)) = false:=by rw [<- hnn]; exact bne_self_eq_false' _
 have a1 : ¬ (W : Int) < 1:=by omega
 have a2 : ¬ (H : Int) < 1:=by omega
 have a3 : ¬ (12 : Int) < (W : Int):=by omega
 have a4 : ¬ (12 : Int) < (H : Int):=by omega
 have a5 : ¬ (200 : Int) < (m : Int):=by omega
 have a6 : ((k.size : Int) != 4) = false:=by rw [hk]; rfl
 have HE:=hide (fun y (hy : Only [] w y)=>encode_any W H 1 A n c M false y (by omega) (by omega) (by omega) (hb.keep hy (by simp)) hM hn hc)
 have HX:=hide (aI hW (aI hH (aI hn (aI hb (aI hM (aI hx (aI hxl (aI hm (aI hmc hA2)))))))))
 have HT:=hide hT
 have HKs:=hide hk
 unfold mval
 unfold mval at HE
 clear o1 h1 hT hW hH hn hb hM hc hnn hx hxl hm hmc hA2 hk
 go_enter Tryz.func6,Tryz.ntmps6
 go_wp2_with fail
 refine (HK.out).mono ?_
 rintro e x2 ⟨rfl,ho2⟩
 have hx2:=H1.out.2.only ho2 (by simp)
 have c0 : World.cell? x2 ⟨w.heap.size,0,none⟩ = some (.int .i64 (W : Int)):=hx2.cell 0
 have c1 : World.cell? x2 ⟨w.heap.size,1,none⟩ = some (.int .i64 (H : Int)):=hx2.cell 1
 have c2' : World.cell? x2 ⟨w.heap.size,2,none⟩ = some (.slice (some A) n c):=hx2.cell 2
 have H2:=hide (aI (H1.out.1.trans ho2 (S:=[]) (by simp)) hx2)
 clear ho2 hx2 HK
 obtain ⟨w1,w2⟩:=HMf.out
 go_wp2_with fail
 clear w1 w2 hb5 a1 a2 a3 a4 a5 a6 c0 c1 c2'
 go_loopw [11] (fun vi wr=>wr = x2 /\ ∃ j : Nat,j <= 4 /\ vi = .int .i64 (j : Int) /\ ∀ i (hi : i < k.size),i < j -> 97 <= (k[i]'hi).toNat /\ (k[i]'hi).toNat <= 122) (fun vi _=>4 - (intOf vi).toNat)
 case atStart=>exact ⟨rfl,0,by omega,rfl,fun i _ h=>absurd h (by omega)⟩
 case round =>
  obtain ⟨rfl,j,hj,rfl,hlet⟩:=hrel
  by_cases hlt : j < 4
  ·have hlt' : (j : Int) < 4:=by omega
   have hjk : j < k.size:=by have:=HKs.out; omega
   have hjk' : (j : Int) < (k.size : Int):=by omega
   have HL:=hide hlet
   clear hlet
   go_wp2_with fail
   all_goals first
    | (go_ret
       exact ⟨rfl,H2.out.1⟩)
    | (rename_i hA hB
       refine ⟨⟨trivial,j + 1,hlt,by push_cast; rfl,fun i hi hij=>?_⟩,by simp [intOf]; omega⟩
       by_cases e : i < j
       ·exact HL.out i hi e
       ·obtain rfl : i = j:=by omega
        exact ⟨by omega,by omega⟩)
  ·obtain rfl : j = 4:=by omega
   have HL:=hide hlet
   clear hlet hj hlt
   have n0 : World.cell? wr ⟨w.heap.size,0,none⟩ = some (.int .i64 (W : Int)):=H2.out.2.cell 0
   have n1 : World.cell? wr ⟨w.heap.size,1,none⟩ = some (.int .i64 (H : Int)):=H2.out.2.cell 1
   have n2 : World.cell? wr ⟨w.heap.size,2,none⟩ = some (.slice (some A) n c):=H2.out.2.cell 2
   go_wp2_with fail
   refine (HE.out wr H2.out.1).mono ?_
   rintro e x3 ⟨v,rfl,how,ho3⟩
   obtain ⟨A3,c3,rfl,hc3,_⟩:=own_shape how
   have h3:=Holds.of_own how
   have H3:=hide (aI h3 (aI ho3 hc3))
   clear how h3 ho3 hc3 HE n0 n1 n2
   obtain ⟨hs1,hs2,_⟩:=encB_size 1 (by omega) M W H 0 (by have:=HX.out.1; omega) (by have:=HX.out.2.1; omega) (by have:=HX.out.2.2.1; have:=HX.out.2.2.2.2.1; omega)
   have hHs:=hide (aI hs1 hs2)
   clear hs1 hs2
   have hch:=enc_ch W H 0 (pkB 1 M W H ((0 : Nat) : Int)) (by have:=hHs.out.1; omega)
   have HCh:=hide hch
   clear hch
   go_wp2_with fail
   refine (chunks_any A3 (encB 1 M W H 0).length c3 (encB 1 M W H 0) x3 H3.out.1 rfl H3.out.2.2 (by have:=hHs.out.2; omega)).mono ?_
   rintro e x4 ⟨ho4,(⟨hbad,_⟩ | ⟨_,ps,v,rfl,hmap,hown4,hcv4⟩)⟩
   ·exact absurd hbad (by have h0 : chE (encB 1 M W H 0) = 0:=HCh.out.1; omega)
   have hchl : chL (encB 1 M W H 0) = encC W H 0 (pkB 1 M W H ((0 : Nat) : Int)):=HCh.out.2
   rw [hchl] at hmap
   obtain ⟨d,hd⟩ : ∃ d,d = pkB 1 M W H ((0 : Nat) : Int):=⟨_,rfl⟩
   have hdl : d.length <= 16850:=by rw [hd]; exact hHs.out.1
   rw [<- hd] at hmap
   unfold encC at hmap
   obtain ⟨p0,p1,p2,rfl,e0,e1,e2⟩:=three_cv hmap
   have v0:=hcv4 p0 (by simp)
   have v1:=hcv4 p1 (by simp)
   have v2:=hcv4 p2 (by simp)
   obtain ⟨Aq,cq,rfl,hcq,_⟩:=own_shape hown4
   obtain ⟨gq,cur,hAq,hgq,hrow,hget⟩:=own_has hown4 (by simp)
   subst hAq
   obtain ⟨pA,pc,rfl⟩ : ∃ pA pc,p0 = ⟨⟨ihdr,headB W H 8 6 0⟩,pA,pc⟩:=⟨p0.A,p0.c,by rw [<- e0]⟩
   obtain ⟨qA,qc,rfl⟩ : ∃ pA pc,p1 = ⟨⟨idat,d⟩,pA,pc⟩:=⟨p1.A,p1.c,by rw [<- e1]⟩
   obtain ⟨rA,rc,rfl⟩ : ∃ pA pc,p2 = ⟨⟨iend,[]⟩,pA,pc⟩:=⟨p2.A,p2.c,by rw [<- e2]⟩
   have g0 : cur[0]? = some (.string ⟨#[73,72,68,82]⟩):=hget 0 _ rfl
   have g1 : cur[1]? = some (.slice pA 13 pc):=hget 1 _ rfl
   have g2 : cur[2]? = some (.string ⟨#[73,68,65,84]⟩):=hget 2 _ rfl
   have g3 : cur[3]? = some (.slice qA d.length qc):=hget 3 _ rfl
   have g4 : cur[4]? = some (.string ⟨#[73,69,78,68]⟩):=hget 4 _ rfl
   have g5 : cur[5]? = some (.slice rA 0 rc):=hget 5 _ rfl
   have i3:=(hrow.cell 3).trans g3
   obtain ⟨r,q,hm,hqd,hwd,hneg,hpos⟩:=cut_nums cut d.length hdl
   have H4:=hide (aI hrow (aI g0 (aI g1 (aI g2 (aI g3 (aI g4 (aI g5 (aI v0 (aI v1 (aI v2 (aI hd (aI hdl (aI hqd (aI ho4 hcq))))))))))))))
   clear hrow hget hgq hown4 hcv4 v0 v1 v2 e0 e1 e2 hmap hchl hd hdl hqd ho4 g0 g1 g2 g3 g4 g5 hcq
   by_cases hr0 : r < 0
   case' pos =>
    obtain ⟨hn1,hn2⟩:=hneg hr0
    clear hneg hpos
   case' neg =>
    obtain rfl:=hpos hr0
    clear hneg hpos
   all_goals
    obtain ⟨A5,c5,hrun5,hh5,hc5,_,hA5⟩:=run_from0 H4.out.2.2.2.2.2.2.2.2.1.1 rfl H4.out.2.2.2.2.2.2.2.2.1.2.1 q H4.out.2.2.2.2.2.2.2.2.2.2.2.2.1
    have hrun6:=run_upto qA d.length qc q (Nat.le_trans H4.out.2.2.2.2.2.2.2.2.2.2.2.2.1 H4.out.2.2.2.2.2.2.2.2.1.2.1)
    have HF5:=hide (aI hh5 (aI hc5 (hA5 H4.out.2.2.2.2.2.2.2.2.1.2.2)))
    clear hh5 hc5 hA5
    go_wp2_with fail
    obtain ⟨y,hy,oy,ra,rb,rc⟩:=three_boxes x4 #[.string k,.slice A2 m c2] #[.string ⟨#[73,68,65,84]⟩,.slice qA q qc] #[.string ⟨#[73,68,65,84]⟩,.slice A5 (d.length - q) c5] 46
    rw [<- hy]
    have hr4:=H4.out.1.only oy (by simp)
    have n0:=later_cell (show World.cell? y ⟨x4.heap.size,0,none⟩ = some (.string k) from ra.cell 0)
    have n1:=later_cell (show World.cell? y ⟨x4.heap.size,1,none⟩ = some (.slice A2 m c2) from ra.cell 1)
    have n2:=later_cell (show World.cell? y ⟨x4.heap.size + 1,0,none⟩ = some (.string ⟨#[73,68,65,84]⟩) from rb.cell 0)
    have n3:=later_cell (show World.cell? y ⟨x4.heap.size + 1,1,none⟩ = some (.slice qA q qc) from rb.cell 1)
    have n4:=later_cell (show World.cell? y ⟨x4.heap.size + 1 + 1,0,none⟩ = some (.string ⟨#[73,68,65,84]⟩) from rc.cell 0)
    have n5:=later_cell (show World.cell? y ⟨x4.heap.size + 1 + 1,1,none⟩ = some (.slice A5 (d.length - q) c5) from rc.cell 1)
    have m0:=later_cell ((hr4.cell 0).trans H4.out.2.1)
    have m1:=later_cell ((hr4.cell 1).trans H4.out.2.2.1)
    have m4:=later_cell ((hr4.cell 4).trans H4.out.2.2.2.2.2.1)
    have m5:=later_cell ((hr4.cell 5).trans H4.out.2.2.2.2.2.2.1)
    have HY:=hide (aI oy (aI ra (aI rb (aI rc hr4))))
    clear hy oy ra rb rc hr4
    refine region_later_tail 10 (by kernel_rfl) (by kernel_rfl) ?_
    simp only [List.take_succ_cons,List.take_zero,List.drop_succ_cons,List.drop_zero]
    iterate 10 (go_big_quiet_step (fail))
    refine wpQuiet_nil ?_
    rintro _ ⟨X,rfl⟩
    change wpList _ _ _ _ _ X.val
    clear n0 n1 n2 n3 n4 n5
    obtain ⟨kl,hkl⟩ : ∃ kl : List UInt8,k = ⟨kl.toArray⟩:=⟨k.data.toList,rfl⟩
    have hsm:=small_of k kl hkl HKs.out HL.out
    obtain ⟨y7,hy7⟩ : ∃ y7,y7 = X.val.alloc (.cells #[.string ⟨#[73,72,68,82]⟩,.slice pA 13 pc,.string k,.slice A2 m c2,.string ⟨#[73,68,65,84]⟩,.slice qA q qc,.string ⟨#[73,68,65,84]⟩,.slice A5 (d.length - q) c5,.string k,.slice A2 m c2,.string ⟨#[73,69,78,68]⟩,.slice rA 0 rc] 46):=⟨_,rfl⟩
    have o7 : Only [] y y7:=by rw [hy7]; exact X.only.trans ((Only.refl [] X.val).alloc _) (S:=[]) (by simp)
    have h7 : Has y7 X.val.heap.size 46 #[.string ⟨#[73,72,68,82]⟩,.slice pA 13 pc,.string k,.slice A2 m c2,.string ⟨#[73,68,65,84]⟩,.slice qA q qc,.string ⟨#[73,68,65,84]⟩,.slice A5 (d.length - q) c5,.string k,.slice A2 m c2,.string ⟨#[73,69,78,68]⟩,.slice rA 0 rc]:=by rw [hy7]; exact Has.new _ _ _
    have HK2:=hide (aI hkl (aI hsm (aI o7 h7)))
    clear hkl hsm m0 m1 m4 m5
    by_cases hbt : (bits .and .i64 z 1 == 1) = true
    ·have ra:=HY.out.2.1.only o7 (by simp)
     have rb:=HY.out.2.2.1.only o7 (by simp)
     have rc':=HY.out.2.2.2.1.only o7 (by simp)
     have hr4:=HY.out.2.2.2.2.only o7 (by simp)
     have n0:=later_cell (show World.cell? y7 ⟨x4.heap.size,0,none⟩ = some (.string k) from ra.cell 0)
     have n1:=later_cell (show World.cell? y7 ⟨x4.heap.size,1,none⟩ = some (.slice A2 m c2) from ra.cell 1)
     have n2:=later_cell (show World.cell? y7 ⟨x4.heap.size + 1,0,none⟩ = some (.string ⟨#[73,68,65,84]⟩) from rb.cell 0)
     have n3:=later_cell (show World.cell? y7 ⟨x4.heap.size + 1,1,none⟩ = some (.slice qA q qc) from rb.cell 1)
     have n4:=later_cell (show World.cell? y7 ⟨x4.heap.size + 1 + 1,0,none⟩ = some (.string ⟨#[73,68,65,84]⟩) from rc'.cell 0)
     have n5:=later_cell (show World.cell? y7 ⟨x4.heap.size + 1 + 1,1,none⟩ = some (.slice A5 (d.length - q) c5) from rc'.cell 1)
     have m0:=later_cell ((hr4.cell 0).trans H4.out.2.1)
     have m1:=later_cell ((hr4.cell 1).trans H4.out.2.2.1)
     have m4:=later_cell ((hr4.cell 4).trans H4.out.2.2.2.2.2.1)
     have m5:=later_cell ((hr4.cell 5).trans H4.out.2.2.2.2.2.2.1)
     clear ra rb rc' hr4 o7 h7
     go_wp2_with fail
     rw [<- hy7]
     clear hy7
     refine region_later_tail 9 (by kernel_rfl) (by kernel_rfl) ?_
     simp only [List.take_succ_cons,List.take_zero,List.drop_succ_cons,List.drop_zero]
     iterate 9 (go_big_quiet_step (fail))
     refine wpQuiet_nil ?_
     rintro _ ⟨X7,rfl⟩
     change wpList _ _ _ _ _ X7.val
     clear n0 n1 n2 n3 n4 n5 m0 m1 m4 m5
     obtain ⟨y8,hy8⟩ : ∃ y8,y8 = X7.val.alloc (.cells #[.string ⟨#[73,72,68,82]⟩,.slice pA 13 pc,.string ⟨#[73,68,65,84]⟩,.slice qA q qc,.string k,.slice A2 m c2,.string ⟨#[73,68,65,84]⟩,.slice A5 (d.length - q) c5,.string ⟨#[73,69,78,68]⟩,.slice rA 0 rc] 46):=⟨_,rfl⟩
     have o8 : Only [] y7 y8:=by rw [hy8]; exact X7.only.trans ((Only.refl [] X7.val).alloc _) (S:=[]) (by simp)
     have h8 : Has y8 X7.val.heap.size 46 #[.string ⟨#[73,72,68,82]⟩,.slice pA 13 pc,.string ⟨#[73,68,65,84]⟩,.slice qA q qc,.string k,.slice A2 m c2,.string ⟨#[73,68,65,84]⟩,.slice A5 (d.length - q) c5,.string ⟨#[73,69,78,68]⟩,.slice rA 0 rc]:=by rw [hy8]; exact Has.new _ _ _
     have HN8:=hide (aI o8 h8)
     clear o8 h8
     go_wp2_with fail
     rw [<- hy8]
     clear hy8
     have hkk:=HK2.out.1
     subst hkk
     have hv5:=vals5 (headB W H 8 6 0) kl x d pA A2 qA A5 rA pc m c2 q qc c5 rc (headB_length _ _ _ _ _) HX.out.2.2.2.2.2.2.1 H4.out.2.2.2.2.2.2.2.2.2.2.2.2.1
     have ow4 : Only [] w x4:=((H2.out.1.trans H3.out.2.1 (S:=[]) (by simp)).trans H4.out.2.2.2.2.2.2.2.2.2.2.2.2.2.1 (S:=[]) (by simp))
     have ow7 : Only [] x4 y8:=(HY.out.1.trans HK2.out.2.2.1 (S:=[]) (by simp)).trans HN8.out.1 (S:=[]) (by simp)
     have hcvs:=orders_has (kl:=kl) H4.out.2.2.2.2.2.2.2.2.2.2.2.2.1 H4.out.2.2.2.2.2.2.2.1 H4.out.2.2.2.2.2.2.2.2.1 H4.out.2.2.2.2.2.2.2.2.2.1 (HX.out.2.2.2.2.2.1.keep ow4 (by simp)) HX.out.2.2.2.2.2.2.1 HX.out.2.2.2.2.2.2.2.2.1 HX.out.2.2.2.2.2.2.2.2.2 HF5.out.1 HF5.out.2.1 HF5.out.2.2 ow7
     have HLy:=hide (lay_row X7.val.heap.size 5 [⟨⟨ihdr,headB W H 8 6 0⟩,pA,pc⟩,⟨⟨idat,d.take q⟩,qA,qc⟩,⟨⟨kl,x⟩,A2,c2⟩,⟨⟨idat,d.drop q⟩,A5,c5⟩,⟨⟨iend,[]⟩,rA,rc⟩] y8 rfl (by decide) (by rw [hv5]; exact HN8.out.2) (fun p hp=>by
      simp only [List.mem_cons,List.not_mem_nil,or_false] at hp
      rcases hp with rfl | rfl | rfl | rfl | rfl
      ·exact hcvs.1
      ·exact hcvs.2.2.1
      ·exact hcvs.2.1
      ·exact hcvs.2.2.2.1
      ·exact hcvs.2.2.2.2) (by
      have h1:=(ordB_size W H kl x d q (by have:=HX.out.2.2.2.2.2.2.1; have:=HX.out.2.2.2.2.2.2.2.1; omega) (by have:=H4.out.2.2.2.2.2.2.2.2.2.2.2.1; omega)).1
      exact Nat.le_trans h1 (by decide)))
     have ou4 : Only [] wr x4:=H3.out.2.1.trans H4.out.2.2.2.2.2.2.2.2.2.2.2.2.2.1 (S:=[]) (by simp)
     have HO:=hide (aI (ow4.trans ow7 (S:=[]) (by simp)) (ou4.trans ow7 (S:=[]) (by simp)))
     clear hv5 hcvs ow4 ow7 ou4 HY HF5
     refine (HLy.out).mono ?_
     rintro e w8 ⟨A8,n8,c8,rfl,hl8,hc8,hb8,ho8⟩
     have hdd:=H4.out.2.2.2.2.2.2.2.2.2.2.1
     have hl8' : (layB (ordB W H kl x d q)).length = n8:=hl8
     have hb8' : Holds w8 1 A8 n8 (bvals (layB (ordB W H kl x d q))):=hb8
     rw [hdd] at hl8' hb8'
     have HD:=hide (decode_ordB W H A8 n8 c8 M kl x q w8 HK2.out.2.1 (by have:=HX.out.2.2.2.2.2.2.1; have:=HX.out.2.2.2.2.2.2.2.1; omega) hb8' hl8' hc8 HX.out.1 HX.out.2.1 (by have:=HX.out.2.2.1; have:=HX.out.2.2.2.2.1; omega))
     have HO8:=hide (aI (HO.out.1.trans ho8 (S:=[]) (by simp)) (HO.out.2.trans ho8 (S:=[]) (by simp)))
     clear hdd hl8 hc8 hb8 ho8 hl8' hb8' HLy
     go_wp2_with fail
     refine (HD.out).mono ?_
     rintro e w9 ⟨rfl,ho9⟩
     unfold mval
     have o10:=(Only.refl [] w9).alloc (.cells #[.int .i64 0,.int .i64 0,.slice none 0 0] 24)
     have hm:=Has.new w9 24 #[.int .i64 0,.int .i64 0,.slice none 0 0]
     have b2 : World.cell? _ ⟨w9.heap.size,2,none⟩ = some (.slice none 0 0):=hm.cell 2
     have ow9:=(HO8.out.1.trans ho9 (S:=[]) (by simp)).trans o10 (S:=[]) (by simp)
     have HE9:=hide ow9
     clear ho9 HD o10 hm ow9
     go_wp2_with fail
     go_ret
     exact ⟨rfl,HE9.out⟩
    ·rw [Bool.not_eq_true] at hbt
     clear o7 h7
     go_wp2_with fail
     rw [<- hy7]
     clear hy7
     have hkk:=HK2.out.1
     subst hkk
     have hv6:=vals6 (headB W H 8 6 0) kl x d pA A2 qA A5 rA pc m c2 q qc c5 rc (headB_length _ _ _ _ _) HX.out.2.2.2.2.2.2.1 H4.out.2.2.2.2.2.2.2.2.2.2.2.2.1
     have ow4 : Only [] w x4:=((H2.out.1.trans H3.out.2.1 (S:=[]) (by simp)).trans H4.out.2.2.2.2.2.2.2.2.2.2.2.2.2.1 (S:=[]) (by simp))
     have ow7 : Only [] x4 y7:=HY.out.1.trans HK2.out.2.2.1 (S:=[]) (by simp)
     have hcvs:=orders_has (kl:=kl) H4.out.2.2.2.2.2.2.2.2.2.2.2.2.1 H4.out.2.2.2.2.2.2.2.1 H4.out.2.2.2.2.2.2.2.2.1 H4.out.2.2.2.2.2.2.2.2.2.1 (HX.out.2.2.2.2.2.1.keep ow4 (by simp)) HX.out.2.2.2.2.2.2.1 HX.out.2.2.2.2.2.2.2.2.1 HX.out.2.2.2.2.2.2.2.2.2 HF5.out.1 HF5.out.2.1 HF5.out.2.2 ow7
     have HLy:=hide (lay_row X.val.heap.size 6 [⟨⟨ihdr,headB W H 8 6 0⟩,pA,pc⟩,⟨⟨kl,x⟩,A2,c2⟩,⟨⟨idat,d.take q⟩,qA,qc⟩,⟨⟨idat,d.drop q⟩,A5,c5⟩,⟨⟨kl,x⟩,A2,c2⟩,⟨⟨iend,[]⟩,rA,rc⟩] y7 rfl (by decide) (by rw [hv6]; exact HK2.out.2.2.2) (fun p hp=>by
      simp only [List.mem_cons,List.not_mem_nil,or_false] at hp
      rcases hp with rfl | rfl | rfl | rfl | rfl | rfl
      ·exact hcvs.1
      ·exact hcvs.2.1
      ·exact hcvs.2.2.1
      ·exact hcvs.2.2.2.1
      ·exact hcvs.2.1
      ·exact hcvs.2.2.2.2) (by
      have h1:=(ordA_size W H kl x d q (by have:=HX.out.2.2.2.2.2.2.1; have:=HX.out.2.2.2.2.2.2.2.1; omega) (by have:=H4.out.2.2.2.2.2.2.2.2.2.2.2.1; omega)).1
      exact Nat.le_trans h1 (by decide)))
     have ou4 : Only [] wr x4:=H3.out.2.1.trans H4.out.2.2.2.2.2.2.2.2.2.2.2.2.2.1 (S:=[]) (by simp)
     have HO:=hide (aI (ow4.trans ow7 (S:=[]) (by simp)) (ou4.trans ow7 (S:=[]) (by simp)))
     clear hv6 hcvs ow4 ow7 ou4 HY HF5
     refine (HLy.out).mono ?_
     rintro e w8 ⟨A8,n8,c8,rfl,hl8,hc8,hb8,ho8⟩
     have hdd:=H4.out.2.2.2.2.2.2.2.2.2.2.1
     have hl8' : (layB (ordA W H kl x d q)).length = n8:=hl8
     have hb8' : Holds w8 1 A8 n8 (bvals (layB (ordA W H kl x d q))):=hb8
     rw [hdd] at hl8' hb8'
     have HD:=hide (decode_ordA W H A8 n8 c8 M kl x q w8 HK2.out.2.1 (by have:=HX.out.2.2.2.2.2.2.1; have:=HX.out.2.2.2.2.2.2.2.1; omega) hb8' hl8' hc8 (HT.out.only (HO.out.1.trans ho8 (S:=[]) (by simp)) (by simp)) HX.out.1 HX.out.2.1 (by have:=HX.out.2.2.1; have:=HX.out.2.2.2.2.1; omega))
     have HO8:=hide (aI (HO.out.1.trans ho8 (S:=[]) (by simp)) (HO.out.2.trans ho8 (S:=[]) (by simp)))
     clear hdd hl8 hc8 hb8 ho8 hl8' hb8' HLy
     go_wp2_with fail
     refine (HD.out).mono ?_
     rintro e w9 ⟨gi,ci,rfl,how9,ho9⟩
     unfold mval
     have h9:=Holds.of_own how9
     have o10:=(Only.refl [] w9).alloc (.cells #[.int .i64 (W : Int),.int .i64 (H : Int),.slice (some ⟨gi,0,none⟩) (4 * (W * H)) ci] 24)
     have hm:=Has.new w9 24 #[.int .i64 (W : Int),.int .i64 (H : Int),.slice (some ⟨gi,0,none⟩) (4 * (W * H)) ci]
     have b2 : World.cell? _ ⟨w9.heap.size,2,none⟩ = some (.slice (some ⟨gi,0,none⟩) (4 * (W * H)) ci):=hm.cell 2
     have ow9:=(HO8.out.1.trans ho9 (S:=[]) (by simp)).trans o10 (S:=[]) (by simp)
     have ou9:=(HO8.out.2.trans ho9 (S:=[]) (by simp)).trans o10 (S:=[]) (by simp)
     have a2 : World.cell? _ ⟨w.heap.size,2,none⟩ = some (.slice (some A) n c):=(H2.out.2.only ou9 (by simp)).cell 2
     have s1:=fun c=>pgStr_of (h9.keep o10 (by simp)) c
     have s2:=fun c=>pgStr_of (HX.out.2.2.2.1.keep ow9 (by simp)) c
     have HE9:=hide ow9
     clear how9 ho9 h9 HD o10 hm ow9 ou9
     go_wp2_with fail
     go_ret
     exact ⟨rfl,HE9.out⟩
theorem core (W H : Int) (A : Option Addr) (n c : Nat) (l : List UInt8) (cut : Int) (k : ByteArray) (A2 : Option Addr) (m c2 : Nat) (x : List UInt8) (z : Int) (w : World) (hT : Tab w) (hl : l.length = n) (hc : n <= c) (hb : Holds w 1 A n (bvals l))
 (hxl : x.length = m) (hmc : m <= c2) (hx : Holds w 1 A2 m (bvals x)) (hA2 : A2 = none -> c2 = 0) :
 Calls Tryz.prog 6 #[mval W H A n c,.int .i64 cut,.string k,.slice A2 m c2,.int .i64 z] w fun e w'=>e = .returned (.bool true) /\ Only [] w w':=by
 by_cases h : okO W H n m k.size
 ·obtain ⟨hW,hH,hn,hm,hk⟩:=h
  obtain ⟨a,rfl⟩:=Int.eq_ofNat_of_zero_le (show 0 <= W by omega)
  obtain ⟨b,rfl⟩:=Int.eq_ofNat_of_zero_le (show 0 <= H by omega)
  have hn4 : n = 4 * (a * b):=by
   have : (n : Int) = ((4 * (a * b) : Nat) : Int):=by rw [hn]; push_cast; rw [Int.mul_assoc]
   exact Int.ofNat.inj this
  have hp : 1 * 1 <= a * b:=Nat.mul_le_mul (by omega) (by omega)
  obtain ⟨ad,rfl,_⟩:=hb.2 (by omega)
  exact main a b ad n c l cut k A2 m c2 x z w hT (by omega) (by omega) hn4 hb hl hc hk hx hxl hm hmc hA2
 ·exact out W H A n c cut k A2 m c2 z w hT h
set_option maxRecDepth 100000 in
theorem lifted (os : Os) (started : os.Started) (H : Type) (enc : TypeId × Value -> H) :
 ReturnsInHanded {} Tryz.checked os 6 .any (fun w args=>(Rows.pngOrdersSpec.pre enc Tryz.prog Tryz.f6 [] false w args /\ laidMetH Tryz.prog laidI w) /\ sizedMet enc Tryz.prog Tryz.f6 (OpenSpec.ofChange Rows.pngOrdersSpec) false w args)
  (Rows.pngOrdersSpec.post enc Tryz.prog Tryz.f6 false true false false):=by
 refine returnsInHanded_of_change_and (C:=Tryz.checked) (X:=fun w _=>laidMetH Tryz.prog laidI w) (fun _ _ _ hh h=>h.of_heap hh) own_knob started (by kernel_rfl) Tryz.func6
  (ChangeSpec.witness_shaped (enc:=enc) (C:=Tryz.checked) (os:=os) (X:=fun w _=>laidMetH Tryz.prog laidI w) false (World.doorLaid Tryz.prog 400 os) #[.agg #[.int .i64 0,.int .i64 0,.slice none 0 0],.int .i64 0,.string ⟨#[]⟩,.slice none 0 0,.int .i64 0] 8 rfl (World.shaped_of_RefB (by kernel_rfl) (by kernel_rfl)) (by kernel_rfl) (by kernel_rfl) (by kernel_rfl) (door_met os _)) ?_
 intro W base args ds gs before hval0 hW _ _ hL _
 have hval : ∀ (j : Nat) t v,Tryz.f6.params[j]? = some t -> args[j]? = some v -> Value.okWide Tryz.prog W .any base t v:=hval0
 have hW':=hW
 obtain ⟨p,q,hA0,hV,rfl,hfz,hnd⟩:=hW
 have hA : DataW.TrodAll enc Tryz.prog W 0 (fun _=>true) true Tryz.f6.params.toList args.toList ds p:=hA0
 rw [Tryz.params6] at hA hval
 obtain ⟨v0,vs0,d0,ds0,p0,q0,hargs,rfl,rfl,h0,r0⟩:=trodAll_cons hA
 obtain ⟨v1,vs1,d1,ds1,p1,q1,rfl,rfl,rfl,h1,r1⟩:=trodAll_cons r0
 obtain ⟨v2,vs2,d2,ds2,p2,q2,rfl,rfl,rfl,h2,r2⟩:=trodAll_cons r1
 obtain ⟨v3,vs3,d3,ds3,p3,q3,rfl,rfl,rfl,h3,r3⟩:=trodAll_cons r2
 obtain ⟨v4,vs4,d4,ds4,p4,q4,rfl,rfl,rfl,h4,r4⟩:=trodAll_cons r3
 obtain ⟨rfl,rfl,rfl⟩:=trodAll_nil r4
 obtain rfl : args = #[v0,v1,v2,v3,v4]:=by cases args; simp_all
 obtain ⟨W0,H0,A0,n0,c0,l0,rfl,_,_,hc0,_,_,hl0,hb0⟩:=open_mat (hval 0 24 v0 rfl rfl) h0
 obtain ⟨z1,rfl,rfl,rfl,_⟩:=open_int Tryz.underlying3 (hval 1 3 v1 rfl rfl) h1
 obtain ⟨k2,rfl,rfl,rfl,_⟩:=Go.ChangeMaps.open_string Tryz.underlying9 (hval 2 9 v2 rfl rfl) h2
 obtain ⟨A3,n3,c3,l3,rfl,hc3,_,hA3,hl3,hb3⟩:=open_bytes Tryz.underlying22 Tryz.underlying5 (by kernel_rfl) (hval 3 22 v3 rfl rfl) h3
 obtain ⟨z4,rfl,rfl,rfl,_⟩:=open_int Tryz.underlying3 (hval 4 3 v4 rfl rfl) h4
 refine (core W0 H0 A0 n0 c0 l0 z1 k2 A3 n3 c3 l3 z4 W (tab_of_laid hL) hl0 hc0 hb0 hl3 hc3 hb3 (fun h=>(hA3 h).1)).mono fun e W' ⟨he,ho⟩=>?_
 subst he
 exact ⟨_,rfl,law_post rfl hW' (by intro t ht; revert t; exact of_decide_eq_true (by kernel_rfl)) rfl rfl ho⟩
theorem holds : Rows.PngOrdersSaid :=
 OpenClaim.holds_of_wide 6 Tryz.f6 rfl rfl rfl rfl rfl rfl rfl ⟨rfl,rfl,rfl,rfl,rfl⟩ rfl rfl rfl rfl rfl (by kernel_rfl) Tryz.func6 (by kernel_rfl)
  (of_decide_eq_true (by kernel_rfl)) (by unfold Func.isWrapper; first | (rw [if_pos (by decide +kernel)]; kernel_rfl) | (rw [if_neg (by decide +kernel)]; exact ⟨rfl,rfl⟩))
  (fun os started H enc _=>lifted os started H enc)
theorem proved : Rows.PngOrdersCardSaid :=
 Claim7.holds_tied_plain_at .later [] Rows.pngOrdersCard.laidKinds true Rows.pngOrdersCard.stood.harness false
  holds (fun _ h=>by cases h) (by kernel_rfl) (fun _ h=>by cases h) pngOrders_row_tie rfl ⟨rfl,rfl⟩ (by kernel_rfl) rfl
  (fun f fn hf hfn=>by
    obtain rfl : f = 6:=Option.some.inj ((show Tryz.prog.funcNamed "phosphor/phosphorlaw9.PngOrders" = some 6 by kernel_rfl).symm.trans hf) |>.symm
    obtain rfl : fn = Tryz.f6:=(Option.some.inj (Tryz.func6.symm.trans hfn)).symm
    exact ⟨by kernel_rfl,fun j t ht=>by
     rw [Tryz.params6] at ht
     have hm : t ∈ [24,3,9,22,3]:=by simpa using Array.mem_of_getElem? ht
     have hall : ([24,3,9,22,3].all fun u=>!Tryz.prog.wantsStandIn u) = true:=by kernel_rfl
     exact (show Tryz.prog.wantsStandIn t = false by simpa using List.all_eq_true.1 hall t hm)⟩)
  (by kernel_rfl)
end Go.Proofs.YtmfoeihapalkpaaGreatDoor.porders
