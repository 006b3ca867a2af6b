import Derived.Test.YtjfjmkkkbcgohaaGreatDoorMPiI
import Derived.Test.YtjfjmkkkbcgohaaGreatDoorMPhC
import Derived.Test.YtjfjmkkkbcgohaaGreatDoorRows
import Derived.ProofKit
import Derived.OpenShut
import Derived.Lib.SmallJoins
namespace Go.Proofs.YtjfjmkkkbcgohaaGreatDoor
open Go Go.RowKit
def encC (W H : Nat) (l : Nat) (pk : List UInt8) : List Ck:=[⟨ihdr,headB W H 8 6 l⟩,⟨idat,pk⟩,⟨iend,[]⟩]
theorem ckOk_head (W H l : Nat) : CkOk ⟨ihdr,headB W H 8 6 l⟩:=⟨rfl,show ihdr.all lettB = true by decide,by rw [headB_length]; omega⟩
theorem ckOk_idat (pk : List UInt8) (h : pk.length <= 2147483647) : CkOk ⟨idat,pk⟩:=⟨rfl,show idat.all lettB = true by decide,h⟩
theorem ckOk_iend : CkOk ⟨iend,[]⟩:=⟨rfl,by decide,by simp⟩
theorem hd_head (W H l : Nat) (hW : 1 <= W /\ W <= 64) (hH : 1 <= H /\ H <= 64) (hl : l <= 1) : hdE ⟨ihdr,headB W H 8 6 l⟩ = 0 /\ hdV ⟨ihdr,headB W H 8 6 l⟩ = .agg #[.int .i64 (W : Int),.int .i64 (H : Int),.int .i64 8,.int .i64 6,.int .i64 (l : Int)]:=by
 have e1 : hdW ⟨ihdr,headB W H 8 6 l⟩ = W:=by
  unfold hdW headB
  rw [List.append_assoc]
  exact big_four W (by omega) _
 have e2 : hdH ⟨ihdr,headB W H 8 6 l⟩ = H:=by
  unfold hdH headB
  rw [List.append_assoc,show (four4 W ++ (four4 H ++ [UInt8.ofNat 8,UInt8.ofNat 6,0,0,UInt8.ofNat l])).drop 4 = four4 H ++ [UInt8.ofNat 8,UInt8.ofNat 6,0,0,UInt8.ofNat l] from rfl]
  exact big_four H (by omega) _
 have e3 : hdD ⟨ihdr,headB W H 8 6 l⟩ = 8:=rfl
 have e4 : hdC ⟨ihdr,headB W H 8 6 l⟩ = 6:=rfl
 have e5 : hdL ⟨ihdr,headB W H 8 6 l⟩ = l:=by
  show (UInt8.ofNat l).toNat = l
  rw [UInt8.toNat_ofNat']
  omega
 have e6 : hdForm ⟨ihdr,headB W H 8 6 l⟩ = true:=rfl
 have e0 : hdE ⟨ihdr,headB W H 8 6 l⟩ = 0:=by
  unfold hdE
  rw [e6,if_pos rfl,e1,e2,e3,e4,e5]
  unfold chkV
  rw [if_pos ⟨decide_eq_true (by omega),decide_eq_true (by omega)⟩,if_pos ⟨by decide,by omega⟩]
 refine ⟨e0,?_⟩
 unfold hdV
 rw [e0,if_pos rfl,e1,e2,e3,e4,e5]
 rfl
theorem enc_ch (W H l : Nat) (pk : List UInt8) (h : pk.length <= 2147483647) : chE (layB (encC W H l pk)) = 0 /\ chL (layB (encC W H l pk)) = encC W H l pk :=
 ch_laid ⟨iend,[]⟩ ckOk_iend rfl [⟨ihdr,headB W H 8 6 l⟩,⟨idat,pk⟩] (fun c hc=>by
  rcases List.mem_cons.1 hc with rfl | hc
  ·exact ⟨ckOk_head W H l,show ihdr ≠ iend by decide⟩
  ·obtain rfl:=List.mem_singleton.1 hc
   exact ⟨ckOk_idat pk h,show idat ≠ iend by decide⟩)
theorem enc_ga (pk : List UInt8) : gaF [⟨idat,pk⟩,⟨iend,[]⟩] noPt = (0,⟨[],[],false,pk,true,iend⟩):=rfl
def encB (q : Nat) (M : List UInt8) (W H l : Nat) : List UInt8:=layB (encC W H l (pkB q M W H l))
theorem encB_size (q : Nat) (hq : q <= 4) (M : List UInt8) (W H l : Nat) (hW : 1 <= W /\ W <= 64) (hH : 1 <= H /\ H <= 64) (hn : M.length = 4 * (W * H)) : (pkB q M W H l).length <= 16850 /\ (encB q M W H l).length <= 20000 /\ 57 <= (encB q M W H l).length:=by
 have hnn : (M.length : Int) = 4 * ((W : Int) * (H : Int)):=by rw [hn]; push_cast; rfl
 have h1:=(rawB_size q hq M W H (l : Int) (by omega) (by omega) hnn).2
 have h2:=pkB_size q M W H (l : Int)
 have h3:=layB_length (encC W H l (pkB q M W H l))
 have h4 : layN (encC W H l (pkB q M W H l)) = 13 + 12 + ((pkB q M W H l).length + 12 + (0 + 12)):=by
  unfold layN encC
  simp only [List.map_cons,List.map_nil,List.sum_cons,List.sum_nil,headB_length]
  rfl
 unfold encB
 omega
theorem encode_any (W H q : Nat) (A : Addr) (n c : Nat) (M : List UInt8) (lace : Bool) (w : World) (hW : 1 <= W /\ W <= 64) (hH : 1 <= H /\ H <= 64) (hq : q <= 4)
 (hb : Holds w 1 (some A) n (bvals M)) (hM : M.length = n) (hn : n = 4 * (W * H)) (hc : n <= c) :
 Calls Tryz.prog 6 #[mval W H (some A) n c,.bool lace,.int .i64 (q : Int)] w fun e w'=>∃ v,e = .returned v /\ w'.ownsRow w.heap.size 5 1 v (encB q M W H lace.toNat).length (bvals (encB q M W H lace.toNat)) /\ Only [] w w':=by
 have hnn : (M.length : Int) = 4 * ((W : Int) * (H : Int)):=by rw [hM,hn]; push_cast; rfl
 have hl : ((lace.toNat : Nat) : Int) = if lace then 1 else 0:=by cases lace <;> rfl
 have hs:=encB_size q hq M W H lace.toNat hW hH (by omega)
 have h1:=(rawB_size q hq M W H (lace.toNat : Int) (by omega) (by omega) hnn).2
 refine (enc_any W H q A n c M lace (lace.toNat : Int) hl (pkB q M W H lace.toNat) w hW hH hq hb hM hn hc (by omega) (fun A1 n1 c1 w1 a b d=>pkB_pack q M W H _ h1 A1 n1 c1 w1 a b d)).mono ?_
 rintro e w' ⟨A',n',c',rfl,L⟩
 have hl3 : (lace.toNat : Int).toNat = lace.toNat:=Int.toNat_natCast _
 rw [hl3] at L
 have ho:=L.own (by omega)
 have hlen:=L.len
 have e3 : ([⟨[73,72,68,82],headB W H 8 6 lace.toNat⟩,⟨[73,68,65,84],pkB q M W H lace.toNat⟩,⟨[73,69,78,68],[]⟩] : List Ck).take 3 = encC W H lace.toNat (pkB q M W H lace.toNat):=rfl
 rw [e3] at ho hlen
 subst hlen
 exact ⟨_,rfl,ho,L.only⟩
theorem decode_enc (W H q l : Nat) (A : Option Addr) (n c : Nat) (px : Int) (M : List UInt8) (w : World) (hb : Holds w 1 A n (bvals (encB q M W H l))) (hl : (encB q M W H l).length = n) (hc : n <= c) (hl1 : l <= 1)
 (hT : Tab w) (hW : 1 <= W /\ W <= 64) (hH : 1 <= H /\ H <= 64) (hq : q <= 4) (hM : M.length = 4 * (W * H)) (hpx : ((W * H : Nat) : Int) <= px) :
 Calls Tryz.prog 7 #[.slice A n c,.int .i64 px] w fun e w'=>∃ gi ci,e = .returned (.tuple #[mval W H (some ⟨gi,0,none⟩) (4 * (W * H)) ci,.int .i64 0]) /\ w'.ownsRow w.heap.size 5 1 (.slice (some ⟨gi,0,none⟩) (4 * (W * H)) ci) (4 * (W * H)) (bvals M) /\ Only [] w w':=by
 obtain ⟨hs1,hs2,_⟩:=encB_size q hq M W H l hW hH hM
 obtain ⟨h1,h2⟩:=enc_ch W H l (pkB q M W H l) (by omega)
 obtain ⟨hd,hv⟩:=hd_head W H l hW hH hl1
 exact dec_gath_ok A n c (encB q M W H l) px W H q l ⟨ihdr,headB W H 8 6 l⟩ [⟨idat,pkB q M W H l⟩,⟨iend,[]⟩] M w hb hl hc (by omega) h1 h2 hd hv (by simp) (fun r hr=>by
  rcases List.mem_cons.1 hr with rfl | hr
  ·exact .inl rfl
  ·obtain rfl:=List.mem_singleton.1 hr
   exact .inr (.inl rfl)) (by show (pkB q M W H l).length + (0 + 0) <= _; omega) hT hW hH hq hM hpx (by rw [enc_ga]) (by rw [enc_ga]) (by rw [enc_ga]) (by rw [enc_ga])
theorem decode_long (W H q l : Nat) (A : Option Addr) (n c : Nat) (px : Int) (M : List UInt8) (w : World) (hb : Holds w 1 A n (bvals (encB q M W H l))) (hl : (encB q M W H l).length = n) (hc : n <= c) (hl1 : l <= 1)
 (hW : 1 <= W /\ W <= 64) (hH : 1 <= H /\ H <= 64) (hq : q <= 4) (hM : M.length = 4 * (W * H)) (hpx : px < ((W * H : Nat) : Int)) :
 Calls Tryz.prog 7 #[.slice A n c,.int .i64 px] w fun e w'=>e = .returned (.tuple #[mval 0 0 none 0 0,.int .i64 5]) /\ Only [] w w':=by
 obtain ⟨hs1,hs2,_⟩:=encB_size q hq M W H l hW hH hM
 obtain ⟨h1,h2⟩:=enc_ch W H l (pkB q M W H l) (by omega)
 obtain ⟨hd,hv⟩:=hd_head W H l hW hH hl1
 exact dec_gath_long A n c (encB q M W H l) px W H l ⟨ihdr,headB W H 8 6 l⟩ [⟨idat,pkB q M W H l⟩,⟨iend,[]⟩] w hb hl hc (by omega) h1 h2 hd hv (by simp) (fun r hr=>by
  rcases List.mem_cons.1 hr with rfl | hr
  ·exact .inl rfl
  ·obtain rfl:=List.mem_singleton.1 hr
   exact .inr (.inl rfl)) (by show (pkB q M W H l).length + (0 + 0) <= _; omega) hW hH hpx
theorem inf_laid {c0 : Ck} (h : CkOk c0) (cs : List Ck) : infE (layB (c0 :: cs)) = hdE c0 /\ (hdE c0 = 0 -> infV (layB (c0 :: cs)) = hdV c0):=by
 obtain ⟨h1,h2,_⟩:=layC_next h (cs.flatMap layC)
 have hd : (layB (c0 :: cs)).drop 8 = layC c0 ++ cs.flatMap layC:=rfl
 have e : infE (layB (c0 :: cs)) = hdE c0:=by
  unfold infE
  rw [hd,h1,h2,if_pos rfl,show begE (layB (c0 :: cs)) = 0 from begE_laid _,if_pos rfl]
 refine ⟨e,fun h0=>?_⟩
 unfold infV
 rw [e,h0,if_pos rfl,hd,h2]
theorem pgStr_of {w : World} {A : Option Addr} {n : Nat} {l : List UInt8} (h : Holds w 1 A n (bvals l)) (c : Nat) : (convert 22 9 (.slice A n c)).run Tryz.prog w = .ok (.string ⟨l.toArray⟩) w :=
 run_string_of h c 22 5 9 Tryz.underlying22 Tryz.underlying5 Tryz.underlying9
theorem info_enc (W H q l : Nat) (A : Option Addr) (n c : Nat) (M : List UInt8) (w : World) (hb : Holds w 1 A n (bvals (encB q M W H l))) (hl : (encB q M W H l).length = n) (hc : n <= c) (hl1 : l <= 1)
 (hW : 1 <= W /\ W <= 64) (hH : 1 <= H /\ H <= 64) (hq : q <= 4) (hM : M.length = 4 * (W * H)) :
 Calls Tryz.prog 10 #[.slice A n c] w fun e w'=>Only [] w w' /\ e = .returned (.tuple #[.agg #[.int .i64 (W : Int),.int .i64 (H : Int),.int .i64 8,.int .i64 6,.int .i64 (l : Int)],.int .i64 0]):=by
 obtain ⟨_,hs2,_⟩:=encB_size q hq M W H l hW hH hM
 obtain ⟨hd,hv⟩:=hd_head W H l hW hH hl1
 obtain ⟨i1,i2⟩:=inf_laid (ckOk_head W H l) [⟨idat,pkB q M W H l⟩,⟨iend,[]⟩]
 have i2:=i2 hd
 rw [hd] at i1
 rw [hv] at i2
 have h:=info_any A n c (encB q M W H l) w hb hl hc (by omega)
 have e1 : infE (encB q M W H l) = 0:=i1
 have e2 : infV (encB q M W H l) = _:=i2
 rw [e1,e2] at h
 exact h
set_option maxRecDepth 100000 in
set_option maxHeartbeats 8000000 in
theorem knownP_any (w : World) (hT : Tab w) : Calls Tryz.prog 4 #[] w fun e w'=>e = .returned (.bool true) /\ Only [] w w':=by
 have hM : Holds (w.alloc (.cells #[.int .u8 1,.int .u8 2,.int .u8 3,.int .u8 4,.int .u8 5,.int .u8 6,.int .u8 7,.int .u8 8] 5)) 1 (some ⟨w.heap.size,0,none⟩) 8 (bvals [1,2,3,4,5,6,7,8]):=Holds.lit w #[.int .u8 1,.int .u8 2,.int .u8 3,.int .u8 4,.int .u8 5,.int .u8 6,.int .u8 7,.int .u8 8] 5
 have o1 : Only [] w (w.alloc (.cells #[.int .u8 1,.int .u8 2,.int .u8 3,.int .u8 4,.int .u8 5,.int .u8 6,.int .u8 7,.int .u8 8] 5)):=(Only.refl [] w).alloc _
 have o2:=(Only.refl [] (w.alloc (.cells #[.int .u8 1,.int .u8 2,.int .u8 3,.int .u8 4,.int .u8 5,.int .u8 6,.int .u8 7,.int .u8 8] 5))).alloc (.cells #[.int .i64 1,.int .i64 2,.slice (some ⟨w.heap.size,0,none⟩) 8 8] 24)
 have hm:=Has.new (w.alloc (.cells #[.int .u8 1,.int .u8 2,.int .u8 3,.int .u8 4,.int .u8 5,.int .u8 6,.int .u8 7,.int .u8 8] 5)) 24 #[.int .i64 1,.int .i64 2,.slice (some ⟨w.heap.size,0,none⟩) 8 8]
 rw [World.size_alloc] at hm
 have H1:=hide (aI (hM.keep o2 (by simp)) (aI (o1.trans o2 (S:=[]) (by simp)) hm))
 have HT:=hide hT
 have m0:=hm.cell 0
 have m1:=hm.cell 1
 have m2:=hm.cell 2
 simp only [List.getElem?_toArray,List.getElem?_cons_zero,List.getElem?_cons_succ] at m0 m1 m2
 clear hT hM o1 o2 hm
 go_enter Tryz.func4,Tryz.ntmps4
 go_wp2_with fail
 generalize (w.alloc (.cells #[.int .u8 1,.int .u8 2,.int .u8 3,.int .u8 4,.int .u8 5,.int .u8 6,.int .u8 7,.int .u8 8] 5)).alloc (.cells #[.int .i64 1,.int .i64 2,.slice (some ⟨w.heap.size,0,none⟩) 8 8] 24) = x2 at *
 have HE : Hid (∀ (lace : Bool) (q : Nat) (z : Int) (x : World),q <= 4 -> z = (q : Int) -> Only [] x2 x -> Calls Tryz.prog 6 #[.agg #[.int .i64 1,.int .i64 2,.slice (some ⟨w.heap.size,0,none⟩) 8 8],.bool lace,.int .i64 z] x fun e w'=>∃ v,e = .returned v /\ w'.ownsRow x.heap.size 5 1 v (encB q [1,2,3,4,5,6,7,8] 1 2 lace.toNat).length (bvals (encB q [1,2,3,4,5,6,7,8] 1 2 lace.toNat)) /\ Only [] x w'):=hide (fun lace q z x hq hz hx=>by
  subst hz
  exact encode_any 1 2 q ⟨w.heap.size,0,none⟩ 8 8 [1,2,3,4,5,6,7,8] lace x (by decide) (by decide) hq (H1.out.1.keep hx (by simp)) rfl rfl (Nat.le_refl _))
 clear m0 m1 m2
 refine (HE.out true 4 4 x2 (by decide) rfl (Only.refl [] x2)).mono ?_
 rintro e w3 ⟨v,rfl,how,ho3⟩
 obtain ⟨A3,c3,rfl,hc3,_⟩:=own_shape how
 have h3:=Holds.of_own how
 have H3:=hide (aI h3 (aI ho3 hc3))
 clear how h3 ho3 hc3
 go_wp2_with fail
 refine (decode_enc 1 2 4 1 A3 _ c3 2 [1,2,3,4,5,6,7,8] w3 H3.out.1 rfl H3.out.2.2 (Nat.le_refl _) ((HT.out.only H1.out.2.1 (by simp)).only H3.out.2.1 (by simp)) (by decide) (by decide) (by decide) rfl (by decide)).mono ?_
 rintro e w4 ⟨gi,ci,rfl,how,ho4⟩
 have o4:=H3.out.2.1.trans ho4 (S:=[]) (by simp)
 have H4:=hide (aI (Holds.of_own how) o4)
 have hm4:=(H1.out.2.2.only o4 (by simp)).alloc (.cells #[.int .i64 1,.int .i64 2,.slice (some ⟨gi,0,none⟩) 8 ci] 24)
 have m0:=hm4.cell 0
 have m1:=hm4.cell 1
 have m2:=hm4.cell 2
 simp only [List.getElem?_toArray,List.getElem?_cons_zero,List.getElem?_cons_succ] at m0 m1 m2
 have hx4:=Has.new w4 24 #[.int .i64 1,.int .i64 2,.slice (some ⟨gi,0,none⟩) 8 ci]
 have o5:=o4.alloc (.cells #[.int .i64 1,.int .i64 2,.slice (some ⟨gi,0,none⟩) 8 ci] 24)
 have H5:=hide (aI hx4 (aI o5 (H4.out.1.keep ((Only.refl [] w4).alloc (.cells #[.int .i64 1,.int .i64 2,.slice (some ⟨gi,0,none⟩) 8 ci] 24)) (by simp))))
 clear how ho4 o4 hm4 hx4 o5
 unfold mval
 go_wp2_with fail
 generalize w4.alloc (.cells #[.int .i64 1,.int .i64 2,.slice (some ⟨gi,0,none⟩) 8 ci] 24) = x5 at *
 clear m0 m1 m2
 refine (HE.out false 0 0 x5 (by decide) rfl H5.out.2.1).mono ?_
 rintro e w6 ⟨v,rfl,how,ho6⟩
 obtain ⟨A6,c6,rfl,hc6,_⟩:=own_shape how
 have h6:=Holds.of_own how
 have H6:=hide (aI h6 (aI ho6 hc6))
 clear how h6 ho6 hc6
 go_wp2_with fail
 refine (info_enc 1 2 0 0 A6 _ c6 [1,2,3,4,5,6,7,8] w6 H6.out.1 rfl H6.out.2.2 (by decide) (by decide) (by decide) (by decide) rfl).mono ?_
 rintro e w7 ⟨ho7,rfl⟩
 have o7:=H6.out.2.1.trans ho7 (S:=[]) (by simp)
 have oa:=(Only.refl [] w7).alloc (.cells #[.int .i64 1,.int .i64 2,.int .i64 8,.int .i64 6,.int .i64 0] 36)
 have hh:=Has.new w7 36 #[.int .i64 1,.int .i64 2,.int .i64 8,.int .i64 6,.int .i64 0]
 have hm1:=((H1.out.2.2.only H5.out.2.1 (by simp)).only o7 (by simp)).only oa (by simp)
 have hm2:=(H5.out.1.only o7 (by simp)).only oa (by simp)
 have s1:=fun c=>pgStr_of (((H1.out.1.keep H5.out.2.1 (by simp)).keep o7 (by simp)).keep oa (by simp)) c
 have s2:=fun c=>pgStr_of ((H5.out.2.2.keep o7 (by simp)).keep oa (by simp)) c
 have a2 : World.cell? _ ⟨w.heap.size + 1,2,none⟩ = some (.slice (some ⟨w.heap.size,0,none⟩) 8 8):=hm1.cell 2
 have b2 : World.cell? _ ⟨w4.heap.size,2,none⟩ = some (.slice (some ⟨gi,0,none⟩) 8 ci):=hm2.cell 2
 have h0:=hh.cell 0
 have h1:=hh.cell 1
 have h2:=hh.cell 2
 have h3:=hh.cell 3
 have h4:=hh.cell 4
 simp only [List.getElem?_toArray,List.getElem?_cons_zero,List.getElem?_cons_succ] at h0 h1 h2 h3 h4
 have HO:=hide (((H1.out.2.1.trans H5.out.2.1 (S:=[]) (by simp)).trans o7 (S:=[]) (by simp)).trans oa (S:=[]) (by simp))
 have HSm:=hide (fun x : World=>pSamples_any 6 x)
 rw [show smpV 6 = 4 from rfl] at HSm
 clear ho7 o7 oa hh hm1 hm2
 go_wp2_with fail
 refine (HSm.out _).mono ?_
 rintro e x ⟨rfl,rfl⟩
 go_wp2_with fail
 go_ret
 exact ⟨rfl,HO.out⟩
end Go.Proofs.YtjfjmkkkbcgohaaGreatDoor
namespace Go.Proofs.YtjfjmkkkbcgohaaGreatDoor
open Go Go.RowKit Go.ChangeShapes Go.WideShapes Go.ChangeAt
theorem own_knob : ownKnob Tryz.prog.godebug = none:=by kernel_rfl
theorem laid_out : laidOutB Tryz.prog = true:=by kernel_rfl
section
variable {H : Type} {enc : TypeId × Value -> H}
theorem all_stay {W W' : World} (hb : Below W.heap.size W W') : ∀ (ts : List TypeId) (vs : List Value) (ds : List (DataW H)) (ps : List MemPlace),
 (∀ t ∈ ts,Tryz.prog.readableRec t = true /\ t < Tryz.prog.types.size) -> DataW.TrodAll enc Tryz.prog W 0 (fun _=>true) true ts vs ds ps -> (∀ x ∈ ps,x.block < W.heap.size) ->
 DataW.TrodAll enc Tryz.prog W' 0 (fun b=>decide (b < W.heap.size)) true ts vs ds ps
 | [],vs,ds,ps,_,h,_=>by
   obtain ⟨rfl,rfl,rfl⟩:=trodAll_nil h
   exact trodAll_mk0
 | t :: ts,vs,ds,ps,hr,h,hlt=>by
   obtain ⟨v,vs',d,ds',p,q,rfl,rfl,rfl,h0,h1⟩:=trodAll_cons h
   have ht:=hr t (by simp)
   exact trodAll_cons_mk (Below.trod laid_out ht.1 ht.2 h0 hb (fun x hx=>hlt x (by simp [hx])))
    (all_stay hb ts vs' ds' q (fun t ht=>hr t (by simp [ht])) h1 (fun x hx=>hlt x (by simp [hx])))
theorem law_post {f : Func} {s : ChangeSpec} {W W' : World} {args : Array Value} {ds gs : List (DataW H)} {before : List MemPlace} (hvars : s.vars = [])
 (hW : DataW.Whole enc Tryz.prog f.params.toList s.vars false W args.toList ds gs before) (hr : ∀ t ∈ f.params.toList,Tryz.prog.readableRec t = true /\ t < Tryz.prog.types.size)
 (hspec : s.fn H (ds ++ []) = { results:=[.lit (.bool true)],args:=ds }) (hres : f.resultTypes = #[4]) (ho : Only [] W W') :
 s.post enc Tryz.prog f false true false false W args (.bool true) W':=by
 have hb:=ho.below
 have hW':=hW
 obtain ⟨p,q,hA,hV,rfl,hfz,hnd⟩:=hW
 rw [hvars] at hV
 obtain ⟨rfl,rfl⟩:=trodVars_none hV
 refine ⟨ds,[],p ++ [],[],p,[],hW',?_,?_,?_,hb.frame _,fun h=>by cases h⟩
 ·rw [hspec,hres]
  exact trodAll_mk1 (shut_bool Tryz.underlying4 true)
 ·rw [hspec]
  refine all_stay hb _ _ _ _ hr hA (fun x hx=>hW'.lt x (by simp [hx]))
 ·rw [hspec,hvars]
  rfl
end
section
variable {H : Type} {enc : TypeId × Value -> H} {W : World}
theorem wf_i64 {z : Int} (h : (Lit.int .i64 z).wf = true) : -9223372036854775808 <= z /\ z <= 9223372036854775807:=by
 simpa [Lit.wf,IntKind.min,IntKind.max,IntKind.signed,IntKind.bits] using h
theorem wf_u8 {z : Int} (h : (Lit.int .u8 z).wf = true) : 0 <= z /\ z <= 255:=by
 simpa [Lit.wf,IntKind.min,IntKind.max,IntKind.signed,IntKind.bits] using h
end
section
variable {H : Type} {enc : TypeId × Value -> H} {W : World}
set_option maxRecDepth 100000 in
theorem open_bytes_in {fuel : Nat} {v : Value} {x : DataW H × List MemPlace} (hf : DataW.trod enc Tryz.prog W 0 (fun _=>true) true fuel 22 [v] = some x) :
 ∃ (A : Option Addr) (n c : Nat) (l : List UInt8),v = .slice A n c /\ n <= c /\ c <= maxLen /\ (A = none -> c = 0 /\ n = 0) /\ l.length = n /\ Holds W 1 A n (bvals l):=by
 rcases open_ints Tryz.underlying22 Tryz.underlying5 (by kernel_rfl) hf with ⟨hcs,hx⟩ | ⟨a,len,cap,zs,hcs,_,hl,hm,hz,hx,hcell,hwz⟩
 ·injection hcs with hv
  exact ⟨none,0,0,[],hv,Nat.le_refl _,by simp [maxLen],fun _=>⟨rfl,rfl⟩,rfl,Holds.empty _ _ _⟩
 ·injection hcs with hv
  have hzl : zs.length = cap:=by simpa using hz
  have e : bvals ((zs.take len).map fun z=>UInt8.ofNat z.toNat) = (zs.take len).map (Value.int .u8):=by
   unfold bvals
   rw [List.map_map]
   refine List.map_congr_left fun z hz=>?_
   have:=wf_u8 (hwz z (List.mem_of_mem_take hz))
   simp; omega
  refine ⟨some a,len,cap,(zs.take len).map fun z=>UInt8.ofNat z.toNat,hv,hl,hm,by simp,by rw [List.length_map,List.length_take]; omega,?_⟩
  rw [e]
  refine ⟨by simp; omega,fun hp=>⟨a,rfl,?_,fun j u hu=>?_⟩⟩
  ·have h0:=hcell 0 (by omega)
   have:=World.block_lt_of_cell? W (a.add 0) h0
   rwa [add_block] at this
  ·have hj : j < len:=by
    have:=(List.getElem?_eq_some_iff.1 hu).1
    simp at this; omega
   rw [hcell j (by omega)]
   rw [<- hu]
   simp [hj,List.getElem?_eq_getElem (show j < zs.length by omega)]
theorem field_i64 {fuel : Nat} {u : Value} {y : DataW H × List MemPlace} (h : DataW.trod enc Tryz.prog W 0 (fun _=>true) true fuel 3 [u] = some y) : ∃ n,u = .int .i64 n /\ (Lit.int .i64 n).wf = true:=by
 obtain ⟨n,h1,_,h2⟩:=DataW.trod_int Tryz.underlying3 h
 simp at h1
 exact ⟨n,h1,h2⟩
set_option maxRecDepth 100000 in
theorem open_mat {r : Reach} {b0 : Nat} {v : Value} {d : DataW H} {p : List MemPlace} (hval : Value.okWide Tryz.prog W r b0 24 v) (h : DataW.Trod enc Tryz.prog W 0 (fun _=>true) true 24 v d p) :
 ∃ (X Y : Int) (A : Option Addr) (n c : Nat) (l : List UInt8),v = mval X Y A n c /\ (-9223372036854775808 <= X /\ X <= 9223372036854775807) /\ (-9223372036854775808 <= Y /\ Y <= 9223372036854775807) /\ n <= c /\ c <= maxLen /\ (A = none -> c = 0 /\ n = 0) /\ l.length = n /\ Holds W 1 A n (bvals l):=by
 obtain ⟨v0,v1,v2,y0,y1,y2,n,rfl,_,_,h0,h1,h2⟩:=Go.Joins.open_agg3 Tryz.underlying24 (by kernel_rfl) (by kernel_rfl) hval h
 obtain ⟨a,rfl,ha⟩:=field_i64 h0
 obtain ⟨b,rfl,hb⟩:=field_i64 h1
 obtain ⟨A,m,c,l,rfl,q1,q2,q3,q4,q5⟩:=open_bytes_in h2
 exact ⟨a,b,A,m,c,l,rfl,wf_i64 ha,wf_i64 hb,q1,q2,q3,q4,q5⟩
end
end Go.Proofs.YtjfjmkkkbcgohaaGreatDoor
