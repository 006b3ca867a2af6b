import Derived.Test.YtffkhgephgnehaaGreatDoorMPiM
namespace Go.Proofs.YtffkhgephgnehaaGreatDoor
open Go Go.RowKit
set_option maxRecDepth 100000 in
set_option maxHeartbeats 8000000 in
theorem gath_bad (A : Option Addr) (n c : Nat) (l : List UInt8) (px : Int) (w : World) (hb : Holds w 1 A n (bvals l)) (hl : l.length = n) (hc : n <= c) (hn : n <= 1000000000) (h : 0 < chE l) :
 Calls Tryz.prog 45 #[.slice A n c,.int .i64 px] w fun e w'=>Only [] w w' /\ e = .returned (.tuple #[.pointer none,.int .i64 (chE l : Nat)]):=by
 have HS:=hide (split_any A n c l w hb hl hc hn)
 have h0 : ¬ ((chE l : Nat) : Int) = 0:=by omega
 have HE:=hide h
 clear hb hl hc hn h
 go_enter Tryz.func45,Tryz.ntmps45
 go_wp2_with fail
 refine (HS.out).mono ?_
 rintro e w1 ⟨ho1,(⟨_,rfl⟩ | ⟨hz,_⟩)⟩
 case inr=>exact absurd hz (by have:=HE.out; omega)
 have HO:=hide ho1
 clear ho1 HS
 go_wp2_with fail
 go_ret2
 exact ⟨HO.out,rfl⟩
theorem dec_bad (A : Option Addr) (n c : Nat) (l : List UInt8) (px : Int) (w : World) (hb : Holds w 1 A n (bvals l)) (hl : l.length = n) (hc : n <= c) (hn : n <= 1000000000) (h : 0 < chE l) :
 Calls Tryz.prog 21 #[.slice A n c,.int .i64 px] w fun e w'=>e = .returned (.tuple #[mval 0 0 none 0 0,.int .i64 (chE l : Nat)]) /\ Only [] w w' :=
 dec_err A n c px (chE l) w (by omega) fun x hx=>gath_bad A n c l px x (hb.keep hx (by simp)) hl hc hn h
theorem big_get (l : List UInt8) (h : 4 <= l.length) : bigOf l = (l.getD 0 0).toNat * 16777216 + (l.getD 1 0).toNat * 65536 + (l.getD 2 0).toNat * 256 + (l.getD 3 0).toNat:=by
 match l,h with
 | a :: b :: c :: d :: t,_=>rfl
theorem set_getD (l : List UInt8) (i j : Nat) (x : UInt8) : (l.set i x).getD j 0 = if i = j /\ j < l.length then x else l.getD j 0:=by
 rw [List.getD_eq_getElem?_getD,List.getD_eq_getElem?_getD,List.getElem?_set]
 by_cases h : i = j
 ·subst h
  by_cases h2 : i < l.length
  ·simp [h2]
  ·simp [h2]
 ·simp [h]
theorem big_set (l : List UInt8) (h : 4 <= l.length) (i : Nat) (hi : i < 4) (x : UInt8) (hx : x ≠ l.getD i 0) : bigOf (l.set i x) ≠ bigOf l:=by
 rw [big_get _ (by rw [List.length_set]; exact h),big_get l h]
 simp only [set_getD]
 have hx' : x.toNat ≠ (l.getD i 0).toNat:=fun e=>hx (UInt8.toNat_inj.1 e)
 have b0:=(l.getD 0 0).toNat_lt
 have b1:=(l.getD 1 0).toNat_lt
 have b2:=(l.getD 2 0).toNat_lt
 have b3:=(l.getD 3 0).toNat_lt
 have bx:=x.toNat_lt
 match i,hi with
 | 0,_=>rw [if_pos ⟨rfl,by omega⟩,if_neg (by omega),if_neg (by omega),if_neg (by omega)]; omega
 | 1,_=>rw [if_neg (by omega),if_pos ⟨rfl,by omega⟩,if_neg (by omega),if_neg (by omega)]; omega
 | 2,_=>rw [if_neg (by omega),if_neg (by omega),if_pos ⟨rfl,by omega⟩,if_neg (by omega)]; omega
 | 3,_=>rw [if_neg (by omega),if_neg (by omega),if_neg (by omega),if_pos ⟨rfl,by omega⟩]; omega
theorem drop_set (l : List UInt8) (i k : Nat) (x : UInt8) (h : k <= i) : (l.set i x).drop k = (l.drop k).set (i - k) x:=by
 rw [List.drop_set,if_neg (by omega)]
theorem take_set (l : List UInt8) (i k : Nat) (x : UInt8) : (l.set i x).take k = (l.take k).set i x:=List.take_set
theorem nx_turned {p : Ck} (h : CkOk p) (rest : List UInt8) (j : Nat) (h4 : 4 <= j) (hj : j < p.d.length + 12) (x : UInt8) (hx : x ≠ (layC p ++ rest).getD j 0) : 0 < nxE ((layC p ++ rest).set j x):=by
 obtain ⟨h1,h2,_⟩:=layC_next h rest
 have hlen : (layC p ++ rest).length = p.d.length + 12 + rest.length:=by rw [List.length_append,layC_length]
 have hbig : bigOf (layC p ++ rest) = p.d.length:=by
  have:=congrArg Ck.d h2
  have hk:=kind4_four p.k h.four
  have e : layC p ++ rest = four4 p.d.length ++ (p.k ++ (p.d ++ (four4 (crcW (p.k ++ p.d)) ++ rest))):=by
   unfold layC
   rw [hk]
   simp only [List.append_assoc]
  rw [e,big_four _ (by have:=h.len; omega)]
 have hdl:=h.len
 generalize layC p ++ rest = l at *
 have hb' : bigOf (l.set j x) = p.d.length:=by
  rw [big_get _ (by rw [List.length_set]; omega)]
  simp only [set_getD]
  rw [if_neg (by omega),if_neg (by omega),if_neg (by omega),if_neg (by omega),<- big_get l (by omega),hbig]
 have hcrc : crcW ((l.drop 4).take (4 + p.d.length)) = bigOf (l.drop (8 + p.d.length)):=by
  unfold nxE at h1
  rw [hbig] at h1
  repeat' split at h1
  all_goals first | (exact absurd h1 (by decide)) | assumption
 have hne : crcW (((l.set j x).drop 4).take (4 + p.d.length)) ≠ bigOf ((l.set j x).drop (8 + p.d.length)):=by
  by_cases hc : j < 8 + p.d.length
  ·have e1 : (l.set j x).drop (8 + p.d.length) = l.drop (8 + p.d.length):=by
    apply List.ext_getElem?
    intro i
    rw [List.getElem?_drop,List.getElem?_drop,List.getElem?_set_ne (by omega)]
   rw [e1,<- hcrc,drop_set l j 4 x h4,take_set]
   have hg : ((l.drop 4).take (4 + p.d.length))[j - 4]? = some (l.getD j 0):=by
    rw [List.getElem?_take,if_pos (by omega),List.getElem?_drop,show 4 + (j - 4) = j by omega,List.getD_eq_getElem?_getD,List.getElem?_eq_getElem (by omega)]
    rfl
   obtain ⟨hil,hge⟩:=List.getElem?_eq_some_iff.1 hg
   have hcs:=crcList_set (r:=4294967295) (by omega) ((l.drop 4).take (4 + p.d.length)) (j - 4) x hil (by rw [hge]; exact hx)
   unfold crcW
   exact fun e=>hcs (not_inj (crcList_lt (by omega) _) (crcList_lt (by omega) _) e)
  ·have e1 : ((l.set j x).drop 4).take (4 + p.d.length) = (l.drop 4).take (4 + p.d.length):=by
    apply List.ext_getElem?
    intro i
    rw [List.getElem?_take,List.getElem?_take]
    by_cases hi : i < 4 + p.d.length
    ·rw [if_pos hi,if_pos hi,List.getElem?_drop,List.getElem?_drop,List.getElem?_set_ne (by omega)]
    ·rw [if_neg hi,if_neg hi]
   rw [e1,hcrc,drop_set l j (8 + p.d.length) x (by omega)]
   refine Ne.symm (big_set _ (by rw [List.length_drop]; omega) _ (by omega) x ?_)
   rw [List.getD_eq_getElem?_getD,List.getElem?_drop,show 8 + p.d.length + (j - (8 + p.d.length)) = j by omega,<- List.getD_eq_getElem?_getD]
   exact hx
 unfold nxE
 rw [hb']
 repeat' split
 all_goals first | omega | (exact absurd (by assumption) hne)
end Go.Proofs.YtffkhgephgnehaaGreatDoor
