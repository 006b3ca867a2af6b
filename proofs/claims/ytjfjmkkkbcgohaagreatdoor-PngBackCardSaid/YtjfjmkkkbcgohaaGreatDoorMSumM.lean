import Derived.Test.YtjfjmkkkbcgohaaGreatDoorMFiP
namespace Go.Proofs.YtjfjmkkkbcgohaaGreatDoor
def crcP : Nat:=3988292384
def crcBit (r : Nat) : Nat:=if r % 2 = 1 then (r / 2) ^^^ crcP else r / 2
def crcIt : Nat -> Nat -> Nat
 | 0,r=>r
 | k + 1,r=>crcIt k (crcBit r)
def crcByte (r b : Nat) : Nat:=crcIt 8 (r ^^^ b)
def crcList (r : Nat) : List UInt8 -> Nat
 | []=>r
 | b :: l=>crcList (crcByte r b.toNat) l
theorem crcList_append (r : Nat) (l m : List UInt8) : crcList r (l ++ m) = crcList (crcList r l) m:=by
 induction l generalizing r with
 | nil=>rfl
 | cons b l ih=>exact ih _
theorem crcBit_lt {r : Nat} (h : r < 4294967296) : crcBit r < 4294967296:=by
 unfold crcBit
 split
 ·exact Nat.xor_lt_two_pow (n:=32) (by omega) (by decide)
 ·omega
theorem crcIt_lt (k : Nat) {r : Nat} (h : r < 4294967296) : crcIt k r < 4294967296:=by
 induction k generalizing r with
 | zero=>exact h
 | succ k ih=>exact ih (crcBit_lt h)
theorem crcByte_lt {r b : Nat} (h : r < 4294967296) (hb : b < 256) : crcByte r b < 4294967296 :=
 crcIt_lt 8 (Nat.xor_lt_two_pow (n:=32) h (by omega))
theorem crcList_lt {r : Nat} (h : r < 4294967296) (l : List UInt8) : crcList r l < 4294967296:=by
 induction l generalizing r with
 | nil=>exact h
 | cons b l ih=>exact ih (crcByte_lt h b.toNat_lt)
theorem xor_left_comm' (a b c : Nat) : a ^^^ (b ^^^ c) = b ^^^ (a ^^^ c):=by rw [<- Nat.xor_assoc,Nat.xor_comm a b,Nat.xor_assoc]
theorem xor_half (x y : Nat) : (x ^^^ y) / 2 = (x / 2) ^^^ (y / 2):=by
 apply Nat.eq_of_testBit_eq
 intro i
 rw [Nat.testBit_xor,Nat.testBit_div_two,Nat.testBit_div_two,Nat.testBit_div_two,Nat.testBit_xor]
theorem xor_par (x y : Nat) : (x ^^^ y) % 2 = (x % 2 + y % 2) % 2:=by
 have h:=Nat.testBit_xor x y 0
 simp only [Nat.testBit_zero] at h
 rcases Nat.mod_two_eq_zero_or_one x with hx | hx <;> rcases Nat.mod_two_eq_zero_or_one y with hy | hy <;> rcases Nat.mod_two_eq_zero_or_one (x ^^^ y) with hz | hz <;> simp_all
theorem crcBit_xor (x y : Nat) : crcBit (x ^^^ y) = crcBit x ^^^ crcBit y:=by
 unfold crcBit
 rw [xor_half,xor_par]
 rcases Nat.mod_two_eq_zero_or_one x with hx | hx <;> rcases Nat.mod_two_eq_zero_or_one y with hy | hy <;> rw [hx,hy]
 ·simp
 ·simp [Nat.xor_assoc]
 ·simp; rw [Nat.xor_assoc,Nat.xor_assoc,Nat.xor_comm crcP]
 ·simp
  rw [Nat.xor_assoc,xor_left_comm' crcP,Nat.xor_self,Nat.xor_zero]
theorem crcIt_xor (k x y : Nat) : crcIt k (x ^^^ y) = crcIt k x ^^^ crcIt k y:=by
 induction k generalizing x y with
 | zero=>rfl
 | succ k ih=>rw [crcIt,crcBit_xor,ih]; rfl
theorem crcIt_pow (k y : Nat) : crcIt k (2 ^ k * y) = y:=by
 induction k with
 | zero=>simp [crcIt]
 | succ k ih =>
   rw [crcIt]
   have e : crcBit (2 ^ (k + 1) * y) = 2 ^ k * y:=by
    unfold crcBit
    rw [Nat.pow_succ,Nat.mul_comm (2 ^ k) 2,Nat.mul_assoc,if_neg (by omega),Nat.mul_div_cancel_left _ (by omega)]
   rw [e,ih]
theorem split_xor (k x : Nat) : (x % 2 ^ k) ^^^ (2 ^ k * (x / 2 ^ k)) = x:=by
 apply Nat.eq_of_testBit_eq
 intro i
 rw [Nat.testBit_xor,Nat.testBit_mod_two_pow,Nat.testBit_two_pow_mul,Nat.testBit_div_two_pow]
 by_cases h : i < k
 ·simp [h,Nat.not_le.2 h]
 ·simp [h,Nat.le_of_not_lt h,Nat.sub_add_cancel (Nat.le_of_not_lt h)]
theorem crcIt_table (k x : Nat) : crcIt k x = crcIt k (x % 2 ^ k) ^^^ (x / 2 ^ k):=by
 have h:=crcIt_xor k (x % 2 ^ k) (2 ^ k * (x / 2 ^ k))
 rw [split_xor,crcIt_pow] at h
 exact h
def adList (p : Nat × Nat) : List UInt8 -> Nat × Nat
 | []=>p
 | b :: l=>adList ((p.1 + b.toNat) % 65521,(p.2 + (p.1 + b.toNat) % 65521) % 65521) l
theorem adList_append (p : Nat × Nat) (l m : List UInt8) : adList p (l ++ m) = adList (adList p l) m:=by
 induction l generalizing p with
 | nil=>rfl
 | cons b l ih=>exact ih _
theorem adList_lt {p : Nat × Nat} (h : p.1 < 65521 /\ p.2 < 65521) (l : List UInt8) : (adList p l).1 < 65521 /\ (adList p l).2 < 65521:=by
 induction l generalizing p with
 | nil=>exact h
 | cons b l ih=>exact ih ⟨Nat.mod_lt _ (by decide),Nat.mod_lt _ (by decide)⟩
def adFree (p : Nat × Nat) : List UInt8 -> Nat × Nat
 | []=>p
 | b :: l=>adFree (p.1 + b.toNat,p.2 + (p.1 + b.toNat)) l
theorem adFree_append (p : Nat × Nat) (l m : List UInt8) : adFree p (l ++ m) = adFree (adFree p l) m:=by
 induction l generalizing p with
 | nil=>rfl
 | cons b l ih=>exact ih _
theorem adList_free (p : Nat × Nat) (l : List UInt8) : adList (p.1 % 65521,p.2 % 65521) l = ((adFree p l).1 % 65521,(adFree p l).2 % 65521):=by
 induction l generalizing p with
 | nil=>rfl
 | cons b l ih =>
   rw [adList,adFree,<- ih]
   congr 1
   refine Prod.ext ?_ ?_
   ·show (p.1 % 65521 + b.toNat) % 65521 = (p.1 + b.toNat) % 65521
    omega
   ·show (p.2 % 65521 + (p.1 % 65521 + b.toNat) % 65521) % 65521 = (p.2 + (p.1 + b.toNat)) % 65521
    omega
theorem adFree_le (p : Nat × Nat) (l : List UInt8) : (adFree p l).1 <= p.1 + 255 * l.length /\ (adFree p l).2 <= p.2 + l.length * (p.1 + 255 * l.length):=by
 induction l generalizing p with
 | nil=>simp [adFree]
 | cons b l ih =>
   have hb:=b.toNat_lt
   obtain ⟨h1,h2⟩:=ih (p.1 + b.toNat,p.2 + (p.1 + b.toNat))
   rw [adFree,List.length_cons]
   refine ⟨by omega,Nat.le_trans h2 ?_⟩
   show p.2 + (p.1 + b.toNat) + l.length * (p.1 + b.toNat + 255 * l.length) <= p.2 + (l.length + 1) * (p.1 + 255 * (l.length + 1))
   have h3 : l.length * (p.1 + b.toNat + 255 * l.length) <= l.length * (p.1 + 255 * (l.length + 1)):=Nat.mul_le_mul_left _ (by omega)
   rw [Nat.add_mul l.length 1,Nat.one_mul]
   omega
def sumOf : List UInt8 -> Nat
 | []=>0
 | b :: l=>b.toNat + sumOf l
theorem adFree_fst (p : Nat × Nat) (l : List UInt8) : (adFree p l).1 = p.1 + sumOf l:=by
 induction l generalizing p with
 | nil=>rfl
 | cons b l ih=>rw [adFree,ih,sumOf,Nat.add_assoc]
def adWord (p : Nat × Nat) : Nat:=p.2 * 65536 + p.1
end Go.Proofs.YtjfjmkkkbcgohaaGreatDoor
namespace Go.Proofs.YtjfjmkkkbcgohaaGreatDoor
open Go Go.RowKit
theorem nat_not32 (n : Nat) (h : n < 4294967296) : 4294967295 ^^^ n = 4294967295 - n:=by
 have h1 : (BitVec.allOnes 32 ^^^ BitVec.ofNat 32 n) = ~~~ BitVec.ofNat 32 n:=BitVec.allOnes_xor
 have h2:=congrArg BitVec.toNat h1
 rw [BitVec.toNat_xor,BitVec.toNat_not,BitVec.toNat_allOnes,BitVec.toNat_ofNat,Nat.mod_eq_of_lt (by omega)] at h2
 exact h2
theorem u32_not (n : Nat) (h : n < 4294967296) : bits .xor .u32 IntKind.u32.max (n : Int) = ((4294967295 - n : Nat) : Int):=by
 have:=u32_xor_nat 4294967295 n (by omega) h
 rw [nat_not32 n h] at this
 exact this
theorem u32_not_not (n : Nat) (h : n < 4294967296) : bits .xor .u32 IntKind.u32.max ((4294967295 - n : Nat) : Int) = (n : Int):=by
 rw [u32_not _ (by omega)]; congr 1; omega
/-- A Crc at block g of which l has been written. -/
def Crc (w : World) (g : Nat) (l : List UInt8) : Prop := Has w g 139 #[.int .u32 ((4294967295 - crcList 4294967295 l : Nat) : Int)]
def adOf (l : List UInt8) : Nat × Nat:=adList (1,0) l
def Adl (w : World) (g : Nat) (l : List UInt8) : Prop:=∃ a : Nat,a < 65521 /\ (a + 1) % 65521 = (adOf l).1 /\ Has w g 152 #[.int .u32 (a : Int),.int .u32 ((adOf l).2 : Int)]
theorem newCrc_any (w : World) : Calls Tryz.prog 43 #[] w fun e w' => ∃ g, e = .returned (.pointer (some ⟨g, 0, none⟩)) /\ w.heap.size <= g /\ Crc w' g [] /\ Only [] w w' := by
  go_enter Tryz.func43, Tryz.ntmps43
  go_wp2
  go_ret
  exact ⟨_, rfl, Nat.le_refl _, Has.new w _ _, (Only.refl [] w).alloc _⟩
theorem newAdler_any (w : World) : Calls Tryz.prog 48 #[] w fun e w'=>∃ g,e = .returned (.pointer (some ⟨g,0,none⟩)) /\ w.heap.size <= g /\ Adl w' g [] /\ Only [] w w':=by
 go_enter Tryz.func48,Tryz.ntmps48
 go_wp2
 go_ret
 exact ⟨_,rfl,Nat.le_refl _,⟨0,by omega,rfl,Has.new w _ _⟩,(Only.refl [] w).alloc _⟩
theorem crcSum_any (g : Nat) (l : List UInt8) (w : World) (h : Crc w g l) :
    Calls Tryz.prog 207 #[.pointer (some ⟨g, 0, none⟩)] w fun e w' => e = .returned (.int .u32 ((4294967295 - crcList 4294967295 l : Nat) : Int)) /\ w = w' := by
  have c0 : w.cell? ⟨g, 0, none⟩ = some (.int .u32 ((4294967295 - crcList 4294967295 l : Nat) : Int)) := h.cell 0
  clear h
  generalize ((4294967295 - crcList 4294967295 l : Nat) : Int) = s at *
  go_enter Tryz.func207, Tryz.ntmps207
  go_wp2
  go_ret
  exact ⟨rfl, rfl⟩
theorem adOf_lt (l : List UInt8) : (adOf l).1 < 65521 /\ (adOf l).2 < 65521:=adList_lt (by decide) l
theorem adlerSum_any (g : Nat) (l : List UInt8) (w : World) (h : Adl w g l) :
 Calls Tryz.prog 210 #[.pointer (some ⟨g,0,none⟩)] w fun e w'=>e = .returned (.int .u32 ((adWord (adOf l) : Nat) : Int)) /\ ∃ m,w' = w.drewN m:=by
 obtain ⟨a,ha,ha2,h⟩:=h
 have c0 : w.cell? ⟨g,0,none⟩ = some (.int .u32 (a : Int)):=h.cell 0
 have c1 : w.cell? ⟨g,1,none⟩ = some (.int .u32 ((adOf l).2 : Int)):=h.cell 1
 have hl:=adOf_lt l
 have hw : adWord (adOf l) = (adOf l).2 * 65536 + (adOf l).1:=rfl
 rw [hw,<- ha2]
 clear h hw ha2
 obtain ⟨_,hl⟩:=hl
 generalize (adOf l).2 = t at *
 go_enter Tryz.func210,Tryz.ntmps210
 go_wp2
 go_quiet (fail)
 go_wp2
 go_ret
 refine ⟨ret_int ?_,_,rfl⟩
 have h2 : (a + 1) % 65521 < 2 ^ 16:=by omega
 have e:=u32_join ((a + 1) % 65521) t 16 h2 (by omega)
 rw [u32_or_nat _ _ (by omega) (by omega)] at e
 have e1 : ((t : Int) * 65536) = ((t * 2 ^ 16 : Nat) : Int):=by omega
 have e2 : ((a : Int) + 1) % 65521 = (((a + 1) % 65521 : Nat) : Int):=by omega
 rw [e1,e2,u32_or_nat _ _ (by omega) (by omega),Nat.or_comm,e]
 omega
theorem adFree_snd (p : Nat × Nat) (l : List UInt8) : 2 * (adFree p l).2 <= 2 * p.2 + 2 * (l.length * p.1) + 255 * (l.length * (l.length + 1)):=by
 induction l generalizing p with
 | nil=>simp [adFree]
 | cons b l ih =>
   have hb:=b.toNat_lt
   have h:=ih (p.1 + b.toNat,p.2 + (p.1 + b.toNat))
   rw [adFree,List.length_cons]
   refine Nat.le_trans h ?_
   show 2 * (p.2 + (p.1 + b.toNat)) + 2 * (l.length * (p.1 + b.toNat)) + 255 * (l.length * (l.length + 1)) <= 2 * p.2 + 2 * ((l.length + 1) * p.1) + 255 * ((l.length + 1) * (l.length + 1 + 1))
   have h3 : l.length * b.toNat <= l.length * 255:=Nat.mul_le_mul_left _ (by omega)
   have e1 : l.length * (p.1 + b.toNat) = l.length * p.1 + l.length * b.toNat:=Nat.mul_add _ _ _
   have e2 : (l.length + 1) * p.1 = l.length * p.1 + p.1:=by rw [Nat.add_mul,Nat.one_mul]
   have e3 : (l.length + 1) * (l.length + 1 + 1) = l.length * (l.length + 1) + 2 * (l.length + 1):=by
    rw [show l.length + 1 + 1 = l.length + 2 from rfl,Nat.mul_add,Nat.mul_comm (l.length + 1) l.length,Nat.mul_comm (l.length + 1) 2]
   omega
theorem adFree_fit {a t : Nat} (ha : a < 65521) (ht : t < 65521) (l : List UInt8) (hl : l.length <= 5552) :
 1 <= (adFree (a + 1,t) l).1 /\ (adFree (a + 1,t) l).1 < 4294967296 /\ (adFree (a + 1,t) l).2 < 4294967296:=by
 have h1:=adFree_fst (a + 1,t) l
 have h2:=(adFree_le (a + 1,t) l).1
 have h3:=adFree_snd (a + 1,t) l
 have e1 : l.length * (a + 1) <= 5552 * 65521:=Nat.mul_le_mul hl (by omega)
 have e2 : l.length * (l.length + 1) <= 5552 * 5553:=Nat.mul_le_mul hl (by omega)
 simp only at h1 h2 h3
 omega
theorem adOf_append (l m : List UInt8) : adOf (l ++ m) = adList (adOf l) m:=adList_append _ _ _
set_option maxHeartbeats 1000000 in
theorem add_any (g : Nat) (l0 : List UInt8) (A : Option Addr) (n c : Nat) (l : List UInt8) (w : World) (h : Adl w g l0) (hb : Holds w 1 A n (bvals l)) (hl : l.length = n) (hn : n <= 5552) :
 Calls Tryz.prog 212 #[.pointer (some ⟨g,0,none⟩),.slice A n c] w fun e w' =>
  e = .returned (.tuple #[]) /\ Adl w' g (l0 ++ l) /\ Only [g] w w':=by
 subst hl
 obtain ⟨a,ha,ha1,h⟩:=h
 have c0 : w.cell? ⟨g,0,none⟩ = some (.int .u32 (a : Int)):=h.cell 0
 have c1 : w.cell? ⟨g,1,none⟩ = some (.int .u32 ((adOf l0).2 : Int)):=h.cell 1
 have f0 : w.frozen? ⟨g,0,none⟩ = false:=h.free 0
 have f1 : w.frozen? ⟨g,1,none⟩ = false:=h.free 1
 have ht:=(adOf_lt l0).2
 obtain ⟨t,htt⟩ : ∃ t,t = (adOf l0).2:=⟨_,rfl⟩
 rw [<- htt] at c1 h ht
 have HT:=hide (aI htt ha1)
 have HH:=hide h
 have HB:=hide hb
 clear htt ha1 h hb
 go_enter Tryz.func212,Tryz.ntmps212
 go_wp2
 go_quiet (fail)
 go_wp2
 go_loop [4,5,19] (fun x y i=>∃ j : Nat,j <= l.length /\ i = .int .i64 j /\ x = .int .u32 ((adFree (a + 1,t) (l.take j)).1 : Int) /\ y = .int .u32 ((adFree (a + 1,t) (l.take j)).2 : Int)) (fun _ _ i=>l.length - (intOf i).toNat)
 case atStart=>exact ⟨0,Nat.zero_le _,rfl,rfl,rfl⟩
 case round =>
  obtain ⟨j,hj,rfl,rfl,rfl⟩:=hrel
  have hfit:=adFree_fit ha ht (l.take j) (by simp; omega)
  by_cases hlt : j < l.length
  ·have hst : adFree (a + 1,t) (l.take (j + 1)) = ((adFree (a + 1,t) (l.take j)).1 + l[j].toNat,(adFree (a + 1,t) (l.take j)).2 + ((adFree (a + 1,t) (l.take j)).1 + l[j].toNat)):=by
    rw [List.take_succ_eq_append_getElem hlt,adFree_append]; rfl
   have hfit2:=adFree_fit ha ht (l.take (j + 1)) (by simp; omega)
   obtain ⟨b,o,rfl,hc2⟩:=HB.out.addr (by simpa using (show 0 < l.length by omega))
   have hcell : w.cell? ⟨b,o + j,none⟩ = some (.int .u8 (l[j].toNat : Int)):=hc2 j _ (bvals_get l j hlt)
   have hx:=l[j].toNat_lt
   rw [hst] at hfit2
   have HS:=hide hst
   clear hc2 hst
   generalize l[j].toNat = x at *
   generalize adFree (a + 1,t) (l.take j) = p at *
   obtain ⟨p1,p2⟩:=p
   simp only at hfit hfit2 ⊢
   go_wp2
   go_round
   case rel=>exact ⟨j + 1,hlt,by go_num,by rw [HS.out]; rfl,by rw [HS.out]; simp⟩
   case measure=>simp [intOf]; omega
  ·obtain rfl : j = l.length:=by omega
   have htk : l.take l.length = l:=List.take_length
   rw [htk] at hfit
   rw [htk]
   clear htk
   obtain ⟨p,hp⟩ : ∃ p,p = adFree (a + 1,t) l:=⟨_,rfl⟩
   rw [<- hp] at hfit ⊢
   have HP:=hide hp
   clear hp hlt
   obtain ⟨p1,p2⟩:=p
   simp only at hfit ⊢
   go_wp2
   have hadl : adOf (l0 ++ l) = (p1 % 65521,p2 % 65521):=by
    rw [adOf_append,show adOf l0 = ((a + 1) % 65521,t % 65521) from Prod.ext HT.out.2.symm (by show (adOf l0).2 = t % 65521; rw [<- HT.out.1]; omega),adList_free (a + 1,t) l,<- HP.out]
   have e1 : ((p1 : Int) - 1) % 65521 = (((p1 - 1) % 65521 : Nat) : Int):=by omega
   have e2 : (p2 : Int) % 65521 = ((p2 % 65521 : Nat) : Int):=by omega
   rw [e1,e2]
   have q:=((HH.out.drewN nq).set 0 (.int .u32 (((p1 - 1) % 65521 : Nat) : Int))).set 1 (.int .u32 ((p2 % 65521 : Nat) : Int))
   go_end0
   refine ⟨rfl,⟨(p1 - 1) % 65521,by omega,?_,?_⟩,(((Only.refl _ w).drewN nq).setCell (by simp) _).setCell (by simp) _⟩
   ·rw [hadl]; show _ = p1 % 65521; omega
   ·rw [hadl]; exact q
theorem Adl.only {w w' : World} {g : Nat} {l : List UInt8} {S : List Nat} (h : Adl w g l) (ho : Only S w w') (hg : g ∉ S) : Adl w' g l:=by
 obtain ⟨a,h1,h2,h3⟩:=h
 exact ⟨a,h1,h2,h3.only ho hg⟩
theorem Adl.lt {w : World} {g : Nat} {l : List UInt8} (h : Adl w g l) : g < w.heap.size:=by
 obtain ⟨a,h1,h2,h3⟩:=h
 exact h3.lt
set_option maxHeartbeats 1000000 in
theorem adlerWrite_any (g : Nat) (l0 : List UInt8) (A : Option Addr) (n c : Nat) (l : List UInt8) (w : World) (h : Adl w g l0) (hb : Holds w 1 A n (bvals l)) (hl : l.length = n) (hn : n <= 140737488355328) (hc : n <= c) (hA : 0 < n -> ∀ ad,A = some ad -> ad.block ≠ g) :
 Calls Tryz.prog 211 #[.pointer (some ⟨g,0,none⟩),.slice A n c] w fun e w' =>
  e = .returned (.tuple #[.int .i64 n,.nilIface]) /\ Adl w' g (l0 ++ l) /\ Only [g] w w':=by
 subst hl
 have HH:=hide h
 have HB:=hide hb
 have HA:=hide hA
 clear h hb hA
 go_enter Tryz.func211,Tryz.ntmps211
 go_wp2
 go_loopw [1] (fun s wr=>∃ (j c' : Nat) (B : Option Addr),j <= l.length /\ s = .slice B (l.length - j) c' /\ l.length - j <= c' /\ Holds wr 1 B (l.length - j) (bvals (l.drop j)) /\ (0 < l.length - j -> ∀ ad,B = some ad -> ad.block ≠ g) /\ Adl wr g (l0 ++ l.take j) /\ Only [g] w wr) (fun s _=>match s with | .slice _ n _=>n | _=>0)
 case atStart=>exact ⟨0,c,A,Nat.zero_le _,rfl,hc,by simpa using HB.out,HA.out,by simpa using HH.out,Only.refl _ _⟩
 case round =>
  obtain ⟨j,c',B,hj,rfl,hc',hBj,hne,hAj,hoj⟩:=hrel
  by_cases hlt : j < l.length
  ·obtain ⟨r,hr⟩ : ∃ r,r = l.length - j:=⟨_,rfl⟩
   rw [<- hr] at hBj hc' hne ⊢
   have hr0 : 0 < r:=by omega
   have hrn : r <= l.length:=by omega
   obtain ⟨b,o,rfl,hcell⟩:=hBj.addr (by simp [bvals]; omega)
   have hne2:=hne hr0 _ rfl
   have HE:=hide (aI hAj (aI hoj hBj))
   have HR:=hide (aI hr hlt)
   clear hAj hoj hBj hcell hr hne hlt
   by_cases hbig : (5552 : Int) < r
   ·have hcut:=HE.out.2.2.cut (f:=0) (m:=5552) (by omega)
    have hcut2:=HE.out.2.2.cut (f:=5552) (m:=r - 5552) (by omega)
    simp only [List.drop_zero,Nat.mul_one,Option.map_some,add_none,Nat.add_zero] at hcut hcut2
    rw [<- bvals_take] at hcut
    have htk : (l.drop (j + 5552)).take (r - 5552) = l.drop (j + 5552):=List.take_of_length_le (by have:=HR.out.1; rw [List.length_drop]; omega)
    rw [<- bvals_drop,<- bvals_take,List.drop_drop,htk] at hcut2
    have hrj : r - 5552 = l.length - (j + 5552):=by have:=HR.out.1; omega
    have HJ:=hide hrj
    clear hrj htk
    have HC:=hide (aI hcut hcut2)
    clear hcut hcut2
    go_wp2_with fail
    refine (add_any g (l0 ++ l.take j) _ 5552 c' ((l.drop j).take 5552) wr HE.out.1 HC.out.1 (by have:=HR.out; simp; omega) (by omega)).mono ?_
    rintro e w1 ⟨rfl,hA1,ho1⟩
    have H1:=hide (aI hA1 ho1)
    clear hA1 ho1
    go_wp2_with fail
    go_roundw
    case rel =>
     have ⟨q1,q2⟩:=HR.out
     refine ⟨j + 5552,_,_,by omega,by rw [HJ.out],by omega,?_,fun _ ad ha=>?_,?_,HE.out.2.1.trans H1.out.2 (by simp)⟩
     ·have h3:=(HC.out.2.keep H1.out.2 (by simpa using fun _=>hne2))
      rw [HJ.out] at h3
      exact h3
     ·injection ha with ha; subst ha; exact hne2
     ·have h3:=H1.out.1
      rw [List.append_assoc,<- List.take_add] at h3
      exact h3
    case measure=>show r - 5552 < r; omega
   ·go_wp2_with fail
    refine (add_any g (l0 ++ l.take j) _ r c' (l.drop j) wr HE.out.1 HE.out.2.2 (by have:=HR.out; simp; omega) (by omega)).mono ?_
    rintro e w1 ⟨rfl,hA1,ho1⟩
    have H1:=hide (aI hA1 ho1)
    clear hA1 ho1
    go_wp2_with fail
    go_roundw
    case rel =>
     have ⟨q1,q2⟩:=HR.out
     refine ⟨l.length,_,_,Nat.le_refl _,by rw [Nat.sub_self],by omega,?_,fun h=>by omega,?_,HE.out.2.1.trans H1.out.2 (by simp)⟩
     ·rw [Nat.sub_self,List.drop_length]; exact Holds.empty _ _ _
     ·have h3:=H1.out.1
      rw [List.append_assoc,List.take_append_drop] at h3
      rw [List.take_length]
      exact h3
    case measure=>show 0 < r; omega
  ·obtain rfl : j = l.length:=by omega
   have H1:=hide (aI hAj hoj)
   clear hBj hAj hoj hne hlt
   rw [Nat.sub_self]
   go_wp2_with fail
   go_ret2
   have h3:=H1.out.1
   rw [List.take_length] at h3
   exact ⟨rfl,h3,H1.out.2⟩
def tabAt (j : Nat) : Array Value:=((List.range 16).map fun i=>Value.int .u32 ((if i < j then crcIt 4 i else 0 : Nat) : Int)).toArray
theorem tabAt_size (j : Nat) : (tabAt j).size = 16:=by simp [tabAt]
theorem tabAt_get (j i : Nat) (hi : i < 16) : (tabAt j)[i]? = some (.int .u32 ((if i < j then crcIt 4 i else 0 : Nat) : Int)):=by simp [tabAt,hi]
theorem tabAt_step (j : Nat) : (tabAt j).setIfInBounds j (.int .u32 ((crcIt 4 j : Nat) : Int)) = tabAt (j + 1):=by
 apply Array.ext_getElem?
 intro i
 rw [Array.getElem?_setIfInBounds,tabAt_size]
 by_cases hi : i < 16
 ·rw [tabAt_get _ _ hi,tabAt_get _ _ hi]
  by_cases h : j = i
  ·subst h; simp [hi]
  ·rw [if_neg h]
   by_cases h2 : i < j
   ·simp [h2,show i < j + 1 by omega]
   ·simp [h2,show ¬ i < j + 1 by omega]
 ·have h1 : (tabAt j)[i]? = none:=Array.getElem?_eq_none (by rw [tabAt_size]; omega)
  have h2 : (tabAt (j + 1))[i]? = none:=Array.getElem?_eq_none (by rw [tabAt_size]; omega)
  rw [h1,h2]
  by_cases h : j = i
  ·rw [if_pos h,if_neg (by omega)]
  ·rw [if_neg h]
theorem crcIt_succ (k r : Nat) : crcIt (k + 1) r = crcBit (crcIt k r):=by
 induction k generalizing r with
 | zero=>rfl
 | succ k ih=>rw [crcIt,ih]; rfl
theorem tabAt_one (j : Nat) : (tabAt j).all (·.oneCell') = true:=by
 rw [Array.all_eq_true_iff_forall_mem]
 intro v hv
 simp [tabAt] at hv
 obtain ⟨a,_,rfl⟩:=hv
 rfl
theorem u32_and1' (v : Nat) (hv : v < 4294967296) : bits .and .u32 (v : Int) 1 = ((v % 2 : Nat) : Int):=by
 have:=u32_and_nat v 1 hv (by omega)
 rw [Nat.and_one_is_mod] at this
 exact this
theorem u32_crcBit (v : Nat) (hv : v < 4294967296) :
 bits .xor .u32 ((v : Int) / 2) (bits .and .u32 3988292384 (-(bits .and .u32 (v : Int) 1) % 4294967296)) = ((crcBit v : Nat) : Int):=by
 have e1 : bits .and .u32 (v : Int) 1 = ((v % 2 : Nat) : Int):=by
  have:=u32_and_nat v 1 hv (by omega)
  rw [Nat.and_one_is_mod] at this
  exact this
 have e2 : (v : Int) / 2 = ((v / 2 : Nat) : Int):=by omega
 rw [e1,e2]
 unfold crcBit
 rcases Nat.mod_two_eq_zero_or_one v with h | h
 ·rw [h,if_neg (by omega)]
  have : bits .and .u32 3988292384 (-((0 : Nat) : Int) % 4294967296) = ((0 : Nat) : Int):=by decide +kernel
  rw [this,u32_xor_nat _ _ (by omega) (by omega),Nat.xor_zero]
 ·rw [h,if_pos rfl]
  have : bits .and .u32 3988292384 (-((1 : Nat) : Int) % 4294967296) = ((3988292384 : Nat) : Int):=by decide +kernel
  rw [this,u32_xor_nat _ _ (by omega) (by omega)]
  rfl
set_option maxHeartbeats 1000000 in
theorem steps_any (w : World) : Calls Tryz.prog 209 #[] w fun e w'=>e = .returned (.agg (tabAt 16)) /\ Only [] w w':=by
 go_enter Tryz.func209,Tryz.ntmps209
 go_wp2
 go_loopw [4] (fun i wr=>∃ (j : Nat) (old : Array Value),j <= 16 /\ i = .int .i64 j /\ old.size = 16 /\ Has wr w.heap.size 286 old /\ Has wr (w.heap.size + 1) 286 (tabAt j) /\ Only [] w wr) (fun i _=>16 - (intOf i).toNat)
 case atStart =>
  refine ⟨0,_,Nat.zero_le _,rfl,?_,(Has.new w _ _).alloc _,?_,((Only.refl [] w).alloc _).alloc _⟩
  ·rfl
  ·have:=Has.new (w.alloc (.cells #[.int .u32 0,.int .u32 0,.int .u32 0,.int .u32 0,.int .u32 0,.int .u32 0,.int .u32 0,.int .u32 0,.int .u32 0,.int .u32 0,.int .u32 0,.int .u32 0,.int .u32 0,.int .u32 0,.int .u32 0,.int .u32 0] 286)) 286 (tabAt 0)
   rw [World.size_alloc] at this
   exact this
 case round =>
  obtain ⟨j,old,hj,rfl,hos,h0,h1,ho⟩:=hrel
  by_cases hlt : j < 16
  ·have f1 : wr.frozen? ⟨w.heap.size + 1,j,none⟩ = false:=h1.free j
   have c1 : wr.cell? ⟨w.heap.size + 1,j,none⟩ = some (.int .u32 0):=by
    rw [h1.cell,tabAt_get _ _ hlt]; simp
   have H:=hide (aI h0 (aI h1 ho))
   clear h0 h1 ho
   go_wp2
   go_loop [3,9] (fun v i=>∃ k : Nat,k <= 4 /\ i = .int .i64 k /\ v = .int .u32 ((crcIt k j : Nat) : Int)) (fun _ i=>4 - (intOf i).toNat)
   case atStart=>exact ⟨0,Nat.zero_le _,rfl,rfl⟩
   case round =>
    obtain ⟨k,hk,rfl,rfl⟩:=hrel
    have hb:=crcIt_lt k (show j < 4294967296 by omega)
    by_cases hlt4 : k < 4
    ·have e:=u32_crcBit (crcIt k j) hb
     have hs:=hide (crcIt_succ k j)
     generalize crcIt k j = v at *
     go_wp2
     go_round
     case rel=>exact ⟨k + 1,hlt4,by go_num,by rw [hs.out]⟩
     case measure=>simp [intOf]; omega
    ·obtain rfl : k = 4:=by omega
     clear hlt4 hb
     have hs : (tabAt j).setIfInBounds j (.int .u32 ((crcIt 4 j : Nat) : Int)) = tabAt (j + 1):=tabAt_step j
     have H2:=hide hs
     clear hs
     go_wp2
     go_roundw
     case rel =>
      have a:=H.out.2.1.set j (.int .u32 ((crcIt 4 j : Nat) : Int))
      rw [H2.out] at a
      exact ⟨j + 1,old,hlt,by go_num,hos,H.out.1.other (by simp) _,a,H.out.2.2.setCell (by simp) _⟩
     case measure=>simp [intOf]; omega
  ·obtain rfl : j = 16:=by omega
   have H1:=hide h1
   have H0:=hide h0
   have HO:=hide ho
   clear h0 h1 ho hlt
   go_wp2_with (first
    | (refine wpList_load_row rfl 286 (.tmp 1) rfl (w.heap.size + 1) rfl 286 (tabAt 16) (0,0) _ H1.out Tryz.underlying286 rfl (by kernel_rfl) ?_)
    | (refine list_store_row rfl 286 (.tmp 0) (.tmp 23) rfl w.heap.size (tabAt 16) rfl rfl 286 old H0.out (by kernel_rfl) (by rw [tabAt_size]; exact hos) (tabAt_one 16) ?_))
   have hr:=H0.out.setRow (tabAt 16)
   refine bodyPost_ret (results_cell_row Tryz.results209 _ _ w.heap.size 286 (tabAt 16) (0,0) _ rfl hr Tryz.underlying286 rfl (by kernel_rfl)) rfl ⟨rfl,HO.out.setRow (by simp) _⟩
theorem crcIt_add (a b r : Nat) : crcIt (a + b) r = crcIt b (crcIt a r):=by
 induction a generalizing r with
 | zero=>rw [Nat.zero_add]; rfl
 | succ a ih=>rw [Nat.add_right_comm,crcIt,ih]; rfl
theorem u32_crc4 (v k : Nat) (hv : v < 4294967296) (hk : k = v % 16) : bits .xor .u32 ((v : Int) / 16) ((crcIt 4 k : Nat) : Int) = ((crcIt 4 v : Nat) : Int):=by
 have e2 : (v : Int) / 16 = ((v / 16 : Nat) : Int):=by omega
 have hb:=crcIt_lt 4 (show k < 4294967296 by omega)
 rw [e2,u32_xor_nat _ _ (by omega) hb,crcIt_table 4 v,Nat.xor_comm,hk]
theorem u32_and15 (v : Nat) (hv : v < 4294967296) : bits .and .u32 (v : Int) 15 = ((v % 16 : Nat) : Int):=by
 have:=u32_and_nat v 15 hv (by omega)
 rw [Nat.and_two_pow_sub_one_eq_mod v 4] at this
 exact this
set_option maxHeartbeats 1000000 in
theorem crcWrite_any (g : Nat) (l0 : List UInt8) (A : Option Addr) (n c : Nat) (l : List UInt8) (w : World) (h : Crc w g l0) (hb : Holds w 1 A n (bvals l)) (hl : l.length = n) (hn : n <= 140737488355328) :
 Calls Tryz.prog 208 #[.pointer (some ⟨g,0,none⟩),.slice A n c] w fun e w' =>
  e = .returned (.tuple #[.int .i64 n,.nilIface]) /\ Crc w' g (l0 ++ l) /\ Only [g] w w':=by
 subst hl
 go_enter Tryz.func208,Tryz.ntmps208
 go_wp2_with fail
 refine (steps_any w).mono ?_
 rintro e w1 ⟨rfl,ho1⟩
 have h1:=h.only ho1 (by simp)
 have hb1:=hb.keep ho1 (by simp)
 have HB:=hide hb1
 have Hblk:=hide hb1.blk
 clear hb hb1
 have hT:=Has.new w1 286 (tabAt 0)
 have HT:=hide hT
 clear h hT
 have glt:=h1.lt
 have hv0 : crcList 4294967295 l0 < 4294967296:=crcList_lt (by omega) l0
 obtain ⟨v0,hv⟩ : ∃ v,v = crcList 4294967295 l0:=⟨_,rfl⟩
 rw [<- hv] at h1 hv0
 have HV:=hide hv
 have eN:=u32_not_not v0 hv0
 have hsg : IntKind.u32.signed = false:=rfl
 clear hv
 have HE:=hide (aI ho1 h1)
 clear ho1 h1
 go_wp2_with (refine list_store_row' rfl 286 (.tmp 6) (.tmp 10) rfl w1.heap.size (tabAt 16) rfl rfl 286 (tabAt 0) HT.out (by kernel_rfl) (by rw [tabAt_size,tabAt_size]) (tabAt_one 16) ?_; intro w2 hT2 hO2; have c0 : w2.cell? ⟨g,0,none⟩ = some (.int .u32 ((4294967295 - v0 : Nat) : Int)):=((HE.out.2.alloc _).only hO2 (by simp; omega)).cell 0; have f0 : w2.frozen? ⟨g,0,none⟩ = false:=((HE.out.2.alloc _).only hO2 (by simp; omega)).free 0; have hb2:=(HB.out.keep ((Only.refl [] _).alloc _) (by simp)).keepPos hO2 (fun h0 ad ha _=>by have:=Hblk.out h0 ad ha; simp; omega); have HB2:=hide hb2; clear hb2; have HT2:=hide hT2; have HO2:=hide hO2; clear hT2 hO2)
 go_loop [7,18] (fun v i=>∃ j : Nat,j <= l.length /\ i = .int .i64 j /\ v = .int .u32 ((crcList v0 (l.take j) : Nat) : Int)) (fun _ i=>l.length - (intOf i).toNat)
 case atStart=>exact ⟨0,Nat.zero_le _,rfl,rfl⟩
 case round =>
  obtain ⟨j,hj,rfl,rfl⟩:=hrel
  have hbv:=crcList_lt hv0 (l.take j)
  by_cases hlt : j < l.length
  ·have hst : crcList v0 (l.take (j + 1)) = crcByte (crcList v0 (l.take j)) l[j].toNat:=by
    rw [List.take_succ_eq_append_getElem hlt,crcList_append]; rfl
   obtain ⟨b,o,rfl,hc2⟩:=HB2.out.addr (by simpa using (show 0 < l.length by omega))
   have hcell : w2.cell? ⟨b,o + j,none⟩ = some (.int .u8 (l[j].toNat : Int)):=hc2 j _ (bvals_get l j hlt)
   have hx:=l[j].toNat_lt
   clear hc2
   generalize l[j].toNat = x at *
   generalize crcList v0 (l.take j) = v at *
   obtain ⟨v1,hv1⟩ : ∃ y,y = v ^^^ x:=⟨_,rfl⟩
   have b1 : v1 < 4294967296:=by rw [hv1]; exact Nat.xor_lt_two_pow (n:=32) hbv (by omega)
   have e1 : bits .xor .u32 (v : Int) (x : Int) = (v1 : Int):=by rw [hv1]; exact u32_xor_nat _ _ hbv (by omega)
   obtain ⟨v2,hv2⟩ : ∃ y,y = crcIt 4 v1:=⟨_,rfl⟩
   have b2 : v2 < 4294967296:=by rw [hv2]; exact crcIt_lt 4 b1
   obtain ⟨v3,hv3⟩ : ∃ y,y = crcIt 4 v2:=⟨_,rfl⟩
   have hst2 : crcList v0 (l.take (j + 1)) = v3:=by
    rw [hst,hv3,hv2,hv1,<- crcIt_add]; rfl
   obtain ⟨k1,hk1⟩ : ∃ y,y = v1 % 16:=⟨_,rfl⟩
   obtain ⟨t1,ht1⟩ : ∃ y,y = crcIt 4 k1:=⟨_,rfl⟩
   have q1 : k1 < 16:=by omega
   have c1 : w2.cell? ⟨w1.heap.size,k1,none⟩ = some (.int .u32 (t1 : Int)):=by rw [HT2.out.cell,tabAt_get _ _ q1,if_pos q1,ht1]
   have a1 : bits .and .u32 (v1 : Int) 15 = (k1 : Int):=by rw [u32_and15 v1 b1,hk1]
   have x1 : bits .xor .u32 ((v1 : Int) / 16) (t1 : Int) = (v2 : Int):=by rw [ht1,hv2]; exact u32_crc4 v1 k1 b1 hk1
   obtain ⟨k2,hk2⟩ : ∃ y,y = v2 % 16:=⟨_,rfl⟩
   obtain ⟨t2,ht2⟩ : ∃ y,y = crcIt 4 k2:=⟨_,rfl⟩
   have q2 : k2 < 16:=by omega
   have c2 : w2.cell? ⟨w1.heap.size,k2,none⟩ = some (.int .u32 (t2 : Int)):=by rw [HT2.out.cell,tabAt_get _ _ q2,if_pos q2,ht2]
   have a2 : bits .and .u32 (v2 : Int) 15 = (k2 : Int):=by rw [u32_and15 v2 b2,hk2]
   have x2 : bits .xor .u32 ((v2 : Int) / 16) (t2 : Int) = (v3 : Int):=by rw [ht2,hv3]; exact u32_crc4 v2 k2 b2 hk2
   have HS:=hide hst2
   clear hst hst2 hv1 hv2 hv3 hk1 hk2 ht1 ht2
   go_wp2
   go_round
   case rel=>exact ⟨j + 1,hlt,by go_num,by rw [HS.out]⟩
   case measure=>simp [intOf]; omega
  ·obtain rfl : j = l.length:=by omega
   have hbv' : crcList v0 l < 4294967296:=crcList_lt hv0 l
   have ht : l.take l.length = l:=List.take_length
   rw [ht] at hbv
   rw [ht]
   have e2:=u32_not _ hbv'
   have hfin : crcList 4294967295 (l0 ++ l) = crcList v0 l:=by rw [crcList_append,<- HV.out]
   have HF:=hide hfin
   clear ht hlt hfin
   generalize crcList v0 l = v at *
   go_wp2
   go_ret2
   have q:=((HE.out.2.alloc _).only HO2.out (by simp; omega)).set 0 (.int .u32 ((4294967295 - v : Nat) : Int))
   have hsz:=HE.out.1.size
   refine ⟨rfl,?_,((HE.out.1.alloc _).trans HO2.out (by simp; omega)).of_nil.setCell (by simp) _⟩
   unfold Crc
   rw [HF.out]
   exact q
set_option maxHeartbeats 1000000 in
theorem refCrc_any (A : Option Addr) (n c : Nat) (l : List UInt8) (w : World) (hb : Holds w 1 A n (bvals l)) (hl : l.length = n) (hn : n <= 140737488355328) :
    Calls Tryz.prog 61 #[.slice A n c] w fun e w' => e = .returned (.int .u32 ((4294967295 - crcList 4294967295 l : Nat) : Int)) /\ w = w' := by
  subst hl
  have HB := hide hb
  clear hb
  have hsg : IntKind.u32.signed = false := rfl
  go_enter Tryz.func61, Tryz.ntmps61
  go_wp2
  go_loop [3, 4] (fun v i => ∃ j : Nat, j <= l.length /\ i = .int .i64 j /\ v = .int .u32 ((crcList 4294967295 (l.take j) : Nat) : Int)) (fun _ i => l.length - (intOf i).toNat)
  case atStart => exact ⟨0, Nat.zero_le _, rfl, rfl⟩
  case round =>
    obtain ⟨j, hj, rfl, rfl⟩ := hrel
    have hbv := crcList_lt (show 4294967295 < 4294967296 by omega) (l.take j)
    by_cases hlt : j < l.length
    · have hst : crcList 4294967295 (l.take (j + 1)) = crcByte (crcList 4294967295 (l.take j)) l[j].toNat := by
        rw [List.take_succ_eq_append_getElem hlt, crcList_append]; rfl
      obtain ⟨b, o, rfl, hc2⟩ := HB.out.addr (by simpa using (show 0 < l.length by omega))
      have hcell : w.cell? ⟨b, o + j, none⟩ = some (.int .u8 (l[j].toNat : Int)) := hc2 j _ (bvals_get l j hlt)
      have hx := l[j].toNat_lt
      clear hc2
      generalize l[j].toNat = x at *
      generalize crcList 4294967295 (l.take j) = v at *
      obtain ⟨v1, hv1⟩ : ∃ y, y = v ^^^ x := ⟨_, rfl⟩
      have b1 : v1 < 4294967296 := by rw [hv1]; exact Nat.xor_lt_two_pow (n := 32) hbv (by omega)
      have e1 : bits .xor .u32 (v : Int) (x : Int) = (v1 : Int) := by rw [hv1]; exact u32_xor_nat _ _ hbv (by omega)
      have hst2 : crcList 4294967295 (l.take (j + 1)) = crcIt 8 v1 := by rw [hst, hv1]; rfl
      have HS := hide hst2
      clear hst hst2 hv1
      go_wp2
      go_loop [3, 5] (fun v i => ∃ k : Nat, k <= 8 /\ i = .int .i64 k /\ v = .int .u32 ((crcIt k v1 : Nat) : Int)) (fun _ i => 8 - (intOf i).toNat)
      case atStart => exact ⟨0, Nat.zero_le _, rfl, rfl⟩
      case round =>
        obtain ⟨k, hk, rfl, rfl⟩ := hrel
        have hb := crcIt_lt k b1
        by_cases hlt8 : k < 8
        · have hs := crcIt_succ k v1
          generalize crcIt k v1 = v at *
          have ea := u32_and1' v hb
          unfold crcBit at hs
          have ed : ((v / 2 : Nat) : Int) = (v : Int) / 2 := by omega
          rcases Nat.mod_two_eq_zero_or_one v with h | h
          · rw [h] at ea hs
            rw [if_neg (by omega)] at hs
            have HS2 := hide (aI hs ed)
            have ea' : bits .and .u32 (v : Int) 1 = 0 := ea
            clear hs ea h ed
            go_wp2
            go_round
            case rel => exact ⟨k + 1, hlt8, by go_num, by rw [HS2.out.1, HS2.out.2]⟩
            case measure => simp [intOf]; omega
          · rw [h] at ea hs
            rw [if_pos rfl] at hs
            have ex : bits .xor .u32 ((v : Int) / 2) 3988292384 = ((v / 2 ^^^ crcP : Nat) : Int) := by
              rw [<- ed]; exact u32_xor_nat (v / 2) crcP (by omega) (by decide)
            have HS2 := hide (aI hs ex)
            have ea' : bits .and .u32 (v : Int) 1 = 1 := ea
            clear hs ea h ed ex
            go_wp2
            go_round
            case rel => exact ⟨k + 1, hlt8, by go_num, by rw [HS2.out.1, HS2.out.2]⟩
            case measure => simp [intOf]; omega
        · obtain rfl : k = 8 := by omega
          have hs := HS.out
          clear hlt8 hb
          rw [<- hs]
          go_wp2
          go_round
          case rel => exact ⟨j + 1, hlt, by go_num, rfl⟩
          case measure => simp [intOf]; omega
    · obtain rfl : j = l.length := by omega
      have ht : l.take l.length = l := List.take_length
      rw [ht] at hbv
      rw [ht]
      have e2 := u32_not _ hbv
      clear ht hlt
      obtain ⟨v, hv⟩ : ∃ v, v = crcList 4294967295 l := ⟨_, rfl⟩
      rw [<- hv] at hbv e2 ⊢
      have HV := hide hv
      clear hv
      go_wp2
      go_ret
      exact ⟨by rw [<- HV.out]; rfl, rfl⟩
set_option maxHeartbeats 1000000 in
theorem refAdler_any (A : Option Addr) (n c : Nat) (l : List UInt8) (w : World) (hb : Holds w 1 A n (bvals l)) (hl : l.length = n) (hn : n <= 140737488355328) :
 Calls Tryz.prog 64 #[.slice A n c] w fun e w'=>e = .returned (.int .u32 ((adWord (adOf l) : Nat) : Int)) /\ w = w':=by
 subst hl
 have HB:=hide hb
 clear hb
 go_enter Tryz.func64,Tryz.ntmps64
 go_wp2
 go_loop [3,4,5] (fun x y i=>∃ j : Nat,j <= l.length /\ i = .int .i64 j /\ x = .int .u32 ((adOf (l.take j)).1 : Int) /\ y = .int .u32 ((adOf (l.take j)).2 : Int)) (fun _ _ i=>l.length - (intOf i).toNat)
 case atStart=>exact ⟨0,Nat.zero_le _,rfl,rfl,rfl⟩
 case round =>
  obtain ⟨j,hj,rfl,rfl,rfl⟩:=hrel
  have hlt2:=adOf_lt (l.take j)
  by_cases hlt : j < l.length
  ·have hst : adOf (l.take (j + 1)) = (((adOf (l.take j)).1 + l[j].toNat) % 65521,((adOf (l.take j)).2 + ((adOf (l.take j)).1 + l[j].toNat) % 65521) % 65521):=by
    rw [List.take_succ_eq_append_getElem hlt]
    exact adList_append _ _ _
   obtain ⟨b,o,rfl,hc2⟩:=HB.out.addr (by simpa using (show 0 < l.length by omega))
   have hcell : w.cell? ⟨b,o + j,none⟩ = some (.int .u8 (l[j].toNat : Int)):=hc2 j _ (bvals_get l j hlt)
   have hx:=l[j].toNat_lt
   have HS:=hide hst
   clear hc2 hst
   generalize l[j].toNat = x at *
   generalize adOf (l.take j) = p at *
   obtain ⟨p1,p2⟩:=p
   simp only at hlt2 ⊢
   go_wp2
   go_round
   case rel=>exact ⟨j + 1,hlt,by go_num,by rw [HS.out]; rfl,by rw [HS.out]; rfl⟩
   case measure=>simp [intOf]; omega
  ·obtain rfl : j = l.length:=by omega
   have htk : l.take l.length = l:=List.take_length
   rw [htk] at hlt2
   rw [htk]
   clear htk hlt
   obtain ⟨p,hp⟩ : ∃ p,p = adOf l:=⟨_,rfl⟩
   rw [<- hp] at hlt2 ⊢
   have HP:=hide hp
   clear hp
   obtain ⟨p1,p2⟩:=p
   simp only at hlt2 ⊢
   go_wp2
   go_ret
   refine ⟨ret_int ?_,rfl⟩
   have hw : adWord (adOf l) = p2 * 65536 + p1:=by rw [<- HP.out]; rfl
   rw [hw]
   have e:=u32_join p1 p2 16 (by omega) (by omega)
   rw [u32_or_nat _ _ (by omega) (by omega)] at e
   have e1 : ((p2 : Int) * 65536) = ((p2 * 2 ^ 16 : Nat) : Int):=by omega
   rw [e1,u32_or_nat _ _ (by omega) (by omega),Nat.or_comm,e]
   omega
structure Part where
 A : Option Addr
 c : Nat
 l : List UInt8
def Part.val (p : Part) : Value:=.slice p.A p.l.length p.c
structure Part.Ok (p : Part) (w : World) (g : Nat) : Prop where
 holds : Holds w 1 p.A p.l.length (bvals p.l)
 cap : p.l.length <= p.c
 max : p.l.length <= 140737488355328
 ne : 0 < p.l.length -> ∀ ad,p.A = some ad -> ad.block ≠ g
def Part.all (ps : List Part) : List UInt8:=(ps.map Part.l).flatten
theorem Part.Ok.only {p : Part} {w w' : World} {g : Nat} (h : p.Ok w g) (ho : Only [g] w w') : p.Ok w' g :=
 ⟨h.holds.keepPos ho (fun h0 ad ha _=>by simpa using h.ne h0 ad ha),h.cap,h.max,h.ne⟩
theorem Part.all_take (ps : List Part) (j : Nat) (h : j < ps.length) : Part.all (ps.take (j + 1)) = Part.all (ps.take j) ++ ps[j].l:=by
 unfold Part.all
 rw [List.take_succ_eq_append_getElem h,List.map_append,List.flatten_append]
 simp
theorem Crc.only {w w' : World} {g : Nat} {l : List UInt8} {S : List Nat} (h : Crc w g l) (ho : Only S w w') (hg : g ∉ S) : Crc w' g l := Has.only h ho hg
theorem Crc.lt {w : World} {g : Nat} {l : List UInt8} (h : Crc w g l) : g < w.heap.size := Has.lt h
theorem crc_write (n : Nat) (a : Addr) (w : World) : (method (n + 1) 94 (.pointer (some a)) "Write").run Tryz.prog w = .ok (208, .pointer (some a)) w := by kernel_rfl
theorem crc_sum (n : Nat) (a : Addr) (w : World) : (method (n + 1) 94 (.pointer (some a)) "Sum").run Tryz.prog w = .ok (207, .pointer (some a)) w := by kernel_rfl
theorem adler_write (n : Nat) (a : Addr) (w : World) : (method (n + 1) 99 (.pointer (some a)) "Write").run Tryz.prog w = .ok (211,.pointer (some a)) w:=by kernel_rfl
theorem adler_sum (n : Nat) (a : Addr) (w : World) : (method (n + 1) 99 (.pointer (some a)) "Sum").run Tryz.prog w = .ok (210,.pointer (some a)) w:=by kernel_rfl
set_option maxHeartbeats 1000000 in
theorem ofCrc_any (g : Nat) (l0 : List UInt8) (P : Option Addr) (k c : Nat) (ps : List Part) (w : World) (h : Crc w g l0) (hP : Holds w 1 P k (ps.map Part.val)) (hk : ps.length = k) (hk2 : k <= 140737488355328)
    (hps : ∀ p ∈ ps, p.Ok w g) (hPne : 0 < k -> ∀ ad, P = some ad -> ad.block ≠ g) :
    Calls Tryz.prog 42 #[.pointer (some ⟨g, 0, none⟩), .slice P k c] w fun e w' =>
      e = .returned (.int .u32 ((4294967295 - crcList 4294967295 (l0 ++ Part.all ps) : Nat) : Int)) /\ Crc w' g (l0 ++ Part.all ps) /\ Only [g] w w' := by
  subst hk
  have HH := hide h
  have HP := hide hP
  have HO := hide (aI hps hPne)
  clear h hP hps hPne
  have m1 := crc_write
  have m2 := crc_sum
  go_enter Tryz.func42, Tryz.ntmps42
  go_wp2
  go_loopw [9] (fun i wr => ∃ j : Nat, j <= ps.length /\ i = .int .i64 j /\ Crc wr g (l0 ++ Part.all (ps.take j)) /\ Only [g] w wr) (fun i _ => ps.length - (intOf i).toNat)
  case atStart => exact ⟨0, Nat.zero_le _, rfl, by simpa [Part.all] using HH.out, Only.refl _ _⟩
  case round =>
    obtain ⟨j, hj, rfl, hCj, hoj⟩ := hrel
    by_cases hlt : j < ps.length
    · have hok := (HO.out.1 ps[j] (List.getElem_mem hlt)).only hoj
      have hP2 := HP.out.keepPos hoj (fun h0 ad ha _ => by simpa using HO.out.2 h0 ad ha)
      obtain ⟨b, o, rfl, hc2⟩ := hP2.addr (by simpa using (show 0 < ps.length by omega))
      have hcell : wr.cell? ⟨b, o + j, none⟩ = some (.slice ps[j].A ps[j].l.length ps[j].c) := hc2 j _ (by simp [hlt, Part.val])
      have hst := Part.all_take ps j hlt
      have HE := hide (aI hCj (aI hoj (aI hok hst)))
      clear hCj hoj hok hst hc2 hP2
      generalize ps[j] = p at *
      obtain ⟨A, cp, l⟩ := p
      simp only at hcell HE
      go_wp2_with fail
      refine (crcWrite_any g _ A l.length cp l wr HE.out.1 HE.out.2.2.1.holds rfl HE.out.2.2.1.max).mono ?_
      rintro e w1 ⟨rfl, hC1, ho1⟩
      have H1 := hide (aI hC1 ho1)
      clear hC1 ho1 hcell
      go_wp2_with fail
      go_roundw
      case rel => exact ⟨j + 1, hlt, by go_num, by rw [HE.out.2.2.2, <- List.append_assoc]; exact H1.out.1, HE.out.2.1.trans H1.out.2 (by simp)⟩
      case measure => simp [intOf]; omega
    · obtain rfl : j = ps.length := by omega
      have ht : ps.take ps.length = ps := List.take_length
      rw [ht] at hCj
      clear ht hlt
      have HE := hide (aI hCj hoj)
      clear hCj hoj
      go_wp2_with fail
      refine (crcSum_any g _ wr HE.out.1).mono ?_
      rintro e w1 ⟨rfl, rfl⟩
      go_wp2_with fail
      go_ret
      exact ⟨rfl, HE.out.1, HE.out.2⟩
set_option maxHeartbeats 1000000 in
theorem ofAdler_any (g : Nat) (l0 : List UInt8) (P : Option Addr) (k c : Nat) (ps : List Part) (w : World) (h : Adl w g l0) (hP : Holds w 1 P k (ps.map Part.val)) (hk : ps.length = k) (hk2 : k <= 140737488355328)
 (hps : ∀ p ∈ ps,p.Ok w g) (hPne : 0 < k -> ∀ ad,P = some ad -> ad.block ≠ g) :
 Calls Tryz.prog 47 #[.pointer (some ⟨g,0,none⟩),.slice P k c] w fun e w' =>
  e = .returned (.int .u32 ((adWord (adOf (l0 ++ Part.all ps)) : Nat) : Int)) /\ Adl w' g (l0 ++ Part.all ps) /\ Only [g] w w':=by
 subst hk
 have HH:=hide h
 have HP:=hide hP
 have HO:=hide (aI hps hPne)
 clear h hP hps hPne
 have m1:=adler_write
 have m2:=adler_sum
 go_enter Tryz.func47,Tryz.ntmps47
 go_wp2
 go_loopw [9] (fun i wr=>∃ j : Nat,j <= ps.length /\ i = .int .i64 j /\ Adl wr g (l0 ++ Part.all (ps.take j)) /\ Only [g] w wr) (fun i _=>ps.length - (intOf i).toNat)
 case atStart=>exact ⟨0,Nat.zero_le _,rfl,by simpa [Part.all] using HH.out,Only.refl _ _⟩
 case round =>
  obtain ⟨j,hj,rfl,hCj,hoj⟩:=hrel
  by_cases hlt : j < ps.length
  ·have hok:=(HO.out.1 ps[j] (List.getElem_mem hlt)).only hoj
   have hP2:=HP.out.keepPos hoj (fun h0 ad ha _=>by simpa using HO.out.2 h0 ad ha)
   obtain ⟨b,o,rfl,hc2⟩:=hP2.addr (by simpa using (show 0 < ps.length by omega))
   have hcell : wr.cell? ⟨b,o + j,none⟩ = some (.slice ps[j].A ps[j].l.length ps[j].c):=hc2 j _ (by simp [hlt,Part.val])
   have hst:=Part.all_take ps j hlt
   have HE:=hide (aI hCj (aI hoj (aI hok hst)))
   clear hCj hoj hok hst hc2 hP2
   generalize ps[j] = p at *
   obtain ⟨A,cp,l⟩:=p
   simp only at hcell HE
   go_wp2_with fail
   refine (adlerWrite_any g _ A l.length cp l wr HE.out.1 HE.out.2.2.1.holds rfl HE.out.2.2.1.max HE.out.2.2.1.cap HE.out.2.2.1.ne).mono ?_
   rintro e w1 ⟨rfl,hC1,ho1⟩
   have H1:=hide (aI hC1 ho1)
   clear hC1 ho1 hcell
   go_wp2_with fail
   go_roundw
   case rel=>exact ⟨j + 1,hlt,by go_num,by rw [HE.out.2.2.2,<- List.append_assoc]; exact H1.out.1,HE.out.2.1.trans H1.out.2 (by simp)⟩
   case measure=>simp [intOf]; omega
  ·obtain rfl : j = ps.length:=by omega
   have ht : ps.take ps.length = ps:=List.take_length
   rw [ht] at hCj
   clear ht hlt
   have HE:=hide (aI hCj hoj)
   clear hCj hoj
   go_wp2_with fail
   refine (adlerSum_any g _ wr HE.out.1).mono ?_
   rintro e w1 ⟨rfl,m,rfl⟩
   go_wp2_with fail
   go_ret
   exact ⟨rfl,HE.out.1.only ((Only.refl [] _).drewN m) (by simp),HE.out.2.drewN m⟩
theorem Part.all_one (p : Part) : Part.all [p] = p.l:=by simp [Part.all]
/-- One part, its slice just laid. -/
theorem ofCrc_one (g : Nat) (l0 : List UInt8) (A : Option Addr) (n c : Nat) (l : List UInt8) (w : World) (h : Crc w g l0) (hp : Part.Ok ⟨A, c, l⟩ w g) (hl : l.length = n) (q : Nat) (hq : q = w.heap.size) :
    Calls Tryz.prog 42 #[.pointer (some ⟨g, 0, none⟩), .slice (some ⟨q, 0, none⟩) 1 1] (w.alloc (.cells #[.slice A n c] 22)) fun e w' =>
      e = .returned (.int .u32 ((4294967295 - crcList 4294967295 (l0 ++ l) : Nat) : Int)) /\ Crc w' g (l0 ++ l) /\ Only [g] w w' := by
  subst hq
  subst hl
  have ho : Only [g] w (w.alloc (.cells #[.slice A l.length c] 22)) := ((Only.refl [] w).alloc _).of_nil
  have glt := h.lt
  refine (ofCrc_any g l0 _ 1 1 [⟨A, c, l⟩] _ (h.only ((Only.refl [] w).alloc _) (by simp)) (Holds.lit w #[.slice A l.length c] 22) rfl (by omega) ?_ ?_).mono ?_
  · intro p hp'
    obtain rfl := List.mem_singleton.1 hp'
    exact hp.only ho
  · intro _ ad ha
    injection ha with ha; subst ha
    show w.heap.size ≠ g
    omega
  · rintro e w' ⟨he, hc, ho2⟩
    rw [Part.all_one] at he hc
    exact ⟨he, hc, ho.trans ho2 (by simp)⟩
theorem ofAdler_one (g : Nat) (l0 : List UInt8) (A : Option Addr) (n c : Nat) (l : List UInt8) (w : World) (h : Adl w g l0) (hp : Part.Ok ⟨A,c,l⟩ w g) (hl : l.length = n) (q : Nat) (hq : q = w.heap.size) :
 Calls Tryz.prog 47 #[.pointer (some ⟨g,0,none⟩),.slice (some ⟨q,0,none⟩) 1 1] (w.alloc (.cells #[.slice A n c] 22)) fun e w' =>
  e = .returned (.int .u32 ((adWord (adOf (l0 ++ l)) : Nat) : Int)) /\ Adl w' g (l0 ++ l) /\ Only [g] w w':=by
 subst hq
 subst hl
 have ho : Only [g] w (w.alloc (.cells #[.slice A l.length c] 22)):=((Only.refl [] w).alloc _).of_nil
 have glt:=h.lt
 refine (ofAdler_any g l0 _ 1 1 [⟨A,c,l⟩] _ (h.only ((Only.refl [] w).alloc _) (by simp)) (Holds.lit w #[.slice A l.length c] 22) rfl (by omega) ?_ ?_).mono ?_
 ·intro p hp'
  obtain rfl:=List.mem_singleton.1 hp'
  exact hp.only ho
 ·intro _ ad ha
  injection ha with ha; subst ha
  show w.heap.size ≠ g
  omega
 ·rintro e w' ⟨he,hc,ho2⟩
  rw [Part.all_one] at he hc
  exact ⟨he,hc,ho.trans ho2 (by simp)⟩
end Go.Proofs.YtjfjmkkkbcgohaaGreatDoor
