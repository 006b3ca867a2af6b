import Derived.Test.YtmfoeihapalkpaaGreatDoorMHufE
namespace Go.Proofs.YtmfoeihapalkpaaGreatDoor
open Go Go.RowKit
theorem i64_or1 (a b : Nat) (hb : b < 2) (h : a < 1073741824) : bits .or .i64 ((a : Int) * 2) (b : Int) = 2 * (a : Int) + (b : Int):=by
 have h1 : (BitVec.ofInt 64 ((a : Int) * 2)).toNat = a * 2 ^ 1:=by rw [BitVec.toNat_ofInt]; omega
 have h2 : (BitVec.ofInt 64 (b : Int)).toNat = b:=by rw [BitVec.toNat_ofInt]; omega
 have key : (BitVec.ofInt 64 ((a : Int) * 2) ||| BitVec.ofInt 64 (b : Int)).toNat = 2 * a + b:=by
  rw [BitVec.toNat_or,h1,h2,Nat.or_comm,or_of_lt (by omega)]; omega
 show IntKind.i64.wrap ((BitVec.ofInt 64 ((a : Int) * 2) ||| BitVec.ofInt 64 (b : Int)).toNat : Nat) = _
 rw [key,IntKind.wrap_i64]
 omega
theorem Has.ne {w : World} {g g' : Nat} {t t' : TypeId} {cs cs' : Array Value} (h : Has w g t cs) (h' : Has w g' t' cs') (ht : t ≠ t') : g ≠ g':=by
 rintro rfl
 unfold Has at h h'
 rw [h] at h'
 injection h' with h'
 injection h' with _ h'
 exact ht h'
structure Seen (l : List UInt8) (N k left j : Nat) (R : Nat × Nat × Nat) : Prop where
 le : j <= Lg (cn l) 15
 have_ : j <= left
 all : scan l N k left (Lg (cn l) 15 - j) (j + 1) = R
 past : Fs (cn l) j + cn l j <= bc N k j
theorem Seen.start (l : List UInt8) (N k left : Nat) : Seen l N k left 0 (readM l N k left):=⟨Nat.zero_le _,Nat.zero_le _,rfl,Nat.le_refl _⟩
theorem Seen.done {l : List UInt8} {N k left : Nat} {R : Nat × Nat × Nat} (h : Seen l N k left (Lg (cn l) 15) R) : R = (0,3,0):=by
 have:=h.all
 rw [Nat.sub_self] at this
 exact this.symm
theorem Seen.short {l : List UInt8} {N k left j : Nat} {R : Nat × Nat × Nat} (h : Seen l N k left j R) (h1 : j < Lg (cn l) 15) (h2 : left < j + 1) : R = (0,2,0):=by
 have:=h.all
 obtain ⟨r,hr⟩ : ∃ r,Lg (cn l) 15 - j = r + 1:=⟨Lg (cn l) 15 - j - 1,by omega⟩
 rw [hr,scan_short h2] at this
 exact this.symm
theorem Seen.hit {l : List UInt8} {N k left j : Nat} {R : Nat × Nat × Nat} (h : Seen l N k left j R) (h1 : j < Lg (cn l) 15) (h2 : ¬ left < j + 1) (h3 : bc N k (j + 1) < Fs (cn l) (j + 1) + cn l (j + 1)) : R = (sy l (j + 1) (bc N k (j + 1) - Fs (cn l) (j + 1)),0,j + 1):=by
 have:=h.all
 obtain ⟨r,hr⟩ : ∃ r,Lg (cn l) 15 - j = r + 1:=⟨Lg (cn l) 15 - j - 1,by omega⟩
 rw [hr,scan_hit h2 h3] at this
 exact this.symm
theorem Seen.next {l : List UInt8} {N k left j : Nat} {R : Nat × Nat × Nat} (h : Seen l N k left j R) (h1 : j < Lg (cn l) 15) (h2 : ¬ left < j + 1) (h3 : ¬ bc N k (j + 1) < Fs (cn l) (j + 1) + cn l (j + 1)) : Seen l N k left (j + 1) R:=by
 refine ⟨h1,by omega,?_,by omega⟩
 have:=h.all
 obtain ⟨r,hr⟩ : ∃ r,Lg (cn l) 15 - j = r + 1:=⟨Lg (cn l) 15 - j - 1,by omega⟩
 rw [hr,scan_next h2 h3] at this
 rw [show Lg (cn l) 15 - (j + 1) = r by omega]
 exact this
theorem Seen.ge {l : List UInt8} {N k left j : Nat} {R : Nat × Nat × Nat} (h : Seen l N k left j R) : Fs (cn l) (j + 1) <= bc N k (j + 1):=by
 have:=h.past
 rw [Fs_succ,bc_succ]; omega
theorem dealt_sy {l : List UInt8} {S : Nat -> Nat} (h : Dealt l l.length S) {n j : Nat} (hn : n ≠ 0) (hj : j < cn l n) : S (Bf (cn l) n + j) = sy l n j /\ sy l n j < l.length /\ Bf (cn l) n + j < l.length:=by
 obtain ⟨i,hi,rfl,rfl⟩:=rk_sur hn hj
 have h1:=h i hi hn
 have h2:=sy_eq hn
 unfold pl at h1
 rw [h1,h2]
 exact ⟨rfl,hi,pl_lt hn⟩
set_option maxRecDepth 100000 in
set_option maxHeartbeats 4000000 in
theorem read_any (g gr : Nat) (v : Value) (l b : List UInt8) (k : Nat) (w : World) (hT : Tb w g l) (hR : Rd w gr v b k) (hn : l.length <= 320) (_ : ∀ i,ln l i <= 15) (_ : Sm (cn l) 16 <= 32768) (x e n : Nat) (hs : readM l (num b) k (8 * b.length - k) = (x,e,n)) :
 Calls Tryz.prog 233 #[.pointer (some ⟨g,0,none⟩),.pointer (some ⟨gr,0,none⟩)] w fun o w'=>o = .returned (.tuple #[.int .i64 x,.int .i64 e]) /\ Only [gr] w w' /\ Rd w' gr v b (k + n):=by
 have hk:=hR.2.2.2
 have hbl:=hR.2.2.1
 obtain ⟨A,c,rfl,hc,hA⟩:=own_shape hR.2.1
 have HL:=hide (left_any gr b.length c A k w hR.1 hbl hk)
 obtain ⟨left,hleft⟩ : ∃ q,q = 8 * b.length - k:=⟨_,rfl⟩
 rw [<- hleft] at hs HL
 have HLE:=hide hleft
 have h0:=Seen.start l (num b) k left
 rw [hs] at h0
 obtain ⟨S,hD,hTT⟩:=hT
 obtain ⟨L,hLg⟩ : ∃ L,L = Lg (cn l) 15:=⟨_,rfl⟩
 have hL15 : L <= 15:=by rw [hLg]; exact Lg_le _ _
 have cL : ∀ w1,Only [gr] w w1 -> w1.cell? ⟨g,1008,none⟩ = some (.int .i64 (L : Int)):=fun w1 ho=>by
  rw [(hTT.only ho (by simpa using Has.ne hTT hR.1 (by decide))).cell (by omega),TF.at_lng,hLg]; rfl
 have HLL:=hide hLg
 have HC:=hide cL
 have HT:=hide (aI hD (aI hTT (aI hR h0)))
 obtain ⟨m,hm1,hm4,hm2,hm3⟩ : ∃ m : Nat,(if L < left then (L : Int) else (left : Int)) = (m : Int) /\ (if L < left then Value.int .i64 (L : Int) else Value.int .i64 (left : Int)) = Value.int .i64 (m : Int) /\ (m <= L /\ m <= left) /\ (m = L \/ m = left):=by
  by_cases h : L < left
  ·exact ⟨L,by rw [if_pos h],by rw [if_pos h],by omega,by omega⟩
  ·exact ⟨left,by rw [if_neg h],by rw [if_neg h],by omega,by omega⟩
 have hleq : (8 * b.length - k : Nat) = left:=hleft.symm
 have HP:=hide (fun w1 (h : Rd w1 gr (.slice A b.length c) b k)=>peek_any gr _ b k (m : Int) w1 h)
 have hok : okBits b.length k (m : Int) = true:=by unfold okBits; rw [decide_eq_true_eq,hleq]; omega
 have hgot : gotBits b k (m : Int) = bitsOf (num b) k m:=by unfold gotBits; rw [if_pos hok,Int.toNat_natCast]
 rw [hok,hgot] at HP
 have HM:=hide (aI hm2 hm3)
 clear hD hTT hR h0 cL hLg hs hm2 hm3 hok hgot hleq hleft
 have c0:=HC.out w (Only.refl _ _)
 go_enter Tryz.func233,Tryz.ntmps233
 go_wp2_with fail
 refine (HL.out).mono ?_
 rintro o w1 ⟨rfl,m1,rfl⟩
 go_wp2_with fail
 refine (HP.out _ (HT.out.2.2.1.drewN m1)).mono ?_
 rintro o w1 ⟨rfl,m2,rfl⟩
 obtain ⟨m3,h3⟩:=drews w m1 m2
 rw [h3]
 have HD : Tbl (w.drewN m3) g (TF.dl l l.length S) /\ Rd (w.drewN m3) gr (.slice A b.length c) b k /\ Only [] w (w.drewN m3):=⟨HT.out.2.1.only ((Only.refl [] w).drewN m3) (by simp),HT.out.2.2.1.drewN m3,(Only.refl [] w).drewN m3⟩
 have HW:=hide HD
 have hT1:=HD.1
 clear h3 HL HP c0 HD
 generalize w.drewN m3 = W at *
 have cL : W.cell? ⟨g,1008,none⟩ = some (.int .i64 (L : Int)):=by rw [hT1.cell (by omega),TF.at_lng,HLL.out]; rfl
 have HT1:=hide hT1
 clear hT1 hm1 hm4
 obtain ⟨y0,hy0⟩ : ∃ y,y = bitsOf (num b) k m:=⟨_,rfl⟩
 rw [<- hy0]
 have HY:=hide hy0
 have hy32 : y0 < 4294967296:=by rw [hy0]; exact bitsOf_lt32 _ _ _ (by have:=HM.out.1; omega)
 clear hy0
 go_wp2_with fail
 go_loop [7,9,10] (fun v7 v9 v10=>∃ j : Nat,Seen l (num b) k left j (x,e,n) /\ v7 = .int .u32 ((y0 / 2 ^ j : Nat) : Int) /\ v9 = .int .i64 (bc (num b) k j : Nat) /\ v10 = .int .i64 ((j + 1 : Nat) : Int)) (fun _ _ v10=>17 - (intOf v10).toNat)
 case atStart=>exact ⟨0,HT.out.2.2.2,by simp,rfl,rfl⟩
 case round =>
  obtain ⟨j,hSn,rfl,rfl,rfl⟩:=hrel
  have hjL:=hSn.le
  rw [<- HLL.out] at hjL
  by_cases hlt : j < L
  ·have hlt' : j < Lg (cn l) 15:=by rw [<- HLL.out]; exact hlt
   have HS:=hide hSn
   by_cases hsh : left < j + 1
   ·have hR:=hSn.short hlt' hsh
    injection hR with hx hR
    injection hR with he hn0
    subst hx he hn0
    have hnL : j + 1 <= L:=hlt
    clear hSn hlt'
    generalize hnn : j + 1 = nn at *
    clear hnn
    go_wp2_with fail
    go_ret2
    exact ⟨rfl,HW.out.2.2.of_nil,HW.out.2.1⟩
   ·have hjm : j < m:=by rcases HM.out.2 with h | h <;> omega
    have hge:=hSn.ge
    have hzl:=bc_lt (num b) k j
    have hz15 : 2 ^ j <= 2 ^ 15:=Nat.pow_le_pow_right (by decide) (by omega)
    have hbs:=bc_succ (num b) k j
    obtain ⟨y,hy⟩ : ∃ y,y = y0 / 2 ^ j:=⟨_,rfl⟩
    have hyl : y < 4294967296:=by rw [hy]; exact Nat.lt_of_le_of_lt (Nat.div_le_self _ _) hy32
    have hbit : y % 2 = num b / 2 ^ (k + j) % 2:=by
     have h1:=mod_div_mod (num b / 2 ^ k) m j 1 (by omega)
     rw [Nat.pow_one] at h1
     rw [hy,HY.out]
     unfold bitsOf
     rw [h1,Nat.div_div_eq_div_mul,<- Nat.pow_add]
    have hy2 : y / 2 = y0 / 2 ^ (j + 1):=by rw [hy,Nat.div_div_eq_div_mul,Nat.pow_succ]
    rw [<- hbit] at hbs
    obtain ⟨C,hC⟩ : ∃ C,C = bc (num b) k (j + 1):=⟨_,rfl⟩
    rw [<- hC] at hbs hge
    obtain ⟨F,hF⟩ : ∃ F,F = Fs (cn l) (j + 1):=⟨_,rfl⟩
    rw [<- hF] at hge
    obtain ⟨K,hK⟩ : ∃ K,K = cn l (j + 1):=⟨_,rfl⟩
    obtain ⟨I,hI⟩ : ∃ I,I = C - F:=⟨_,rfl⟩
    have cF : W.cell? ⟨g,976 + (j + 1),none⟩ = some (.int .i64 (F : Int)):=by
     rw [HT1.out.cell (by omega),TF.at_fst _ (by omega)]
     show some (Value.int .i64 ((if j + 1 <= 15 then Fs (cn l) (j + 1) else 0 : Nat) : Int)) = _
     rw [if_pos (by omega),hF]
    have cK : W.cell? ⟨g,960 + (j + 1),none⟩ = some (.int .i64 (K : Int)):=by
     rw [HT1.out.cell (by omega),TF.at_cnt _ (by omega),hK]; rfl
    obtain ⟨z,hz⟩ : ∃ z,z = bc (num b) k j:=⟨_,rfl⟩
    rw [<- hz] at hbs hzl ⊢
    rw [<- hy]
    obtain ⟨t,ht⟩ : ∃ t,t = y % 2:=⟨_,rfl⟩
    have ht2 : t < 2:=by omega
    have eA:=u32_and1 y hyl
    rw [<- ht] at eA hbs
    have eW : IntKind.i64.wrap (t : Int) = (t : Int):=wrap64 rfl (by omega)
    have eO:=i64_or1 z t ht2 (by omega)
    have eC : 2 * (z : Int) + (t : Int) = (C : Int):=by omega
    rw [eC] at eO
    have eI : (C : Int) - (F : Int) = (I : Int):=by omega
    obtain ⟨Y2,hY2⟩ : ∃ q,q = y / 2:=⟨_,rfl⟩
    rw [<- hY2] at hy2
    have eH : (y : Int) / 2 = (Y2 : Int):=by omega
    have hz64 : z < 32768:=by omega
    have q1 : ((j + 1 : Nat) : Int) < 16:=by omega
    have q0 : (0 : Int) <= ((j + 1 : Nat) : Int):=by omega
    have hnL : j + 1 <= L:=hlt
    have hnl : j + 1 <= left:=by omega
    have hn0 : j + 1 ≠ 0:=by omega
    have hI63 : I < 65536:=by omega
    have hC63 : C < 65536:=by omega
    by_cases hhit : I < K
    ·have hR:=hSn.hit hlt' hsh (by rw [<- hC,<- hF,<- hK]; omega)
     rw [<- hC,<- hF,<- hI] at hR
     obtain ⟨d1,d2,d3⟩:=dealt_sy HT.out.1 (n:=j + 1) (by omega) (show I < cn l (j + 1) by omega)
     have hok : okBits b.length k ((j + 1 : Nat) : Int) = true:=by unfold okBits; rw [decide_eq_true_eq]; have:=HLE.out; omega
     have HB:=hide (bits_any gr _ b k ((j + 1 : Nat) : Int) W HW.out.2.1)
     rw [hok,if_pos rfl,Int.toNat_natCast] at HB
     injection hR with hx hR
     injection hR with he hn0'
     obtain ⟨B,hB⟩ : ∃ B,B = Bf (cn l) (j + 1):=⟨_,rfl⟩
     rw [<- hB] at d1 d3
     rw [<- hx] at d1 d2
     subst he hn0'
     have HZ:=hide (aI hB (aI d1 hn0))
     have hj15 : j + 1 <= 15:=by omega
     clear hSn hlt' hsh hy hbit hy2 hC hF hK hI hz hbs hge ht hzl hz15 hjm hok hx hB d1 eC hn0 hlt hjL hY2
     generalize hnn : j + 1 = nn at *
     have HNN:=hide hnn
     clear hnn
     go_wp2_with fail
     refine (HB.out).mono ?_
     rintro o w5 ⟨rfl,ho5,hR5⟩
     have hT5 : Tbl w5 g (TF.dl l l.length S):=HT1.out.only ho5 (by simpa using Has.ne HT1.out HW.out.2.1.1 (by decide))
     have a1 : w5.cell? ⟨g,992 + nn,none⟩ = some (.int .i64 (B : Int)):=by
      rw [hT5.cell (by omega),TF.at_bef _ (by omega)]
      show some (Value.int .i64 ((if nn <= 15 then Bf (cn l) nn else 0 : Nat) : Int)) = _
      rw [if_pos hj15,HZ.out.1]
     have a2 : w5.cell? ⟨g,640 + (B + I),none⟩ = some (.int .i16 (x : Int)):=by
      rw [hT5.cell (by omega),TF.at_sym _ (by omega)]
      show some (Value.int .i16 ((S (B + I) : Nat) : Int)) = _
      rw [HZ.out.2.1]
     have H5:=hide (aI hR5 ho5)
     clear hR5 ho5 hT5
     have k1 : IntKind.i64.wrap ((B : Int) + (I : Int)) = (B : Int) + (I : Int):=by have:=wrap64 (z:=(B : Int) + (I : Int)) (n:=B + I) (by omega) (by omega); omega
     have k2 : IntKind.i64.wrap (x : Int) = (x : Int):=wrap64 rfl (by omega)
     have k3 : (0 : Int) <= (B : Int) + (I : Int):=by omega
     have k4 : (B : Int) + (I : Int) < 320:=by omega
     go_wp2_with fail
     go_quiet (fail)
     go_wp2_with fail
     go_ret2
     rw [HNN.out]
     exact ⟨rfl,(HW.out.2.2.of_nil.trans H5.out.2 (fun i hi _=>hi)).drewN nq,H5.out.1.drewN nq⟩
    ·have hnx:=hSn.next hlt' hsh (by rw [<- hC,<- hF,<- hK]; omega)
     have HX:=hide (aI hnx (aI hC (aI hy2 hz)))
     clear hSn hnx hlt' hsh hy hbit hy2 hC hF hK hI hz hbs hge ht hzl hz15 hjm eC hlt hY2
     generalize hnn : j + 1 = nn at *
     have HNN:=hide hnn
     clear hnn
     go_wp2_with fail
     go_round
     case rel =>
      exact ⟨nn,HX.out.1,by rw [<- HX.out.2.2.1],by rw [<- HX.out.2.1],by go_num⟩
     case measure=>simp [intOf]; omega
  ·obtain rfl : j = L:=by omega
   rw [HLL.out] at hSn
   have hR:=hSn.done
   injection hR with hx hR
   injection hR with he hn0
   subst hx he hn0
   clear hSn hlt
   generalize y0 / 2 ^ j = y at *
   generalize bc (num b) k j = z at *
   go_wp2_with fail
   go_ret2
   exact ⟨rfl,HW.out.2.2.of_nil,HW.out.2.1⟩
end Go.Proofs.YtmfoeihapalkpaaGreatDoor
namespace Go.Proofs.YtmfoeihapalkpaaGreatDoor
theorem bc_div (N k j d : Nat) : bc N k (j + d) / 2 ^ d = bc N k j:=by
 induction d with
 | zero=>simp
 | succ d ih =>
   rw [<- Nat.add_assoc,bc_succ,Nat.pow_succ,Nat.mul_comm (2 ^ d) 2,<- Nat.div_div_eq_div_mul]
   have h : N / 2 ^ (k + (j + d)) % 2 < 2:=Nat.mod_lt _ (by omega)
   rw [show (2 * bc N k (j + d) + N / 2 ^ (k + (j + d)) % 2) / 2 = bc N k (j + d) by omega,ih]
theorem rev_low_bits (v n : Nat) : rev (v % 2 ^ n) n = rev v n:=by
 have h:=rev_add_high (v % 2 ^ n) (v / 2 ^ n) n (Nat.mod_lt _ (Nat.two_pow_pos n))
 rw [<- h]
 congr 1
 rw [Nat.mul_comm]
 exact Nat.mod_add_div v (2 ^ n)
theorem read_back {l : List UInt8} (hS : Sm (cn l) 16 <= 32768) (h15 : ∀ i,ln l i <= 15) {i N p left : Nat} (hi : ln l i ≠ 0) (hl : ln l i <= left) (hb : N / 2 ^ p % 2 ^ ln l i = rev (cd l i) (ln l i)) :
 readM l N p left = (i,0,ln l i):=by
 have hcd:=cd_lt hS hi (h15 i)
 have hrk:=rk_lt hi
 have hc : cd l i = Fs (cn l) (ln l i) + rk l i (ln l i):=rfl
 have hpos : 0 < cn l (ln l i):=by omega
 have hL:=Lg_ge (cn l) (n:=15) (by omega) (h15 i) hpos
 have hbc : bc N p (ln l i) = cd l i:=by
  rw [bc_rev,<- rev_low_bits,hb,rev_rev,Nat.mod_eq_of_lt hcd]
 have hsy:=sy_eq hi
 generalize ln l i = n at *
 have key : ∀ d j,j + d + 1 = n -> scan l N p left (Lg (cn l) 15 - j) (j + 1) = (i,0,n):=by
  intro d
  induction d with
  | zero =>
    intro j hj
    obtain ⟨r,hr⟩ : ∃ r,Lg (cn l) 15 - j = r + 1:=⟨Lg (cn l) 15 - j - 1,by omega⟩
    have e : j + 1 = n:=by omega
    rw [hr,e,scan_hit (by omega) (by rw [hbc]; omega),hbc,hc,Nat.add_sub_cancel_left,hsy]
  | succ d ih =>
    intro j hj
    obtain ⟨r,hr⟩ : ∃ r,Lg (cn l) 15 - j = r + 1:=⟨Lg (cn l) 15 - j - 1,by omega⟩
    have hfar:=Fs_far (cn l) (j + 1) d
    have e : j + 1 + d + 1 = n:=by omega
    rw [e] at hfar
    have hdv:=bc_div N p (j + 1) (d + 1)
    rw [<- Nat.add_assoc,e,hbc] at hdv
    have hge : Fs (cn l) (j + 1) + cn l (j + 1) <= bc N p (j + 1):=by
     rw [<- hdv,Nat.le_div_iff_mul_le (Nat.two_pow_pos _)]
     omega
    rw [hr,scan_next (by omega) (by omega)]
    have:=ih (j + 1) (by omega)
    rw [show Lg (cn l) 15 - (j + 1) = r by omega] at this
    exact this
 have:=key (n - 1) 0 (by omega)
 rw [Nat.sub_zero] at this
 exact this
def bitsL (l : List UInt8) : List Nat -> Nat
 | []=>0
 | k :: r=>bitsL l r + ln l k
def bitsN (l : List UInt8) : List Nat -> Nat
 | []=>0
 | k :: r=>bitsN l r + rev (cd l k) (ln l k) * 2 ^ bitsL l r
theorem bitsN_lt (l : List UInt8) (r : List Nat) : bitsN l r < 2 ^ bitsL l r:=by
 induction r with
 | nil=>exact Nat.one_pos
 | cons k r ih =>
   show bitsN l r + rev (cd l k) (ln l k) * 2 ^ bitsL l r < 2 ^ (bitsL l r + ln l k)
   have h:=rev_lt (cd l k) (ln l k)
   rw [Nat.pow_add]
   have h2 : (rev (cd l k) (ln l k) + 1) * 2 ^ bitsL l r <= 2 ^ ln l k * 2 ^ bitsL l r:=Nat.mul_le_mul_right _ h
   rw [Nat.add_mul,Nat.one_mul,Nat.mul_comm (2 ^ ln l k)] at h2
   omega
end Go.Proofs.YtmfoeihapalkpaaGreatDoor
namespace Go.Proofs.YtmfoeihapalkpaaGreatDoor
structure St where
 k : Nat
 last : Bool
 left : Nat
 p : Nat
 out : List UInt8
def behindK (last : Bool) : Nat:=if last then 11 else 0
def stK (last : Bool) (n : Nat) : Nat:=if n = 0 then behindK last else 2
theorem stK_zero (last : Bool) : stK last 0 = behindK last:=rfl
theorem stK_pos (last : Bool) {n : Nat} (h : 0 < n) : stK last n = 2:=if_neg (by omega)
inductive Mv (T : List UInt8) (N : Nat) : St -> St -> Prop
 | stored (l0 last : Bool) (p p' : Nat) (out : List UInt8) (h : N / 2 ^ p % 8 = last.toNat) (hp : p' = (p + 10) / 8 * 8) : Mv T N ⟨0,l0,0,p,out⟩ ⟨1,last,0,p',out⟩
 | fixed (l0 last : Bool) (p : Nat) (out : List UInt8) (h : N / 2 ^ p % 8 = last.toNat + 2) : Mv T N ⟨0,l0,0,p,out⟩ ⟨7,last,0,p + 3,out⟩
 | size (last : Bool) (n p : Nat) (out : List UInt8) (hn : n < 65536) (h8 : p % 8 = 0) (h : N / 2 ^ p % 4294967296 = n + (65535 - n) * 65536) : Mv T N ⟨1,last,0,p,out⟩ ⟨stK last n,last,n,p + 32,out⟩
 | byte (last : Bool) (n p : Nat) (out : List UInt8) (h8 : p % 8 = 0) : Mv T N ⟨2,last,n + 1,p,out⟩ ⟨stK last n,last,n,p + 8,out ++ [UInt8.ofNat (N / 2 ^ p)]⟩
 | lit (last : Bool) (i p : Nat) (out : List UInt8) (hi : i < 256) (h0 : ln T i ≠ 0) (h : N / 2 ^ p % 2 ^ ln T i = rev (cd T i) (ln T i)) : Mv T N ⟨7,last,0,p,out⟩ ⟨7,last,0,p + ln T i,out ++ [UInt8.ofNat i]⟩
 | eob (last : Bool) (p : Nat) (out : List UInt8) (h0 : ln T 256 ≠ 0) (h : N / 2 ^ p % 2 ^ ln T 256 = rev (cd T 256) (ln T 256)) : Mv T N ⟨7,last,0,p,out⟩ ⟨behindK last,last,0,p + ln T 256,out⟩
inductive Way (T : List UInt8) (N : Nat) : St -> St -> Prop
 | stop (s : St) : Way T N s s
 | go {s t e : St} (h : Mv T N s t) (r : Way T N t e) : Way T N s e
variable {T : List UInt8} {N : Nat}
theorem Mv.grow {s t : St} (h : Mv T N s t) : s.p < t.p /\ ∃ x,t.out = s.out ++ x:=by
 cases h with
 | stored l0 last p p' out h hp=>exact ⟨by show p < p'; omega,[],by simp⟩
 | fixed l0 last p out h=>exact ⟨by show p < p + 3; omega,[],by simp⟩
 | size last n p out hn h8 h=>exact ⟨by show p < p + 32; omega,[],by simp⟩
 | byte last n p out h8=>exact ⟨by show p < p + 8; omega,_,rfl⟩
 | lit last i p out hi h0 h=>exact ⟨by show p < p + ln T i; omega,_,rfl⟩
 | eob last p out h0 h=>exact ⟨by show p < p + ln T 256; omega,[],by simp⟩
theorem Way.grow {s e : St} (h : Way T N s e) : s.p <= e.p /\ ∃ x,e.out = s.out ++ x:=by
 induction h with
 | stop s=>exact ⟨Nat.le_refl _,[],by simp⟩
 | go h r ih =>
   obtain ⟨h1,x,hx⟩:=h.grow
   obtain ⟨h2,y,hy⟩:=ih
   exact ⟨by omega,x ++ y,by rw [hy,hx,List.append_assoc]⟩
theorem Way.out_le {s e : St} (h : Way T N s e) : s.out.length <= e.out.length:=by
 obtain ⟨_,x,hx⟩:=h.grow
 rw [hx,List.length_append]; omega
def bytesAt (N p n : Nat) : List UInt8:=(List.range n).map fun i=>UInt8.ofNat (N / 2 ^ (p + 8 * i))
theorem bytesAt_length (N p n : Nat) : (bytesAt N p n).length = n:=by simp [bytesAt]
theorem bytesAt_succ (N p n : Nat) : bytesAt N p (n + 1) = bytesAt N p n ++ [UInt8.ofNat (N / 2 ^ (p + 8 * n))]:=by
 unfold bytesAt; rw [List.range_succ,List.map_append]; rfl
theorem bytesAt_num (B : List UInt8) (j n : Nat) (h : j + n <= B.length) : bytesAt (num B) (8 * j) n = (B.drop j).take n:=by
 apply List.ext_getElem
 ·rw [bytesAt_length,List.length_take,List.length_drop]; omega
 ·intro i h1 h2
  rw [bytesAt_length] at h1
  simp only [bytesAt,List.getElem_map,List.getElem_range,List.getElem_take,List.getElem_drop]
  apply UInt8.toNat_inj.1
  rw [UInt8.toNat_ofNat',num_get B _ (by omega),pow_256]
  congr 3
  omega
theorem way_bytes (last : Bool) : ∀ (bs : List UInt8) (j : Nat) (out : List UInt8),N / 2 ^ (8 * j) % 256 ^ bs.length = num bs -> ∀ e,Way T N ⟨behindK last,last,0,8 * (j + bs.length),out ++ bs⟩ e ->
 Way T N ⟨stK last bs.length,last,bs.length,8 * j,out⟩ e
 | [],j,out,_,e,h=>by simpa [stK_zero] using h
 | b :: bs,j,out,hN,e,h=>by
   have hb:=b.toNat_lt
   rw [List.length_cons,stK_pos last (by omega)]
   rw [List.length_cons,num,Nat.pow_succ,Nat.mul_comm (256 ^ bs.length) 256,Nat.mod_mul] at hN
   have e1 : N / 2 ^ (8 * (j + 1)) = N / 2 ^ (8 * j) / 256:=by rw [Nat.div_div_eq_div_mul,show 8 * (j + 1) = 8 * j + 8 by omega,Nat.pow_add]
   have h0 : N / 2 ^ (8 * j) % 256 = b.toNat:=by omega
   have h1 : N / 2 ^ (8 * (j + 1)) % 256 ^ bs.length = num bs:=by rw [e1]; omega
   have hbb : UInt8.ofNat (N / 2 ^ (8 * j)) = b:=by
    apply UInt8.toNat_inj.1
    rw [UInt8.toNat_ofNat',<- h0]
   refine .go (.byte last bs.length (8 * j) out (by omega)) ?_
   rw [hbb,show 8 * j + 8 = 8 * (j + 1) by omega]
   refine way_bytes last bs (j + 1) (out ++ [b]) h1 e ?_
   rw [List.append_assoc,show j + 1 + bs.length = j + (bs.length + 1) by omega]
   exact h
def hdr (last : Bool) (n : Nat) : List UInt8:=[UInt8.ofNat last.toNat,UInt8.ofNat n,UInt8.ofNat (n / 256),UInt8.ofNat (255 - n % 256),UInt8.ofNat (255 - n / 256)]
theorem num_hdr (last : Bool) (n : Nat) (hn : n < 65536) : num (hdr last n) = last.toNat + 256 * (n + 65536 * (65535 - n)):=by
 have hl : last.toNat < 2:=by cases last <;> decide
 simp only [hdr,num,UInt8.toNat_ofNat']
 omega
theorem way_stored (l0 last : Bool) (bs : List UInt8) (j M : Nat) (out : List UInt8) (hn : bs.length < 65536) (h : N / 2 ^ (8 * j) = num (hdr last bs.length ++ bs) + 256 ^ (5 + bs.length) * M) (e : St)
 (he : Way T N ⟨behindK last,last,0,8 * (j + 5 + bs.length),out ++ bs⟩ e) : Way T N ⟨0,l0,0,8 * j,out⟩ e:=by
 have hl : last.toNat < 2:=by cases last <;> decide
 have hb:=num_lt bs
 rw [num_append,num_hdr _ _ hn,show (hdr last bs.length).length = 5 from rfl,Nat.pow_add,Nat.mul_assoc,Nat.add_assoc,<- Nat.mul_add] at h
 have e1 : N / 2 ^ (8 * (j + 1)) = N / 2 ^ (8 * j) / 256:=by rw [Nat.div_div_eq_div_mul,show 8 * (j + 1) = 8 * j + 8 by omega,Nat.pow_add]
 have e5 : N / 2 ^ (8 * (j + 5)) = N / 2 ^ (8 * j) / 1099511627776:=by rw [Nat.div_div_eq_div_mul,show 8 * (j + 5) = 8 * j + 40 by omega,Nat.pow_add]
 have hz : N / 2 ^ (8 * (j + 5)) % 256 ^ bs.length = num bs:=by
  rw [e5]
  have : N / 2 ^ (8 * j) / 1099511627776 = num bs + 256 ^ bs.length * M:=by omega
  rw [this,Nat.add_mul_mod_self_left,Nat.mod_eq_of_lt hb]
 generalize num bs + 256 ^ bs.length * M = Z at h
 refine .go (.stored l0 last (8 * j) (8 * (j + 1)) out (by omega) (by omega)) ?_
 refine .go (.size last bs.length _ out hn (by omega) (by omega)) ?_
 rw [show 8 * (j + 1) + 32 = 8 * (j + 5) by omega]
 exact way_bytes last bs (j + 5) out hz e he
theorem way_syms (last : Bool) (p : Nat) (out : List UInt8) : ∀ (r : List Nat),(∀ i ∈ r,i < 256 /\ ln T i ≠ 0) -> N / 2 ^ p % 2 ^ bitsL T r = bitsN T r -> ∀ e,Way T N ⟨7,last,0,p + bitsL T r,out ++ r.reverse.map UInt8.ofNat⟩ e ->
 Way T N ⟨7,last,0,p,out⟩ e
 | [],_,_,e,h=>by simpa [bitsL] using h
 | k :: r,hr,hN,e,h=>by
   have hlt:=bitsN_lt T r
   have hk:=hr k (by simp)
   have hL : bitsL T (k :: r) = bitsL T r + ln T k:=rfl
   have hB : bitsN T (k :: r) = bitsN T r + rev (cd T k) (ln T k) * 2 ^ bitsL T r:=rfl
   rw [hL,hB,Nat.pow_add,Nat.mod_mul,Nat.mul_comm (rev _ _)] at hN
   have h1 : N / 2 ^ p % 2 ^ bitsL T r = bitsN T r:=by
    have:=congrArg (·% 2 ^ bitsL T r) hN
    simpa [Nat.add_mul_mod_self_left,Nat.mod_eq_of_lt hlt] using this
   have h2 : N / 2 ^ p / 2 ^ bitsL T r % 2 ^ ln T k = rev (cd T k) (ln T k):=by
    rw [h1] at hN
    exact Nat.eq_of_mul_eq_mul_left (Nat.two_pow_pos _) (Nat.add_left_cancel hN)
   refine way_syms last p out r (fun i hi=>hr i (by simp [hi])) h1 e ?_
   refine .go (.lit last k _ _ hk.1 hk.2 (by rw [Nat.pow_add,<- Nat.div_div_eq_div_mul]; exact h2)) ?_
   rw [List.append_assoc,show p + bitsL T r + ln T k = p + bitsL T (k :: r) by rw [hL]; omega]
   simpa using h
theorem way_fixed (l0 last : Bool) (p M : Nat) (r : List Nat) (out : List UInt8) (hr : ∀ i ∈ r,i < 256 /\ ln T i ≠ 0) (h0 : ln T 256 ≠ 0) (h : N / 2 ^ p = last.toNat + 2 + 8 * (bitsN T (256 :: r) + 2 ^ bitsL T (256 :: r) * M)) (e : St)
 (he : Way T N ⟨behindK last,last,0,p + 3 + bitsL T (256 :: r),out ++ r.reverse.map UInt8.ofNat⟩ e) : Way T N ⟨0,l0,0,p,out⟩ e:=by
 have hl : last.toNat < 2:=by cases last <;> decide
 have hlt:=bitsN_lt T r
 have hlt2:=bitsN_lt T (256 :: r)
 have hL : bitsL T (256 :: r) = bitsL T r + ln T 256:=rfl
 have hB : bitsN T (256 :: r) = bitsN T r + rev (cd T 256) (ln T 256) * 2 ^ bitsL T r:=rfl
 have e3 : N / 2 ^ (p + 3) = bitsN T (256 :: r) + 2 ^ bitsL T (256 :: r) * M:=by
  rw [Nat.pow_add,<- Nat.div_div_eq_div_mul]; omega
 have h1 : N / 2 ^ (p + 3) % 2 ^ bitsL T r = bitsN T r:=by
  rw [e3,hL,hB,Nat.pow_add,Nat.mul_assoc,Nat.mul_comm (rev _ _),Nat.add_assoc,<- Nat.mul_add,Nat.add_mul_mod_self_left,Nat.mod_eq_of_lt hlt]
 have h2 : N / 2 ^ (p + 3 + bitsL T r) % 2 ^ ln T 256 = rev (cd T 256) (ln T 256):=by
  rw [Nat.pow_add 2 (p + 3),<- Nat.div_div_eq_div_mul,e3,hL,hB,Nat.pow_add,Nat.mul_assoc,Nat.mul_comm (rev _ _),Nat.add_assoc,<- Nat.mul_add,Nat.add_mul_div_left _ _ (Nat.two_pow_pos _),Nat.div_eq_of_lt hlt,Nat.zero_add,
   Nat.add_mul_mod_self_left,Nat.mod_eq_of_lt (rev_lt _ _)]
 refine .go (.fixed l0 last p out (by omega)) ?_
 refine way_syms last (p + 3) out r hr h1 e ?_
 refine .go (.eob last _ _ h0 h2) ?_
 rw [Nat.add_assoc (p + 3),<- hL]
 exact he
theorem part_bits (B : List UInt8) (a o k n : Nat) (h : 8 * o + k + n <= 8 * a) : bitsOf (num ((B.take a).drop o)) k n = bitsOf (num B) (8 * o + k) n:=by
 unfold bitsOf
 rw [num_drop,num_take,pow_256,pow_256,Nat.div_div_eq_div_mul,<- Nat.pow_add,mod_div_mod _ _ _ _ h]
theorem readM_congr (T : List UInt8) (N N' p p' left : Nat) (h : ∀ n,n <= left -> bitsOf N p n = bitsOf N' p' n) : readM T N p left = readM T N' p' left:=by
 have hb : ∀ n,n <= left -> bc N p n = bc N' p' n:=fun n hn=>by
  have:=h n hn
  unfold bitsOf at this
  rw [bc_rev,bc_rev,<- rev_low_bits,this,rev_low_bits]
 unfold readM
 generalize Lg (cn T) 15 = r
 have key : ∀ r n,scan T N p left r n = scan T N' p' left r n:=by
  intro r
  induction r with
  | zero=>intro n; rfl
  | succ r ih =>
    intro n
    unfold scan
    by_cases hn : left < n
    ·rw [if_pos hn,if_pos hn]
    ·rw [if_neg hn,if_neg hn,hb n (by omega),ih]
 exact key r 1
theorem part_read (T B : List UInt8) (a o k : Nat) (ho : o <= a) (hk : 8 * o + k <= 8 * a) : readM T (num ((B.take a).drop o)) k (8 * (a - o) - k) = readM T (num B) (8 * o + k) (8 * a - (8 * o + k)):=by
 rw [show 8 * (a - o) - k = 8 * a - (8 * o + k) by omega]
 exact readM_congr _ _ _ _ _ _ (fun n hn=>part_bits B a o k n (by omega))
theorem part_length (B : List UInt8) (a o : Nat) (ha : a <= B.length) : ((B.take a).drop o).length = a - o:=by
 rw [List.length_drop,List.length_take]; omega
end Go.Proofs.YtmfoeihapalkpaaGreatDoor
