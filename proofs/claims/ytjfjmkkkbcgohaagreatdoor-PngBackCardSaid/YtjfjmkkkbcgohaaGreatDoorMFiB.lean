import Derived.Test.YtjfjmkkkbcgohaaGreatDoorMFiP
import Derived.Deep.Slices
import Derived.Deep.OwnRows
namespace Go.Proofs.YtjfjmkkkbcgohaaGreatDoor
open Go Go.RowKit
set_option maxRecDepth 100000 in
set_option maxHeartbeats 4000000 in
theorem paeth_any (a b c : UInt8) (w : World) : Calls Tryz.prog 117 #[.int .u8 (a.toNat : Int),.int .u8 (b.toNat : Int),.int .u8 (c.toNat : Int)] w fun e w'=>e = .returned (.int .u8 ((pae a b c).toNat : Int)) /\ w' = w:=by
 have HB:=hide (fun w=>apart_any b c w)
 have HA:=hide (fun w=>apart_any a c w)
 have key : pae a b c = if dist b.toNat c.toNat <= dist a.toNat c.toNat /\ dist b.toNat c.toNat <= dist ((a.toNat : Int) + b.toNat) (2 * (c.toNat : Int)) then a else if dist a.toNat c.toNat <= dist ((a.toNat : Int) + b.toNat) (2 * (c.toNat : Int)) then b else c:=rfl
 have em : (if (a.toNat : Int) + (b.toNat : Int) - 2 * (c.toNat : Int) < 2 * (c.toNat : Int) - (a.toNat : Int) - (b.toNat : Int) then 2 * (c.toNat : Int) - (a.toNat : Int) - (b.toNat : Int) else (a.toNat : Int) + (b.toNat : Int) - 2 * (c.toNat : Int)) = dist ((a.toNat : Int) + b.toNat) (2 * (c.toNat : Int)):=by
  unfold dist
  split <;> split <;> omega
 have ha:=a.toNat_lt
 have hb:=b.toNat_lt
 have hc:=c.toNat_lt
 generalize dist b.toNat c.toNat = x at *
 generalize dist a.toNat c.toNat = y at *
 generalize dist ((a.toNat : Int) + b.toNat) (2 * (c.toNat : Int)) = z at *
 generalize pae a b c = r at *
 generalize ea : a.toNat = A at *
 generalize eb : b.toNat = B at *
 generalize ec : c.toNat = C at *
 obtain ⟨P,hP⟩ : ∃ P,P = (A : Int) + (B : Int):=⟨_,rfl⟩
 obtain ⟨D,hD⟩ : ∃ D,D = 2 * (C : Int):=⟨_,rfl⟩
 obtain ⟨U,hU⟩ : ∃ U,U = P - D:=⟨_,rfl⟩
 obtain ⟨E,hE⟩ : ∃ E,E = D - (A : Int):=⟨_,rfl⟩
 obtain ⟨V,hV⟩ : ∃ V,V = E - (B : Int):=⟨_,rfl⟩
 have em2 : (if U < V then V else U) = z:=by rw [<- em,hV,hE,hU,hP,hD]
 have wr : ∀ z : Int,-1000000 <= z -> z <= 1000000 -> wrap64 z = z /\ IntKind.i64.wrap z = z:=fun z h1 h2=>⟨IntWalk.wrap64_in _ ⟨by omega,by omega⟩,by rw [IntKind.wrap_i64]; omega⟩
 have W1 : Hid (wrap64 ((A : Int) + (B : Int)) = P /\ IntKind.i64.wrap ((A : Int) + (B : Int)) = P):=hide (by rw [hP]; exact wr _ (by omega) (by omega))
 have W2 : Hid (wrap64 (2 * (C : Int)) = D /\ IntKind.i64.wrap (2 * (C : Int)) = D):=hide (by rw [hD]; exact wr _ (by omega) (by omega))
 have W3 : Hid (wrap64 (P - D) = U /\ IntKind.i64.wrap (P - D) = U):=hide (by rw [hU]; exact wr _ (by omega) (by omega))
 have W4 : Hid (wrap64 (D - (A : Int)) = E /\ IntKind.i64.wrap (D - (A : Int)) = E):=hide (by rw [hE]; exact wr _ (by omega) (by omega))
 have W5 : Hid (wrap64 (E - (B : Int)) = V /\ IntKind.i64.wrap (E - (B : Int)) = V):=hide (by rw [hV]; exact wr _ (by omega) (by omega))
 have W6:=hide (wr (A : Int) (by omega) (by omega))
 have W7:=hide (wr (B : Int) (by omega) (by omega))
 have W8:=hide (wr (C : Int) (by omega) (by omega))
 clear hP hD hU hE hV em wr
 obtain ⟨w1,v1⟩:=W1.out
 obtain ⟨w2,v2⟩:=W2.out
 obtain ⟨w3,v3⟩:=W3.out
 obtain ⟨w4,v4⟩:=W4.out
 obtain ⟨w5,v5⟩:=W5.out
 obtain ⟨w6,v6⟩:=W6.out
 obtain ⟨w7,v7⟩:=W7.out
 obtain ⟨w8,v8⟩:=W8.out
 clear W1 W2 W3 W4 W5 W6 W7 W8
 by_cases h1 : x <= y
 ·by_cases h2 : x <= z
  ·rw [if_pos ⟨h1,h2⟩] at key
   rw [key,ea]
   clear key ha hb hc ea eb ec
   go_enter Tryz.func117,Tryz.ntmps117
   go_wp2_with fail
   refine (HB.out _).mono ?_
   rintro e w1 ⟨rfl,rfl⟩
   go_wp2_with fail
   refine (HA.out _).mono ?_
   rintro e w1 ⟨rfl,rfl⟩
   go_wp2_with fail
   go_ret
   exact ⟨rfl,rfl⟩
  ·by_cases h3 : y <= z
   ·exact absurd (Int.le_trans h1 h3) h2
   ·rw [if_neg (fun h=>h2 h.2),if_neg h3] at key
    rw [key,ec]
    clear key ha hb hc ea eb ec
    go_enter Tryz.func117,Tryz.ntmps117
    go_wp2_with fail
    refine (HB.out _).mono ?_
    rintro e w1 ⟨rfl,rfl⟩
    go_wp2_with fail
    refine (HA.out _).mono ?_
    rintro e w1 ⟨rfl,rfl⟩
    go_wp2_with fail
    go_ret
    exact ⟨rfl,rfl⟩
 ·by_cases h3 : y <= z
  ·rw [if_neg (fun h=>h1 h.1),if_pos h3] at key
   rw [key,eb]
   clear key ha hb hc ea eb ec
   go_enter Tryz.func117,Tryz.ntmps117
   go_wp2_with fail
   refine (HB.out _).mono ?_
   rintro e w1 ⟨rfl,rfl⟩
   go_wp2_with fail
   refine (HA.out _).mono ?_
   rintro e w1 ⟨rfl,rfl⟩
   go_wp2_with fail
   go_ret
   exact ⟨rfl,rfl⟩
  ·rw [if_neg (fun h=>h1 h.1),if_neg h3] at key
   rw [key,ec]
   clear key ha hb hc ea eb ec
   go_enter Tryz.func117,Tryz.ntmps117
   go_wp2_with fail
   refine (HB.out _).mono ?_
   rintro e w1 ⟨rfl,rfl⟩
   go_wp2_with fail
   refine (HA.out _).mono ?_
   rintro e w1 ⟨rfl,rfl⟩
   go_wp2_with fail
   go_ret
   exact ⟨rfl,rfl⟩
set_option maxRecDepth 100000 in
set_option maxHeartbeats 4000000 in
theorem guess_any (k i s : Nat) (A B : Option Addr) (n c m d : Nat) (l u : List UInt8) (w : World) (hk : k <= 4) (hs : s <= 8) (hi : i <= 1000000000)
 (hb : Holds w 1 A n (bvals l)) (hl : l.length = n) (hu : Holds w 1 B m (bvals u)) (hul : u.length = m) :
 Calls Tryz.prog 73 #[.int .i64 k,.slice A n c,.slice B m d,.int .i64 i,.int .i64 s] w fun e w'=>e = .returned (.int .u8 ((gs k (lf l i s) (u.getD i 0) (lf u i s)).toNat : Int)) /\ w' = w:=by
 have HA:=hide (fiAt_any A n c l ((i : Int) - (s : Int)) w hb hl (by omega))
 have HC:=hide (fiAt_any B m d u ((i : Int) - (s : Int)) w hu hul (by omega))
 have HB:=hide (fiAt_any B m d u (i : Int) w hu hul (by omega))
 rw [atI_sub] at HA HC
 rw [atI_nat] at HB
 obtain ⟨j,hj⟩ : ∃ j,j = (i : Int) - (s : Int):=⟨_,rfl⟩
 have V1 : Hid (wrap64 ((i : Int) - (s : Int)) = j):=hide (by rw [hj]; exact IntWalk.wrap64_in _ ⟨by omega,by omega⟩)
 have V2 : Hid (IntKind.i64.wrap ((i : Int) - (s : Int)) = j):=hide (by rw [hj,IntKind.wrap_i64]; omega)
 rw [<- hj] at HA HC
 generalize lf l i s = a at *
 generalize lf u i s = cc at *
 generalize u.getD i 0 = b at *
 have HP:=hide (fun w=>paeth_any a b cc w)
 have g0 : gs 0 a b cc = 0:=rfl
 have g1 : gs 1 a b cc = a:=rfl
 have g2 : gs 2 a b cc = b:=rfl
 have g3 : gs 3 a b cc = UInt8.ofNat ((a.toNat + b.toNat) / 2):=rfl
 have g4 : gs 4 a b cc = pae a b cc:=rfl
 have ha:=a.toNat_lt
 have hb8:=b.toNat_lt
 clear hj hb hl hu hul
 rcases (show k = 0 \/ k = 1 \/ k = 2 \/ k = 3 \/ k = 4 by omega) with rfl | rfl | rfl | rfl | rfl
 ·rw [g0]
  clear g0 g1 g2 g3 g4 HP HA HB HC
  have v1:=V1.out
  have v2:=V2.out
  clear V1 V2
  go_enter Tryz.func73,Tryz.ntmps73
  go_wp2_with fail
  go_ret
  exact ⟨rfl,rfl⟩
 ·rw [g1]
  clear g0 g1 g2 g3 g4 HP HB HC
  generalize a.toNat = x at *
  have e1 : IntKind.u8.wrap (x : Int) = (x : Int):=by rw [IntKind.wrap_u8]; omega
  have v1:=V1.out
  have v2:=V2.out
  clear V1 V2
  go_enter Tryz.func73,Tryz.ntmps73
  go_wp2_with fail
  refine (HA.out).mono ?_
  rintro e w1 ⟨rfl,rfl⟩
  go_wp2_with fail
  go_ret
  exact ⟨rfl,rfl⟩
 ·rw [g2]
  clear g0 g1 g2 g3 g4 HP HA HC
  generalize b.toNat = x at *
  have e1 : IntKind.u8.wrap (x : Int) = (x : Int):=by rw [IntKind.wrap_u8]; omega
  have v1:=V1.out
  have v2:=V2.out
  clear V1 V2
  go_enter Tryz.func73,Tryz.ntmps73
  go_wp2_with fail
  refine (HB.out).mono ?_
  rintro e w1 ⟨rfl,rfl⟩
  go_wp2_with fail
  go_ret
  exact ⟨rfl,rfl⟩
 ·rw [g3,UInt8.toNat_ofNat',Nat.mod_eq_of_lt (by omega : (a.toNat + b.toNat) / 2 < 2 ^ 8)]
  clear g0 g1 g2 g3 g4 HP HC
  generalize a.toNat = x at *
  generalize b.toNat = y at *
  obtain ⟨z,hz⟩ : ∃ z,z = (x + y) / 2:=⟨_,rfl⟩
  rw [<- hz]
  obtain ⟨q,hq⟩ : ∃ q,q = x + y:=⟨_,rfl⟩
  have Hw1 : Hid (wrap64 ((x : Int) + (y : Int)) = (q : Int)):=hide (by rw [hq]; exact IntWalk.wrap64_in _ ⟨by omega,by omega⟩)
  have Hw2 : Hid (IntKind.i64.wrap ((x : Int) + (y : Int)) = (q : Int)):=hide (by rw [hq,IntKind.wrap_i64]; omega)
  have Hw3 : Hid ((q : Int).tdiv 2 = (z : Int)):=hide (by rw [hz,<- hq]; exact (Int.ofNat_tdiv q 2).symm)
  have Hw4 : Hid (IntKind.u8.wrap (z : Int) = (z : Int)):=hide (by rw [IntKind.wrap_u8]; omega)
  have Hw5 : Hid (IntKind.i64.wrap (z : Int) = (z : Int)):=hide (by rw [IntKind.wrap_i64]; omega)
  have Hw6 : Hid (wrap64 (z : Int) = (z : Int)):=hide (IntWalk.wrap64_in _ ⟨by omega,by omega⟩)
  have Hw7 : Hid (IntKind.i64.wrap (x : Int) = (x : Int)):=hide (by rw [IntKind.wrap_i64]; omega)
  have Hw8 : Hid (IntKind.i64.wrap (y : Int) = (y : Int)):=hide (by rw [IntKind.wrap_i64]; omega)
  clear hz hq
  have w1:=Hw1.out
  have w2:=Hw2.out
  have w3:=Hw3.out
  have w4:=Hw4.out
  have w5:=Hw5.out
  have w6:=Hw6.out
  have w7:=Hw7.out
  have w8:=Hw8.out
  clear Hw1 Hw2 Hw3 Hw4 Hw5 Hw6 Hw7 Hw8
  have v1:=V1.out
  have v2:=V2.out
  clear V1 V2
  go_enter Tryz.func73,Tryz.ntmps73
  go_wp2_with fail
  refine (HA.out).mono ?_
  rintro e w1 ⟨rfl,rfl⟩
  go_wp2_with fail
  refine (HB.out).mono ?_
  rintro e w1 ⟨rfl,rfl⟩
  go_wp2_with fail
  go_ret
  exact ⟨rfl,rfl⟩
 ·rw [g4]
  clear g0 g1 g2 g3 g4
  have v1:=V1.out
  have v2:=V2.out
  clear V1 V2
  go_enter Tryz.func73,Tryz.ntmps73
  go_wp2_with fail
  refine (HC.out).mono ?_
  rintro e w1 ⟨rfl,rfl⟩
  go_wp2_with fail
  refine (HA.out).mono ?_
  rintro e w1 ⟨rfl,rfl⟩
  go_wp2_with fail
  refine (HB.out).mono ?_
  rintro e w1 ⟨rfl,rfl⟩
  go_wp2_with fail
  refine (HP.out _).mono ?_
  rintro e w1 ⟨rfl,rfl⟩
  go_wp2_with fail
  go_ret
  exact ⟨rfl,rfl⟩
theorem fErr_one (k s : Int) (n m : Nat) : fErr k s n m = 0 \/ fErr k s n m = 1:=by unfold fErr; split <;> simp
set_option maxRecDepth 100000 in
set_option maxHeartbeats 4000000 in
theorem mayBeF_any (k s : Int) (A1 A2 : Option Addr) (n1 c1 n2 c2 : Nat) (w : World) :
 Calls Tryz.prog 72 #[.int .i64 k,.slice A1 n1 c1,.slice A2 n2 c2,.int .i64 s] w fun e w'=>e = .returned (.bool (decide (fErr k s n1 n2 = 0))) /\ w' = w:=by
 have hyes : (0 <= k /\ k <= 4) /\ (1 <= s /\ s <= 8) /\ (n2 = 0 \/ n2 = n1) -> fErr k s n1 n2 = 0:=fun h=>if_pos h
 have hno : ¬ ((0 <= k /\ k <= 4) /\ (1 <= s /\ s <= 8) /\ (n2 = 0 \/ n2 = n1)) -> fErr k s n1 n2 = 1:=fun h=>if_neg h
 generalize fErr k s n1 n2 = x at *
 by_cases hn : n2 = 0 \/ n2 = n1
 ·have hn' : (n2 : Int) = 0 \/ (¬ (n2 : Int) = 0 /\ (n2 : Int) = (n1 : Int)):=by omega
  by_cases hk0 : 0 <= k
  ·by_cases hk4 : k <= 4
   ·by_cases hs1 : 1 <= s
    ·by_cases hs8 : s <= 8
     ·obtain rfl:=hyes ⟨⟨hk0,hk4⟩,⟨hs1,hs8⟩,hn⟩
      clear hyes hno hn
      rcases hn' with hn | ⟨hn,hn'⟩
      ·go_enter Tryz.func72,Tryz.ntmps72
       go_wp2_with fail
       go_ret
       exact ⟨rfl,rfl⟩
      ·have hnb : ((n2 : Int) == 0) = false:=beq_eq_false_iff_ne.2 hn
       obtain rfl : n2 = n1:=by omega
       go_enter Tryz.func72,Tryz.ntmps72
       go_wp2_with fail
       go_ret
       exact ⟨rfl,rfl⟩
     ·obtain rfl:=hno (fun h=>hs8 h.2.1.2)
      clear hyes hno hn
      rcases hn' with hn | ⟨hn,hn'⟩
      ·go_enter Tryz.func72,Tryz.ntmps72
       go_wp2_with fail
       go_ret
       exact ⟨rfl,rfl⟩
      ·have hnb : ((n2 : Int) == 0) = false:=beq_eq_false_iff_ne.2 hn
       obtain rfl : n2 = n1:=by omega
       go_enter Tryz.func72,Tryz.ntmps72
       go_wp2_with fail
       go_ret
       exact ⟨rfl,rfl⟩
    ·obtain rfl:=hno (fun h=>hs1 h.2.1.1)
     clear hyes hno hn
     rcases hn' with hn | ⟨hn,hn'⟩
     ·go_enter Tryz.func72,Tryz.ntmps72
      go_wp2_with fail
      go_ret
      exact ⟨rfl,rfl⟩
     ·have hnb : ((n2 : Int) == 0) = false:=beq_eq_false_iff_ne.2 hn
      obtain rfl : n2 = n1:=by omega
      go_enter Tryz.func72,Tryz.ntmps72
      go_wp2_with fail
      go_ret
      exact ⟨rfl,rfl⟩
   ·obtain rfl:=hno (fun h=>hk4 h.1.2)
    clear hyes hno hn
    rcases hn' with hn | ⟨hn,hn'⟩
    ·go_enter Tryz.func72,Tryz.ntmps72
     go_wp2_with fail
     go_ret
     exact ⟨rfl,rfl⟩
    ·have hnb : ((n2 : Int) == 0) = false:=beq_eq_false_iff_ne.2 hn
     obtain rfl : n2 = n1:=by omega
     go_enter Tryz.func72,Tryz.ntmps72
     go_wp2_with fail
     go_ret
     exact ⟨rfl,rfl⟩
  ·obtain rfl:=hno (fun h=>hk0 h.1.1)
   clear hyes hno hn
   rcases hn' with hn | ⟨hn,hn'⟩
   ·go_enter Tryz.func72,Tryz.ntmps72
    go_wp2_with fail
    go_ret
    exact ⟨rfl,rfl⟩
   ·have hnb : ((n2 : Int) == 0) = false:=beq_eq_false_iff_ne.2 hn
    obtain rfl : n2 = n1:=by omega
    go_enter Tryz.func72,Tryz.ntmps72
    go_wp2_with fail
    go_ret
    exact ⟨rfl,rfl⟩
 ·obtain rfl:=hno (fun h=>hn h.2.2)
  have h1 : ((n2 : Int) == 0) = false:=beq_eq_false_iff_ne.2 (by omega)
  have h2 : ((n2 : Int) == (n1 : Int)) = false:=beq_eq_false_iff_ne.2 (by omega)
  have h5 : ((n2 : Int) != 0) = true:=by rw [bne,h1]; rfl
  have h6 : ((n2 : Int) != (n1 : Int)) = true:=by rw [bne,h2]; rfl
  have h3 : ¬ (n2 : Int) = 0:=by omega
  have h4 : ¬ (n2 : Int) = (n1 : Int):=by omega
  clear hyes hno hn
  go_enter Tryz.func72,Tryz.ntmps72
  go_wp2_with fail
  go_ret
  exact ⟨rfl,rfl⟩
theorem fi8_info : (Tryz.prog.info? 5).map (fun i=>(i.zero,i.size,i.bytes)) = some (some (.int .u8 0),1,1):=by kernel_rfl
theorem fiZeros_eq (m : Nat) : madeCells #[.int .u8 0] m = (bvals (List.replicate m 0)).toArray:=by
 apply Array.ext'
 rw [toList_madeCells_one]
 simp [bvals]
theorem fiOwn_made (w : World) (t : TypeId) (l : List UInt8) (n : Nat) (hl : l.length = n) (hn : n <= 140737488355328) : (w.alloc (.cells (bvals l).toArray t)).ownsRow w.heap.size t 1 (.slice (some ⟨w.heap.size,0,none⟩) n n) n (bvals l):=by
 subst hl
 refine ⟨by simp,.inr ⟨w.heap.size,l.length,(bvals l).toArray,rfl,Nat.le_refl _,Has.new w t _,Nat.le_refl _,by unfold maxLen; omega,by simp,?_⟩⟩
 exact List.take_of_length_le (by simp)
theorem run_make8 (N : Nat) (hn : N <= 140737488355328) (W : World) : (Instr.makeSlice 22 (.int .i64 (N : Int)) (.int .i64 (N : Int))).run Tryz.prog W = .ok (.slice (some ⟨W.heap.size,0,none⟩) N N) (W.alloc (.cells (bvals (List.replicate N 0)).toArray 5)):=by
 have h:=run_make_row' (P:=Tryz.prog) 22 5 (.int .u8 0) 1 Tryz.underlying22 fi8_info rfl .i64 .i64 N (by omega) (by omega) W
 rw [h,fiZeros_eq]
theorem fErr_zero {k s : Int} {n m : Nat} (h : fErr k s n m = 0) : ∃ x y : Nat,k = x /\ s = y /\ x <= 4 /\ 1 <= y /\ y <= 8 /\ (m = 0 \/ m = n):=by
 unfold fErr at h
 by_cases hc : (0 <= k /\ k <= 4) /\ (1 <= s /\ s <= 8) /\ (m = 0 \/ m = n)
 ·exact ⟨k.toNat,s.toNat,by omega,by omega,by omega,by omega,by omega,hc.2.2⟩
 ·rw [if_neg hc] at h; exact absurd h (by omega)
def flR (un : Bool) (k s : Int) (l u : List UInt8) : List UInt8:=if fErr k s l.length u.length = 0 then fl un k.toNat s.toNat u l l.length else []
theorem u8_plus (x y : UInt8) : ∃ z : Nat,z < 256 /\ UInt8.ofNat z = x + y /\ IntKind.u8.wrap ((x.toNat : Int) + (y.toNat : Int)) = (z : Int):=by
 refine ⟨(x + y).toNat,(x + y).toNat_lt,UInt8.toNat_inj.1 (by rw [UInt8.toNat_ofNat']; exact Nat.mod_eq_of_lt (x + y).toNat_lt),?_⟩
 rw [IntKind.wrap_u8,UInt8.toNat_add]
 omega
theorem u8_less (x y : UInt8) : ∃ z : Nat,z < 256 /\ UInt8.ofNat z = x - y /\ IntKind.u8.wrap ((x.toNat : Int) - (y.toNat : Int)) = (z : Int):=by
 refine ⟨(x - y).toNat,(x - y).toNat_lt,UInt8.toNat_inj.1 (by rw [UInt8.toNat_ofNat']; exact Nat.mod_eq_of_lt (x - y).toNat_lt),?_⟩
 have:=x.toNat_lt
 have:=y.toNat_lt
 rw [IntKind.wrap_u8,UInt8.toNat_sub]
 omega
structure FlSt (w : World) (g n i : Nat) (un : Bool) (k s : Nat) (l u : List UInt8) (wr : World) : Prop where
 own : wr.ownsRow w.heap.size 5 1 (.slice (some ⟨g,0,none⟩) n n) n (bvals (fill (fl un k s u l i) n))
 only : Only [] w wr
set_option maxRecDepth 100000 in
set_option maxHeartbeats 4000000 in
theorem undo_any (k s : Int) (A B : Option Addr) (n c m d : Nat) (l u : List UInt8) (w : World) (hb : Holds w 1 A n (bvals l)) (hl : l.length = n) (hu : Holds w 1 B m (bvals u)) (hul : u.length = m) (hn : n <= 100000000) :
 Calls Tryz.prog 95 #[.int .i64 k,.slice A n c,.slice B m d,.int .i64 s] w fun e w'=>∃ v,e = .returned (.tuple #[v,.int .i64 (fErr k s n m : Nat)]) /\ w'.ownsRow w.heap.size 5 1 v (flR true k s l u).length (bvals (flR true k s l u)) /\ Only [] w w':=by
 have HM:=hide (fun w=>mayBeF_any k s A B n c m d w)
 by_cases hf : fErr k s n m = 0
 ·have hf':=hf
  rw [hf] at HM ⊢
  obtain ⟨k,s,rfl,rfl,hk,hs1,hs8,hm⟩:=fErr_zero hf'
  have hR : flR true k s l u = fl true k s u l n:=by
   unfold flR
   rw [hl,hul,if_pos hf,Int.toNat_natCast,Int.toNat_natCast]
  rw [hR,fl_length]
  have hdec : decide ((0 : Nat) = 0) = true:=rfl
  rw [hdec] at HM
  have hmk:=run_make8 n (by omega)
  have HB:=hide (aI hb (aI hl (aI hu (aI hul (aI hk (aI hs1 hs8))))))
  clear hb hl hu hul hm hf hf' hR hdec hk hs1 hs8
  go_enter Tryz.func95,Tryz.ntmps95
  go_wp2_with fail
  refine (HM.out _).mono ?_
  rintro e w1 ⟨rfl,rfl⟩
  go_wp2_with fail
  have H0:=hide (show FlSt w1 w1.heap.size n 0 true k s l u (w1.alloc (.cells (bvals (List.replicate n 0)).toArray 5)) from ⟨by
   rw [show fl true k s u l 0 = [] from rfl,fill_nil]
   exact fiOwn_made w1 5 (List.replicate n 0) n (by simp) (by omega),(Only.refl [] w1).alloc _⟩)
  go_loopw [24] (fun i wr=>∃ j : Nat,j <= n /\ i = .int .i64 j /\ FlSt w1 w1.heap.size n j true k s l u wr) (fun i _=>n - (intOf i).toNat)
  case atStart=>exact ⟨0,Nat.zero_le _,rfl,H0.out⟩
  case round =>
   obtain ⟨j,hj,rfl,S⟩:=hrel
   by_cases hlt : j < n
   ·obtain ⟨hb,hl,hu,hul,hk,hs1,hs8⟩:=HB.out
    obtain ⟨bb,oo,rfl,hc⟩:=(hb.keep S.only (by simp)).addr (by rw [bvals_length]; omega)
    have c0 : wr.cell? ⟨bb,oo + j,none⟩ = some (.int .u8 ((l.getD j 0).toNat : Int)):=hc j _ (by rw [bvals_get l j (by omega),List.getD_eq_getElem?_getD,List.getElem?_eq_getElem (by omega)]; rfl)
    obtain ⟨g',hg',_,_,hfr,hcell⟩:=own_open S.own (by omega)
    obtain rfl : w1.heap.size = g':=by injection hg' with h; injection h
    have hlen : (fill (fl true k s u l j) n).length = n:=fill_length _ _ (by rw [fl_length]; omega)
    obtain ⟨b3,c3⟩ : ∃ b : Nat,wr.cell? ⟨w1.heap.size,j,none⟩ = some (.int .u8 (b : Int)):=⟨_,hcell j _ (bvals_get _ j (by rw [hlen]; omega))⟩
    have f3:=hfr j
    have HG:=hide (guess_any k j s (some ⟨w1.heap.size,0,none⟩) B n n m d (fill (fl true k s u l j) n) u wr hk hs8 (by omega) (Holds.of_own S.own) hlen (hu.keep S.only (by simp)) hul)
    have hlf:=lf_fill (fl true k s u l j) n s hs1
    rw [fl_length] at hlf
    rw [hlf] at HG
    obtain ⟨z,hz,hz2,hz3⟩:=u8_plus (l.getD j 0) (gs k (lf (fl true k s u l j) j s) (u.getD j 0) (lf u j s))
    have hS : FlSt w1 w1.heap.size n (j + 1) true k s l u (wr.setCell ⟨w1.heap.size,j,none⟩ (.int .u8 (z : Int))):=⟨by
     have h:=own_set S.own j (.int .u8 (z : Int))
     have e : (fill (fl true k s u l j) n).set j (UInt8.ofNat z) = fill (fl true k s u l (j + 1)) n:=by
      have h2:=fill_set (fl true k s u l j) n (UInt8.ofNat z) (by rw [fl_length]; omega)
      rw [fl_length] at h2
      rw [h2,fl,hz2]
      rfl
     rw [bvals_set _ _ _ hz,e] at h
     exact h,S.only.setCell (by intro h; exact absurd h (Nat.lt_irrefl _)) _⟩
    have HS:=hide hS
    generalize (l.getD j 0).toNat = x at *
    generalize (gs k (lf (fl true k s u l j) j s) (u.getD j 0) (lf u j s)).toNat = y at *
    clear hb hl hu hul hk hs1 hs8 hc hfr hcell hlen hz hz2 hS S hg'
    have HL:=hide hlt
    go_wp2_with fail
    refine (HG.out).mono ?_
    rintro e w2 ⟨rfl,rfl⟩
    go_wp2_with fail
    go_roundw
    case rel=>exact ⟨j + 1,HL.out,by go_num,HS.out⟩
    case measure=>simp [intOf]; omega
   ·obtain rfl : j = n:=by omega
    go_wp2_with fail
    go_ret2
    refine ⟨_,rfl,?_,S.only⟩
    have h:=S.own
    rw [fill_all _ _ (fl_length _ _ _ _ _ _)] at h
    exact h
 ·have hR : flR true k s l u = []:=by
   unfold flR
   rw [hl,hul,if_neg hf]
  have h1 : fErr k s n m = 1:=(fErr_one k s n m).resolve_left hf
  rw [h1] at HM ⊢
  rw [hR]
  have hdec : decide ((1 : Nat) = 0) = false:=rfl
  rw [hdec] at HM
  clear hb hl hu hul hR h1 hf hdec
  go_enter Tryz.func95,Tryz.ntmps95
  go_wp2_with fail
  refine (HM.out _).mono ?_
  rintro e w1 ⟨rfl,rfl⟩
  go_wp2_with fail
  go_ret2
  exact ⟨_,rfl,⟨rfl,.inl ⟨rfl,rfl⟩⟩,Only.refl [] _⟩
set_option maxRecDepth 100000 in
set_option maxHeartbeats 4000000 in
theorem do_any (k s : Int) (A B : Option Addr) (n c m d : Nat) (l u : List UInt8) (w : World) (hb : Holds w 1 A n (bvals l)) (hl : l.length = n) (hu : Holds w 1 B m (bvals u)) (hul : u.length = m) (hn : n <= 100000000) :
 Calls Tryz.prog 36 #[.int .i64 k,.slice A n c,.slice B m d,.int .i64 s] w fun e w'=>∃ v,e = .returned (.tuple #[v,.int .i64 (fErr k s n m : Nat)]) /\ w'.ownsRow w.heap.size 5 1 v (flR false k s l u).length (bvals (flR false k s l u)) /\ Only [] w w':=by
 have HM:=hide (fun w=>mayBeF_any k s A B n c m d w)
 by_cases hf : fErr k s n m = 0
 ·have hf':=hf
  rw [hf] at HM ⊢
  obtain ⟨k,s,rfl,rfl,hk,hs1,hs8,hm⟩:=fErr_zero hf'
  have hR : flR false k s l u = fl false k s u l n:=by
   unfold flR
   rw [hl,hul,if_pos hf,Int.toNat_natCast,Int.toNat_natCast]
  rw [hR,fl_length]
  have hdec : decide ((0 : Nat) = 0) = true:=rfl
  rw [hdec] at HM
  have hmk:=run_make8 n (by omega)
  have HB:=hide (aI hb (aI hl (aI hu (aI hul (aI hk (aI hs1 hs8))))))
  clear hb hl hu hul hm hf hf' hR hdec hk hs1 hs8
  go_enter Tryz.func36,Tryz.ntmps36
  go_wp2_with fail
  refine (HM.out _).mono ?_
  rintro e w1 ⟨rfl,rfl⟩
  go_wp2_with fail
  have H0:=hide (show FlSt w1 w1.heap.size n 0 false k s l u (w1.alloc (.cells (bvals (List.replicate n 0)).toArray 5)) from ⟨by
   rw [show fl false k s u l 0 = [] from rfl,fill_nil]
   exact fiOwn_made w1 5 (List.replicate n 0) n (by simp) (by omega),(Only.refl [] w1).alloc _⟩)
  go_loopw [24] (fun i wr=>∃ j : Nat,j <= n /\ i = .int .i64 j /\ FlSt w1 w1.heap.size n j false k s l u wr) (fun i _=>n - (intOf i).toNat)
  case atStart=>exact ⟨0,Nat.zero_le _,rfl,H0.out⟩
  case round =>
   obtain ⟨j,hj,rfl,S⟩:=hrel
   by_cases hlt : j < n
   ·obtain ⟨hb,hl,hu,hul,hk,hs1,hs8⟩:=HB.out
    obtain ⟨bb,oo,rfl,hc⟩:=(hb.keep S.only (by simp)).addr (by rw [bvals_length]; omega)
    have c0 : wr.cell? ⟨bb,oo + j,none⟩ = some (.int .u8 ((l.getD j 0).toNat : Int)):=hc j _ (by rw [bvals_get l j (by omega),List.getD_eq_getElem?_getD,List.getElem?_eq_getElem (by omega)]; rfl)
    obtain ⟨g',hg',_,_,hfr,hcell⟩:=own_open S.own (by omega)
    obtain rfl : w1.heap.size = g':=by injection hg' with h; injection h
    have hlen : (fill (fl false k s u l j) n).length = n:=fill_length _ _ (by rw [fl_length]; omega)
    obtain ⟨b3,c3⟩ : ∃ b : Nat,wr.cell? ⟨w1.heap.size,j,none⟩ = some (.int .u8 (b : Int)):=⟨_,hcell j _ (bvals_get _ j (by rw [hlen]; omega))⟩
    have f3:=hfr j
    have HG:=hide (guess_any k j s (some ⟨bb,oo,none⟩) B n c m d l u wr hk hs8 (by omega) (hb.keep S.only (by simp)) hl (hu.keep S.only (by simp)) hul)
    have hlf:=True.intro
    obtain ⟨z,hz,hz2,hz3⟩:=u8_less (l.getD j 0) (gs k (lf l j s) (u.getD j 0) (lf u j s))
    have hS : FlSt w1 w1.heap.size n (j + 1) false k s l u (wr.setCell ⟨w1.heap.size,j,none⟩ (.int .u8 (z : Int))):=⟨by
     have h:=own_set S.own j (.int .u8 (z : Int))
     have e : (fill (fl false k s u l j) n).set j (UInt8.ofNat z) = fill (fl false k s u l (j + 1)) n:=by
      have h2:=fill_set (fl false k s u l j) n (UInt8.ofNat z) (by rw [fl_length]; omega)
      rw [fl_length] at h2
      rw [h2,fl,hz2]
      rfl
     rw [bvals_set _ _ _ hz,e] at h
     exact h,S.only.setCell (by intro h; exact absurd h (Nat.lt_irrefl _)) _⟩
    have HS:=hide hS
    generalize (l.getD j 0).toNat = x at *
    generalize (gs k (lf l j s) (u.getD j 0) (lf u j s)).toNat = y at *
    clear hb hl hu hul hk hs1 hs8 hc hfr hcell hlen hz hz2 hS S hg'
    have HL:=hide hlt
    go_wp2_with fail
    refine (HG.out).mono ?_
    rintro e w2 ⟨rfl,rfl⟩
    go_wp2_with fail
    go_roundw
    case rel=>exact ⟨j + 1,HL.out,by go_num,HS.out⟩
    case measure=>simp [intOf]; omega
   ·obtain rfl : j = n:=by omega
    go_wp2_with fail
    go_ret2
    refine ⟨_,rfl,?_,S.only⟩
    have h:=S.own
    rw [fill_all _ _ (fl_length _ _ _ _ _ _)] at h
    exact h
 ·have hR : flR false k s l u = []:=by
   unfold flR
   rw [hl,hul,if_neg hf]
  have h1 : fErr k s n m = 1:=(fErr_one k s n m).resolve_left hf
  rw [h1] at HM ⊢
  rw [hR]
  have hdec : decide ((1 : Nat) = 0) = false:=rfl
  rw [hdec] at HM
  clear hb hl hu hul hR h1 hf hdec
  go_enter Tryz.func36,Tryz.ntmps36
  go_wp2_with fail
  refine (HM.out _).mono ?_
  rintro e w1 ⟨rfl,rfl⟩
  go_wp2_with fail
  go_ret2
  exact ⟨_,rfl,⟨rfl,.inl ⟨rfl,rfl⟩⟩,Only.refl [] _⟩
theorem cell8 {w : World} {bb oo : Nat} {l : List UInt8} (h : ∀ j u,(bvals l)[j]? = some u -> w.cell? ⟨bb,oo + j,none⟩ = some u) {i : Nat} (hi : i < l.length) : w.cell? ⟨bb,oo + i,none⟩ = some (.int .u8 ((l.getD i 0).toNat : Int)) :=
 h i _ (by rw [bvals_get l i hi,List.getD_eq_getElem?_getD,List.getElem?_eq_getElem hi]; rfl)
theorem i64_or_low (a b : Nat) (hb : b < 256) (ha : a < 256) : bits .or .i64 ((a * 256 : Nat) : Int) (b : Int) = ((a * 256 + b : Nat) : Int):=by
 have e1 : (BitVec.ofInt 64 ((a * 256 : Nat) : Int)).toNat = a * 256:=by rw [BitVec.toNat_ofInt]; omega
 have e2 : (BitVec.ofInt 64 (b : Int)).toNat = b:=by rw [BitVec.toNat_ofInt]; omega
 have key : (BitVec.ofInt 64 ((a * 256 : Nat) : Int) ||| BitVec.ofInt 64 (b : Int)).toNat = a * 256 + b:=by
  rw [BitVec.toNat_or,e1,e2,Nat.or_comm,show a * 256 = a * 2 ^ 8 from rfl,or_of_lt (show b < 2 ^ 8 by omega)]
  omega
 show IntKind.i64.wrap ((BitVec.ofInt 64 ((a * 256 : Nat) : Int) ||| BitVec.ofInt 64 (b : Int)).toNat : Nat) = _
 rw [key,IntKind.wrap_i64]
 omega
theorem i64_low (v n : Nat) (hv : v < 256) (hn : n <= 8) : bits .and .i64 (v : Int) ((2 ^ n - 1 : Nat) : Int) = ((v % 2 ^ n : Nat) : Int):=by
 have hp : 2 ^ n <= 256:=Nat.pow_le_pow_right (n:=2) (i:=n) (j:=8) (by omega) hn
 have h1 : 1 <= 2 ^ n:=Nat.one_le_two_pow
 have e1 : (BitVec.ofInt 64 (v : Int)).toNat = v:=by rw [BitVec.toNat_ofInt]; omega
 have e2 : (BitVec.ofInt 64 ((2 ^ n - 1 : Nat) : Int)).toNat = 2 ^ n - 1:=by rw [BitVec.toNat_ofInt]; omega
 have key : (BitVec.ofInt 64 (v : Int) &&& BitVec.ofInt 64 ((2 ^ n - 1 : Nat) : Int)).toNat = v % 2 ^ n:=by
  rw [BitVec.toNat_and,e1,e2,Nat.and_two_pow_sub_one_eq_mod]
 show IntKind.i64.wrap ((BitVec.ofInt 64 (v : Int) &&& BitVec.ofInt 64 ((2 ^ n - 1 : Nat) : Int)).toNat : Nat) = _
 rw [key,IntKind.wrap_i64]
 have : v % 2 ^ n <= v:=Nat.mod_le _ _
 omega
theorem wr64 {z : Int} {n : Nat} (h : z = (n : Int)) (hn : n <= 4611686018427387904) : wrap64 z = (n : Int) /\ IntKind.i64.wrap z = (n : Int):=by
 subst h
 exact ⟨IntWalk.wrap64_in _ ⟨by omega,by omega⟩,by rw [IntKind.wrap_i64]; omega⟩
set_option maxRecDepth 100000 in
set_option maxHeartbeats 4000000 in
theorem sample16 (A : Option Addr) (n c i : Nat) (l : List UInt8) (w : World) (hb : Holds w 1 A n (bvals l)) (hl : l.length = n) (hi : 2 * i + 2 <= n) (hn : n <= 100000000) :
 Calls Tryz.prog 132 #[.slice A n c,.int .i64 16,.int .i64 (i : Int)] w fun e w'=>e = .returned (.int .i64 ((smp l 16 i 16 : Nat) : Int)) /\ Only [] w w':=by
 obtain ⟨bb,oo,rfl,hc⟩:=hb.addr (by rw [bvals_length]; omega)
 obtain ⟨p,hp⟩ : ∃ p,p = 2 * i:=⟨_,rfl⟩
 have c0:=cell8 hc (i:=p) (by omega)
 have c1:=cell8 hc (i:=p + 1) (by omega)
 have e : smp l 16 i 16 = (l.getD p 0).toNat * 256 + (l.getD (p + 1) 0).toNat:=by rw [smp_16,<- hp]
 rw [e]
 have hx:=(l.getD p 0).toNat_lt
 have hy:=(l.getD (p + 1) 0).toNat_lt
 generalize (l.getD p 0).toNat = x at *
 generalize (l.getD (p + 1) 0).toNat = y at *
 have V1:=hide (wr64 (z:=2 * (i : Int)) (n:=p) (by omega) (by omega))
 have V2:=hide (wr64 (z:=(p : Int) + 1) (n:=p + 1) (by omega) (by omega))
 have V3:=hide (wr64 (z:=(x : Int)) (n:=x) rfl (by omega))
 have V4:=hide (wr64 (z:=(y : Int)) (n:=y) rfl (by omega))
 have V5:=hide (wr64 (z:=(x : Int) * 256) (n:=x * 256) (by omega) (by omega))
 have hor:=i64_or_low x y (by omega) (by omega)
 obtain ⟨z,hz⟩ : ∃ z,z = x * 256 + y:=⟨_,rfl⟩
 rw [<- hz] at hor ⊢
 obtain ⟨r,hr⟩ : ∃ r,r = p + 1:=⟨_,rfl⟩
 rw [<- hr] at c1 V2
 obtain ⟨t,ht⟩ : ∃ t,t = x * 256:=⟨_,rfl⟩
 rw [<- ht] at hor V5
 have i0 : p < n:=by omega
 have i1 : r < n:=by omega
 clear hp e hc hb hl hi hn hx hy hz hr ht
 obtain ⟨v1,u1⟩:=V1.out
 obtain ⟨v2,u2⟩:=V2.out
 obtain ⟨v3,u3⟩:=V3.out
 obtain ⟨v4,u4⟩:=V4.out
 obtain ⟨v5,u5⟩:=V5.out
 clear V1 V2 V3 V4 V5
 go_enter Tryz.func132,Tryz.ntmps132
 go_wp2_with fail
 go_quiet (fail)
 go_wp2_with fail
 go_ret
 exact ⟨rfl,(Only.refl [] w).drewN nq⟩
set_option maxRecDepth 100000 in
set_option maxHeartbeats 4000000 in
theorem sample8 (d : Nat) (hd : d = 1 \/ d = 2 \/ d = 4 \/ d = 8) (A : Option Addr) (n c i : Nat) (l : List UInt8) (w : World) (hb : Holds w 1 A n (bvals l)) (hl : l.length = n) (hi : i * d + d <= 8 * n) (hn : n <= 100000000) :
 Calls Tryz.prog 132 #[.slice A n c,.int .i64 (d : Int),.int .i64 (i : Int)] w fun e w'=>e = .returned (.int .i64 ((smp l d i d : Nat) : Int)) /\ Only [] w w':=by
 obtain ⟨bb,oo,rfl,hc⟩:=hb.addr (by rw [bvals_length]; omega)
 obtain ⟨f,hf⟩ : ∃ f,f = i * d:=⟨_,rfl⟩
 obtain ⟨r,hr⟩ : ∃ r,r = f % 8:=⟨_,rfl⟩
 obtain ⟨q,hq⟩ : ∃ q,q = f / 8:=⟨_,rfl⟩
 have hrd : r + d <= 8:=by
  rcases hd with rfl | rfl | rfl | rfl <;> omega
 obtain ⟨b,hb2⟩ : ∃ b,b = 8 - r - d:=⟨_,rfl⟩
 have c0:=cell8 hc (i:=q) (by omega)
 have e : smp l d i d = (l.getD q 0).toNat / 2 ^ b % 2 ^ d:=by rw [smp_in l d i d (by rw [<- hf,<- hr]; omega),<- hf,<- hr,<- hq,<- hb2]
 rw [e]
 have hx:=(l.getD q 0).toNat_lt
 generalize (l.getD q 0).toNat = x at *
 have hyx : x / 2 ^ b <= x:=Nat.div_le_self _ _
 obtain ⟨y,hy⟩ : ∃ y,y = x / 2 ^ b:=⟨_,rfl⟩
 have eD : (x : Int) / 2 ^ b = (y : Int):=by rw [hy]; simp
 rw [<- hy] at hyx ⊢
 have hand:=i64_low y d (by omega) (by omega)
 have hfn : f <= 800000000:=by omega
 have hm : (2 : Nat) ^ d - 1 = 1 \/ (2 : Nat) ^ d - 1 = 3 \/ (2 : Nat) ^ d - 1 = 15 \/ (2 : Nat) ^ d - 1 = 255:=by rcases hd with rfl | rfl | rfl | rfl <;> simp
 obtain ⟨z,hz⟩ : ∃ z,z = y % 2 ^ d:=⟨_,rfl⟩
 rw [<- hz] at hand ⊢
 have V1:=hide (wr64 (z:=(i : Int) * (d : Int)) (n:=f) (by rw [hf]; exact (Int.natCast_mul i d).symm) (by omega))
 have V2:=hide (wr64 (z:=8 - (d : Int)) (n:=8 - d) (by omega) (by omega))
 have V3:=hide (wr64 (z:=((8 - d : Nat) : Int) - (r : Int)) (n:=b) (by omega) (by omega))
 have V4:=hide (wr64 (z:=(x : Int)) (n:=x) rfl (by omega))
 have V5 : Hid ((f : Int).tmod 8 = (r : Int)):=hide (by rw [hr]; exact (Int.ofNat_tmod f 8).symm)
 have V6 : Hid ((f : Int).tdiv 8 = (q : Int)):=hide (by rw [hq]; exact (Int.ofNat_tdiv f 8).symm)
 have i0 : q < n:=by omega
 have hbn : ¬ (b : Int) < 0:=by omega
 have m1 : min b 64 = b:=by omega
 have m2 : min d 64 = d:=by omega
 have h16 : ¬ (d : Int) = 16:=by omega
 have V7:=hide (wr64 (z:=(2 : Int) ^ d) (n:=2 ^ d) (Int.natCast_pow 2 d).symm (by have:=Nat.pow_le_pow_right (n:=2) (i:=d) (j:=8) (by omega) (by omega); omega))
 have V8:=hide (wr64 (z:=((2 ^ d : Nat) : Int) - 1) (n:=2 ^ d - 1) (by have:=Nat.one_le_two_pow (n:=d); omega) (by omega))
 have V9:=hide (wr64 (z:=(q : Int)) (n:=q) rfl (by omega))
 obtain ⟨M,hM⟩ : ∃ M,M = 2 ^ d:=⟨_,rfl⟩
 rw [<- hM] at V7 V8 hand
 clear hf hr hq hb2 hy hyx hm hz hc hb hl hi hn hx hfn e hM
 clear hd hrd
 obtain ⟨v1,u1⟩:=V1.out
 obtain ⟨v2,u2⟩:=V2.out
 obtain ⟨v3,u3⟩:=V3.out
 obtain ⟨v4,u4⟩:=V4.out
 have v5:=V5.out
 have v6:=V6.out
 obtain ⟨v7,u7⟩:=V7.out
 obtain ⟨v8,u8⟩:=V8.out
 obtain ⟨v9,u9⟩:=V9.out
 clear V1 V2 V3 V4 V5 V6 V7 V8 V9
 go_enter Tryz.func132,Tryz.ntmps132
 go_wp2_with fail
 go_quiet (fail)
 go_wp2_with fail
 go_ret
 exact ⟨rfl,(Only.refl [] w).drewN nq⟩
end Go.Proofs.YtjfjmkkkbcgohaaGreatDoor
