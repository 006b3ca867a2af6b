import Derived.Test.YtjfjmkkkbcgohaaGreatDoorMFiH
namespace Go.Proofs.YtjfjmkkkbcgohaaGreatDoor
open Go Go.RowKit
set_option maxRecDepth 100000 in
theorem refFar_any (a b d : Int) (w : World) (ha : -1000000 <= a /\ a <= 1000000) (hb : -1000000 <= b /\ b <= 1000000) (hd : dist a b = d) : Calls Tryz.prog 133 #[.int .i64 a,.int .i64 b] w fun e w'=>e = .returned (.int .i64 d) /\ w' = w:=by
 have key : dist a b = if a < b then b - a else a - b:=rfl
 rw [key] at hd
 by_cases h : a < b
 ·rw [if_pos h] at hd
  subst hd
  clear key
  go_enter Tryz.func133,Tryz.ntmps133
  go_wp2_with fail
  go_ret
  exact ⟨rfl,rfl⟩
 ·rw [if_neg h] at hd
  subst hd
  clear key
  go_enter Tryz.func133,Tryz.ntmps133
  go_wp2_with fail
  go_ret
  exact ⟨rfl,rfl⟩
set_option maxRecDepth 100000 in
set_option maxHeartbeats 4000000 in
theorem refPaeth_any (a b c : UInt8) (w : World) : Calls Tryz.prog 106 #[.int .u8 (a.toNat : Int),.int .u8 (b.toNat : Int),.int .u8 (c.toNat : Int)] w fun e w'=>e = .returned (.int .u8 ((pae a b c).toNat : Int)) /\ w' = w:=by
 have key : pae a b c = if dist b.toNat c.toNat <= dist a.toNat c.toNat /\ dist b.toNat c.toNat <= dist ((a.toNat : Int) + b.toNat) (2 * (c.toNat : Int)) then a else if dist a.toNat c.toNat <= dist ((a.toNat : Int) + b.toNat) (2 * (c.toNat : Int)) then b else c:=rfl
 have ha:=a.toNat_lt
 have hb:=b.toNat_lt
 have hc:=c.toNat_lt
 obtain ⟨p,hp⟩ : ∃ p,p = (a.toNat : Int) + (b.toNat : Int) - (c.toNat : Int):=⟨_,rfl⟩
 have HA:=hide (fun w=>refFar_any p (a.toNat : Int) (dist b.toNat c.toNat) w (by omega) (by omega) (by unfold dist; split <;> split <;> omega))
 have HB:=hide (fun w=>refFar_any p (b.toNat : Int) (dist a.toNat c.toNat) w (by omega) (by omega) (by unfold dist; split <;> split <;> omega))
 have HC:=hide (fun w=>refFar_any p (c.toNat : Int) (dist ((a.toNat : Int) + b.toNat) (2 * (c.toNat : Int))) w (by omega) (by omega) (by unfold dist; split <;> split <;> omega))
 generalize dist b.toNat c.toNat = x at *
 generalize dist a.toNat c.toNat = y at *
 generalize dist ((a.toNat : Int) + b.toNat) (2 * (c.toNat : Int)) = z at *
 generalize pae a b c = r at *
 generalize ea : a.toNat = A at *
 generalize eb : b.toNat = B at *
 generalize ec : c.toNat = C at *
 obtain ⟨P,hP⟩ : ∃ P,P = (A : Int) + (B : Int):=⟨_,rfl⟩
 have wr : ∀ z : Int,-1000000 <= z -> z <= 1000000 -> wrap64 z = z /\ IntKind.i64.wrap z = z:=fun z h1 h2=>⟨IntWalk.wrap64_in _ ⟨by omega,by omega⟩,by rw [IntKind.wrap_i64]; omega⟩
 have W1 : Hid (wrap64 ((A : Int) + (B : Int)) = P /\ IntKind.i64.wrap ((A : Int) + (B : Int)) = P):=hide (by rw [hP]; exact wr _ (by omega) (by omega))
 have W2 : Hid (wrap64 (P - (C : Int)) = p /\ IntKind.i64.wrap (P - (C : Int)) = p):=hide (by rw [hP,hp]; exact wr _ (by omega) (by omega))
 have W6:=hide (wr (A : Int) (by omega) (by omega))
 have W7:=hide (wr (B : Int) (by omega) (by omega))
 have W8:=hide (wr (C : Int) (by omega) (by omega))
 clear hP hp wr ha hb hc
 obtain ⟨w1,v1⟩:=W1.out
 obtain ⟨w2,v2⟩:=W2.out
 obtain ⟨w6,v6⟩:=W6.out
 obtain ⟨w7,v7⟩:=W7.out
 obtain ⟨w8,v8⟩:=W8.out
 clear W1 W2 W6 W7 W8
 by_cases h1 : x <= y
 ·by_cases h2 : x <= z
  ·rw [if_pos ⟨h1,h2⟩] at key
   rw [key,ea]
   clear key ea eb ec
   go_enter Tryz.func106,Tryz.ntmps106
   go_wp2_with fail
   refine (HA.out _).mono ?_
   rintro e w1 ⟨rfl,rfl⟩
   go_wp2_with fail
   refine (HB.out _).mono ?_
   rintro e w1 ⟨rfl,rfl⟩
   go_wp2_with fail
   refine (HC.out _).mono ?_
   rintro e w1 ⟨rfl,rfl⟩
   go_wp2_with fail
   go_ret
   exact ⟨rfl,rfl⟩
  ·by_cases h3 : y <= z
   ·exact absurd (Int.le_trans h1 h3) h2
   ·rw [if_neg (fun h=>h2 h.2),if_neg h3] at key
    rw [key,ec]
    clear key ea eb ec
    go_enter Tryz.func106,Tryz.ntmps106
    go_wp2_with fail
    refine (HA.out _).mono ?_
    rintro e w1 ⟨rfl,rfl⟩
    go_wp2_with fail
    refine (HB.out _).mono ?_
    rintro e w1 ⟨rfl,rfl⟩
    go_wp2_with fail
    refine (HC.out _).mono ?_
    rintro e w1 ⟨rfl,rfl⟩
    go_wp2_with fail
    go_ret
    exact ⟨rfl,rfl⟩
 ·by_cases h3 : y <= z
  ·rw [if_neg (fun h=>h1 h.1),if_pos h3] at key
   rw [key,eb]
   clear key ea eb ec
   go_enter Tryz.func106,Tryz.ntmps106
   go_wp2_with fail
   refine (HA.out _).mono ?_
   rintro e w1 ⟨rfl,rfl⟩
   go_wp2_with fail
   refine (HB.out _).mono ?_
   rintro e w1 ⟨rfl,rfl⟩
   go_wp2_with fail
   refine (HC.out _).mono ?_
   rintro e w1 ⟨rfl,rfl⟩
   go_wp2_with fail
   go_ret
   exact ⟨rfl,rfl⟩
  ·rw [if_neg (fun h=>h1 h.1),if_neg h3] at key
   rw [key,ec]
   clear key ea eb ec
   go_enter Tryz.func106,Tryz.ntmps106
   go_wp2_with fail
   refine (HA.out _).mono ?_
   rintro e w1 ⟨rfl,rfl⟩
   go_wp2_with fail
   refine (HB.out _).mono ?_
   rintro e w1 ⟨rfl,rfl⟩
   go_wp2_with fail
   refine (HC.out _).mono ?_
   rintro e w1 ⟨rfl,rfl⟩
   go_wp2_with fail
   go_ret
   exact ⟨rfl,rfl⟩
set_option maxRecDepth 100000 in
set_option maxHeartbeats 4000000 in
theorem refGuess_any (k : Nat) (a b cc : UInt8) (w : World) (hk : k <= 4) : Calls Tryz.prog 59 #[.int .i64 k,.int .u8 (a.toNat : Int),.int .u8 (b.toNat : Int),.int .u8 (cc.toNat : Int)] w fun e w'=>e = .returned (.int .u8 ((gs k a b cc).toNat : Int)) /\ w' = w:=by
 have HP:=hide (fun w=>refPaeth_any a b cc w)
 have g0 : gs 0 a b cc = 0:=rfl
 have g1 : gs 1 a b cc = a:=rfl
 have g2 : gs 2 a b cc = b:=rfl
 have g3 : gs 3 a b cc = UInt8.ofNat ((a.toNat + b.toNat) / 2):=rfl
 have g4 : gs 4 a b cc = pae a b cc:=rfl
 have ha:=a.toNat_lt
 have hb8:=b.toNat_lt
 rcases (show k = 0 \/ k = 1 \/ k = 2 \/ k = 3 \/ k = 4 by omega) with rfl | rfl | rfl | rfl | rfl
 ·rw [g0]
  clear g0 g1 g2 g3 g4 HP
  go_enter Tryz.func59,Tryz.ntmps59
  go_wp2_with fail
  go_ret
  exact ⟨rfl,rfl⟩
 ·rw [g1]
  clear g0 g1 g2 g3 g4 HP
  go_enter Tryz.func59,Tryz.ntmps59
  go_wp2_with fail
  go_ret
  exact ⟨rfl,rfl⟩
 ·rw [g2]
  clear g0 g1 g2 g3 g4 HP
  go_enter Tryz.func59,Tryz.ntmps59
  go_wp2_with fail
  go_ret
  exact ⟨rfl,rfl⟩
 ·rw [g3,UInt8.toNat_ofNat',Nat.mod_eq_of_lt (by omega : (a.toNat + b.toNat) / 2 < 2 ^ 8)]
  clear g0 g1 g2 g3 g4 HP
  generalize a.toNat = x at *
  generalize b.toNat = y at *
  generalize cc.toNat = u at *
  obtain ⟨z,hz⟩ : ∃ z,z = (x + y) / 2:=⟨_,rfl⟩
  rw [<- hz]
  obtain ⟨q,hq⟩ : ∃ q,q = x + y:=⟨_,rfl⟩
  have W1:=hide (wr64 (z:=(x : Int) + (y : Int)) (n:=q) (by omega) (by omega))
  have W3 : Hid ((q : Int).tdiv 2 = (z : Int)):=hide (by rw [hz,<- hq]; exact (Int.ofNat_tdiv q 2).symm)
  have W4 : Hid (IntKind.u8.wrap (z : Int) = (z : Int)):=hide (by rw [IntKind.wrap_u8]; omega)
  have W5:=hide (wr64 (z:=(z : Int)) (n:=z) rfl (by omega))
  have W6:=hide (wr64 (z:=(x : Int)) (n:=x) rfl (by omega))
  have W7:=hide (wr64 (z:=(y : Int)) (n:=y) rfl (by omega))
  clear hz hq
  obtain ⟨w1,v1⟩:=W1.out
  have w3:=W3.out
  have w4:=W4.out
  obtain ⟨w5,v5⟩:=W5.out
  obtain ⟨w6,v6⟩:=W6.out
  obtain ⟨w7,v7⟩:=W7.out
  clear W1 W3 W4 W5 W6 W7
  go_enter Tryz.func59,Tryz.ntmps59
  go_wp2_with fail
  go_ret
  exact ⟨rfl,rfl⟩
 ·rw [g4]
  clear g0 g1 g2 g3 g4
  go_enter Tryz.func59,Tryz.ntmps59
  go_wp2_with fail
  refine (HP.out _).mono ?_
  rintro e w1 ⟨rfl,rfl⟩
  go_wp2_with fail
  go_ret
  exact ⟨rfl,rfl⟩
theorem lf_far {l : List UInt8} {i s : Nat} (h : ¬ s <= i) : lf l i s = 0:=if_neg h
theorem lf_near {l : List UInt8} {i s : Nat} (h : s <= i) : lf l i s = l.getD (i - s) 0:=if_pos h
set_option maxRecDepth 100000 in
set_option maxHeartbeats 4000000 in
theorem both_bad (un : Bool) (k s : Int) (A B : Option Addr) (n c m d : Nat) (w : World) (hf : ¬ fErr k s n m = 0) :
 Calls Tryz.prog 25 #[.int .i64 k,.slice A n c,.slice B m d,.int .i64 s,.bool un] w fun e w'=>e = .returned (.tuple #[.slice none 0 0,.int .i64 1]) /\ w' = w:=by
 have hno : ¬ ((0 <= k /\ k <= 4) /\ (1 <= s /\ s <= 8) /\ (m = 0 \/ m = n)):=fun h=>hf (if_pos h)
 clear hf
 by_cases hk0 : 0 <= k
 ·by_cases hk4 : k <= 4
  ·by_cases hs1 : 1 <= s
   ·by_cases hs8 : s <= 8
    ·have hm0 : ¬ (m : Int) = 0:=by omega
     have hmn : ¬ (m : Int) = (n : Int):=by omega
     have b1 : ((m : Int) == 0) = false:=beq_eq_false_iff_ne.2 hm0
     have b2 : ((m : Int) == (n : Int)) = false:=beq_eq_false_iff_ne.2 hmn
     have b3 : ((m : Int) != 0) = true:=by rw [bne,b1]; rfl
     have b4 : ((m : Int) != (n : Int)) = true:=by rw [bne,b2]; rfl
     clear hno
     go_enter Tryz.func25,Tryz.ntmps25
     go_wp2_with fail
     go_ret2
     exact ⟨rfl,rfl⟩
    ·clear hno
     go_enter Tryz.func25,Tryz.ntmps25
     go_wp2_with fail
     go_ret2
     exact ⟨rfl,rfl⟩
   ·clear hno
    go_enter Tryz.func25,Tryz.ntmps25
    go_wp2_with fail
    go_ret2
    exact ⟨rfl,rfl⟩
  ·clear hno
   go_enter Tryz.func25,Tryz.ntmps25
   go_wp2_with fail
   go_ret2
   exact ⟨rfl,rfl⟩
 ·clear hno
  go_enter Tryz.func25,Tryz.ntmps25
  go_wp2_with fail
  go_ret2
  exact ⟨rfl,rfl⟩
set_option maxRecDepth 100000 in
set_option maxHeartbeats 8000000 in
theorem both_undo (k s : Int) (A B : Option Addr) (n c m d : Nat) (l u : List UInt8) (w : World) (hb : Holds w 1 A n (bvals l)) (hl : l.length = n) (hu : Holds w 1 B m (bvals u)) (hul : u.length = m) (hn : n <= 100000000) :
 Calls Tryz.prog 25 #[.int .i64 k,.slice A n c,.slice B m d,.int .i64 s,.bool true] w fun e w'=>∃ v,e = .returned (.tuple #[v,.int .i64 (fErr k s n m : Nat)]) /\ w'.ownsRow w.heap.size 5 1 v (flR true k s l u).length (bvals (flR true k s l u)) /\ Only [] w w':=by
 by_cases hf : fErr k s n m = 0
 ·have hf':=hf
  rw [hf]
  obtain ⟨k,s,rfl,rfl,hk,hs1,hs8,hm⟩:=fErr_zero hf'
  have hR : flR true k s l u = fl true k s u l n:=by
   unfold flR
   rw [hl,hul,if_pos hf,Int.toNat_natCast,Int.toNat_natCast]
  rw [hR,fl_length]
  have hmk:=run_make8 n (by omega)
  have hmm : (m : Int) = 0 \/ (¬ (m : Int) = 0 /\ ((m : Int) == 0) = false /\ m = n):=by
   by_cases h : m = 0
   ·exact .inl (by omega)
   ·exact .inr ⟨by omega,beq_eq_false_iff_ne.2 (by omega),by omega⟩
  have HB:=hide (aI hb (aI hl (aI hu (aI hul (aI hk (aI hs1 (aI hs8 (aI hm hn))))))))
  have hk1 : ¬ (k : Int) < 0:=by omega
  have hk2 : ¬ (4 : Int) < (k : Int):=by omega
  have hs3 : ¬ (s : Int) < 1:=by omega
  have hs4 : ¬ (8 : Int) < (s : Int):=by omega
  have dk : decide (4 < k) = false:=decide_eq_false (by omega)
  have ds : decide (s < 1) = false:=decide_eq_false (by omega)
  have ds2 : decide (8 < s) = false:=decide_eq_false (by omega)
  clear hb hl hu hul hm hf hf' hR hk hs1 hs8
  have HH : Hid (∀ w1 : World,FlSt w1 w1.heap.size n 0 true k s l u (w1.alloc (.cells (bvals (List.replicate n 0)).toArray 5))):=hide (fun w1=>⟨by
   rw [show fl true k s u l 0 = [] from rfl,fill_nil]
   exact fiOwn_made w1 5 (List.replicate n 0) n (by simp) (by omega),(Only.refl [] w1).alloc _⟩)
  rcases hmm with hm0 | ⟨hm0,hmb,hmn⟩
  ·obtain rfl : m = 0:=by omega
   clear hm0
   go_enter Tryz.func25,Tryz.ntmps25
   go_wp2_with fail
   go_loopw [13] (fun i wr=>∃ j : Nat,j <= n /\ i = .int .i64 j /\ FlSt w w.heap.size n j true k s l u wr) (fun i _=>n - (intOf i).toNat)
   case atStart=>exact ⟨0,Nat.zero_le _,rfl,HH.out w⟩
   case round =>
    obtain ⟨j,hj,rfl,S⟩:=hrel
    by_cases hlt : j < n
    ·obtain ⟨hb,hl,hu,hul,hk,hs1,hs8,hm,hn⟩:=HB.out
     obtain ⟨bb1,oo1,rfl,hc⟩:=(hb.keep S.only (by simp)).addr (by rw [bvals_length]; omega)
     have c0:=cell8 hc (i:=j) (by omega)
     obtain ⟨g',hg',_,_,hfr,hcell⟩:=own_open S.own (by omega)
     obtain rfl : w.heap.size = g':=by injection hg' with h; injection h
     have hlen : (fill (fl true k s u l j) n).length = n:=fill_length _ _ (by rw [fl_length]; omega)
     obtain ⟨b3,c3⟩ : ∃ b : Nat,wr.cell? ⟨w.heap.size,j,none⟩ = some (.int .u8 (b : Int)):=⟨_,hcell j _ (bvals_get _ j (by rw [hlen]; omega))⟩
     have f3:=hfr j
     have hnn:=hn
     obtain ⟨gg,hgg⟩ : ∃ gg,gg = gs k (lf (fl true k s u l j) j s) (u.getD j 0) (lf u j s):=⟨_,rfl⟩
     obtain ⟨z,hz,hz2,hz3⟩:=u8_plus (l.getD j 0) gg
     have hS : FlSt w w.heap.size n (j + 1) true k s l u (wr.setCell ⟨w.heap.size,j,none⟩ (.int .u8 (z : Int))):=⟨by
      have h:=own_set S.own j (.int .u8 (z : Int))
      have e : (fill (fl true k s u l j) n).set j (UInt8.ofNat z) = fill (fl true k s u l (j + 1)) n:=by
       have h2:=fill_set (fl true k s u l j) n (UInt8.ofNat z) (by rw [fl_length]; omega)
       rw [fl_length] at h2
       rw [h2,fl,hz2,hgg]
       rfl
      rw [bvals_set _ _ _ hz,e] at h
      exact h,S.only.setCell (by intro h; exact absurd h (Nat.lt_irrefl _)) _⟩
     have HS:=hide hS
     have HL:=hide hlt
     have HG : Hid (∀ w,Calls Tryz.prog 59 #[.int .i64 k,.int .u8 (((lf (fl true k s u l j) j s)).toNat : Int),.int .u8 ((u.getD j 0).toNat : Int),.int .u8 ((lf u j s).toNat : Int)] w fun e w'=>e = .returned (.int .u8 (gg.toNat : Int)) /\ w' = w):=hide (fun w=>by rw [hgg]; exact refGuess_any k (lf (fl true k s u l j) j s) (u.getD j 0) (lf u j s) w hk)
     clear hgg
     by_cases hsj : s <= j
     ·have hsI : (s : Int) <= (j : Int):=by omega
      obtain ⟨t,ht⟩ : ∃ t,t = j - s:=⟨_,rfl⟩
      have W1:=hide (wr64 (z:=(j : Int) - (s : Int)) (n:=t) (by omega) (by omega))
      have htj : t < n:=by omega
      have htj2 : t < j:=by omega
      have c1:=cell8 hc (i:=t) (by omega)
      have ha : lf (fl true k s u l j) j s = (fill (fl true k s u l j) n).getD t 0:=by
       rw [lf_near hsj,<- ht]
       unfold fill
       simp only [List.getD_eq_getElem?_getD]
       rw [List.getElem?_append_left (by rw [fl_length]; omega)]
      have c4 : wr.cell? ⟨w.heap.size,t,none⟩ = some (.int .u8 (((fill (fl true k s u l j) n).getD t 0).toNat : Int)):=hcell t _ (by rw [bvals_get _ t (by rw [hlen]; omega),List.getD_eq_getElem?_getD,List.getElem?_eq_getElem (by rw [hlen]; omega)]; rfl)
      rw [ha] at HG
      clear ha
      have hu0 : u = []:=List.eq_nil_of_length_eq_zero hul
      have e1 : u.getD j 0 = 0:=by rw [hu0]; rfl
      have e2 : lf u j s = 0:=by rw [hu0]; unfold lf; split <;> rfl
      rw [e1,e2] at HG
      clear e1 e2 hu0
      clear hb hl hu hul hk hs1 hs8 hm hc hfr hcell hlen hz hz2 hS S hg' ht
      generalize gg.toNat = y0 at *
      generalize (l.getD j 0).toNat = x0 at *
      obtain ⟨v1,u1⟩:=W1.out
      clear W1
      go_wp2_with fail
      refine (HG.out _).mono ?_
      rintro e w2 ⟨rfl,rfl⟩
      go_wp2_with fail
      go_roundw
      case rel=>exact ⟨j + 1,HL.out,by go_num,HS.out⟩
      case measure=>simp [intOf]; omega
     ·have hsI : ¬ (s : Int) <= (j : Int):=by omega
      rw [lf_far (l:=fl true k s u l j) hsj] at HG
      have hu0 : u = []:=List.eq_nil_of_length_eq_zero hul
      have e1 : u.getD j 0 = 0:=by rw [hu0]; rfl
      have e2 : lf u j s = 0:=by rw [hu0]; unfold lf; split <;> rfl
      rw [e1,e2] at HG
      clear e1 e2 hu0
      clear hb hl hu hul hk hs1 hs8 hm hc hfr hcell hlen hz hz2 hS S hg'
      generalize gg.toNat = y0 at *
      generalize (l.getD j 0).toNat = x0 at *
      go_wp2_with fail
      refine (HG.out _).mono ?_
      rintro e w2 ⟨rfl,rfl⟩
      go_wp2_with fail
      go_roundw
      case rel=>exact ⟨j + 1,HL.out,by go_num,HS.out⟩
      case measure=>simp [intOf]; omega
    ·obtain rfl : j = n:=by omega
     go_wp2_with fail
     go_ret2
     refine ⟨_,rfl,?_,S.only⟩
     have h:=S.own
     rw [fill_all _ _ (fl_length _ _ _ _ _ _)] at h
     exact h
  ·obtain rfl : m = n:=hmn
   have hmp : (0 : Int) < (m : Int):=by omega
   have bb:=beq_self_eq_true (m : Int)
   have hmb2 : ((m : Int) != 0) = true:=by rw [bne,hmb]; rfl
   go_enter Tryz.func25,Tryz.ntmps25
   go_wp2_with fail
   go_loopw [13] (fun i wr=>∃ j : Nat,j <= m /\ i = .int .i64 j /\ FlSt w w.heap.size m j true k s l u wr) (fun i _=>m - (intOf i).toNat)
   case atStart=>exact ⟨0,Nat.zero_le _,rfl,HH.out w⟩
   case round =>
    obtain ⟨j,hj,rfl,S⟩:=hrel
    by_cases hlt : j < m
    ·obtain ⟨hb,hl,hu,hul,hk,hs1,hs8,hm,hn⟩:=HB.out
     obtain ⟨bb1,oo1,rfl,hc⟩:=(hb.keep S.only (by simp)).addr (by rw [bvals_length]; omega)
     have c0:=cell8 hc (i:=j) (by omega)
     obtain ⟨g',hg',_,_,hfr,hcell⟩:=own_open S.own (by omega)
     obtain rfl : w.heap.size = g':=by injection hg' with h; injection h
     have hlen : (fill (fl true k s u l j) m).length = m:=fill_length _ _ (by rw [fl_length]; omega)
     obtain ⟨b3,c3⟩ : ∃ b : Nat,wr.cell? ⟨w.heap.size,j,none⟩ = some (.int .u8 (b : Int)):=⟨_,hcell j _ (bvals_get _ j (by rw [hlen]; omega))⟩
     have f3:=hfr j
     obtain ⟨bb2,oo2,rfl,hc2⟩:=(hu.keep S.only (by simp)).addr (by rw [bvals_length]; omega)
     have d0:=cell8 hc2 (i:=j) (by omega)
     obtain ⟨gg,hgg⟩ : ∃ gg,gg = gs k (lf (fl true k s u l j) j s) (u.getD j 0) (lf u j s):=⟨_,rfl⟩
     obtain ⟨z,hz,hz2,hz3⟩:=u8_plus (l.getD j 0) gg
     have hS : FlSt w w.heap.size m (j + 1) true k s l u (wr.setCell ⟨w.heap.size,j,none⟩ (.int .u8 (z : Int))):=⟨by
      have h:=own_set S.own j (.int .u8 (z : Int))
      have e : (fill (fl true k s u l j) m).set j (UInt8.ofNat z) = fill (fl true k s u l (j + 1)) m:=by
       have h2:=fill_set (fl true k s u l j) m (UInt8.ofNat z) (by rw [fl_length]; omega)
       rw [fl_length] at h2
       rw [h2,fl,hz2,hgg]
       rfl
      rw [bvals_set _ _ _ hz,e] at h
      exact h,S.only.setCell (by intro h; exact absurd h (Nat.lt_irrefl _)) _⟩
     have HS:=hide hS
     have HL:=hide hlt
     have HG : Hid (∀ w,Calls Tryz.prog 59 #[.int .i64 k,.int .u8 (((lf (fl true k s u l j) j s)).toNat : Int),.int .u8 ((u.getD j 0).toNat : Int),.int .u8 ((lf u j s).toNat : Int)] w fun e w'=>e = .returned (.int .u8 (gg.toNat : Int)) /\ w' = w):=hide (fun w=>by rw [hgg]; exact refGuess_any k (lf (fl true k s u l j) j s) (u.getD j 0) (lf u j s) w hk)
     clear hgg
     by_cases hsj : s <= j
     ·have hsI : (s : Int) <= (j : Int):=by omega
      obtain ⟨t,ht⟩ : ∃ t,t = j - s:=⟨_,rfl⟩
      have W1:=hide (wr64 (z:=(j : Int) - (s : Int)) (n:=t) (by omega) (by omega))
      have htj : t < m:=by omega
      have htj2 : t < j:=by omega
      have c1:=cell8 hc (i:=t) (by omega)
      have ha : lf (fl true k s u l j) j s = (fill (fl true k s u l j) m).getD t 0:=by
       rw [lf_near hsj,<- ht]
       unfold fill
       simp only [List.getD_eq_getElem?_getD]
       rw [List.getElem?_append_left (by rw [fl_length]; omega)]
      have c4 : wr.cell? ⟨w.heap.size,t,none⟩ = some (.int .u8 (((fill (fl true k s u l j) m).getD t 0).toNat : Int)):=hcell t _ (by rw [bvals_get _ t (by rw [hlen]; omega),List.getD_eq_getElem?_getD,List.getElem?_eq_getElem (by rw [hlen]; omega)]; rfl)
      rw [ha] at HG
      clear ha
      have d1:=cell8 hc2 (i:=t) (by omega)
      have ha2 : lf u j s = u.getD t 0:=by rw [lf_near hsj,<- ht]
      rw [ha2] at HG
      clear ha2 hc2
      clear hb hl hu hul hk hs1 hs8 hm hc hfr hcell hlen hz hz2 hS S hg' ht
      generalize gg.toNat = y0 at *
      generalize (l.getD j 0).toNat = x0 at *
      obtain ⟨v1,u1⟩:=W1.out
      clear W1
      go_wp2_with fail
      refine (HG.out _).mono ?_
      rintro e w2 ⟨rfl,rfl⟩
      go_wp2_with fail
      go_roundw
      case rel=>exact ⟨j + 1,HL.out,by go_num,HS.out⟩
      case measure=>simp [intOf]; omega
     ·have hsI : ¬ (s : Int) <= (j : Int):=by omega
      rw [lf_far (l:=fl true k s u l j) hsj] at HG
      rw [lf_far (l:=u) hsj] at HG
      clear hc2
      clear hb hl hu hul hk hs1 hs8 hm hc hfr hcell hlen hz hz2 hS S hg'
      generalize gg.toNat = y0 at *
      generalize (l.getD j 0).toNat = x0 at *
      go_wp2_with fail
      refine (HG.out _).mono ?_
      rintro e w2 ⟨rfl,rfl⟩
      go_wp2_with fail
      go_roundw
      case rel=>exact ⟨j + 1,HL.out,by go_num,HS.out⟩
      case measure=>simp [intOf]; omega
    ·obtain rfl : j = m:=by omega
     go_wp2_with fail
     go_ret2
     refine ⟨_,rfl,?_,S.only⟩
     have h:=S.own
     rw [fill_all _ _ (fl_length _ _ _ _ _ _)] at h
     exact h
 ·have hR : flR true k s l u = []:=by
   unfold flR
   rw [hl,hul,if_neg hf]
  have h1 : fErr k s n m = 1:=(fErr_one k s n m).resolve_left hf
  rw [h1,hR]
  refine (both_bad true k s A B n c m d w hf).mono ?_
  rintro e w' ⟨rfl,rfl⟩
  exact ⟨_,rfl,⟨rfl,.inl ⟨rfl,rfl⟩⟩,Only.refl [] _⟩
set_option maxRecDepth 100000 in
set_option maxHeartbeats 8000000 in
theorem both_do (k s : Int) (A B : Option Addr) (n c m d : Nat) (l u : List UInt8) (w : World) (hb : Holds w 1 A n (bvals l)) (hl : l.length = n) (hu : Holds w 1 B m (bvals u)) (hul : u.length = m) (hn : n <= 100000000) :
 Calls Tryz.prog 25 #[.int .i64 k,.slice A n c,.slice B m d,.int .i64 s,.bool false] w fun e w'=>∃ v,e = .returned (.tuple #[v,.int .i64 (fErr k s n m : Nat)]) /\ w'.ownsRow w.heap.size 5 1 v (flR false k s l u).length (bvals (flR false k s l u)) /\ Only [] w w':=by
 by_cases hf : fErr k s n m = 0
 ·have hf':=hf
  rw [hf]
  obtain ⟨k,s,rfl,rfl,hk,hs1,hs8,hm⟩:=fErr_zero hf'
  have hR : flR false k s l u = fl false k s u l n:=by
   unfold flR
   rw [hl,hul,if_pos hf,Int.toNat_natCast,Int.toNat_natCast]
  rw [hR,fl_length]
  have hmk:=run_make8 n (by omega)
  have hmm : (m : Int) = 0 \/ (¬ (m : Int) = 0 /\ ((m : Int) == 0) = false /\ m = n):=by
   by_cases h : m = 0
   ·exact .inl (by omega)
   ·exact .inr ⟨by omega,beq_eq_false_iff_ne.2 (by omega),by omega⟩
  have HB:=hide (aI hb (aI hl (aI hu (aI hul (aI hk (aI hs1 (aI hs8 (aI hm hn))))))))
  have hk1 : ¬ (k : Int) < 0:=by omega
  have hk2 : ¬ (4 : Int) < (k : Int):=by omega
  have hs3 : ¬ (s : Int) < 1:=by omega
  have hs4 : ¬ (8 : Int) < (s : Int):=by omega
  have dk : decide (4 < k) = false:=decide_eq_false (by omega)
  have ds : decide (s < 1) = false:=decide_eq_false (by omega)
  have ds2 : decide (8 < s) = false:=decide_eq_false (by omega)
  clear hb hl hu hul hm hf hf' hR hk hs1 hs8
  have HH : Hid (∀ w1 : World,FlSt w1 w1.heap.size n 0 false k s l u (w1.alloc (.cells (bvals (List.replicate n 0)).toArray 5))):=hide (fun w1=>⟨by
   rw [show fl false k s u l 0 = [] from rfl,fill_nil]
   exact fiOwn_made w1 5 (List.replicate n 0) n (by simp) (by omega),(Only.refl [] w1).alloc _⟩)
  rcases hmm with hm0 | ⟨hm0,hmb,hmn⟩
  ·obtain rfl : m = 0:=by omega
   clear hm0
   go_enter Tryz.func25,Tryz.ntmps25
   go_wp2_with fail
   go_loopw [13] (fun i wr=>∃ j : Nat,j <= n /\ i = .int .i64 j /\ FlSt w w.heap.size n j false k s l u wr) (fun i _=>n - (intOf i).toNat)
   case atStart=>exact ⟨0,Nat.zero_le _,rfl,HH.out w⟩
   case round =>
    obtain ⟨j,hj,rfl,S⟩:=hrel
    by_cases hlt : j < n
    ·obtain ⟨hb,hl,hu,hul,hk,hs1,hs8,hm,hn⟩:=HB.out
     obtain ⟨bb1,oo1,rfl,hc⟩:=(hb.keep S.only (by simp)).addr (by rw [bvals_length]; omega)
     have c0:=cell8 hc (i:=j) (by omega)
     obtain ⟨g',hg',_,_,hfr,hcell⟩:=own_open S.own (by omega)
     obtain rfl : w.heap.size = g':=by injection hg' with h; injection h
     have hlen : (fill (fl false k s u l j) n).length = n:=fill_length _ _ (by rw [fl_length]; omega)
     obtain ⟨b3,c3⟩ : ∃ b : Nat,wr.cell? ⟨w.heap.size,j,none⟩ = some (.int .u8 (b : Int)):=⟨_,hcell j _ (bvals_get _ j (by rw [hlen]; omega))⟩
     have f3:=hfr j
     have hnn:=hn
     obtain ⟨gg,hgg⟩ : ∃ gg,gg = gs k (lf l j s) (u.getD j 0) (lf u j s):=⟨_,rfl⟩
     obtain ⟨z,hz,hz2,hz3⟩:=u8_less (l.getD j 0) gg
     have hS : FlSt w w.heap.size n (j + 1) false k s l u (wr.setCell ⟨w.heap.size,j,none⟩ (.int .u8 (z : Int))):=⟨by
      have h:=own_set S.own j (.int .u8 (z : Int))
      have e : (fill (fl false k s u l j) n).set j (UInt8.ofNat z) = fill (fl false k s u l (j + 1)) n:=by
       have h2:=fill_set (fl false k s u l j) n (UInt8.ofNat z) (by rw [fl_length]; omega)
       rw [fl_length] at h2
       rw [h2,fl,hz2,hgg]
       rfl
      rw [bvals_set _ _ _ hz,e] at h
      exact h,S.only.setCell (by intro h; exact absurd h (Nat.lt_irrefl _)) _⟩
     have HS:=hide hS
     have HL:=hide hlt
     have HG : Hid (∀ w,Calls Tryz.prog 59 #[.int .i64 k,.int .u8 (((lf l j s)).toNat : Int),.int .u8 ((u.getD j 0).toNat : Int),.int .u8 ((lf u j s).toNat : Int)] w fun e w'=>e = .returned (.int .u8 (gg.toNat : Int)) /\ w' = w):=hide (fun w=>by rw [hgg]; exact refGuess_any k (lf l j s) (u.getD j 0) (lf u j s) w hk)
     clear hgg
     by_cases hsj : s <= j
     ·have hsI : (s : Int) <= (j : Int):=by omega
      obtain ⟨t,ht⟩ : ∃ t,t = j - s:=⟨_,rfl⟩
      have W1:=hide (wr64 (z:=(j : Int) - (s : Int)) (n:=t) (by omega) (by omega))
      have htj : t < n:=by omega
      have htj2 : t < j:=by omega
      have c1:=cell8 hc (i:=t) (by omega)
      have ha : lf l j s = l.getD t 0:=by rw [lf_near hsj,<- ht]
      rw [ha] at HG
      clear ha
      have hu0 : u = []:=List.eq_nil_of_length_eq_zero hul
      have e1 : u.getD j 0 = 0:=by rw [hu0]; rfl
      have e2 : lf u j s = 0:=by rw [hu0]; unfold lf; split <;> rfl
      rw [e1,e2] at HG
      clear e1 e2 hu0
      clear hb hl hu hul hk hs1 hs8 hm hc hfr hcell hlen hz hz2 hS S hg' ht
      generalize gg.toNat = y0 at *
      generalize (l.getD j 0).toNat = x0 at *
      obtain ⟨v1,u1⟩:=W1.out
      clear W1
      go_wp2_with fail
      refine (HG.out _).mono ?_
      rintro e w2 ⟨rfl,rfl⟩
      go_wp2_with fail
      go_roundw
      case rel=>exact ⟨j + 1,HL.out,by go_num,HS.out⟩
      case measure=>simp [intOf]; omega
     ·have hsI : ¬ (s : Int) <= (j : Int):=by omega
      rw [lf_far (l:=l) hsj] at HG
      have hu0 : u = []:=List.eq_nil_of_length_eq_zero hul
      have e1 : u.getD j 0 = 0:=by rw [hu0]; rfl
      have e2 : lf u j s = 0:=by rw [hu0]; unfold lf; split <;> rfl
      rw [e1,e2] at HG
      clear e1 e2 hu0
      clear hb hl hu hul hk hs1 hs8 hm hc hfr hcell hlen hz hz2 hS S hg'
      generalize gg.toNat = y0 at *
      generalize (l.getD j 0).toNat = x0 at *
      go_wp2_with fail
      refine (HG.out _).mono ?_
      rintro e w2 ⟨rfl,rfl⟩
      go_wp2_with fail
      go_roundw
      case rel=>exact ⟨j + 1,HL.out,by go_num,HS.out⟩
      case measure=>simp [intOf]; omega
    ·obtain rfl : j = n:=by omega
     go_wp2_with fail
     go_ret2
     refine ⟨_,rfl,?_,S.only⟩
     have h:=S.own
     rw [fill_all _ _ (fl_length _ _ _ _ _ _)] at h
     exact h
  ·obtain rfl : m = n:=hmn
   have hmp : (0 : Int) < (m : Int):=by omega
   have bb:=beq_self_eq_true (m : Int)
   have hmb2 : ((m : Int) != 0) = true:=by rw [bne,hmb]; rfl
   go_enter Tryz.func25,Tryz.ntmps25
   go_wp2_with fail
   go_loopw [13] (fun i wr=>∃ j : Nat,j <= m /\ i = .int .i64 j /\ FlSt w w.heap.size m j false k s l u wr) (fun i _=>m - (intOf i).toNat)
   case atStart=>exact ⟨0,Nat.zero_le _,rfl,HH.out w⟩
   case round =>
    obtain ⟨j,hj,rfl,S⟩:=hrel
    by_cases hlt : j < m
    ·obtain ⟨hb,hl,hu,hul,hk,hs1,hs8,hm,hn⟩:=HB.out
     obtain ⟨bb1,oo1,rfl,hc⟩:=(hb.keep S.only (by simp)).addr (by rw [bvals_length]; omega)
     have c0:=cell8 hc (i:=j) (by omega)
     obtain ⟨g',hg',_,_,hfr,hcell⟩:=own_open S.own (by omega)
     obtain rfl : w.heap.size = g':=by injection hg' with h; injection h
     have hlen : (fill (fl false k s u l j) m).length = m:=fill_length _ _ (by rw [fl_length]; omega)
     obtain ⟨b3,c3⟩ : ∃ b : Nat,wr.cell? ⟨w.heap.size,j,none⟩ = some (.int .u8 (b : Int)):=⟨_,hcell j _ (bvals_get _ j (by rw [hlen]; omega))⟩
     have f3:=hfr j
     obtain ⟨bb2,oo2,rfl,hc2⟩:=(hu.keep S.only (by simp)).addr (by rw [bvals_length]; omega)
     have d0:=cell8 hc2 (i:=j) (by omega)
     obtain ⟨gg,hgg⟩ : ∃ gg,gg = gs k (lf l j s) (u.getD j 0) (lf u j s):=⟨_,rfl⟩
     obtain ⟨z,hz,hz2,hz3⟩:=u8_less (l.getD j 0) gg
     have hS : FlSt w w.heap.size m (j + 1) false k s l u (wr.setCell ⟨w.heap.size,j,none⟩ (.int .u8 (z : Int))):=⟨by
      have h:=own_set S.own j (.int .u8 (z : Int))
      have e : (fill (fl false k s u l j) m).set j (UInt8.ofNat z) = fill (fl false k s u l (j + 1)) m:=by
       have h2:=fill_set (fl false k s u l j) m (UInt8.ofNat z) (by rw [fl_length]; omega)
       rw [fl_length] at h2
       rw [h2,fl,hz2,hgg]
       rfl
      rw [bvals_set _ _ _ hz,e] at h
      exact h,S.only.setCell (by intro h; exact absurd h (Nat.lt_irrefl _)) _⟩
     have HS:=hide hS
     have HL:=hide hlt
     have HG : Hid (∀ w,Calls Tryz.prog 59 #[.int .i64 k,.int .u8 (((lf l j s)).toNat : Int),.int .u8 ((u.getD j 0).toNat : Int),.int .u8 ((lf u j s).toNat : Int)] w fun e w'=>e = .returned (.int .u8 (gg.toNat : Int)) /\ w' = w):=hide (fun w=>by rw [hgg]; exact refGuess_any k (lf l j s) (u.getD j 0) (lf u j s) w hk)
     clear hgg
     by_cases hsj : s <= j
     ·have hsI : (s : Int) <= (j : Int):=by omega
      obtain ⟨t,ht⟩ : ∃ t,t = j - s:=⟨_,rfl⟩
      have W1:=hide (wr64 (z:=(j : Int) - (s : Int)) (n:=t) (by omega) (by omega))
      have htj : t < m:=by omega
      have htj2 : t < j:=by omega
      have c1:=cell8 hc (i:=t) (by omega)
      have ha : lf l j s = l.getD t 0:=by rw [lf_near hsj,<- ht]
      rw [ha] at HG
      clear ha
      have d1:=cell8 hc2 (i:=t) (by omega)
      have ha2 : lf u j s = u.getD t 0:=by rw [lf_near hsj,<- ht]
      rw [ha2] at HG
      clear ha2 hc2
      clear hb hl hu hul hk hs1 hs8 hm hc hfr hcell hlen hz hz2 hS S hg' ht
      generalize gg.toNat = y0 at *
      generalize (l.getD j 0).toNat = x0 at *
      obtain ⟨v1,u1⟩:=W1.out
      clear W1
      go_wp2_with fail
      refine (HG.out _).mono ?_
      rintro e w2 ⟨rfl,rfl⟩
      go_wp2_with fail
      go_roundw
      case rel=>exact ⟨j + 1,HL.out,by go_num,HS.out⟩
      case measure=>simp [intOf]; omega
     ·have hsI : ¬ (s : Int) <= (j : Int):=by omega
      rw [lf_far (l:=l) hsj] at HG
      rw [lf_far (l:=u) hsj] at HG
      clear hc2
      clear hb hl hu hul hk hs1 hs8 hm hc hfr hcell hlen hz hz2 hS S hg'
      generalize gg.toNat = y0 at *
      generalize (l.getD j 0).toNat = x0 at *
      go_wp2_with fail
      refine (HG.out _).mono ?_
      rintro e w2 ⟨rfl,rfl⟩
      go_wp2_with fail
      go_roundw
      case rel=>exact ⟨j + 1,HL.out,by go_num,HS.out⟩
      case measure=>simp [intOf]; omega
    ·obtain rfl : j = m:=by omega
     go_wp2_with fail
     go_ret2
     refine ⟨_,rfl,?_,S.only⟩
     have h:=S.own
     rw [fill_all _ _ (fl_length _ _ _ _ _ _)] at h
     exact h
 ·have hR : flR false k s l u = []:=by
   unfold flR
   rw [hl,hul,if_neg hf]
  have h1 : fErr k s n m = 1:=(fErr_one k s n m).resolve_left hf
  rw [h1,hR]
  refine (both_bad false k s A B n c m d w hf).mono ?_
  rintro e w' ⟨rfl,rfl⟩
  exact ⟨_,rfl,⟨rfl,.inl ⟨rfl,rfl⟩⟩,Only.refl [] _⟩
set_option maxRecDepth 100000 in
set_option maxHeartbeats 4000000 in
theorem refPasses_any (w : World) : Calls Tryz.prog 57 #[] w fun e w'=>∃ A c,e = .returned (.slice A 7 c) /\ Holds w' 4 A 7 (pvals 7) /\ Only [] w w':=by
 go_enter Tryz.func57,Tryz.ntmps57
 go_wp2_with fail
 go_ret
 refine ⟨_,_,rfl,?_,(Only.refl [] w).alloc _⟩
 have h:=Holds.lit w (pvals 7).toArray 69
 exact ⟨rfl,fun _=>h.2 (by rw [List.size_toArray,pvals_length]; omega)⟩
set_option maxRecDepth 100000 in
set_option maxHeartbeats 8000000 in
theorem refSize_any (x y dx dy w h : Int) (W : World) (hx : x <= 9223372036854775807) (hy : y <= 9223372036854775807) (hdx : dx <= 9223372036854775807) (hdy : dy <= 9223372036854775807) :
 Calls Tryz.prog 23 #[.agg #[.int .i64 x,.int .i64 y,.int .i64 dx,.int .i64 dy],.int .i64 w,.int .i64 h] W fun e W'=>e = .returned (.tuple #[.int .i64 (sizeW x y dx dy w h),.int .i64 (sizeH x y dx dy w h)]) /\ Only [] W W':=by
 by_cases hok : sizeOkB x y dx dy w h = true
 ·have e1 : sizeW x y dx dy w h = (w - x - 1) / dx + 1:=if_pos hok
  have e2 : sizeH x y dx dy w h = (h - y - 1) / dy + 1:=if_pos hok
  rw [e1,e2]
  obtain ⟨⟨hw1,hw2⟩,⟨hh1,hh2⟩,⟨hd1,hd2⟩,⟨hx0,hy0⟩,hxw,hyh⟩:=of_decide_eq_true hok
  clear e1 e2 hok
  have key : ∀ n d : Int,0 <= n -> n <= 16384 -> 1 <= d -> n.tdiv d = n / d /\ 0 <= n / d /\ n / d <= 16384:=fun n d h1 h2 h3=>⟨Int.tdiv_eq_ediv_of_nonneg h1,Int.ediv_nonneg h1 (by omega),Int.le_trans (Int.ediv_le_self d h1) h2⟩
  obtain ⟨k1,k2,k3⟩:=key (w - x - 1) dx (by omega) (by omega) hd1
  obtain ⟨l1,l2,l3⟩:=key (h - y - 1) dy (by omega) (by omega) hd2
  obtain ⟨a,ha⟩ : ∃ a,a = w - x:=⟨_,rfl⟩
  obtain ⟨b,hb⟩ : ∃ b,b = a - 1:=⟨_,rfl⟩
  obtain ⟨p,hp⟩ : ∃ a,a = h - y:=⟨_,rfl⟩
  obtain ⟨q,hq⟩ : ∃ b,b = p - 1:=⟨_,rfl⟩
  rw [<- ha,<- hb] at k1 k2 k3 ⊢
  rw [<- hp,<- hq] at l1 l2 l3 ⊢
  generalize b / dx = U at *
  generalize q / dy = V at *
  obtain ⟨r,hr⟩ : ∃ r,r = U + 1:=⟨_,rfl⟩
  obtain ⟨s,hs⟩ : ∃ r,r = V + 1:=⟨_,rfl⟩
  rw [<- hr,<- hs]
  have wr : ∀ z : Int,-1000000000 <= z -> z <= 1000000000 -> wrap64 z = z /\ IntKind.i64.wrap z = z:=fun z h1 h2=>⟨IntWalk.wrap64_in _ ⟨by omega,by omega⟩,by rw [IntKind.wrap_i64]; omega⟩
  have W1 : Hid (wrap64 (w - x) = a /\ IntKind.i64.wrap (w - x) = a):=hide (by rw [<- ha]; exact wr _ (by omega) (by omega))
  have W2 : Hid (wrap64 (a - 1) = b /\ IntKind.i64.wrap (a - 1) = b):=hide (by rw [<- hb]; exact wr _ (by omega) (by omega))
  have W3 : Hid (wrap64 (h - y) = p /\ IntKind.i64.wrap (h - y) = p):=hide (by rw [<- hp]; exact wr _ (by omega) (by omega))
  have W4 : Hid (wrap64 (p - 1) = q /\ IntKind.i64.wrap (p - 1) = q):=hide (by rw [<- hq]; exact wr _ (by omega) (by omega))
  have W5 : Hid (wrap64 (U + 1) = r /\ IntKind.i64.wrap (U + 1) = r):=hide (by rw [<- hr]; exact wr _ (by omega) (by omega))
  have W6 : Hid (wrap64 (V + 1) = s /\ IntKind.i64.wrap (V + 1) = s):=hide (by rw [<- hs]; exact wr _ (by omega) (by omega))
  have W7:=hide (wr U (by omega) (by omega))
  have W8:=hide (wr V (by omega) (by omega))
  have d1 : ¬ dx = 0:=by omega
  have d2 : ¬ dy = 0:=by omega
  have d3 : (dx == 0) = false:=beq_eq_false_iff_ne.2 d1
  have d4 : (dy == 0) = false:=beq_eq_false_iff_ne.2 d2
  have g1 : ¬ w < 1:=by omega
  have g2 : ¬ 16384 < w:=by omega
  have g3 : ¬ h < 1:=by omega
  have g4 : ¬ 16384 < h:=by omega
  have g5 : ¬ dx < 1:=by omega
  have g6 : ¬ dy < 1:=by omega
  have g7 : ¬ x < 0:=by omega
  have g8 : ¬ y < 0:=by omega
  have g9 : ¬ w <= x:=by omega
  have g10 : ¬ h <= y:=by omega
  clear wr ha hb hp hq hr hs k2 k3 l2 l3 key hw1 hw2 hh1 hh2 hd1 hd2 hx0 hy0 hxw hyh hx hy hdx hdy
  obtain ⟨v1,u1⟩:=W1.out
  obtain ⟨v2,u2⟩:=W2.out
  obtain ⟨v3,u3⟩:=W3.out
  obtain ⟨v4,u4⟩:=W4.out
  obtain ⟨v5,u5⟩:=W5.out
  obtain ⟨v6,u6⟩:=W6.out
  obtain ⟨v7,u7⟩:=W7.out
  obtain ⟨v8,u8⟩:=W8.out
  clear W1 W2 W3 W4 W5 W6 W7 W8
  go_enter Tryz.func23,Tryz.ntmps23
  go_wp2_with fail
  go_quiet (fail)
  go_wp2_with fail
  go_ret2
  exact ⟨rfl,((Only.refl [] W).alloc _).drewN nq⟩
 ·have e1 : sizeW x y dx dy w h = 0:=if_neg hok
  have e2 : sizeH x y dx dy w h = 0:=if_neg hok
  rw [e1,e2]
  have hno : ¬ ((1 <= w /\ w <= 16384) /\ (1 <= h /\ h <= 16384) /\ (1 <= dx /\ 1 <= dy) /\ (0 <= x /\ 0 <= y) /\ x < w /\ y < h):=fun hc=>hok (decide_eq_true hc)
  clear e1 e2 hok
  by_cases g0 : w < 1
  ·clear hno
   go_enter Tryz.func23,Tryz.ntmps23
   go_wp2_with fail
   go_ret2
   exact ⟨rfl,(Only.refl [] W).alloc _⟩
  ·by_cases g1 : 16384 < w
   ·clear hno
    go_enter Tryz.func23,Tryz.ntmps23
    go_wp2_with fail
    go_ret2
    exact ⟨rfl,(Only.refl [] W).alloc _⟩
   ·by_cases g2 : h < 1
    ·clear hno
     go_enter Tryz.func23,Tryz.ntmps23
     go_wp2_with fail
     go_ret2
     exact ⟨rfl,(Only.refl [] W).alloc _⟩
    ·by_cases g3 : 16384 < h
     ·clear hno
      go_enter Tryz.func23,Tryz.ntmps23
      go_wp2_with fail
      go_ret2
      exact ⟨rfl,(Only.refl [] W).alloc _⟩
     ·by_cases g4 : dx < 1
      ·clear hno
       go_enter Tryz.func23,Tryz.ntmps23
       go_wp2_with fail
       go_ret2
       exact ⟨rfl,(Only.refl [] W).alloc _⟩
      ·by_cases g5 : dy < 1
       ·clear hno
        go_enter Tryz.func23,Tryz.ntmps23
        go_wp2_with fail
        go_ret2
        exact ⟨rfl,(Only.refl [] W).alloc _⟩
       ·by_cases g6 : x < 0
        ·clear hno
         go_enter Tryz.func23,Tryz.ntmps23
         go_wp2_with fail
         go_ret2
         exact ⟨rfl,(Only.refl [] W).alloc _⟩
        ·by_cases g7 : y < 0
         ·clear hno
          go_enter Tryz.func23,Tryz.ntmps23
          go_wp2_with fail
          go_ret2
          exact ⟨rfl,(Only.refl [] W).alloc _⟩
         ·by_cases g8 : w <= x
          ·clear hno
           go_enter Tryz.func23,Tryz.ntmps23
           go_wp2_with fail
           go_ret2
           exact ⟨rfl,(Only.refl [] W).alloc _⟩
          ·by_cases g9 : h <= y
           ·clear hno
            go_enter Tryz.func23,Tryz.ntmps23
            go_wp2_with fail
            go_ret2
            exact ⟨rfl,(Only.refl [] W).alloc _⟩
           ·exact absurd ⟨by omega,by omega,by omega,by omega,by omega,by omega⟩ hno
end Go.Proofs.YtjfjmkkkbcgohaaGreatDoor
