import Derived.Test.YtjfjmkkkbcgohaaGreatDoorMGrow
import Derived.Lib.Strings
import Derived.Lib.Slices
import Derived.Lib.Walk
namespace Go.Proofs.YtjfjmkkkbcgohaaGreatDoor
open Go Go.RowKit
def lettB (b : UInt8) : Bool:=decide ((65 <= b.toNat /\ b.toNat <= 90) \/ (97 <= b.toNat /\ b.toNat <= 122))
set_option maxRecDepth 100000 in
theorem capital_any (z : Nat) (w : World) : Calls Tryz.prog 88 #[.int .u8 (z : Int)] w fun e w'=>e = .returned (.bool (decide (65 <= z /\ z <= 90))) /\ w' = w:=by
 by_cases h1 : (65 : Int) <= (z : Int)
 ·by_cases h2 : (z : Int) <= 90
  ·rw [show decide (65 <= z /\ z <= 90) = true from decide_eq_true (by omega)]
   go_enter Tryz.func88,Tryz.ntmps88
   go_wp2_with fail
   go_ret
   exact ⟨rfl,rfl⟩
  ·rw [show decide (65 <= z /\ z <= 90) = false from decide_eq_false (by omega)]
   go_enter Tryz.func88,Tryz.ntmps88
   go_wp2_with fail
   go_ret
   exact ⟨rfl,rfl⟩
 ·rw [show decide (65 <= z /\ z <= 90) = false from decide_eq_false (by omega)]
  go_enter Tryz.func88,Tryz.ntmps88
  go_wp2_with fail
  go_ret
  exact ⟨rfl,rfl⟩
set_option maxRecDepth 100000 in
set_option maxHeartbeats 1000000 in
theorem letters_any (A : Option Addr) (n c : Nat) (l : List UInt8) (w : World) (hb : Holds w 1 A n (bvals l)) (hl : l.length = n) (hn : n <= 1000000) :
 Calls Tryz.prog 67 #[.slice A n c] w fun e w'=>e = .returned (.bool (l.all lettB)) /\ w' = w:=by
 subst hl
 have HB:=hide hb
 clear hb
 go_enter Tryz.func67,Tryz.ntmps67
 go_wp2_with fail
 go_loop [7] (fun i=>∃ j : Nat,j <= l.length /\ i = .int .i64 j /\ (l.drop j).all lettB = l.all lettB) (fun i=>l.length - (intOf i).toNat)
 case atStart=>exact ⟨0,Nat.zero_le _,rfl,rfl⟩
 case round =>
  obtain ⟨j,hj,rfl,he⟩:=hrel
  by_cases hlt : j < l.length
  ·obtain ⟨b,o,rfl,hc2⟩:=HB.out.addr (by simpa using (show 0 < l.length by omega))
   have hcell : w.cell? ⟨b,o + j,none⟩ = some (.int .u8 (l[j].toNat : Int)):=hc2 j _ (bvals_get l j hlt)
   rw [List.drop_eq_getElem_cons hlt,List.all_cons] at he
   have hlb : lettB l[j] = decide ((65 <= l[j].toNat /\ l[j].toNat <= 90) \/ (97 <= l[j].toNat /\ l[j].toNat <= 122)):=rfl
   rw [hlb] at he
   have hx:=l[j].toNat_lt
   have HE:=hide he
   clear hc2 hlb he
   generalize l[j].toNat = x at *
   have HC:=hide (fun w=>capital_any x w)
   by_cases h1 : 65 <= x /\ x <= 90
   ·rw [decide_eq_true h1] at HC
    have he : (l.drop (j + 1)).all lettB = l.all lettB:=by have:=HE.out; rw [decide_eq_true (.inl h1),Bool.true_and] at this; exact this
    clear h1 HE
    go_wp2_with (go_at_call 88; refine ((HC.out) _).mono ?_; rintro e w' ⟨rfl,rfl⟩)
    go_round
    case rel=>exact ⟨j + 1,hlt,by go_num,he⟩
    case measure=>simp [intOf]; omega
   ·rw [decide_eq_false h1] at HC
    by_cases h2 : (97 : Int) <= (x : Int)
    ·by_cases h3 : (x : Int) <= 122
     ·have he : (l.drop (j + 1)).all lettB = l.all lettB:=by have:=HE.out; rw [decide_eq_true (.inr (by omega)),Bool.true_and] at this; exact this
      clear h1 HE
      go_wp2_with (go_at_call 88; refine ((HC.out) _).mono ?_; rintro e w' ⟨rfl,rfl⟩)
      go_round
      case rel=>exact ⟨j + 1,hlt,by go_num,he⟩
      case measure=>simp [intOf]; omega
     ·have he : l.all lettB = false:=by have:=HE.out; rw [decide_eq_false (by omega),Bool.false_and] at this; exact this.symm
      have HF:=hide he
      clear h1 HE he
      go_wp2_with (go_at_call 88; refine ((HC.out) _).mono ?_; rintro e w' ⟨rfl,rfl⟩)
      go_ret
      exact ⟨by rw [HF.out] <;> rfl,rfl⟩
    ·have he : l.all lettB = false:=by have:=HE.out; rw [decide_eq_false (by omega),Bool.false_and] at this; exact this.symm
     have HF:=hide he
     clear h1 HE he
     go_wp2_with (go_at_call 88; refine ((HC.out) _).mono ?_; rintro e w' ⟨rfl,rfl⟩)
     go_ret
     exact ⟨by rw [HF.out] <;> rfl,rfl⟩
  ·obtain rfl : j = l.length:=by omega
   rw [List.drop_length] at he
   have he' : l.all lettB = true:=he.symm
   have HF:=hide he'
   clear he he' hlt
   go_wp2_with fail
   go_ret
   exact ⟨by rw [HF.out] <;> rfl,rfl⟩
def four4 (s : Nat) : List UInt8:=[UInt8.ofNat (s / 16777216),UInt8.ofNat (s / 65536),UInt8.ofNat (s / 256),UInt8.ofNat s]
theorem u8_nat (z : Nat) : ((UInt8.ofNat z).toNat : Int) = (z : Int) % 256:=by
 rw [UInt8.toNat_ofNat']
 omega
theorem four4_vals (s : Nat) : bvals (four4 s) = [.int .u8 (((s / 16777216 : Nat) : Int) % 256),.int .u8 (((s / 65536 : Nat) : Int) % 256),.int .u8 (((s / 256 : Nat) : Int) % 256),.int .u8 ((s : Int) % 256)]:=by
 unfold four4 bvals
 simp only [List.map_cons,List.map_nil,u8_nat]
set_option maxRecDepth 100000 in
set_option maxHeartbeats 4000000 in
theorem rFour_any (s : Nat) (w : World) : Calls Tryz.prog 26 #[.int .i64 (s : Int)] w fun e w' =>
 e = .returned (.slice (some ⟨w.heap.size,0,none⟩) 4 4) /\ Has w' w.heap.size 5 (bvals (four4 s)).toArray /\ Only [] w w':=by
 rw [four4_vals]
 obtain ⟨a,ha⟩ : ∃ a,a = s / 16777216:=⟨_,rfl⟩
 obtain ⟨b,hb⟩ : ∃ b,b = s / 65536:=⟨_,rfl⟩
 obtain ⟨c,hc⟩ : ∃ c,c = s / 256:=⟨_,rfl⟩
 have e1 : (s : Int) / 16777216 = (a : Int):=by omega
 have e2 : (s : Int) / 65536 = (b : Int):=by omega
 have e3 : (s : Int) / 256 = (c : Int):=by omega
 rw [<- ha,<- hb,<- hc]
 clear ha hb hc
 go_enter Tryz.func26,Tryz.ntmps26
 go_wp2_with fail
 go_ret
 exact ⟨rfl,Has.new w _ _,(Only.refl [] w).alloc _⟩
set_option maxRecDepth 100000 in
set_option maxHeartbeats 4000000 in
theorem appBig_any (B : Nat) (A : Option Addr) (n c s : Nat) (l : List UInt8) (w : World) (hB : B <= w.heap.size) (hown : w.ownsRow B 5 1 (.slice A n c) n (bvals l)) (hn : n + 4 <= 140737488355328) :
 Calls Tryz.prog 41 #[.slice A n c,.int .i64 (s : Int)] w fun e w'=>∃ A' c',e = .returned (.slice A' (n + 4) c') /\ w'.ownsRow B 5 1 (.slice A' (n + 4) c') (n + 4) (bvals (l ++ four4 s)) /\ Since [] w (.slice A n c) w' (.slice A' (n + 4) c'):=by
 obtain ⟨i0,hi0,hz0,hz1,hz2⟩:=info_of u8_info
 rw [bvals_append,four4_vals]
 obtain ⟨a,ha⟩ : ∃ a,a = s / 16777216:=⟨_,rfl⟩
 obtain ⟨b,hb⟩ : ∃ b,b = s / 65536:=⟨_,rfl⟩
 obtain ⟨d,hd⟩ : ∃ d,d = s / 256:=⟨_,rfl⟩
 have e1 : (s : Int) / 16777216 = (a : Int):=by omega
 have e2 : (s : Int) / 65536 = (b : Int):=by omega
 have e3 : (s : Int) / 256 = (d : Int):=by omega
 rw [<- ha,<- hb,<- hd]
 clear ha hb hd
 have HW:=hide (hown.alloc (.cells #[.int .u8 ((a : Int) % 256),.int .u8 ((b : Int) % 256),.int .u8 ((d : Int) % 256),.int .u8 ((s : Int) % 256)] 5))
 have HL:=hide (Holds.lit w #[.int .u8 ((a : Int) % 256),.int .u8 ((b : Int) % 256),.int .u8 ((d : Int) % 256),.int .u8 ((s : Int) % 256)] 5)
 clear hown
 go_enter Tryz.func41,Tryz.ntmps41
 go_wp2_with (at_builtin; refine list_append _ rfl (.tmp 5) (.tmp 17) 22 rfl B 1 1 Tryz.underlying22 hi0 hz0 hz1 hz2 rfl (Nat.zero_lt_one) HW.out rfl HL.out rfl (by simp [Value.oneCell']) (by simpa using hn) (Nat.zero_lt_one) (by simp; omega) ?_; intro A' c' w' h1 h2 h3)
 go_ret
 exact ⟨A',c',rfl,h1,(Since.refl [] w _).grown h2 h3⟩
set_option maxRecDepth 100000 in
theorem pfx_in (s p : ByteArray) (w : World) : Calls Tryz.prog 112 #[.string s,.string p] w fun e w'=>e = .returned (.bool (decide (s.data.toList.take p.size = p.data.toList))) /\ w' = w:=by
 by_cases h : p.size <= s.size
 ·have hT : ((s.extract 0 p.size).toList == p.toList) = decide (s.data.toList.take p.size = p.data.toList):=by
   rw [Lib.extract_toList,Nat.sub_zero,List.drop_zero,Bool.eq_iff_iff,beq_iff_eq,decide_eq_true_iff]
   rw [Lib.toList_data]
  go_enter Tryz.func112,Tryz.ntmps112
  go_wp2_with fail
  go_ret
  exact ⟨by rw [<- hT]; rfl,rfl⟩
 ·have hF : decide (s.data.toList.take p.size = p.data.toList) = false:=by
   refine decide_eq_false fun he=>h ?_
   have:=congrArg List.length he
   rw [List.length_take] at this
   show p.data.size <= s.data.size
   rw [<- Array.length_toList,<- Array.length_toList]
   omega
  go_enter Tryz.func112,Tryz.ntmps112
  go_wp2_with fail
  go_ret
  exact ⟨by rw [hF]; rfl,rfl⟩
set_option maxRecDepth 100000 in
theorem pfx_any (s p : ByteArray) (w : World) : Calls Tryz.prog 65 #[.string s,.string p] w fun e w'=>e = .returned (.bool (decide (s.data.toList.take p.size = p.data.toList))) /\ w' = w:=by
 have H:=hide (pfx_in s p w)
 go_enter Tryz.func65,Tryz.ntmps65
 go_wp2_with (go_at_call 112; refine (H.out).mono ?_; rintro e w' ⟨rfl,rfl⟩)
 go_ret
 exact ⟨rfl,rfl⟩
def sigB : List UInt8:=[137,80,78,71,13,10,26,10]
def begE (l : List UInt8) : Nat:=if sigB.take (min l.length 8) = l.take (min l.length 8) then (if l.length < 8 then 2 else 0) else 3
def Begun (l : List UInt8) (A : Option Addr) (w : World) (e : Ending) (w' : World) : Prop :=
 w' = w /\ ((0 < begE l /\ e = .returned (.tuple #[.slice none 0 0,.int .i64 (begE l : Nat)])) \/ (begE l = 0 /\ 8 <= l.length /\ ∃ A' c',e = .returned (.tuple #[.slice A' (l.length - 8) c',.int .i64 0]) /\ Holds w 1 A' (l.length - 8) (bvals (l.drop 8)) /\ l.length - 8 <= c' /\ (∀ ad',A' = some ad' -> ∃ ad,A = some ad /\ ad'.block = ad.block)))
set_option maxRecDepth 100000 in
set_option maxHeartbeats 1000000 in
theorem begin_any (A : Option Addr) (n c : Nat) (l : List UInt8) (w : World) (hb : Holds w 1 A n (bvals l)) (hl : l.length = n) (hc : n <= c) (hn : n <= 1000000000) :
 Calls Tryz.prog 29 #[.slice A n c] w (Begun l A w):=by
 obtain ⟨m,hm⟩ : ∃ m,m = min l.length 8:=⟨_,rfl⟩
 have hm8 : m <= 8:=by omega
 have hmn : m <= n:=by omega
 have hmin : min (n : Int) 8 = (m : Int):=by omega
 have hcut:=fun w'=>run_upto A n c m (by omega) w'
 have hstr:=fun (B : Option Addr) (d : Nat) (hB : Holds w 1 B m (bvals (l.take m)))=>run_string_of hB d 22 5 9 Tryz.underlying22 Tryz.underlying5 Tryz.underlying9
 have hst:=hstr A c (hb.upto m hmn)
 have HP:=hide (pfx_any ⟨#[137,80,78,71,13,10,26,10]⟩ ⟨(l.take m).toArray⟩ w)
 have hk : decide ((⟨#[137,80,78,71,13,10,26,10]⟩ : ByteArray).data.toList.take (⟨(l.take m).toArray⟩ : ByteArray).size = (⟨(l.take m).toArray⟩ : ByteArray).data.toList) = decide (sigB.take m = l.take m):=by
  show decide (sigB.take (l.take m).length = l.take m) = _
  rw [List.length_take,Nat.min_eq_left (by omega)]
 rw [hk] at HP
 by_cases h : sigB.take m = l.take m
 ·rw [decide_eq_true h] at HP
  by_cases h8 : n < 8
  ·have he : begE l = 2:=by unfold begE; rw [<- hm,if_pos h,if_pos (by omega)]
   have HE:=hide he
   have hx : (m : Int) < 8:=by omega
   clear h he hk hstr hb hm
   go_enter Tryz.func29,Tryz.ntmps29
   go_wp2_with (go_at_call 65; refine (HP.out).mono ?_; rintro e w' ⟨rfl,rfl⟩)
   go_ret2
   exact ⟨rfl,.inl ⟨by rw [HE.out]; decide,by rw [HE.out]; rfl⟩⟩
  ·have he : begE l = 0:=by unfold begE; rw [<- hm,if_pos h,if_neg (by omega)]
   obtain rfl : m = 8:=by omega
   subst hl
   obtain ⟨b,o,rfl,_⟩:=hb.addr (by simpa using (show 0 < l.length by omega))
   have hH:=hb.from rfl hc 8 (by omega)
   have h88 : 8 <= l.length:=by omega
   by_cases hc8 : c = 8
   ·rw [if_pos hc8] at hH
    subst hc8
    have HH:=hide hH
    have HE:=hide (aI he h88)
    clear h he hk hstr hb hm hH
    go_enter Tryz.func29,Tryz.ntmps29
    go_wp2_with (go_at_call 65; refine (HP.out).mono ?_; rintro e w' ⟨rfl,rfl⟩)
    go_ret2
    have hz : l.length - 8 = 0:=by omega
    exact ⟨rfl,.inr ⟨HE.out.1,HE.out.2,_,0,by rw [hz]; rfl,HH.out,by omega,fun ad h=>⟨ad,h,rfl⟩⟩⟩
   ·rw [if_neg hc8] at hH
    have HH:=hide hH
    have HE:=hide (aI he h88)
    clear h he hk hstr hb hm hH
    go_enter Tryz.func29,Tryz.ntmps29
    go_wp2_with (go_at_call 65; refine (HP.out).mono ?_; rintro e w' ⟨rfl,rfl⟩)
    go_ret2
    exact ⟨rfl,.inr ⟨HE.out.1,HE.out.2,_,c - 8,rfl,HH.out,by omega,fun ad h=>⟨_,rfl,by injection h with h; subst h; rfl⟩⟩⟩
 ·rw [decide_eq_false h] at HP
  have he : begE l = 3:=by unfold begE; rw [<- hm,if_neg h]
  have HE:=hide he
  clear h he hk hstr hb hm
  go_enter Tryz.func29,Tryz.ntmps29
  go_wp2_with (go_at_call 65; refine (HP.out).mono ?_; rintro e w' ⟨rfl,rfl⟩)
  go_ret2
  exact ⟨rfl,.inl ⟨by rw [HE.out]; decide,by rw [HE.out]; rfl⟩⟩
def bigOf : List UInt8 -> Nat
 | a :: b :: c :: d :: _=>a.toNat * 16777216 + b.toNat * 65536 + c.toNat * 256 + d.toNat
 | _=>0
theorem bigOf_short {l : List UInt8} (h : l.length < 4) : bigOf l = 0:=by
 match l,h with
 | [],_=>rfl
 | [_],_=>rfl
 | [_,_],_=>rfl
 | [_,_,_],_=>rfl
theorem bitsBig_no (A : Option Addr) (n c : Nat) (w : World) (hn : n < 4) :
 Calls Tryz.prog 66 #[.slice A n c] w fun e w'=>e = .returned (.int .u32 0) /\ w = w':=by
 go_enter Tryz.func66,Tryz.ntmps66
 go_wp2
 go_ret
 exact ⟨rfl,rfl⟩
set_option maxHeartbeats 1000000 in
theorem bitsBig_yes (b o n c : Nat) (x0 x1 x2 x3 : UInt8) (w : World) (hn : 4 <= n)
 (h0 : w.cell? ⟨b,o,none⟩ = some (.int .u8 (x0.toNat : Int))) (h1 : w.cell? ⟨b,o + 1,none⟩ = some (.int .u8 (x1.toNat : Int)))
 (h2 : w.cell? ⟨b,o + 2,none⟩ = some (.int .u8 (x2.toNat : Int))) (h3 : w.cell? ⟨b,o + 3,none⟩ = some (.int .u8 (x3.toNat : Int))) :
 Calls Tryz.prog 66 #[.slice (some ⟨b,o,none⟩) n c] w fun e w'=>e = .returned (.int .u32 ((x0.toNat * 16777216 + x1.toNat * 65536 + x2.toNat * 256 + x3.toNat : Nat) : Int)) /\ ∃ m,w' = w.drewN m:=by
 have b0:=x0.toNat_lt
 have b1:=x1.toNat_lt
 have b2:=x2.toNat_lt
 have b3:=x3.toNat_lt
 go_enter Tryz.func66,Tryz.ntmps66
 go_wp2
 go_quiet (fail)
 go_wp2
 go_ret
 exact ⟨ret_int (u32_four _ _ _ _ b0 b1 b2 b3),_,rfl⟩
theorem four_of {l : List UInt8} (h : 4 <= l.length) : ∃ a b c d r,l = a :: b :: c :: d :: r:=by
 match l,h with
 | a :: b :: c :: d :: r,_=>exact ⟨a,b,c,d,r,rfl⟩
theorem bitsBig_any (A : Option Addr) (n c : Nat) (l : List UInt8) (w : World) (h : Holds w 1 A n (bvals l)) (hl : l.length = n) :
 Calls Tryz.prog 66 #[.slice A n c] w fun e w'=>e = .returned (.int .u32 (bigOf l : Nat)) /\ ∃ m,w' = w.drewN m:=by
 by_cases hn : n < 4
 ·refine (bitsBig_no A n c w hn).mono ?_
  rintro e w' ⟨rfl,rfl⟩
  exact ⟨by rw [bigOf_short (by omega)]; rfl,0,rfl⟩
 ·obtain ⟨x0,x1,x2,x3,r,rfl⟩:=four_of (show 4 <= l.length by omega)
  obtain ⟨b,o,rfl,hc⟩:=h.addr (by simp)
  exact bitsBig_yes b o n c x0 x1 x2 x3 w (by omega) (hc 0 _ rfl) (hc 1 _ rfl) (hc 2 _ rfl) (hc 3 _ rfl)
end Go.Proofs.YtjfjmkkkbcgohaaGreatDoor
