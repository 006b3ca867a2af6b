import Derived.Laws.Bits64b
import Derived.Laws.BitsAllLaws
import Derived.Laws.Bits128
import Derived.IntWalk
import Derived.Test.YtjfjmkkkbcgohaaGreatDoorMMem
import Derived.StillTailTactics
import Derived.Laws.BytesArg
namespace Go.Proofs.YtjfjmkkkbcgohaaGreatDoor
def dist (x y : Int) : Int:=if x < y then y - x else x - y
def pae (a b c : UInt8) : UInt8 :=
 if dist b.toNat c.toNat <= dist a.toNat c.toNat /\ dist b.toNat c.toNat <= dist ((a.toNat : Int) + b.toNat) (2 * (c.toNat : Int)) then a
 else if dist a.toNat c.toNat <= dist ((a.toNat : Int) + b.toNat) (2 * (c.toNat : Int)) then b else c
def gs (k : Nat) (a b c : UInt8) : UInt8:=if k = 1 then a else if k = 2 then b else if k = 3 then UInt8.ofNat ((a.toNat + b.toNat) / 2) else if k = 4 then pae a b c else 0
def lf (l : List UInt8) (i s : Nat) : UInt8:=if s <= i then l.getD (i - s) 0 else 0
def fl (un : Bool) (k s : Nat) (u l : List UInt8) : Nat -> List UInt8
 | 0=>[]
 | i + 1=>fl un k s u l i ++ [if un then l.getD i 0 + gs k (lf (fl un k s u l i) i s) (u.getD i 0) (lf u i s) else l.getD i 0 - gs k (lf l i s) (u.getD i 0) (lf u i s)]
theorem fl_length (un : Bool) (k s : Nat) (u l : List UInt8) : ∀ i,(fl un k s u l i).length = i
 | 0=>rfl
 | i + 1=>by rw [fl,List.length_append,fl_length un k s u l i]; rfl
theorem fl_take (un : Bool) (k s : Nat) (u l : List UInt8) (i : Nat) : ∀ d,(fl un k s u l (i + d)).take i = fl un k s u l i
 | 0=>by rw [Nat.add_zero,List.take_of_length_le (by rw [fl_length]; omega)]
 | d + 1=>by rw [<- Nat.add_assoc,fl,List.take_append_of_le_length (by rw [fl_length]; omega),fl_take un k s u l i d]
theorem fiGetD_take (l : List UInt8) (i j : Nat) (h : j < i) : (l.take i).getD j 0 = l.getD j 0:=by
 simp only [List.getD_eq_getElem?_getD,List.getElem?_take,if_pos h]
theorem fl_getD (un : Bool) (k s : Nat) (u l : List UInt8) (i n : Nat) (hi : i < n) : (fl un k s u l n).getD i 0 = (fl un k s u l (i + 1)).getD i 0:=by
 have:=fl_take un k s u l (i + 1) (n - (i + 1))
 rw [show i + 1 + (n - (i + 1)) = n by omega] at this
 rw [<- this,fiGetD_take _ _ _ (by omega)]
theorem fl_last (un : Bool) (k s : Nat) (u l : List UInt8) (i : Nat) : (fl un k s u l (i + 1)).getD i 0 = if un then l.getD i 0 + gs k (lf (fl un k s u l i) i s) (u.getD i 0) (lf u i s) else l.getD i 0 - gs k (lf l i s) (u.getD i 0) (lf u i s):=by
 rw [fl,List.getD_eq_getElem?_getD,List.getElem?_append_right (by rw [fl_length]; omega),fl_length,Nat.sub_self]
 rfl
theorem lf_take (l : List UInt8) (n i s : Nat) (h : i <= n) (hs : 1 <= s) : lf (l.take n) i s = lf l i s:=by
 unfold lf
 by_cases hsi : s <= i
 ·rw [if_pos hsi,if_pos hsi,fiGetD_take _ _ _ (by omega)]
 ·rw [if_neg hsi,if_neg hsi]
theorem lf_fl (un : Bool) (k s : Nat) (u l : List UInt8) (i n : Nat) (h : i <= n) (hs : 1 <= s) : lf (fl un k s u l n) i s = lf (fl un k s u l i) i s:=by
 have:=fl_take un k s u l i (n - i)
 rw [show i + (n - i) = n by omega] at this
 rw [<- this,lf_take _ _ _ _ (Nat.le_refl _) hs]
theorem fiTake_snoc (l : List UInt8) (i : Nat) (h : i < l.length) : l.take (i + 1) = l.take i ++ [l.getD i 0]:=by
 rw [List.take_succ_eq_append_getElem h,List.getD_eq_getElem?_getD,List.getElem?_eq_getElem h]
 rfl
theorem undo_do (k s : Nat) (u l : List UInt8) (hs : 1 <= s) : ∀ i,i <= l.length -> fl true k s u (fl false k s u l l.length) i = l.take i
 | 0,_=>rfl
 | i + 1,h=>by
   rw [fl,undo_do k s u l hs i (by omega),fiTake_snoc l i (by omega),if_pos rfl,fl_getD _ _ _ _ _ _ _ (by omega),fl_last,lf_take l i i s (Nat.le_refl _) hs]
   rw [if_neg (by simp),UInt8.sub_add_cancel]
theorem do_undo (k s : Nat) (u l : List UInt8) (hs : 1 <= s) : ∀ i,i <= l.length -> fl false k s u (fl true k s u l l.length) i = l.take i
 | 0,_=>rfl
 | i + 1,h=>by
   rw [fl,do_undo k s u l hs i (by omega),fiTake_snoc l i (by omega),if_neg (by simp),fl_getD _ _ _ _ _ _ _ (by omega),fl_last,lf_fl true k s u l i l.length (by omega) hs]
   rw [if_pos rfl,UInt8.add_sub_cancel]
theorem flip_flip (un : Bool) (k s : Nat) (u l : List UInt8) (hs : 1 <= s) : fl (!un) k s u (fl un k s u l l.length) l.length = l:=by
 cases un
 ·have:=undo_do k s u l hs l.length (Nat.le_refl _); rw [List.take_length] at this; exact this
 ·have:=do_undo k s u l hs l.length (Nat.le_refl _); rw [List.take_length] at this; exact this
def fill (p : List UInt8) (n : Nat) : List UInt8:=p ++ List.replicate (n - p.length) 0
theorem fill_length (p : List UInt8) (n : Nat) (h : p.length <= n) : (fill p n).length = n:=by unfold fill; simp; omega
theorem fill_nil (n : Nat) : fill [] n = List.replicate n 0:=by simp [fill]
theorem fill_all (p : List UInt8) (n : Nat) (h : p.length = n) : fill p n = p:=by simp [fill,h]
theorem fill_set (p : List UInt8) (n : Nat) (b : UInt8) (h : p.length < n) : (fill p n).set p.length b = fill (p ++ [b]) n:=by
 unfold fill
 rw [List.set_append,if_neg (by omega),Nat.sub_self,show n - p.length = (n - (p ++ [b]).length) + 1 by simp; omega,List.replicate_succ,List.set_cons_zero]
 simp
theorem lf_fill (p : List UInt8) (n s : Nat) (hs : 1 <= s) : lf (fill p n) p.length s = lf p p.length s:=by
 unfold lf
 by_cases h : s <= p.length
 ·rw [if_pos h,if_pos h]
  unfold fill
  simp only [List.getD_eq_getElem?_getD]
  rw [List.getElem?_append_left (by omega)]
 ·rw [if_neg h,if_neg h]
def fErr (k s : Int) (n m : Nat) : Nat:=if (0 <= k /\ k <= 4) /\ (1 <= s /\ s <= 8) /\ (m = 0 \/ m = n) then 0 else 1
def isDep (d : Int) : Bool:=d == 1 || d == 2 || d == 4 || d == 8 || d == 16
def bitAt (l : List UInt8) (p : Nat) : Nat:=(l.getD (p / 8) 0).toNat / 2 ^ (7 - p % 8) % 2
def smp (l : List UInt8) (d i : Nat) : Nat -> Nat
 | 0=>0
 | k + 1=>2 * smp l d i k + bitAt l (i * d + k)
theorem smp_succ (l : List UInt8) (d i k : Nat) : smp l d i (k + 1) = 2 * smp l d i k + bitAt l (i * d + k):=rfl
theorem two_step (x k : Nat) : 2 * (x / 2 % 2 ^ k) + x % 2 = x % 2 ^ (k + 1):=by
 rw [Nat.pow_succ,Nat.mul_comm (2 ^ k) 2,Nat.mod_mul]; omega
theorem smp_in (l : List UInt8) (d i : Nat) : ∀ k,i * d % 8 + k <= 8 -> smp l d i k = (l.getD (i * d / 8) 0).toNat / 2 ^ (8 - i * d % 8 - k) % 2 ^ k
 | 0,_=>by simp [smp,Nat.mod_one]
 | k + 1,h=>by
   rw [smp,smp_in l d i k (by omega),<- two_step]
   have e1 : (i * d + k) / 8 = i * d / 8:=by omega
   have e2 : 7 - (i * d + k) % 8 = 8 - i * d % 8 - (k + 1):=by omega
   unfold bitAt
   rw [e1,e2,Nat.div_div_eq_div_mul,<- Nat.pow_succ,Nat.succ_eq_add_one,show 8 - i * d % 8 - (k + 1) + 1 = 8 - i * d % 8 - k by omega]
theorem smp_split (l : List UInt8) (i : Nat) : ∀ k,smp l 16 i (8 + k) = smp l 16 i 8 * 2 ^ k + smp l 8 (2 * i + 1) k
 | 0=>by simp [smp]
 | k + 1=>by
   rw [<- Nat.add_assoc,smp_succ l 16 i (8 + k),smp_split l i k,smp_succ l 8 (2 * i + 1) k,show i * 16 + (8 + k) = (2 * i + 1) * 8 + k by omega,Nat.pow_succ]
   generalize smp l 16 i 8 = x
   generalize bitAt l ((2 * i + 1) * 8 + k) = y
   rw [Nat.mul_add,show 2 * (x * 2 ^ k) = x * (2 ^ k * 2) by rw [Nat.mul_comm 2,Nat.mul_assoc],Nat.add_assoc]
theorem smp_8 (l : List UInt8) (i : Nat) : smp l 8 i 8 = (l.getD i 0).toNat:=by
 rw [smp_in l 8 i 8 (by omega),show i * 8 / 8 = i by omega,show 8 - i * 8 % 8 - 8 = 0 by omega,Nat.pow_zero,Nat.div_one]
 exact Nat.mod_eq_of_lt (l.getD i 0).toNat_lt
theorem smp_16 (l : List UInt8) (i : Nat) : smp l 16 i 16 = (l.getD (2 * i) 0).toNat * 256 + (l.getD (2 * i + 1) 0).toNat:=by
 rw [smp_split l i 8,smp_8,smp_in l 16 i 8 (by omega),show i * 16 / 8 = 2 * i by omega,show 8 - i * 16 % 8 - 8 = 0 by omega,Nat.pow_zero,Nat.div_one,Nat.mod_eq_of_lt (l.getD (2 * i) 0).toNat_lt]
def smps (l : List UInt8) (d n : Nat) : List Nat:=(List.range n).map fun i=>smp l d i d
def sErr (d n : Int) (m : Nat) : Nat:=if isDep d = true /\ 0 <= n then (if 8 * m / d.toNat < n.toNat then 2 else 0) else 1
def rowI (w s d : Int) : Int:=if (1 <= w /\ w <= 16384) /\ (1 <= s /\ s <= 4) /\ isDep d = true then (w * s * d + 7) / 8 else 0
def upI (n x d : Int) : Int:=if x < n then (n - x - 1) / d + 1 else 0
def sizeOkB (x y dx dy w h : Int) : Bool:=decide ((1 <= w /\ w <= 16384) /\ (1 <= h /\ h <= 16384) /\ (1 <= dx /\ 1 <= dy) /\ (0 <= x /\ 0 <= y) /\ x < w /\ y < h)
def sizeW (x y dx dy w h : Int) : Int:=if sizeOkB x y dx dy w h = true then (w - x - 1) / dx + 1 else 0
def sizeH (x y dx dy w h : Int) : Int:=if sizeOkB x y dx dy w h = true then (h - y - 1) / dy + 1 else 0
def adX (i : Nat) : Int:=if i = 1 then 4 else if i = 3 then 2 else if i = 5 then 1 else 0
def adY (i : Nat) : Int:=if i = 2 then 4 else if i = 4 then 2 else if i = 6 then 1 else 0
def adW (i : Nat) : Int:=if i <= 1 then 8 else if i <= 3 then 4 else if i <= 5 then 2 else 1
def adH (i : Nat) : Int:=if i <= 2 then 8 else if i <= 4 then 4 else 2
def knW (i : Nat) : Int:=if i = 0 then 8 else if i <= 2 then 4 else if i <= 4 then 2 else 1
def knH (i : Nat) : Int:=if i <= 1 then 8 else if i <= 3 then 4 else if i <= 5 then 2 else 1
theorem up_sum (n d e : Int) (hn : 0 <= n) (h : (e = 8 /\ d = 4) \/ (e = 4 /\ d = 2) \/ (e = 2 /\ d = 1)) : upI n 0 e + upI n d e = upI n 0 d:=by
 unfold upI
 rcases h with ⟨rfl,rfl⟩ | ⟨rfl,rfl⟩ | ⟨rfl,rfl⟩ <;> (repeat' split) <;> omega
theorem up_one (n : Int) (hn : 0 <= n) : upI n 0 1 = n:=by unfold upI; split <;> omega
theorem size_mul (x y dx dy w h : Int) (hw : 1 <= w /\ w <= 16384) (hh : 1 <= h /\ h <= 16384) (hd : 1 <= dx /\ 1 <= dy) (hx : 0 <= x /\ 0 <= y) : sizeW x y dx dy w h * sizeH x y dx dy w h = upI w x dx * upI h y dy:=by
 unfold sizeW sizeH upI
 by_cases h1 : x < w
 ·by_cases h2 : y < h
  ·have : sizeOkB x y dx dy w h = true:=decide_eq_true ⟨hw,hh,hd,hx,h1,h2⟩
   rw [if_pos this,if_pos this,if_pos h1,if_pos h2]
  ·have : ¬ sizeOkB x y dx dy w h = true:=fun hc=>h2 (of_decide_eq_true hc).2.2.2.2.2
   rw [if_neg this,if_neg h2]; simp
 ·have : ¬ sizeOkB x y dx dy w h = true:=fun hc=>h1 (of_decide_eq_true hc).2.2.2.2.1
  rw [if_neg this,if_neg h1]; simp
def adSum (w h : Int) : Nat -> Int
 | 0=>0
 | i + 1=>adSum w h i + sizeW (adX i) (adY i) (adW i) (adH i) w h * sizeH (adX i) (adY i) (adW i) (adH i) w h
theorem ad_in (w h : Int) (hw : 1 <= w /\ w <= 16384) (hh : 1 <= h /\ h <= 16384) : adSum w h 7 = w * h:=by
 have step : ∀ i,i < 7 -> sizeW (adX i) (adY i) (adW i) (adH i) w h * sizeH (adX i) (adY i) (adW i) (adH i) w h = upI w (adX i) (adW i) * upI h (adY i) (adH i):=fun i hi =>
  size_mul _ _ _ _ _ _ hw hh (by unfold adW adH; constructor <;> ((repeat' split) <;> omega)) (by unfold adX adY; constructor <;> ((repeat' split) <;> omega))
 simp only [adSum]
 rw [step 0 (by omega),step 1 (by omega),step 2 (by omega),step 3 (by omega),step 4 (by omega),step 5 (by omega),step 6 (by omega)]
 have w8:=up_sum w 4 8 (by omega) (by simp)
 have w4:=up_sum w 2 4 (by omega) (by simp)
 have w2:=up_sum w 1 2 (by omega) (by simp)
 have h8:=up_sum h 4 8 (by omega) (by simp)
 have h4:=up_sum h 2 4 (by omega) (by simp)
 have h2:=up_sum h 1 2 (by omega) (by simp)
 have wz:=up_one w (by omega)
 have hz:=up_one h (by omega)
 rw [wz] at w2
 rw [hz] at h2
 show 0 + upI w 0 8 * upI h 0 8 + upI w 4 8 * upI h 0 8 + upI w 0 4 * upI h 4 8 + upI w 2 4 * upI h 0 4 + upI w 0 2 * upI h 2 4 + upI w 1 2 * upI h 0 2 + upI w 0 1 * upI h 1 2 = w * h
 rw [Int.zero_add,<- Int.add_mul,w8,<- Int.mul_add,h8,<- Int.add_mul,w4,<- Int.mul_add,h4,<- Int.add_mul,w2,wz,<- Int.mul_add,h2]
theorem size_range (x y dx dy w h : Int) : (0 <= sizeW x y dx dy w h /\ sizeW x y dx dy w h <= 16384) /\ (0 <= sizeH x y dx dy w h /\ sizeH x y dx dy w h <= 16384):=by
 unfold sizeW sizeH
 by_cases hc : sizeOkB x y dx dy w h = true
 ·have h:=of_decide_eq_true hc
  rw [if_pos hc,if_pos hc]
  have key : ∀ n x d : Int,0 <= n - x - 1 -> n <= 16384 -> 0 <= x -> 1 <= d -> 0 <= (n - x - 1) / d + 1 /\ (n - x - 1) / d + 1 <= 16384:=fun n x d h1 h2 h3 h4=>by
   have a1 : 0 <= (n - x - 1) / d:=Int.ediv_nonneg h1 (by omega)
   have a2 : (n - x - 1) / d <= n - x - 1:=Int.ediv_le_self d h1
   generalize (n - x - 1) / d = q at *
   omega
  exact ⟨key _ _ _ (by omega) h.1.2 h.2.2.2.1.1 h.2.2.1.1,key _ _ _ (by omega) h.2.1.2 h.2.2.2.1.2 h.2.2.1.2⟩
 ·rw [if_neg hc,if_neg hc]; omega
end Go.Proofs.YtjfjmkkkbcgohaaGreatDoor
namespace Go.Proofs.YtjfjmkkkbcgohaaGreatDoor
open Go
def num : List UInt8 -> Nat
 | []=>0
 | b :: r=>b.toNat + 256 * num r
theorem num_lt (l : List UInt8) : num l < 256 ^ l.length:=by
 induction l with
 | nil=>simp [num]
 | cons b r ih =>
   have hb:=b.toNat_lt
   rw [num,List.length_cons,Nat.pow_succ]
   omega
theorem num_append (l m : List UInt8) : num (l ++ m) = num l + 256 ^ l.length * num m:=by
 induction l with
 | nil=>simp [num]
 | cons b r ih =>
   rw [List.cons_append,num,ih,num,List.length_cons,Nat.pow_succ,Nat.mul_add,Nat.mul_comm (256 ^ r.length) 256,Nat.mul_assoc]
   omega
theorem num_drop (l : List UInt8) (k : Nat) : num (l.drop k) = num l / 256 ^ k:=by
 induction l generalizing k with
 | nil=>simp [num]
 | cons b r ih =>
   have hb:=b.toNat_lt
   cases k with
   | zero=>simp
   | succ k =>
     rw [List.drop_succ_cons,ih,num,Nat.pow_succ,Nat.mul_comm (256 ^ k) 256,<- Nat.div_div_eq_div_mul]
     congr 1; omega
theorem num_take (l : List UInt8) (k : Nat) : num (l.take k) = num l % 256 ^ k:=by
 induction l generalizing k with
 | nil=>simp [num]
 | cons b r ih =>
   have hb:=b.toNat_lt
   cases k with
   | zero=>simp [num,Nat.mod_one]
   | succ k =>
     rw [List.take_succ_cons,num,ih,num,Nat.pow_succ,Nat.mul_comm (256 ^ k) 256,Nat.mod_mul]
     have h1 : (b.toNat + 256 * num r) % 256 = b.toNat:=by omega
     have h2 : (b.toNat + 256 * num r) / 256 = num r:=by omega
     rw [h1,h2]
theorem num_inj {l m : List UInt8} (h : l.length = m.length) (hn : num l = num m) : l = m:=by
 induction l generalizing m with
 | nil=>cases m with
   | nil=>rfl
   | cons _ _=>simp at h
 | cons b r ih=>cases m with
   | nil=>simp at h
   | cons c s =>
     have hb:=b.toNat_lt
     have hc:=c.toNat_lt
     simp only [num] at hn
     have h1 : b.toNat = c.toNat:=by omega
     have h2 : num r = num s:=by omega
     rw [ih (by simpa using h) h2,UInt8.toNat_inj.1 h1]
theorem num_snoc (l : List UInt8) (b : UInt8) : num (l ++ [b]) = num l + 256 ^ l.length * b.toNat:=by
 rw [num_append]; simp [num]
theorem pow_256 (k : Nat) : 256 ^ k = 2 ^ (8 * k):=by rw [Nat.pow_mul]
theorem num_get (l : List UInt8) (i : Nat) (h : i < l.length) : l[i].toNat = num l / 256 ^ i % 256:=by
 have h1:=num_take (l.drop i) 1
 rw [num_drop] at h1
 rw [List.drop_eq_getElem_cons h,List.take_succ_cons,List.take_zero] at h1
 simpa [num] using h1
theorem mod_div_mod (x a r n : Nat) (h : r + n <= a) : x % 2 ^ a / 2 ^ r % 2 ^ n = x / 2 ^ r % 2 ^ n:=by
 have e : 2 ^ a = 2 ^ r * 2 ^ (a - r):=by rw [<- Nat.pow_add]; congr 1; omega
 have e2 : 2 ^ (a - r) = 2 ^ n * 2 ^ (a - r - n):=by rw [<- Nat.pow_add]; congr 1; omega
 rw [e,Nat.mod_mul_right_div_self,e2,Nat.mod_mul_right_mod]
def bitsOf (N k n : Nat) : Nat:=N / 2 ^ k % 2 ^ n
theorem bitsOf_lt (N k n : Nat) : bitsOf N k n < 2 ^ n:=Nat.mod_lt _ (Nat.two_pow_pos n)
theorem bitsOf_lt32 (N k n : Nat) (h : n <= 32) : bitsOf N k n < 4294967296 :=
 Nat.lt_of_lt_of_le (bitsOf_lt N k n) (Nat.pow_le_pow_right (n:=2) (by decide) h)
theorem bitsOf_zero (N k : Nat) : bitsOf N k 0 = 0:=by simp [bitsOf,Nat.mod_one]
theorem bitsOf_cut (l : List UInt8) (k n f p : Nat) (hf : f = k / 8) (hp : p = (k + n + 7) / 8) :
 bitsOf (num ((l.drop f).take (p - f))) (k % 8) n = bitsOf (num l) k n:=by
 have e : 2 ^ k = 256 ^ f * 2 ^ (k % 8):=by rw [pow_256,<- Nat.pow_add]; congr 1; omega
 unfold bitsOf
 rw [num_take,num_drop,e,<- Nat.div_div_eq_div_mul,pow_256 (p - f),mod_div_mod _ _ _ _ (by omega)]
theorem or_of_lt {a k : Nat} (h : a < 2 ^ k) (b : Nat) : a ||| b * 2 ^ k = a + b * 2 ^ k:=by
 rw [Nat.mul_comm b,Nat.or_comm,<- Nat.two_pow_add_eq_or_of_lt h,Nat.add_comm]
theorem i64_and7 (n : Int) : bits .and .i64 n 7 = n % 8:=by
 have h7 : (BitVec.ofInt 64 7).toNat = 2 ^ 3 - 1:=by decide
 have key : (BitVec.ofInt 64 n &&& BitVec.ofInt 64 7).toNat = (n % ((2 ^ 64 : Nat) : Int)).toNat % 2 ^ 3:=by
  rw [BitVec.toNat_and,BitVec.toNat_ofInt,h7,Nat.and_two_pow_sub_one_eq_mod]
 show IntKind.i64.wrap ((BitVec.ofInt 64 n &&& BitVec.ofInt 64 7).toNat : Nat) = n % 8
 rw [key,IntKind.wrap_i64]
 omega
theorem two_pow_cast (n : Nat) : ((2 ^ n : Nat) : Int) = 2 ^ n:=Int.natCast_pow 2 n
theorem pow_le32 {n : Nat} (h : n <= 32) : 2 ^ n <= 4294967296:=Nat.pow_le_pow_right (n:=2) (by decide) h
theorem u64_low (v n : Nat) (hv : v < 18446744073709551616) (hn : n <= 32) :
 bits .and .u64 (v : Int) (IntKind.u64.wrap (IntKind.u64.wrap (2 ^ n) - 1)) = ((v % 2 ^ n : Nat) : Int):=by
 have hp:=pow_le32 hn
 have h1 : 1 <= 2 ^ n:=Nat.one_le_two_pow
 have e : IntKind.u64.wrap (IntKind.u64.wrap (2 ^ n) - 1) = ((2 ^ n - 1 : Nat) : Int):=by
  rw [<- two_pow_cast]
  have e1 : IntKind.u64.wrap ((2 ^ n : Nat) : Int) = ((2 ^ n : Nat) : Int):=IntWalk.u64_in _ ⟨by omega,by omega⟩
  rw [e1,IntWalk.u64_in _ ⟨by omega,by omega⟩]
  omega
 rw [e,u64_and_nat _ _ hv (by omega),Nat.and_two_pow_sub_one_eq_mod]
theorem u64_join (a b k : Nat) (ha : a < 2 ^ k) (hs : a + b * 2 ^ k < 18446744073709551616) :
 bits .or .u64 (a : Int) ((b * 2 ^ k : Nat) : Int) = ((a + b * 2 ^ k : Nat) : Int):=by
 rw [u64_or_nat _ _ (by omega) (by omega),or_of_lt ha]
theorem u32_join (a b k : Nat) (ha : a < 2 ^ k) (hs : a + b * 2 ^ k < 4294967296) :
 bits .or .u32 (a : Int) ((b * 2 ^ k : Nat) : Int) = ((a + b * 2 ^ k : Nat) : Int):=by
 rw [u32_or_nat _ _ (by omega) (by omega),or_of_lt ha]
theorem pow_le40 {n : Nat} (h : n <= 40) : 2 ^ n <= 1099511627776:=Nat.pow_le_pow_right (n:=2) (by decide) h
theorem u64_byte (l : List UInt8) (j : Nat) (hj : j < 5) (hl : j < l.length) :
 bits .or .u64 (num (l.take j) : Nat) (IntKind.u64.wrap (IntKind.u64.wrap (l[j].toNat : Int) * 2 ^ (8 * j))) = (num (l.take (j + 1)) : Nat):=by
 have hb:=l[j].toNat_lt
 have hp : 2 ^ (8 * (j + 1)) <= 1099511627776:=pow_le40 (by omega)
 have hq : 2 ^ (8 * (j + 1)) = 256 * 2 ^ (8 * j):=by rw [show 8 * (j + 1) = 8 * j + 8 from by omega,Nat.pow_add]; omega
 have hlen : (l.take j).length = j:=by simp; omega
 have hn : num (l.take j) < 2 ^ (8 * j):=by have:=num_lt (l.take j); rwa [hlen,pow_256] at this
 have hm : l[j].toNat * 2 ^ (8 * j) <= 255 * 2 ^ (8 * j):=Nat.mul_le_mul_right _ (by omega)
 have hs : num (l.take (j + 1)) = num (l.take j) + l[j].toNat * 2 ^ (8 * j):=by
  rw [List.take_succ_eq_append_getElem hl,num_snoc,hlen,pow_256,Nat.mul_comm]
 have e1 : IntKind.u64.wrap (l[j].toNat : Int) = (l[j].toNat : Int):=IntWalk.u64_in _ ⟨by omega,by omega⟩
 have e2 : IntKind.u64.wrap ((l[j].toNat : Int) * 2 ^ (8 * j)) = ((l[j].toNat * 2 ^ (8 * j) : Nat) : Int):=by
  rw [<- two_pow_cast,<- Int.natCast_mul]; exact IntWalk.u64_in _ ⟨by omega,by omega⟩
 rw [e1,e2,u64_join _ _ _ hn (by omega),hs]
theorem ret_int {k : IntKind} {a b : Int} (h : a = b) : Ending.returned (.int k a) = .returned (.int k b):=by rw [h]
theorem ret_int_bool {k : IntKind} {a b : Int} {c d : Bool} (h : a = b) (h' : c = d) :
 Ending.returned (.tuple #[.int k a,.bool c]) = .returned (.tuple #[.int k b,.bool d]):=by rw [h,h']
end Go.Proofs.YtjfjmkkkbcgohaaGreatDoor
namespace Go.Proofs.YtjfjmkkkbcgohaaGreatDoor
open Go Go.RowKit
def atI (l : List UInt8) (i : Int) : UInt8:=if i < 0 then 0 else l.getD i.toNat 0
theorem atI_sub (l : List UInt8) (i s : Nat) : atI l ((i : Int) - (s : Int)) = lf l i s:=by
 unfold atI lf
 by_cases h : s <= i
 ·rw [if_neg (by omega),if_pos h]; congr 1; omega
 ·rw [if_pos (by omega),if_neg h]
theorem atI_nat (l : List UInt8) (i : Nat) : atI l (i : Int) = l.getD i 0:=by unfold atI; rw [if_neg (by omega),Int.toNat_natCast]
set_option maxRecDepth 100000 in
set_option maxHeartbeats 4000000 in
theorem fiAt_any (A : Option Addr) (n c : Nat) (l : List UInt8) (i : Int) (w : World) (hb : Holds w 1 A n (bvals l)) (hl : l.length = n) (hi : -9223372036854775808 <= i /\ i <= 9223372036854775807) :
 Calls Tryz.prog 116 #[.slice A n c,.int .i64 i] w fun e w'=>e = .returned (.int .u8 ((atI l i).toNat : Int)) /\ w' = w:=by
 subst hl
 by_cases h0 : i < 0
 ·have e : atI l i = 0:=if_pos h0
  rw [e]
  clear e
  go_enter Tryz.func116,Tryz.ntmps116
  go_wp2_with fail
  go_ret
  exact ⟨rfl,rfl⟩
 ·obtain ⟨k,rfl⟩:=Int.eq_ofNat_of_zero_le (show 0 <= i by omega)
  rw [atI_nat]
  by_cases hk : k < l.length
  ·have hcell:=(hb.2 (by omega))
   obtain ⟨ad,rfl,hlt,hc⟩:=hcell
   have hcell:=hc k _ (bvals_get l k hk)
   have e : l.getD k 0 = l[k]:=by rw [List.getD_eq_getElem?_getD,List.getElem?_eq_getElem hk]; rfl
   rw [e]
   have h1 : ¬ (l.length : Int) <= (k : Int):=by omega
   have h2 : ¬ (k : Int) < 0:=by omega
   clear hc e
   go_enter Tryz.func116,Tryz.ntmps116
   go_wp2_with fail
   go_ret
   exact ⟨rfl,rfl⟩
  ·have e : l.getD k 0 = 0:=by rw [List.getD_eq_getElem?_getD,List.getElem?_eq_none (by omega)]; rfl
   rw [e]
   have h1 : (l.length : Int) <= (k : Int):=by omega
   have h2 : ¬ (k : Int) < 0:=by omega
   clear e
   go_enter Tryz.func116,Tryz.ntmps116
   go_wp2_with fail
   go_ret
   exact ⟨rfl,rfl⟩
set_option maxRecDepth 100000 in
theorem apart_any (x y : UInt8) (w : World) : Calls Tryz.prog 136 #[.int .u8 (x.toNat : Int),.int .u8 (y.toNat : Int)] w fun e w'=>e = .returned (.int .i64 (dist x.toNat y.toNat)) /\ w' = w:=by
 have hx:=x.toNat_lt
 have hy:=y.toNat_lt
 generalize x.toNat = a at *
 generalize y.toNat = b at *
 have key : dist a b = if (a : Int) < b then (b : Int) - a else (a : Int) - b:=rfl
 rw [key]
 rcases Nat.lt_trichotomy a b with h | h | h
 ·rw [if_pos (by omega)]
  have h' : ¬ (b : Int) < (a : Int):=by omega
  have h1 : (a : Int) < (b : Int):=by omega
  clear key
  go_enter Tryz.func136,Tryz.ntmps136
  go_wp2_with fail
  go_ret
  exact ⟨rfl,rfl⟩
 ·subst h
  rw [if_neg (by omega)]
  have h1 : ¬ (a : Int) < (a : Int):=by omega
  clear key
  go_enter Tryz.func136,Tryz.ntmps136
  go_wp2_with fail
  go_ret
  exact ⟨by simp,rfl⟩
 ·rw [if_neg (by omega)]
  have h' : ¬ (a : Int) < (b : Int):=by omega
  have h1 : (b : Int) < (a : Int):=by omega
  clear key
  go_enter Tryz.func136,Tryz.ntmps136
  go_wp2_with fail
  go_ret
  exact ⟨rfl,rfl⟩
def isSd (n : Int) : Bool:=decide (1 <= n /\ n <= 16384)
set_option maxRecDepth 100000 in
theorem isSide_any (n : Int) (w : World) : Calls Tryz.prog 75 #[.int .i64 n] w fun e w'=>e = .returned (.bool (isSd n)) /\ w' = w:=by
 have hyes : 1 <= n /\ n <= 16384 -> isSd n = true:=fun h=>decide_eq_true h
 have hno : ¬ (1 <= n /\ n <= 16384) -> isSd n = false:=fun h=>decide_eq_false h
 generalize isSd n = x at *
 by_cases h1 : 1 <= n
 ·by_cases h2 : n <= 16384
  ·obtain rfl:=hyes ⟨h1,h2⟩
   clear hyes hno
   go_enter Tryz.func75,Tryz.ntmps75
   go_wp2_with fail
   go_ret
   exact ⟨rfl,rfl⟩
  ·obtain rfl:=hno (fun h=>h2 h.2)
   clear hyes hno
   go_enter Tryz.func75,Tryz.ntmps75
   go_wp2_with fail
   go_ret
   exact ⟨rfl,rfl⟩
 ·obtain rfl:=hno (fun h=>h1 h.1)
  clear hyes hno
  go_enter Tryz.func75,Tryz.ntmps75
  go_wp2_with fail
  go_ret
  exact ⟨rfl,rfl⟩
theorem isDep_iff (d : Int) : isDep d = true ↔ d = 1 \/ d = 2 \/ d = 4 \/ d = 8 \/ d = 16:=by
 unfold isDep; simp [or_assoc]
set_option maxRecDepth 100000 in
theorem isDepth_any (d : Int) (w : World) : Calls Tryz.prog 115 #[.int .i64 d] w fun e w'=>e = .returned (.bool (isDep d)) /\ w' = w:=by
 by_cases h : d = 1 \/ d = 2 \/ d = 4 \/ d = 8 \/ d = 16
 ·rw [(isDep_iff d).2 h]
  rcases h with rfl | rfl | rfl | rfl | rfl
  all_goals
   go_enter Tryz.func115,Tryz.ntmps115
   go_wp2_with fail
   go_ret
   exact ⟨rfl,rfl⟩
 ·have e : isDep d = false:=by
   cases hx : isDep d with
   | true=>exact absurd ((isDep_iff d).1 hx) h
   | false=>rfl
  rw [e]
  have h1 : ¬ d = 1:=by omega
  have h2 : ¬ d = 2:=by omega
  have h3 : ¬ d = 4:=by omega
  have h4 : ¬ d = 8:=by omega
  have h5 : ¬ d = 16:=by omega
  clear h e
  go_enter Tryz.func115,Tryz.ntmps115
  go_wp2_with fail
  go_ret
  exact ⟨rfl,rfl⟩
def upV (n d : Int) : Int:=if n <= 0 then 0 else (n - 1) / d + 1
set_option maxRecDepth 100000 in
theorem upwards_any (n d : Int) (w : World) (hn : n <= 1000000000000) (hd : 1 <= d /\ d <= 9223372036854775807) : Calls Tryz.prog 77 #[.int .i64 n,.int .i64 d] w fun e w'=>e = .returned (.int .i64 (upV n d)) /\ w' = w:=by
 by_cases h : n <= 0
 ·rw [show upV n d = 0 from if_pos h]
  go_enter Tryz.func77,Tryz.ntmps77
  go_wp2_with fail
  go_ret
  exact ⟨rfl,rfl⟩
 ·rw [show upV n d = (n - 1) / d + 1 from if_neg h]
  obtain ⟨m,hm⟩ : ∃ m,m = n - 1:=⟨_,rfl⟩
  rw [<- hm]
  have hq1 : 0 <= m / d:=Int.ediv_nonneg (by omega) (by omega)
  have hq2 : m / d <= m:=Int.ediv_le_self d (by omega)
  have hq3 : m.tdiv d = m / d:=Int.tdiv_eq_ediv_of_nonneg (by omega)
  generalize m / d = q at *
  obtain ⟨r,hr⟩ : ∃ r,r = q + 1:=⟨_,rfl⟩
  rw [<- hr]
  have v1 : wrap64 (n - 1) = m:=by rw [hm]; exact IntWalk.wrap64_in _ ⟨by omega,by omega⟩
  have v2 : IntKind.i64.wrap (n - 1) = m:=by rw [hm,IntKind.wrap_i64]; omega
  have v3 : wrap64 (q + 1) = r:=by rw [hr]; exact IntWalk.wrap64_in _ ⟨by omega,by omega⟩
  have v4 : IntKind.i64.wrap (q + 1) = r:=by rw [hr,IntKind.wrap_i64]; omega
  have v5 : IntKind.i64.wrap q = q:=by rw [IntKind.wrap_i64]; omega
  have v6 : wrap64 q = q:=IntWalk.wrap64_in _ ⟨by omega,by omega⟩
  have d0 : ¬ d = 0:=by omega
  have d1 : (d == 0) = false:=beq_eq_false_iff_ne.2 d0
  clear hm hr hq1 hq2
  go_enter Tryz.func77,Tryz.ntmps77
  go_wp2_with fail
  go_ret
  exact ⟨rfl,rfl⟩
theorem rowI_up (w s d : Int) (h : (1 <= w /\ w <= 16384) /\ (1 <= s /\ s <= 4) /\ isDep d = true) : rowI w s d = upV (w * s * d) 8 /\ 0 <= w * s /\ w * s <= 65536 /\ 0 <= w * s * d /\ w * s * d <= 1048576:=by
 have e : rowI w s d = (w * s * d + 7) / 8:=if_pos h
 obtain ⟨h1,h2,h3⟩:=h
 rw [isDep_iff] at h3
 have hd : 1 <= d /\ d <= 16:=by omega
 have a0 : 1 * 1 <= w * s:=Int.mul_le_mul h1.1 h2.1 (by omega) (by omega)
 have a1 : w * s <= 16384 * 4:=Int.mul_le_mul h1.2 h2.2 (by omega) (by omega)
 have b0 : 1 * 1 <= w * s * d:=Int.mul_le_mul (by omega) hd.1 (by omega) (by omega)
 have b1 : w * s * d <= 65536 * 16:=Int.mul_le_mul (by omega) hd.2 (by omega) (by omega)
 rw [e]
 generalize w * s * d = z at *
 have : upV z 8 = (z - 1) / 8 + 1:=if_neg (by omega)
 rw [this]
 omega
set_option maxRecDepth 100000 in
theorem row_len (w s d : Int) (W : World) : Calls Tryz.prog 70 #[.int .i64 w,.int .i64 s,.int .i64 d] W fun e W'=>e = .returned (.int .i64 (rowI w s d)) /\ W' = W:=by
 have HS:=hide (fun W=>isSide_any w W)
 have HD:=hide (fun W=>isDepth_any d W)
 by_cases h1 : 1 <= w /\ w <= 16384
 ·rw [show isSd w = true from decide_eq_true h1] at HS
  by_cases h2 : 1 <= s
  ·by_cases h3 : s <= 4
   ·cases hd : isDep d with
    | true =>
      rw [hd] at HD
      obtain ⟨e,b0,b1,b2,b3⟩:=rowI_up w s d ⟨h1,⟨h2,h3⟩,hd⟩
      rw [e]
      obtain ⟨p,hp⟩ : ∃ p,p = w * s:=⟨_,rfl⟩
      rw [<- hp] at b0 b1 b2 b3 ⊢
      obtain ⟨q,hq⟩ : ∃ q,q = p * d:=⟨_,rfl⟩
      rw [<- hq] at b2 b3 ⊢
      have HU:=hide (fun W=>upwards_any q 8 W (by omega) (by omega))
      have v1 : wrap64 (w * s) = p:=by rw [<- hp]; exact IntWalk.wrap64_in _ ⟨by omega,by omega⟩
      have v2 : IntKind.i64.wrap (w * s) = p:=by rw [<- hp,IntKind.wrap_i64]; omega
      have v3 : wrap64 (p * d) = q:=by rw [<- hq]; exact IntWalk.wrap64_in _ ⟨by omega,by omega⟩
      have v4 : IntKind.i64.wrap (p * d) = q:=by rw [<- hq,IntKind.wrap_i64]; omega
      clear hp hq h1 e b0 b1 b2 b3
      go_enter Tryz.func70,Tryz.ntmps70
      go_wp2_with fail
      refine (HS.out _).mono ?_
      rintro e w1 ⟨rfl,rfl⟩
      go_wp2_with fail
      refine (HD.out _).mono ?_
      rintro e w1 ⟨rfl,rfl⟩
      go_wp2_with fail
      refine (HU.out _).mono ?_
      rintro e w1 ⟨rfl,rfl⟩
      go_wp2_with fail
      go_ret
      exact ⟨rfl,rfl⟩
    | false =>
      rw [hd] at HD
      rw [show rowI w s d = 0 from if_neg (fun h=>by rw [hd] at h; exact absurd h.2.2 (by simp))]
      clear h1
      go_enter Tryz.func70,Tryz.ntmps70
      go_wp2_with fail
      refine (HS.out _).mono ?_
      rintro e w1 ⟨rfl,rfl⟩
      go_wp2_with fail
      refine (HD.out _).mono ?_
      rintro e w1 ⟨rfl,rfl⟩
      go_wp2_with fail
      go_ret
      exact ⟨rfl,rfl⟩
   ·rw [show rowI w s d = 0 from if_neg (fun h=>h3 h.2.1.2)]
    clear h1
    go_enter Tryz.func70,Tryz.ntmps70
    go_wp2_with fail
    refine (HS.out _).mono ?_
    rintro e w1 ⟨rfl,rfl⟩
    go_wp2_with fail
    go_ret
    exact ⟨rfl,rfl⟩
  ·rw [show rowI w s d = 0 from if_neg (fun h=>h2 h.2.1.1)]
   clear h1
   go_enter Tryz.func70,Tryz.ntmps70
   go_wp2_with fail
   refine (HS.out _).mono ?_
   rintro e w1 ⟨rfl,rfl⟩
   go_wp2_with fail
   go_ret
   exact ⟨rfl,rfl⟩
 ·rw [show isSd w = false from decide_eq_false h1] at HS
  rw [show rowI w s d = 0 from if_neg (fun h=>h1 h.1)]
  clear h1
  go_enter Tryz.func70,Tryz.ntmps70
  go_wp2_with fail
  refine (HS.out _).mono ?_
  rintro e w1 ⟨rfl,rfl⟩
  go_wp2_with fail
  go_ret
  exact ⟨rfl,rfl⟩
theorem str_of_list (l : List UInt8) : strOfNums (l.map fun b=>(b.toNat : Int)) = ⟨l.toArray⟩:=by
 unfold strOfNums
 have e : (l.map fun b=>(b.toNat : Int)).map (fun n=>UInt8.ofNat n.toNat) = l:=by
  rw [List.map_map]
  conv=>rhs; rw [<- List.map_id l]
  refine List.map_congr_left fun b _=>?_
  simp
 rw [e]
theorem run_string_of {P : Program} {w : World} {A : Option Addr} {n : Nat} {l : List UInt8} (h : Holds w 1 A n (bvals l)) (c : Nat) (src e dst : TypeId)
 (hs : P.underlying src = some (.slice e)) (he : P.underlying e = some (.int .u8)) (hd : P.underlying dst = some .string) :
 (convert src dst (.slice A n c)).run P w = .ok (.string ⟨l.toArray⟩) w:=by
 have hl : l.length = n:=by have:=h.1; rw [bvals_length] at this; omega
 rcases Nat.eq_zero_or_pos l.length with h0 | h0
 ·have hn : n = 0:=by omega
  subst hn
  obtain rfl : l = []:=List.eq_nil_of_length_eq_zero h0
  cases A with
  | none =>
    rw [run_convert_bytes_nil (P:=P) (w:=w) src e hs he 0 c dst hd]
    rfl
  | some ad =>
    rw [run_convert_bytes_string w src dst e _ 0 c hs he hd]
    have hl : (loadCells ad 0).run P w = .ok (([] : List Int).map (Value.int .u8)).toArray w:=by
     have:=run_loadCells_list (P:=P) w ad [] (by simp)
     simpa using this
    rw [run_bytesToString w ad 0 c [] hl]
    rfl
 ·obtain ⟨b,o,rfl,hc⟩:=h.addr (by simpa using h0)
  rw [run_convert_bytes_arg (P:=P) (w:=w) src e hs he b o n c (l.map fun x=>(x.toNat : Int)) (by simpa using hl) (fun i hi=>by
   rw [hc i _ (bvals_get l i (by omega))]
   simp [show i < l.length by omega]) dst hd,str_of_list]
def gOn (x y dx dy : Int) : Bool:=decide (0 <= x /\ 0 <= y /\ 0 < dx /\ 0 < dy)
set_option maxRecDepth 100000 in
theorem goesOn_any (x y dx dy : Int) (w : World) : Calls Tryz.prog 76 #[.agg #[.int .i64 x,.int .i64 y,.int .i64 dx,.int .i64 dy]] w fun e w'=>e = .returned (.bool (gOn x y dx dy)) /\ Only [] w w':=by
 have hyes : 0 <= x /\ 0 <= y /\ 0 < dx /\ 0 < dy -> gOn x y dx dy = true:=fun h=>decide_eq_true h
 have hno : ¬ (0 <= x /\ 0 <= y /\ 0 < dx /\ 0 < dy) -> gOn x y dx dy = false:=fun h=>decide_eq_false h
 generalize gOn x y dx dy = r at *
 by_cases h1 : 0 <= x
 ·by_cases h2 : 0 <= y
  ·by_cases h3 : 0 < dx
   ·by_cases h4 : 0 < dy
    ·obtain rfl:=hyes ⟨h1,h2,h3,h4⟩
     clear hyes hno
     go_enter Tryz.func76,Tryz.ntmps76
     go_wp2_with fail
     go_ret
     exact ⟨rfl,(Only.refl [] w).alloc _⟩
    ·obtain rfl:=hno (fun h=>h4 h.2.2.2)
     clear hyes hno
     go_enter Tryz.func76,Tryz.ntmps76
     go_wp2_with fail
     go_ret
     exact ⟨rfl,(Only.refl [] w).alloc _⟩
   ·obtain rfl:=hno (fun h=>h3 h.2.2.1)
    clear hyes hno
    go_enter Tryz.func76,Tryz.ntmps76
    go_wp2_with fail
    go_ret
    exact ⟨rfl,(Only.refl [] w).alloc _⟩
  ·obtain rfl:=hno (fun h=>h2 h.2.1)
   clear hyes hno
   go_enter Tryz.func76,Tryz.ntmps76
   go_wp2_with fail
   go_ret
   exact ⟨rfl,(Only.refl [] w).alloc _⟩
 ·obtain rfl:=hno (fun h=>h1 h.1)
  clear hyes hno
  go_enter Tryz.func76,Tryz.ntmps76
  go_wp2_with fail
  go_ret
  exact ⟨rfl,(Only.refl [] w).alloc _⟩
theorem upV_zero {n d : Int} (hd : 1 <= d) : upV n d = 0 ↔ n <= 0:=by
 unfold upV
 by_cases h : n <= 0
 ·rw [if_pos h]; simp [h]
 ·rw [if_neg h]
  have : 0 <= (n - 1) / d:=Int.ediv_nonneg (by omega) (by omega)
  generalize (n - 1) / d = q at *
  omega
theorem size_none {x y dx dy w h : Int} (hn : ¬ ((1 <= w /\ w <= 16384) /\ (1 <= h /\ h <= 16384) /\ (0 <= x /\ 0 <= y /\ 0 < dx /\ 0 < dy))) : sizeW x y dx dy w h = 0 /\ sizeH x y dx dy w h = 0:=by
 have : ¬ sizeOkB x y dx dy w h = true:=fun hc=>by
  have:=of_decide_eq_true hc
  exact hn ⟨this.1,this.2.1,by omega⟩
 exact ⟨if_neg this,if_neg this⟩
theorem size_up {x y dx dy w h : Int} (hw : 1 <= w /\ w <= 16384) (hh : 1 <= h /\ h <= 16384) (hg : 0 <= x /\ 0 <= y /\ 0 < dx /\ 0 < dy) :
 (upV (w - x) dx = 0 \/ upV (h - y) dy = 0 -> sizeW x y dx dy w h = 0 /\ sizeH x y dx dy w h = 0) /\ (¬ upV (w - x) dx = 0 -> ¬ upV (h - y) dy = 0 -> sizeW x y dx dy w h = upV (w - x) dx /\ sizeH x y dx dy w h = upV (h - y) dy):=by
 rw [upV_zero (by omega),upV_zero (by omega)]
 constructor
 ·intro hz
  have : ¬ sizeOkB x y dx dy w h = true:=fun hc=>by
   have:=of_decide_eq_true hc
   omega
  exact ⟨if_neg this,if_neg this⟩
 ·intro h1 h2
  have : sizeOkB x y dx dy w h = true:=decide_eq_true (by omega)
  unfold sizeW sizeH upV
  rw [if_pos this,if_pos this,if_neg h1,if_neg h2]
  exact ⟨rfl,rfl⟩
set_option maxRecDepth 100000 in
set_option maxHeartbeats 4000000 in
theorem size_any (x y dx dy w h : Int) (W : World) (hx : x <= 9223372036854775807) (hy : y <= 9223372036854775807) (hdx : dx <= 9223372036854775807) (hdy : dy <= 9223372036854775807) :
 Calls Tryz.prog 40 #[.agg #[.int .i64 x,.int .i64 y,.int .i64 dx,.int .i64 dy],.int .i64 w,.int .i64 h] W fun e W'=>e = .returned (.tuple #[.int .i64 (sizeW x y dx dy w h),.int .i64 (sizeH x y dx dy w h)]) /\ Only [] W W':=by
 have H1:=hide (fun W=>isSide_any w W)
 have H2:=hide (fun W=>isSide_any h W)
 have HG:=hide (fun W=>goesOn_any x y dx dy W)
 have o0 : Only [] W (W.alloc (.cells #[.int .i64 x,.int .i64 y,.int .i64 dx,.int .i64 dy] 47)):=(Only.refl [] W).alloc _
 have hz : Has (W.alloc (.cells #[.int .i64 x,.int .i64 y,.int .i64 dx,.int .i64 dy] 47)) W.heap.size 47 #[.int .i64 x,.int .i64 y,.int .i64 dx,.int .i64 dy]:=Has.new W _ _
 by_cases hw : 1 <= w /\ w <= 16384
 ·rw [show isSd w = true from decide_eq_true hw] at H1
  by_cases hh : 1 <= h /\ h <= 16384
  ·rw [show isSd h = true from decide_eq_true hh] at H2
   by_cases hg : 0 <= x /\ 0 <= y /\ 0 < dx /\ 0 < dy
   ·rw [show gOn x y dx dy = true from decide_eq_true hg] at HG
    obtain ⟨q1,q2⟩:=size_up hw hh hg
    obtain ⟨a,ha⟩ : ∃ a,a = w - x:=⟨_,rfl⟩
    obtain ⟨b,hb⟩ : ∃ b,b = h - y:=⟨_,rfl⟩
    have W1 : Hid (wrap64 (w - x) = a /\ IntKind.i64.wrap (w - x) = a):=hide ⟨by rw [ha]; exact IntWalk.wrap64_in _ ⟨by omega,by omega⟩,by rw [ha,IntKind.wrap_i64]; omega⟩
    have W2 : Hid (wrap64 (h - y) = b /\ IntKind.i64.wrap (h - y) = b):=hide ⟨by rw [hb]; exact IntWalk.wrap64_in _ ⟨by omega,by omega⟩,by rw [hb,IntKind.wrap_i64]; omega⟩
    rw [<- ha,<- hb] at q1 q2
    obtain ⟨fU,hfU⟩ : ∃ f : Int -> Int -> Int,f = upV:=⟨_,rfl⟩
    have HU : Hid (∀ n d W,(n <= 1000000000000 /\ 1 <= d /\ d <= 9223372036854775807) -> Calls Tryz.prog 77 #[.int .i64 n,.int .i64 d] W fun e w'=>e = .returned (.int .i64 (fU n d)) /\ w' = W):=hide (fun n d W hc=>by rw [hfU]; exact upwards_any n d W hc.1 hc.2)
    have HL:=hide (aI (show a <= 1000000000000 /\ 1 <= dx /\ dx <= 9223372036854775807 by omega) (show b <= 1000000000000 /\ 1 <= dy /\ dy <= 9223372036854775807 by omega))
    rw [<- hfU] at q1 q2
    obtain ⟨U,hUe⟩ : ∃ U,U = fU a dx:=⟨_,rfl⟩
    obtain ⟨V,hVe⟩ : ∃ V,V = fU b dy:=⟨_,rfl⟩
    rw [<- hUe,<- hVe] at q1 q2
    replace hUe:=hUe.symm
    replace hVe:=hVe.symm
    clear hfU
    generalize sizeW x y dx dy w h = R at *
    generalize sizeH x y dx dy w h = S at *
    obtain ⟨v1,u1⟩:=W1.out
    obtain ⟨v2,u2⟩:=W2.out
    have HQ:=hide (aI hz o0)
    clear W1 W2 ha hb hw hh hg hx hy hdx hdy hz o0
    by_cases hU : U = 0
    ·obtain ⟨rfl,rfl⟩:=q1 (.inl hU)
     subst hU
     clear q1 q2
     go_enter Tryz.func40,Tryz.ntmps40
     go_wp2_with fail
     refine (H1.out _).mono ?_
     rintro e w1 ⟨rfl,rfl⟩
     go_wp2_with fail
     refine (H2.out _).mono ?_
     rintro e w1 ⟨rfl,rfl⟩
     go_wp2_with fail
     refine (HG.out _).mono ?_
     rintro e w1 ⟨rfl,ho⟩
     have hh1:=HQ.out.1.only ho (by simp)
     have ho1:=HQ.out.2.trans ho (S:=[]) (by simp)
     have c0:=hh1.cell 0
     have c1:=hh1.cell 1
     have c2:=hh1.cell 2
     have c3:=hh1.cell 3
     simp only [List.getElem?_toArray,List.getElem?_cons_zero,List.getElem?_cons_succ] at c0 c1 c2 c3
     have HO:=hide ho1
     clear ho hh1 ho1
     go_wp2_with fail
     go_quiet ((go_at_call 77; exact Calls.quiet_of_same (HU.out _ _ _ (by first | exact HL.out.1 | exact HL.out.2))))
     go_wp2_with fail
     go_ret2
     exact ⟨rfl,HO.out.drewN nq⟩
    ·by_cases hV : V = 0
     ·obtain ⟨rfl,rfl⟩:=q1 (.inr hV)
      subst hV
      clear q1 q2
      go_enter Tryz.func40,Tryz.ntmps40
      go_wp2_with fail
      refine (H1.out _).mono ?_
      rintro e w1 ⟨rfl,rfl⟩
      go_wp2_with fail
      refine (H2.out _).mono ?_
      rintro e w1 ⟨rfl,rfl⟩
      go_wp2_with fail
      refine (HG.out _).mono ?_
      rintro e w1 ⟨rfl,ho⟩
      have hh1:=HQ.out.1.only ho (by simp)
      have ho1:=HQ.out.2.trans ho (S:=[]) (by simp)
      have c0:=hh1.cell 0
      have c1:=hh1.cell 1
      have c2:=hh1.cell 2
      have c3:=hh1.cell 3
      simp only [List.getElem?_toArray,List.getElem?_cons_zero,List.getElem?_cons_succ] at c0 c1 c2 c3
      have HO:=hide ho1
      clear ho hh1 ho1
      go_wp2_with fail
      go_quiet ((go_at_call 77; exact Calls.quiet_of_same (HU.out _ _ _ (by first | exact HL.out.1 | exact HL.out.2))))
      go_wp2_with fail
      go_ret2
      exact ⟨rfl,HO.out.drewN nq⟩
     ·obtain ⟨rfl,rfl⟩:=q2 hU hV
      have bU:=beq_eq_false_iff_ne.2 hU
      have bV:=beq_eq_false_iff_ne.2 hV
      clear q1 q2
      go_enter Tryz.func40,Tryz.ntmps40
      go_wp2_with fail
      refine (H1.out _).mono ?_
      rintro e w1 ⟨rfl,rfl⟩
      go_wp2_with fail
      refine (H2.out _).mono ?_
      rintro e w1 ⟨rfl,rfl⟩
      go_wp2_with fail
      refine (HG.out _).mono ?_
      rintro e w1 ⟨rfl,ho⟩
      have hh1:=HQ.out.1.only ho (by simp)
      have ho1:=HQ.out.2.trans ho (S:=[]) (by simp)
      have c0:=hh1.cell 0
      have c1:=hh1.cell 1
      have c2:=hh1.cell 2
      have c3:=hh1.cell 3
      simp only [List.getElem?_toArray,List.getElem?_cons_zero,List.getElem?_cons_succ] at c0 c1 c2 c3
      have HO:=hide ho1
      clear ho hh1 ho1
      go_wp2_with fail
      go_quiet ((go_at_call 77; exact Calls.quiet_of_same (HU.out _ _ _ (by first | exact HL.out.1 | exact HL.out.2))))
      go_wp2_with fail
      go_ret2
      exact ⟨by show Ending.returned (.tuple #[.int .i64 (fU a dx),.int .i64 (fU b dy)]) = _; rw [hUe,hVe],HO.out.drewN nq⟩
   ·rw [show gOn x y dx dy = false from decide_eq_false hg] at HG
    obtain ⟨e1,e2⟩:=size_none (x:=x) (y:=y) (dx:=dx) (dy:=dy) (w:=w) (h:=h) (fun hc=>hg hc.2.2)
    rw [e1,e2]
    have HQ:=hide o0
    clear e1 e2 hw hh hg hz o0
    go_enter Tryz.func40,Tryz.ntmps40
    go_wp2_with fail
    refine (H1.out _).mono ?_
    rintro e w1 ⟨rfl,rfl⟩
    go_wp2_with fail
    refine (H2.out _).mono ?_
    rintro e w1 ⟨rfl,rfl⟩
    go_wp2_with fail
    refine (HG.out _).mono ?_
    rintro e w1 ⟨rfl,ho⟩
    go_wp2_with fail
    go_ret2
    exact ⟨rfl,HQ.out.trans ho (S:=[]) (by simp)⟩
  ·rw [show isSd h = false from decide_eq_false hh] at H2
   obtain ⟨e1,e2⟩:=size_none (x:=x) (y:=y) (dx:=dx) (dy:=dy) (w:=w) (h:=h) (fun hc=>hh hc.2.1)
   rw [e1,e2]
   have HQ:=hide o0
   clear e1 e2 hw hh hz o0
   go_enter Tryz.func40,Tryz.ntmps40
   go_wp2_with fail
   refine (H1.out _).mono ?_
   rintro e w1 ⟨rfl,rfl⟩
   go_wp2_with fail
   refine (H2.out _).mono ?_
   rintro e w1 ⟨rfl,rfl⟩
   go_wp2_with fail
   go_ret2
   exact ⟨rfl,HQ.out⟩
 ·rw [show isSd w = false from decide_eq_false hw] at H1
  obtain ⟨e1,e2⟩:=size_none (x:=x) (y:=y) (dx:=dx) (dy:=dy) (w:=w) (h:=h) (fun hc=>hw hc.1)
  rw [e1,e2]
  have HQ:=hide o0
  clear e1 e2 hw hz o0
  go_enter Tryz.func40,Tryz.ntmps40
  go_wp2_with fail
  refine (H1.out _).mono ?_
  rintro e w1 ⟨rfl,rfl⟩
  go_wp2_with fail
  go_ret2
  exact ⟨rfl,HQ.out⟩
end Go.Proofs.YtjfjmkkkbcgohaaGreatDoor
