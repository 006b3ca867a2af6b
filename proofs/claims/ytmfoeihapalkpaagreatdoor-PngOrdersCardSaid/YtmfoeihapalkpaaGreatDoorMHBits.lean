import Derived.Test.YtmfoeihapalkpaaGreatDoorMGrow
import Derived.Test.YtmfoeihapalkpaaGreatDoorMWriteA
namespace Go.Proofs.YtmfoeihapalkpaaGreatDoor
open Go Go.RowKit
set_option maxHeartbeats 1000000 in
theorem reverse_no (v : Nat) (n : Int) (w : World) (h : ¬ (0 <= n /\ n <= 32)) :
 Calls Tryz.prog 191 #[.int .u32 v,.int .i64 n] w fun e w'=>e = .returned (.int .u32 0) /\ w = w':=by
 by_cases h1 : n < 0
 ·clear h
  go_enter Tryz.func191,Tryz.ntmps191
  go_wp2
  go_ret
  exact ⟨rfl,rfl⟩
 ·have h2 : 32 < n:=by omega
  clear h
  go_enter Tryz.func191,Tryz.ntmps191
  go_wp2
  go_ret
  exact ⟨rfl,rfl⟩
set_option maxHeartbeats 1000000 in
theorem reverse_yes (v n : Nat) (w : World) (hv : v < 4294967296) (hn : n <= 32) :
 Calls Tryz.prog 191 #[.int .u32 v,.int .i64 n] w fun e w'=>e = .returned (.int .u32 (rev v n : Nat)) /\ w = w':=by
 go_enter Tryz.func191,Tryz.ntmps191
 go_wp2
 go_loop [0,5,13] (fun x b i=>∃ j : Nat,j <= n /\ i = .int .i64 j /\ b = .int .u32 (rev v j : Nat) /\ x = .int .u32 ((v / 2 ^ j : Nat) : Int)) (fun _ _ i=>n - (intOf i).toNat)
 case atStart=>exact ⟨0,Nat.zero_le _,rfl,rfl,by simp⟩
 case round =>
  obtain ⟨j,hj,rfl,rfl,rfl⟩:=hrel
  by_cases hlt : j < n
  ·have hr:=rev_lt v j
   have hp : 2 ^ j <= 2147483648:=Nat.pow_le_pow_right (n:=2) (i:=j) (j:=31) (by omega) (by omega)
   have hx : v / 2 ^ j <= v:=Nat.div_le_self _ _
   obtain ⟨R,hR⟩ : ∃ R,R = rev v j:=⟨_,rfl⟩
   obtain ⟨X,hX⟩ : ∃ X,X = v / 2 ^ j:=⟨_,rfl⟩
   have hs : rev v (j + 1) = 2 * R + X % 2:=by rw [hR,hX]; rfl
   have hd : v / 2 ^ (j + 1) = X / 2:=by rw [hX,Nat.pow_succ,Nat.div_div_eq_div_mul]
   rw [<- hR,<- hX]
   rw [<- hR] at hr
   rw [<- hX] at hx
   have H:=hide (aI hs hd)
   have eA:=u32_and1 X (by omega)
   have eO:=u32_orbit R X (by omega)
   clear hs hd hR hX
   go_wp2
   go_round
   case rel=>exact ⟨j + 1,hlt,by go_num,by rw [H.out.1]; rfl,by rw [H.out.2]; rfl⟩
   case measure=>simp [intOf]; omega
  ·obtain rfl : j = n:=by omega
   clear hlt
   go_wp2
   go_ret
   exact ⟨rfl,rfl⟩
end Go.Proofs.YtmfoeihapalkpaaGreatDoor
namespace Go.Proofs.YtmfoeihapalkpaaGreatDoor
def ln (l : List UInt8) (i : Nat) : Nat:=((l[i]?).map (·.toNat)).getD 0
def cn (l : List UInt8) (n : Nat) : Nat:=if n = 0 then 0 else l.countP (fun b=>b.toNat == n)
theorem cn_nil (n : Nat) : cn [] n = 0:=by unfold cn; split <;> rfl
theorem cn_snoc (l : List UInt8) (b : UInt8) (n : Nat) : cn (l ++ [b]) n = cn l n + (if b.toNat = n /\ n ≠ 0 then 1 else 0):=by
 unfold cn
 by_cases h : n = 0
 ·simp [h]
 ·by_cases hb : b.toNat = n <;> simp [h,hb,List.countP_append]
theorem ln_get {l : List UInt8} {i : Nat} (h : i < l.length) : ln l i = l[i].toNat:=by simp [ln,h]
theorem ln_out {l : List UInt8} {i : Nat} (h : l.length <= i) : ln l i = 0:=by simp [ln,h]
theorem ln_lt {l : List UInt8} {i : Nat} (h : ln l i ≠ 0) : i < l.length:=by
 rcases Nat.lt_or_ge i l.length with hl | hl
 ·exact hl
 ·exact absurd (ln_out hl) h
theorem take_snoc {l : List UInt8} {i : Nat} (h : i < l.length) : l.take (i + 1) = l.take i ++ [l[i]]:=by
 rw [List.take_add_one,List.getElem?_eq_getElem h]; rfl
def rk (l : List UInt8) (i n : Nat) : Nat:=cn (l.take i) n
theorem rk_zero (l : List UInt8) (n : Nat) : rk l 0 n = 0:=by simp [rk,cn_nil]
theorem rk_succ {l : List UInt8} {i : Nat} (h : i < l.length) (n : Nat) : rk l (i + 1) n = rk l i n + (if ln l i = n /\ n ≠ 0 then 1 else 0):=by
 unfold rk
 rw [take_snoc h,cn_snoc,ln_get h]
theorem rk_all {l : List UInt8} {i : Nat} (h : l.length <= i) (n : Nat) : rk l i n = cn l n:=by
 unfold rk; rw [List.take_of_length_le h]
theorem rk_mono {l : List UInt8} {i j : Nat} (h : i <= j) (n : Nat) : rk l i n <= rk l j n:=by
 induction j with
 | zero=>obtain rfl : i = 0:=by omega
         exact Nat.le_refl _
 | succ j ih =>
   rcases Nat.lt_or_ge j l.length with hj | hj
   ·rcases Nat.lt_or_ge i (j + 1) with hi | hi
    ·have:=ih (by omega)
     rw [rk_succ hj]; omega
    ·obtain rfl : i = j + 1:=by omega
     exact Nat.le_refl _
   ·rw [rk_all (show l.length <= j + 1 by omega)]
    rcases Nat.lt_or_ge i (j + 1) with hi | hi
    ·have:=ih (by omega)
     rw [rk_all hj] at this; exact this
    ·rw [rk_all (by omega)]; exact Nat.le_refl _
theorem rk_lt {l : List UInt8} {i : Nat} (h : ln l i ≠ 0) : rk l i (ln l i) < cn l (ln l i):=by
 have hi:=ln_lt h
 have h1:=rk_mono (l:=l) (show i + 1 <= l.length by omega) (ln l i)
 rw [rk_all (Nat.le_refl _),rk_succ hi,if_pos ⟨rfl,h⟩] at h1
 omega
theorem rk_inj {l : List UInt8} {i j : Nat} (hi : ln l i ≠ 0) (h : ln l i = ln l j) (hr : rk l i (ln l i) = rk l j (ln l i)) : i = j:=by
 have key : ∀ a b,ln l a ≠ 0 -> ln l a = ln l b -> a < b -> rk l a (ln l a) < rk l b (ln l a):=by
  intro a b ha _ hab
  have h1:=rk_mono (l:=l) (show a + 1 <= b by omega) (ln l a)
  rw [rk_succ (ln_lt ha),if_pos ⟨rfl,ha⟩] at h1
  omega
 rcases Nat.lt_trichotomy i j with hl | hl | hl
 ·have:=key i j hi h hl; omega
 ·exact hl
 ·have:=key j i (h ▸ hi) h.symm hl
  rw [<- h] at this; omega
theorem rk_sur {l : List UInt8} {n j : Nat} (_ : n ≠ 0) (hj : j < cn l n) : ∃ i,i < l.length /\ ln l i = n /\ rk l i n = j:=by
 have key : ∀ m,m <= l.length -> j < rk l m n -> ∃ i,i < m /\ ln l i = n /\ rk l i n = j:=by
  intro m
  induction m with
  | zero=>intro _ h; rw [rk_zero] at h; omega
  | succ m ih =>
    intro hm h
    rw [rk_succ (by omega)] at h
    rcases Nat.lt_or_ge j (rk l m n) with h1 | h1
    ·obtain ⟨i,hi,h2⟩:=ih (by omega) h1
     exact ⟨i,by omega,h2⟩
    ·by_cases hc : ln l m = n /\ n ≠ 0
     ·rw [if_pos hc] at h
      exact ⟨m,by omega,hc.1,by omega⟩
     ·rw [if_neg hc] at h; omega
 exact key l.length (Nat.le_refl _) (by rw [rk_all (Nat.le_refl _)]; exact hj)
def Fs (c : Nat -> Nat) : Nat -> Nat
 | 0=>0
 | n + 1=>2 * (Fs c n + c n)
def Bf (c : Nat -> Nat) : Nat -> Nat
 | 0=>0
 | n + 1=>Bf c n + c n
theorem Fs_succ (c : Nat -> Nat) (n : Nat) : Fs c (n + 1) = 2 * (Fs c n + c n):=rfl
theorem Bf_succ (c : Nat -> Nat) (n : Nat) : Bf c (n + 1) = Bf c n + c n:=rfl
def Lg (c : Nat -> Nat) : Nat -> Nat
 | 0=>0
 | n + 1=>if 0 < c (n + 1) then n + 1 else Lg c n
def Sm (c : Nat -> Nat) : Nat -> Nat
 | 0=>0
 | n + 1=>Sm c n + c n * 2 ^ (15 - n)
theorem Lg_le (c : Nat -> Nat) (n : Nat) : Lg c n <= n:=by
 induction n with
 | zero=>exact Nat.le_refl _
 | succ n ih=>unfold Lg; split <;> omega
theorem Lg_ge (c : Nat -> Nat) {m n : Nat} (hm : 0 < m) (hmn : m <= n) (h : 0 < c m) : m <= Lg c n:=by
 induction n with
 | zero=>omega
 | succ n ih =>
   unfold Lg
   by_cases hc : 0 < c (n + 1)
   ·rw [if_pos hc]; exact hmn
   ·rw [if_neg hc]
    apply ih
    rcases Nat.lt_or_ge m (n + 1) with h1 | h1
    ·omega
    ·obtain rfl : m = n + 1:=by omega
     exact absurd h hc
theorem Fs_Sm (c : Nat -> Nat) (n : Nat) (h : n <= 15) : Fs c n * 2 ^ (15 - n) = Sm c n:=by
 induction n with
 | zero=>simp [Fs,Sm]
 | succ n ih =>
   have e : (15 - n) = (15 - (n + 1)) + 1:=by omega
   have:=ih (by omega)
   unfold Fs Sm
   rw [<- this,e,Nat.pow_succ,<- Nat.add_mul,Nat.mul_comm 2,Nat.mul_assoc,Nat.mul_comm 2]
theorem Sm_mono (c : Nat -> Nat) {m n : Nat} (h : m <= n) : Sm c m <= Sm c n:=by
 induction n with
 | zero=>obtain rfl : m = 0:=by omega
         exact Nat.le_refl _
 | succ n ih =>
   rcases Nat.lt_or_ge m (n + 1) with h1 | h1
   ·exact Nat.le_trans (ih (by omega)) (Nat.le_add_right _ _)
   ·obtain rfl : m = n + 1:=by omega
    exact Nat.le_refl _
theorem Bf_mono (c : Nat -> Nat) {m n : Nat} (h : m <= n) : Bf c m <= Bf c n:=by
 induction n with
 | zero=>obtain rfl : m = 0:=by omega
         exact Nat.le_refl _
 | succ n ih =>
   rcases Nat.lt_or_ge m (n + 1) with h1 | h1
   ·exact Nat.le_trans (ih (by omega)) (Nat.le_add_right _ _)
   ·obtain rfl : m = n + 1:=by omega
    exact Nat.le_refl _
theorem Fs_end (c : Nat -> Nat) (n : Nat) (h : n <= 15) : (Fs c n + c n) * 2 ^ (15 - n) = Sm c (n + 1):=by
 rw [Nat.add_mul,Fs_Sm c n h]; rfl
theorem Fs_le (c : Nat -> Nat) (n : Nat) (h : n <= 15) (hS : Sm c 16 <= 32768) : Fs c n + c n <= 2 ^ n:=by
 have h1:=Fs_end c n h
 have h2:=Sm_mono c (show n + 1 <= 16 by omega)
 have h3 : 2 ^ n * 2 ^ (15 - n) = 32768:=by rw [<- Nat.pow_add,show n + (15 - n) = 15 by omega]
 have hp:=Nat.two_pow_pos (15 - n)
 apply Nat.le_of_mul_le_mul_right _ hp
 omega
theorem Fs_far (c : Nat -> Nat) (n d : Nat) : (Fs c n + c n) * 2 ^ (d + 1) <= Fs c (n + d + 1):=by
 induction d with
 | zero=>rw [Nat.zero_add,Nat.pow_one,Nat.add_zero,Fs_succ]; omega
 | succ d ih =>
   rw [show n + (d + 1) + 1 = (n + d + 1) + 1 by omega,Fs_succ c (n + d + 1),Nat.pow_succ]
   have : (Fs c n + c n) * (2 ^ (d + 1) * 2) = 2 * ((Fs c n + c n) * 2 ^ (d + 1)):=by rw [<- Nat.mul_assoc,Nat.mul_comm _ 2]
   omega
theorem Bf_le (l : List UInt8) (n : Nat) : Bf (cn l) n <= l.length:=by
 have key : ∀ n,Bf (cn l) n + l.countP (fun b=>decide (n <= b.toNat)) <= l.length:=by
  intro n
  induction n with
  | zero=>simp [Bf]
  | succ n ih =>
    have h : cn l n + l.countP (fun b=>decide (n + 1 <= b.toNat)) <= l.countP (fun b=>decide (n <= b.toNat)):=by
     clear ih
     induction l with
     | nil=>simp [cn_nil]
     | cons b l ih =>
       unfold cn at ih ⊢
       by_cases h0 : n = 0
       ·subst h0
        simp only [if_pos,Nat.zero_add,List.countP_cons,Nat.zero_le,decide_true] at ih ⊢
        split <;> omega
       ·simp only [if_neg h0,List.countP_cons] at ih ⊢
        by_cases h1 : b.toNat = n
        ·simp only [h1,decide_true,decide_false,if_true,Bool.false_eq_true,if_false,beq_self_eq_true,Nat.le_refl,Nat.not_succ_le_self]; omega
        ·by_cases h2 : n + 1 <= b.toNat
         ·have h3 : n <= b.toNat:=by omega
          simp [h1,h2,h3]; omega
         ·have h3 : ¬ n <= b.toNat:=by omega
          simp [h1,h2,h3]; omega
    show Bf (cn l) n + cn l n + _ <= _
    omega
 have:=key n
 omega
def cd (l : List UInt8) (i : Nat) : Nat:=Fs (cn l) (ln l i) + rk l i (ln l i)
theorem cd_lt {l : List UInt8} {i : Nat} (hS : Sm (cn l) 16 <= 32768) (h : ln l i ≠ 0) (h15 : ln l i <= 15) : cd l i < 2 ^ ln l i:=by
 have h1:=Fs_le (cn l) (ln l i) h15 hS
 have h2:=rk_lt h
 unfold cd; omega
def pl (l : List UInt8) (i : Nat) : Nat:=Bf (cn l) (ln l i) + rk l i (ln l i)
theorem pl_lt {l : List UInt8} {i : Nat} (h : ln l i ≠ 0) : pl l i < l.length:=by
 have h1:=rk_lt h
 have h2:=Bf_le l (ln l i + 1)
 rw [Bf_succ] at h2
 unfold pl; omega
theorem pl_inj {l : List UInt8} {i j : Nat} (hi : ln l i ≠ 0) (hj : ln l j ≠ 0) (h : pl l i = pl l j) : i = j:=by
 have far : ∀ a b,ln l a ≠ 0 -> ln l a < ln l b -> pl l a < pl l b:=by
  intro a b ha hab
  have h1:=rk_lt ha
  have h2:=Bf_mono (cn l) (show ln l a + 1 <= ln l b by omega)
  rw [Bf_succ] at h2
  unfold pl; omega
 rcases Nat.lt_trichotomy (ln l i) (ln l j) with hl | hl | hl
 ·have:=far i j hi hl; omega
 ·refine rk_inj hi hl ?_
  unfold pl at h; rw [<- hl] at h; omega
 ·have:=far j i hj hl; omega
end Go.Proofs.YtmfoeihapalkpaaGreatDoor
