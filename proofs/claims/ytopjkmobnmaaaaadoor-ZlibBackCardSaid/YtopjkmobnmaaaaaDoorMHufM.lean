/-
  Codes by their lengths, plainly: how many there are of each length, where they begin, which symbol has which. | Package huff: codes counted by their lengths, held against all that there is. | Arrays of integers compared.
-/
import Derived.Test.YtopjkmobnmaaaaaDoorMReadC
import Derived.Test.YtopjkmobnmaaaaaDoorProg
import Derived.Test.YtopjkmobnmaaaaaDoorMReadD
import Derived.Laws.Tables
import Derived.Laws.StructEq
import Derived.Test.YtopjkmobnmaaaaaDoorMem
import Derived.ChangeKeysEq
import Derived.BigFrame
namespace Go.Proofs.YtopjkmobnmaaaaaDoor

/-- A symbol's length; 0 beyond the end. -/
def ln (l : List UInt8) (i : Nat) : Nat := ((l[i]?).map (·.toNat)).getD 0
/-- How many have the length n (none has 0). -/
def cn (l : List UInt8) (n : Nat) : Nat := if n = 0 then 0 else l.countP (fun b => b.toNat == n)

theorem cn_zero (l : List UInt8) : cn l 0 = 0 := rfl
theorem cn_nil (n : Nat) : cn [] n = 0 := by unfold cn; split <;> rfl
theorem cn_snoc (l : List UInt8) (b : UInt8) (n : Nat) : cn (l ++ [b]) n = cn l n + (if b.toNat = n ∧ n ≠ 0 then 1 else 0) := by
  unfold cn
  by_cases h : n = 0
  · simp [h]
  · by_cases hb : b.toNat = n <;> simp [h, hb, List.countP_append]
theorem cn_append (l m : List UInt8) (n : Nat) : cn (l ++ m) n = cn l n + cn m n := by
  unfold cn
  by_cases h : n = 0
  · simp [h]
  · simp [h, List.countP_append]
theorem ln_get {l : List UInt8} {i : Nat} (h : i < l.length) : ln l i = l[i].toNat := by simp [ln, h]
theorem ln_out {l : List UInt8} {i : Nat} (h : l.length ≤ i) : ln l i = 0 := by simp [ln, h]
theorem ln_lt {l : List UInt8} {i : Nat} (h : ln l i ≠ 0) : i < l.length := by
  rcases Nat.lt_or_ge i l.length with hl | hl
  · exact hl
  · exact absurd (ln_out hl) h
theorem take_snoc {l : List UInt8} {i : Nat} (h : i < l.length) : l.take (i + 1) = l.take i ++ [l[i]] := by
  rw [List.take_add_one, List.getElem?_eq_getElem h]; rfl
/-- How many symbols ahead of i have the length n. -/
def rk (l : List UInt8) (i n : Nat) : Nat := cn (l.take i) n
theorem rk_zero (l : List UInt8) (n : Nat) : rk l 0 n = 0 := by simp [rk, cn_nil]
theorem rk_succ {l : List UInt8} {i : Nat} (h : i < l.length) (n : Nat) : rk l (i + 1) n = rk l i n + (if ln l i = n ∧ n ≠ 0 then 1 else 0) := by
  unfold rk
  rw [take_snoc h, cn_snoc, ln_get h]
theorem rk_all {l : List UInt8} {i : Nat} (h : l.length ≤ i) (n : Nat) : rk l i n = cn l n := by
  unfold rk; rw [List.take_of_length_le h]
theorem rk_mono {l : List UInt8} {i j : Nat} (h : i ≤ j) (n : Nat) : rk l i n ≤ rk l j n := by
  induction j with
  | zero => obtain rfl : i = 0 := by omega
            exact Nat.le_refl _
  | succ j ih =>
    rcases Nat.lt_or_ge j l.length with hj | hj
    · rcases Nat.lt_or_ge i (j + 1) with hi | hi
      · have := ih (by omega)
        rw [rk_succ hj]; omega
      · obtain rfl : i = j + 1 := by omega
        exact Nat.le_refl _
    · rw [rk_all (show l.length ≤ j + 1 by omega)]
      rcases Nat.lt_or_ge i (j + 1) with hi | hi
      · have := ih (by omega)
        rw [rk_all hj] at this; exact this
      · rw [rk_all (by omega)]; exact Nat.le_refl _
theorem rk_lt {l : List UInt8} {i : Nat} (h : ln l i ≠ 0) : rk l i (ln l i) < cn l (ln l i) := by
  have hi := ln_lt h
  have h1 := rk_mono (l := l) (show i + 1 ≤ l.length by omega) (ln l i)
  rw [rk_all (Nat.le_refl _), rk_succ hi, if_pos ⟨rfl, h⟩] at h1
  omega
theorem rk_inj {l : List UInt8} {i j : Nat} (hi : ln l i ≠ 0) (h : ln l i = ln l j) (hr : rk l i (ln l i) = rk l j (ln l i)) : i = j := by
  have key : ∀ a b, ln l a ≠ 0 → ln l a = ln l b → a < b → rk l a (ln l a) < rk l b (ln l a) := by
    intro a b ha _ hab
    have h1 := rk_mono (l := l) (show a + 1 ≤ b by omega) (ln l a)
    rw [rk_succ (ln_lt ha), if_pos ⟨rfl, ha⟩] at h1
    omega
  rcases Nat.lt_trichotomy i j with hl | hl | hl
  · have := key i j hi h hl; omega
  · exact hl
  · have := key j i (h ▸ hi) h.symm hl
    rw [← h] at this; omega
/-- The j-th symbol of length n. -/
theorem rk_sur {l : List UInt8} {n j : Nat} (_ : n ≠ 0) (hj : j < cn l n) : ∃ i, i < l.length ∧ ln l i = n ∧ rk l i n = j := by
  have key : ∀ m, m ≤ l.length → j < rk l m n → ∃ i, i < m ∧ ln l i = n ∧ rk l i n = j := by
    intro m
    induction m with
    | zero => intro _ h; rw [rk_zero] at h; omega
    | succ m ih =>
      intro hm h
      rw [rk_succ (by omega)] at h
      rcases Nat.lt_or_ge j (rk l m n) with h1 | h1
      · obtain ⟨i, hi, h2⟩ := ih (by omega) h1
        exact ⟨i, by omega, h2⟩
      · by_cases hc : ln l m = n ∧ n ≠ 0
        · rw [if_pos hc] at h
          exact ⟨m, by omega, hc.1, by omega⟩
        · rw [if_neg hc] at h; omega
  exact key l.length (Nat.le_refl _) (by rw [rk_all (Nat.le_refl _)]; exact hj)

/-- The first code of n bits, its first bit the highest. -/
def Fs (c : Nat → Nat) : Nat → Nat
  | 0 => 0
  | n + 1 => 2 * (Fs c n + c n)
/-- How many codes are shorter. -/
def Bf (c : Nat → Nat) : Nat → Nat
  | 0 => 0
  | n + 1 => Bf c n + c n
theorem Fs_succ (c : Nat → Nat) (n : Nat) : Fs c (n + 1) = 2 * (Fs c n + c n) := rfl
theorem Bf_succ (c : Nat → Nat) (n : Nat) : Bf c (n + 1) = Bf c n + c n := rfl
/-- The longest of up to n bits. -/
def Lg (c : Nat → Nat) : Nat → Nat
  | 0 => 0
  | n + 1 => if 0 < c (n + 1) then n + 1 else Lg c n
/-- What codes of fewer than n bits take of 1 << 15. -/
def Sm (c : Nat → Nat) : Nat → Nat
  | 0 => 0
  | n + 1 => Sm c n + c n * 2 ^ (15 - n)

theorem Lg_le (c : Nat → Nat) (n : Nat) : Lg c n ≤ n := by
  induction n with
  | zero => exact Nat.le_refl _
  | succ n ih => unfold Lg; split <;> omega
theorem Lg_ge (c : Nat → Nat) {m n : Nat} (hm : 0 < m) (hmn : m ≤ n) (h : 0 < c m) : m ≤ Lg c n := by
  induction n with
  | zero => omega
  | succ n ih =>
    unfold Lg
    by_cases hc : 0 < c (n + 1)
    · rw [if_pos hc]; exact hmn
    · rw [if_neg hc]
      apply ih
      rcases Nat.lt_or_ge m (n + 1) with h1 | h1
      · omega
      · obtain rfl : m = n + 1 := by omega
        exact absurd h hc
theorem Lg_pos (c : Nat → Nat) {n : Nat} (h : 0 < Lg c n) : 0 < c (Lg c n) := by
  induction n with
  | zero => simp [Lg] at h
  | succ n ih =>
    unfold Lg at h ⊢
    by_cases hc : 0 < c (n + 1)
    · rw [if_pos hc]; exact hc
    · rw [if_neg hc] at h ⊢; exact ih h

theorem Fs_Sm (c : Nat → Nat) (n : Nat) (h : n ≤ 15) : Fs c n * 2 ^ (15 - n) = Sm c n := by
  induction n with
  | zero => simp [Fs, Sm]
  | succ n ih =>
    have e : (15 - n) = (15 - (n + 1)) + 1 := by omega
    have := ih (by omega)
    unfold Fs Sm
    rw [← this, e, Nat.pow_succ, ← Nat.add_mul, Nat.mul_comm 2, Nat.mul_assoc, Nat.mul_comm 2]
theorem Sm_mono (c : Nat → Nat) {m n : Nat} (h : m ≤ n) : Sm c m ≤ Sm c n := by
  induction n with
  | zero => obtain rfl : m = 0 := by omega
            exact Nat.le_refl _
  | succ n ih =>
    rcases Nat.lt_or_ge m (n + 1) with h1 | h1
    · exact Nat.le_trans (ih (by omega)) (Nat.le_add_right _ _)
    · obtain rfl : m = n + 1 := by omega
      exact Nat.le_refl _
theorem Bf_mono (c : Nat → Nat) {m n : Nat} (h : m ≤ n) : Bf c m ≤ Bf c n := by
  induction n with
  | zero => obtain rfl : m = 0 := by omega
            exact Nat.le_refl _
  | succ n ih =>
    rcases Nat.lt_or_ge m (n + 1) with h1 | h1
    · exact Nat.le_trans (ih (by omega)) (Nat.le_add_right _ _)
    · obtain rfl : m = n + 1 := by omega
      exact Nat.le_refl _
theorem Fs_end (c : Nat → Nat) (n : Nat) (h : n ≤ 15) : (Fs c n + c n) * 2 ^ (15 - n) = Sm c (n + 1) := by
  rw [Nat.add_mul, Fs_Sm c n h]; rfl
/-- Codes of n bits end within 1 << n. -/
theorem Fs_le (c : Nat → Nat) (n : Nat) (h : n ≤ 15) (hS : Sm c 16 ≤ 32768) : Fs c n + c n ≤ 2 ^ n := by
  have h1 := Fs_end c n h
  have h2 := Sm_mono c (show n + 1 ≤ 16 by omega)
  have h3 : 2 ^ n * 2 ^ (15 - n) = 32768 := by rw [← Nat.pow_add, show n + (15 - n) = 15 by omega]
  have hp := Nat.two_pow_pos (15 - n)
  apply Nat.le_of_mul_le_mul_right _ hp
  omega
/-- What follows codes of n bits, in d bits more. -/
theorem Fs_far (c : Nat → Nat) (n d : Nat) : (Fs c n + c n) * 2 ^ (d + 1) ≤ Fs c (n + d + 1) := by
  induction d with
  | zero => rw [Nat.zero_add, Nat.pow_one, Nat.add_zero, Fs_succ]; omega
  | succ d ih =>
    rw [show n + (d + 1) + 1 = (n + d + 1) + 1 by omega, Fs_succ c (n + d + 1), Nat.pow_succ]
    have : (Fs c n + c n) * (2 ^ (d + 1) * 2) = 2 * ((Fs c n + c n) * 2 ^ (d + 1)) := by rw [← Nat.mul_assoc, Nat.mul_comm _ 2]
    omega
/-- All that is within the sum is in some code. -/
theorem Sm_find (c : Nat → Nat) {x a b : Nat} (hab : a ≤ b) (h1 : Sm c a ≤ x) (h2 : x < Sm c b) : ∃ m, a ≤ m ∧ m < b ∧ Sm c m ≤ x ∧ x < Sm c (m + 1) := by
  induction b with
  | zero => obtain rfl : a = 0 := by omega
            simp [Sm] at h2
  | succ b ih =>
    rcases Nat.lt_or_ge x (Sm c b) with h | h
    · rcases Nat.lt_or_ge a (b + 1) with h3 | h3
      · obtain ⟨m, m1, m2, m3⟩ := ih (by omega) h
        exact ⟨m, m1, by omega, m3⟩
      · obtain rfl : a = b + 1 := by omega
        omega
    · rcases Nat.lt_or_ge a (b + 1) with h3 | h3
      · exact ⟨b, by omega, by omega, h, h2⟩
      · obtain rfl : a = b + 1 := by omega
        omega

/-- How many codes there are is no more than how many symbols. -/
theorem Bf_le (l : List UInt8) (n : Nat) : Bf (cn l) n ≤ l.length := by
  have key : ∀ n, Bf (cn l) n + l.countP (fun b => decide (n ≤ b.toNat)) ≤ l.length := by
    intro n
    induction n with
    | zero => simp [Bf]
    | succ n ih =>
      have h : cn l n + l.countP (fun b => decide (n + 1 ≤ b.toNat)) ≤ l.countP (fun b => decide (n ≤ b.toNat)) := by
        clear ih
        induction l with
        | nil => simp [cn_nil]
        | cons b l ih =>
          unfold cn at ih ⊢
          by_cases h0 : n = 0
          · subst h0
            simp only [if_pos, Nat.zero_add, List.countP_cons, Nat.zero_le, decide_true] at ih ⊢
            split <;> omega
          · simp only [if_neg h0, List.countP_cons] at ih ⊢
            by_cases h1 : b.toNat = n
            · simp only [h1, decide_true, decide_false, if_true, Bool.false_eq_true, if_false, beq_self_eq_true, Nat.le_refl, Nat.not_succ_le_self]; omega
            · by_cases h2 : n + 1 ≤ b.toNat
              · have h3 : n ≤ b.toNat := by omega
                simp [h1, h2, h3]; omega
              · have h3 : ¬ n ≤ b.toNat := by omega
                simp [h1, h2, h3]; omega
      show Bf (cn l) n + cn l n + _ ≤ _
      omega
  have := key n
  omega

/-- A symbol's code, its first bit the highest. -/
def cd (l : List UInt8) (i : Nat) : Nat := Fs (cn l) (ln l i) + rk l i (ln l i)
theorem cd_lt {l : List UInt8} {i : Nat} (hS : Sm (cn l) 16 ≤ 32768) (h : ln l i ≠ 0) (h15 : ln l i ≤ 15) : cd l i < 2 ^ ln l i := by
  have h1 := Fs_le (cn l) (ln l i) h15 hS
  have h2 := rk_lt h
  unfold cd; omega
/-- Where a symbol stands among all as they are dealt out. -/
def pl (l : List UInt8) (i : Nat) : Nat := Bf (cn l) (ln l i) + rk l i (ln l i)
theorem pl_lt {l : List UInt8} {i : Nat} (h : ln l i ≠ 0) : pl l i < l.length := by
  have h1 := rk_lt h
  have h2 := Bf_le l (ln l i + 1)
  rw [Bf_succ] at h2
  unfold pl; omega
theorem pl_inj {l : List UInt8} {i j : Nat} (hi : ln l i ≠ 0) (hj : ln l j ≠ 0) (h : pl l i = pl l j) : i = j := by
  have far : ∀ a b, ln l a ≠ 0 → ln l a < ln l b → pl l a < pl l b := by
    intro a b ha hab
    have h1 := rk_lt ha
    have h2 := Bf_mono (cn l) (show ln l a + 1 ≤ ln l b by omega)
    rw [Bf_succ] at h2
    unfold pl; omega
  rcases Nat.lt_trichotomy (ln l i) (ln l j) with hl | hl | hl
  · have := far i j hi hl; omega
  · refine rk_inj hi hl ?_
    unfold pl at h; rw [← hl] at h; omega
  · have := far j i hj hl; omega

/-- No code begins another. -/
theorem cd_front {l : List UInt8} {i k : Nat} (hi : ln l i ≠ 0) (hk : ln l i ≤ ln l k) (h : cd l k / 2 ^ (ln l k - ln l i) = cd l i) : i = k := by
  rcases Nat.lt_or_ge (ln l i) (ln l k) with hl | hl
  · exfalso
    obtain ⟨d, hd⟩ : ∃ d, ln l k = ln l i + d + 1 := ⟨ln l k - ln l i - 1, by omega⟩
    have h1 := Fs_far (cn l) (ln l i) d
    rw [← hd] at h1
    have h2 := rk_lt hi
    have h3 : ln l k - ln l i = d + 1 := by omega
    rw [h3] at h
    have h4 : (Fs (cn l) (ln l i) + cn l (ln l i)) ≤ cd l k / 2 ^ (d + 1) := by
      rw [Nat.le_div_iff_mul_le (Nat.two_pow_pos _)]
      unfold cd; omega
    unfold cd at h h4; omega
  · have he : ln l i = ln l k := by omega
    rw [← he, Nat.sub_self, Nat.pow_zero, Nat.div_one] at h
    unfold cd at h
    rw [← he] at h
    exact rk_inj hi he (by omega)

/-- The low bits of a number turned round are its high bits turned round. -/
theorem rev_mod (v n d : Nat) : rev v (n + d) % 2 ^ n = rev (v / 2 ^ d) n := by
  induction n with
  | zero => simp [rev, Nat.mod_one]
  | succ n ih =>
    rw [show n + 1 + d = (n + d) + 1 by omega, rev, rev, ← ih, Nat.div_div_eq_div_mul, ← Nat.pow_add, Nat.add_comm d n, Nat.pow_succ]
    have h1 : v / 2 ^ (n + d) % 2 < 2 := Nat.mod_lt _ (by omega)
    generalize v / 2 ^ (n + d) % 2 = b at *
    generalize rev v (n + d) = r
    have h2 : 2 ^ n * 2 = 2 * 2 ^ n := Nat.mul_comm _ _
    have e : 2 * r + b = 2 * 2 ^ n * (r / 2 ^ n) + (2 * (r % 2 ^ n) + b) := by
      have := Nat.div_add_mod r (2 ^ n)
      rw [Nat.mul_assoc]; omega
    rw [h2, e, Nat.mul_add_mod, Nat.mod_eq_of_lt]
    have := Nat.mod_lt r (Nat.two_pow_pos n)
    omega
theorem rev_inj {a b n : Nat} (ha : a < 2 ^ n) (hb : b < 2 ^ n) (h : rev a n = rev b n) : a = b := by
  have h1 := rev_rev a n
  have h2 := rev_rev b n
  rw [h] at h1
  rw [Nat.mod_eq_of_lt ha] at h1
  rw [Nat.mod_eq_of_lt hb] at h2
  omega
end Go.Proofs.YtopjkmobnmaaaaaDoor


namespace Go.Proofs.YtopjkmobnmaaaaaDoor
open Go Go.RowKit

/-- A tally's cells. -/
def tcells (c : Nat → Nat) : Array Value := ((List.range 16).map fun i => Value.int .i64 (c i : Int)).toArray
theorem tcells_size (c : Nat → Nat) : (tcells c).size = 16 := by simp [tcells]
theorem tcells_get (c : Nat → Nat) {i : Nat} (hi : i < 16) : (tcells c)[i]? = some (.int .i64 (c i : Int)) := by simp [tcells, hi]
theorem tcells_congr {c d : Nat → Nat} (h : ∀ i, i < 16 → c i = d i) : tcells c = tcells d := by
  apply Array.ext_getElem?
  intro i
  by_cases hi : i < 16
  · rw [tcells_get c hi, tcells_get d hi, h i hi]
  · rw [Array.getElem?_eq_none (by rw [tcells_size]; omega), Array.getElem?_eq_none (by rw [tcells_size]; omega)]
theorem tcells_set (c d : Nat → Nat) (n x : Nat) (hn : n < 16) (h1 : d n = x) (h2 : ∀ i, i < 16 → i ≠ n → d i = c i) : (tcells c).setIfInBounds n (.int .i64 (x : Int)) = tcells d := by
  apply Array.ext_getElem?
  intro i
  rw [Array.getElem?_setIfInBounds, tcells_size]
  by_cases hi : i < 16
  · rw [tcells_get c hi, tcells_get d hi]
    by_cases h : n = i
    · subst h; rw [if_pos rfl, if_pos hi, h1]
    · rw [if_neg h, h2 i hi (fun e => h e.symm)]
  · rw [Array.getElem?_eq_none (by rw [tcells_size]; omega), Array.getElem?_eq_none (by rw [tcells_size]; omega)]
    rw [if_neg (by omega)]
theorem tcells_one (c : Nat → Nat) : (tcells c).all (·.oneCell') = true := by
  rw [Array.all_eq_true_iff_forall_mem]
  intro v hv
  simp [tcells] at hv
  obtain ⟨a, _, rfl⟩ := hv
  rfl

theorem tooLong_any (b : Nat) (w : World) : Calls Tryd.prog 42 #[.int .u8 (b : Int)] w fun e w' => e = .returned (.bool (decide (15 < b))) ∧ w = w' := by
  go_enter Tryd.func42, Tryd.ntmps42
  go_wp2
  go_ret
  exact ⟨ret_bool (by simp; omega), rfl⟩

set_option maxHeartbeats 1000000 in
theorem count_any (A : Option Addr) (n c : Nat) (l : List UInt8) (w : World) (hb : Holds w 1 A n (bvals l)) (hl : l.length = n) (hn : n ≤ 140737488355328) :
    Calls Tryd.prog 43 #[.slice A n c] w fun e w' => e = .returned (.agg (tcells (cn l))) ∧ Only [] w w' := by
  subst hl
  have HT := hide tooLong_any
  have HB := hide hb
  clear hb
  go_enter Tryd.func43, Tryd.ntmps43
  go_wp2
  go_loopw [8] (fun i wr => ∃ (j : Nat) (old : Array Value), j ≤ l.length ∧ i = .int .i64 j ∧ old.size = 16 ∧ Has wr w.heap.size 103 old ∧ Has wr (w.heap.size + 1) 103 (tcells (rk l j)) ∧ Only [] w wr) (fun i _ => l.length - (intOf i).toNat)
  case atStart =>
    refine ⟨0, _, Nat.zero_le _, rfl, ?_, (Has.new w _ _).alloc _, ?_, ((Only.refl [] w).alloc _).alloc _⟩
    · rfl
    · have := Has.new (w.alloc (.cells #[.int .i64 0, .int .i64 0, .int .i64 0, .int .i64 0, .int .i64 0, .int .i64 0, .int .i64 0, .int .i64 0, .int .i64 0, .int .i64 0, .int .i64 0, .int .i64 0, .int .i64 0, .int .i64 0, .int .i64 0, .int .i64 0] 103)) 103 (tcells fun _ => 0)
      rw [World.size_alloc] at this
      rw [tcells_congr (c := rk l 0) (d := fun _ => 0) (fun i _ => rk_zero l i)]
      exact this
  case round =>
    obtain ⟨j, old, hj, rfl, hos, h0, h1, ho⟩ := hrel
    by_cases hlt : j < l.length
    · obtain ⟨b, o, rfl, hc2⟩ := (HB.out.keep ho (by simp)).addr (by simpa using (show 0 < l.length by omega))
      have hcell : wr.cell? ⟨b, o + j, none⟩ = some (.int .u8 (l[j].toNat : Int)) := hc2 j _ (bvals_get l j hlt)
      have hx := l[j].toNat_lt
      have hR := fun m => rk_succ (l := l) hlt m
      rw [ln_get hlt] at hR
      clear hc2
      generalize l[j].toNat = x at *
      have HR := hide hR
      clear hR
      by_cases hx0 : x = 0
      · subst hx0
        have e : tcells (rk l (j + 1)) = tcells (rk l j) := tcells_congr (fun i _ => by rw [HR.out, if_neg (by omega)]; rfl)
        have H1 := hide (And.intro h0 (And.intro h1 ho))
        have HE := hide e
        clear h0 h1 ho e HR
        go_wp2_with fail
        go_roundw
        case rel => exact ⟨j + 1, old, hlt, by go_num, hos, H1.out.1, by rw [HE.out]; exact H1.out.2.1, H1.out.2.2⟩
        case measure => simp [intOf]; omega
      · have hx1 : 0 < x := by omega
        by_cases hx15 : 15 < x
        · have e : tcells (rk l (j + 1)) = tcells (rk l j) := tcells_congr (fun i _ => by rw [HR.out, if_neg (by omega)]; rfl)
          have H1 := hide (And.intro h0 (And.intro h1 ho))
          have HE := hide e
          have hd : decide (15 < x) = true := by simpa using hx15
          clear h0 h1 ho e HR
          go_wp2_with fail
          refine (HT.out x wr).mono ?_
          rintro e w1 ⟨rfl, rfl⟩
          rw [hd]
          go_wp2_with fail
          go_roundw
          case rel => exact ⟨j + 1, old, hlt, by go_num, hos, H1.out.1, by rw [HE.out]; exact H1.out.2.1, H1.out.2.2⟩
          case measure => simp [intOf]; omega
        · have hx16 : x < 16 := by omega
          have hd : decide (15 < x) = false := by simpa using hx15
          have c1 : wr.cell? ⟨w.heap.size + 1, x, none⟩ = some (.int .i64 (rk l j x : Nat)) := by rw [h1.cell, tcells_get _ hx16]
          have f1 : wr.frozen? ⟨w.heap.size + 1, x, none⟩ = false := h1.free x
          have hr1 : rk l j x ≤ l.length := by
            have h2 := rk_mono (l := l) hj x
            rw [rk_all (Nat.le_refl _)] at h2
            have h3 : cn l x ≤ l.length := by unfold cn; split; exact Nat.zero_le _; exact List.countP_le_length
            omega
          have e : (tcells (rk l j)).setIfInBounds x (.int .i64 ((rk l j x + 1 : Nat) : Int)) = tcells (rk l (j + 1)) :=
            tcells_set _ _ x _ hx16 (by rw [HR.out, if_pos ⟨rfl, hx0⟩]) (fun i _ hne => by rw [HR.out, if_neg (by omega)]; rfl)
          have a := h1.set x (.int .i64 ((rk l j x + 1 : Nat) : Int))
          rw [e] at a
          have a0 := h0.other (p := ⟨w.heap.size + 1, x, none⟩) (by simp) (.int .i64 ((rk l j x + 1 : Nat) : Int))
          have ao := ho.setCell (p := ⟨w.heap.size + 1, x, none⟩) (by simp) (.int .i64 ((rk l j x + 1 : Nat) : Int))
          have H1 := hide (And.intro a0 (And.intro a ao))
          clear h0 h1 ho e HR a a0 ao
          generalize rk l j x = y at *
          go_wp2_with fail
          refine (HT.out x wr).mono ?_
          rintro e w1 ⟨rfl, rfl⟩
          rw [hd]
          go_wp2_with fail
          go_roundw
          case rel => exact ⟨j + 1, old, hlt, by go_num, hos, H1.out.1, H1.out.2.1, H1.out.2.2⟩
          case measure => simp [intOf]; omega
    · obtain rfl : j = l.length := by omega
      rw [tcells_congr (c := rk l l.length) (d := cn l) (fun i _ => rk_all (Nat.le_refl _) i)] at h1
      have H1 := hide h1
      have H0 := hide h0
      have HO := hide ho
      clear h0 h1 ho hlt
      go_wp2_with (first
        | (refine wpList_load_row rfl 103 (.tmp 3) rfl (w.heap.size + 1) rfl 103 (tcells (cn l)) (0, 0) _ H1.out Tryd.underlying103 rfl (by kernel_rfl) ?_)
        | (refine list_store_row rfl 103 (.tmp 2) (.tmp 25) rfl w.heap.size (tcells (cn l)) rfl rfl 103 old H0.out (by kernel_rfl) (by rw [tcells_size]; exact hos) (tcells_one _) ?_))
      have hr := H0.out.setRow (tcells (cn l))
      refine bodyPost_ret (results_cell_row Tryd.results43 _ _ w.heap.size 103 (tcells (cn l)) (0, 0) _ rfl hr Tryd.underlying103 rfl (by kernel_rfl)) rfl ⟨rfl, HO.out.setRow (by simp) _⟩
end Go.Proofs.YtopjkmobnmaaaaaDoor


namespace Go.Proofs.YtopjkmobnmaaaaaDoor
open Go Go.RowKit

def allEq (a b : Nat → Int) (L : List Nat) : Bool := L.all fun i => a i == b i

theorem run_equalIn_ints {P : Program} (w : World) (d : Nat) (t e : TypeId) (len : Nat) (k k' : IntKind) (xs ys : Array Value) (a b : Nat → Int) (ht : P.underlying t = some (.array len e)) (he : P.underlying e = some (.int k')) (hp : P.plainKey e = true)
    (hi : (P.info? e).map (·.size) = some 1)
    (hx : ∀ i, i < len → xs[i]? = some (.int k (a i))) (hy : ∀ i, i < len → ys[i]? = some (.int k (b i))) :
    (Op.equalIn (d + 2) t (.agg xs) (.agg ys)).run P w = .ok (allEq a b (List.range' 0 len)) w := by
  obtain ⟨ie, hie, hsz⟩ : ∃ ie, P.info? e = some ie ∧ ie.size = 1 := by
    cases h : P.info? e with
    | none => rw [h] at hi; simp at hi
    | some ie => rw [h] at hi; simp at hi; exact ⟨ie, rfl, hi⟩
  have hso : ∀ w, (sizeOf e).run P w = .ok 1 w := fun w => by simp [sizeOf, typeInfo, hie, hsz]
  rw [Op.equalIn]
  simp only [Sem.run_bind, run_underlying ht, Result.andThen_ok, hso]
  rw [Std.Legacy.Range.forIn_eq_forIn_range']
  have hL : ∀ i ∈ List.range' 0 len, i < len := by intro i hi; simp at hi; omega
  simp only [Std.Legacy.Range.size, Nat.sub_zero, Nat.add_sub_cancel, Nat.div_one]
  generalize List.range' 0 len = L at *
  clear ht
  induction L generalizing w with
  | nil => simp [allEq]
  | cons i L ih =>
    have h1 := hx i (hL i (by simp))
    have h2 := hy i (hL i (by simp))
    have p1 : (part e xs (i * 1)).run P w = .ok (.int k (a i)) w := run_part_plain w hp (by rw [Nat.mul_one]; exact h1)
    have p2 : (part e ys (i * 1)).run P w = .ok (.int k (b i)) w := run_part_plain w hp (by rw [Nat.mul_one]; exact h2)
    have p3 : (Op.equalIn (d + 1) e (.int k (a i)) (.int k (b i))).run P w = .ok (a i == b i) w := run_equalIn_int w d e k k' _ _ he
    simp only [List.forIn_cons, Sem.run_bind, p1, p2, p3, Result.andThen_ok, Sem.run_ite]
    by_cases h : (a i == b i) = true
    · rw [h]
      simp only [Bool.not_true, Bool.false_eq_true, if_false, Sem.run_pure, Result.andThen_ok]
      rw [ih w (fun j hj => hL j (by simp [hj]))]
      simp [allEq, h]
    · have h' : (a i == b i) = false := by simpa using h
      rw [h']
      simp [allEq, h']
end Go.Proofs.YtopjkmobnmaaaaaDoor

