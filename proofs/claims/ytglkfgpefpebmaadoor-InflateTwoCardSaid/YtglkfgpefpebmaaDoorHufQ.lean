/-
  Symbols laid by their codes are read again, plainly.
-/
import Derived.Test.YtglkfgpefpebmaaDoorHufN
namespace Go.Proofs.YtglkfgpefpebmaaDoor

theorem bc_div (N k j d : Nat) : bc N k (j + d) / 2 ^ d = bc N k j := by
  induction d with
  | zero => simp
  | succ d ih =>
    rw [← Nat.add_assoc, bc_succ, Nat.pow_succ, Nat.mul_comm (2 ^ d) 2, ← Nat.div_div_eq_div_mul]
    have h : N / 2 ^ (k + (j + d)) % 2 < 2 := Nat.mod_lt _ (by omega)
    rw [show (2 * bc N k (j + d) + N / 2 ^ (k + (j + d)) % 2) / 2 = bc N k (j + d) by omega, ih]
theorem rev_low_bits (v n : Nat) : rev (v % 2 ^ n) n = rev v n := by
  have h := rev_add_high (v % 2 ^ n) (v / 2 ^ n) n (Nat.mod_lt _ (Nat.two_pow_pos n))
  rw [← h]
  congr 1
  rw [Nat.mul_comm]
  exact Nat.mod_add_div v (2 ^ n)

theorem read_back {l : List UInt8} (hS : Sm (cn l) 16 ≤ 32768) (h15 : ∀ i, ln l i ≤ 15) {i N p left : Nat} (hi : ln l i ≠ 0) (hl : ln l i ≤ left) (hb : N / 2 ^ p % 2 ^ ln l i = rev (cd l i) (ln l i)) :
    readM l N p left = (i, 0, ln l i) := by
  have hcd := cd_lt hS hi (h15 i)
  have hrk := rk_lt hi
  have hc : cd l i = Fs (cn l) (ln l i) + rk l i (ln l i) := rfl
  have hpos : 0 < cn l (ln l i) := by omega
  have hL := Lg_ge (cn l) (n := 15) (by omega) (h15 i) hpos
  have hbc : bc N p (ln l i) = cd l i := by
    rw [bc_rev, ← rev_low_bits, hb, rev_rev, Nat.mod_eq_of_lt hcd]
  have hsy := sy_eq hi
  generalize ln l i = n at *
  have key : ∀ d j, j + d + 1 = n → scan l N p left (Lg (cn l) 15 - j) (j + 1) = (i, 0, n) := by
    intro d
    induction d with
    | zero =>
      intro j hj
      obtain ⟨r, hr⟩ : ∃ r, Lg (cn l) 15 - j = r + 1 := ⟨Lg (cn l) 15 - j - 1, by omega⟩
      have e : j + 1 = n := by omega
      rw [hr, e, scan_hit (by omega) (by rw [hbc]; omega), hbc, hc, Nat.add_sub_cancel_left, hsy]
    | succ d ih =>
      intro j hj
      obtain ⟨r, hr⟩ : ∃ r, Lg (cn l) 15 - j = r + 1 := ⟨Lg (cn l) 15 - j - 1, by omega⟩
      have hfar := Fs_far (cn l) (j + 1) d
      have e : j + 1 + d + 1 = n := by omega
      rw [e] at hfar
      have hdv := bc_div N p (j + 1) (d + 1)
      rw [← Nat.add_assoc, e, hbc] at hdv
      have hge : Fs (cn l) (j + 1) + cn l (j + 1) ≤ bc N p (j + 1) := by
        rw [← hdv, Nat.le_div_iff_mul_le (Nat.two_pow_pos _)]
        omega
      rw [hr, scan_next (by omega) (by omega)]
      have := ih (j + 1) (by omega)
      rw [show Lg (cn l) 15 - (j + 1) = r by omega] at this
      exact this
  have := key (n - 1) 0 (by omega)
  rw [Nat.sub_zero] at this
  exact this

/-- How many bits these symbols take. -/
def bitsL (l : List UInt8) : List Nat → Nat
  | [] => 0
  | k :: r => bitsL l r + ln l k
/-- Their bits as a number; the list's head is the last. -/
def bitsN (l : List UInt8) : List Nat → Nat
  | [] => 0
  | k :: r => bitsN l r + rev (cd l k) (ln l k) * 2 ^ bitsL l r
theorem bitsN_lt (l : List UInt8) (r : List Nat) : bitsN l r < 2 ^ bitsL l r := by
  induction r with
  | nil => exact Nat.one_pos
  | cons k r ih =>
    show bitsN l r + rev (cd l k) (ln l k) * 2 ^ bitsL l r < 2 ^ (bitsL l r + ln l k)
    have h := rev_lt (cd l k) (ln l k)
    rw [Nat.pow_add]
    have h2 : (rev (cd l k) (ln l k) + 1) * 2 ^ bitsL l r ≤ 2 ^ ln l k * 2 ^ bitsL l r := Nat.mul_le_mul_right _ h
    rw [Nat.add_mul, Nat.one_mul, Nat.mul_comm (2 ^ ln l k)] at h2
    omega
theorem bitsL_le {l : List UInt8} (h15 : ∀ i, ln l i ≤ 15) (r : List Nat) : bitsL l r ≤ 15 * r.length := by
  induction r with
  | nil => exact Nat.le_refl _
  | cons k r ih => show bitsL l r + ln l k ≤ _; have := h15 k; rw [List.length_cons]; omega
theorem bitsL_append (l : List UInt8) (a b : List Nat) : bitsL l (a ++ b) = bitsL l b + bitsL l a := by
  induction a with
  | nil => rfl
  | cons k a ih => show bitsL l (a ++ b) + ln l k = bitsL l b + (bitsL l a + ln l k); rw [ih]; omega
theorem bitsN_append (l : List UInt8) (a b : List Nat) : ∃ q, bitsN l (a ++ b) = bitsN l b + q * 2 ^ bitsL l b := by
  induction a with
  | nil => exact ⟨0, by simp⟩
  | cons k a ih =>
    obtain ⟨q, hq⟩ := ih
    refine ⟨q + rev (cd l k) (ln l k) * 2 ^ bitsL l a, ?_⟩
    show bitsN l (a ++ b) + rev (cd l k) (ln l k) * 2 ^ bitsL l (a ++ b) = _
    rw [hq, bitsL_append, Nat.pow_add, Nat.add_mul, Nat.add_assoc]
    congr 2
    rw [Nat.mul_assoc, Nat.mul_comm (2 ^ bitsL l a)]
/-- Of all symbols that were laid the next one stands where those ahead of it end. -/
theorem laid_next {l : List UInt8} (hS : Sm (cn l) 16 ≤ 32768) (h15 : ∀ i, ln l i ≤ 15) (a b : List Nat) (k left : Nat) (hk : ln l k ≠ 0) (hl : ln l k ≤ left) :
    readM l (bitsN l (a ++ k :: b)) (bitsL l b) left = (k, 0, ln l k) := by
  refine read_back hS h15 hk hl ?_
  obtain ⟨q, hq⟩ := bitsN_append l a (k :: b)
  have hlt := bitsN_lt l b
  have hr := rev_lt (cd l k) (ln l k)
  have e1 : bitsN l (k :: b) = bitsN l b + rev (cd l k) (ln l k) * 2 ^ bitsL l b := rfl
  have e2 : bitsL l (k :: b) = bitsL l b + ln l k := rfl
  rw [hq, e1, e2, Nat.pow_add]
  generalize rev (cd l k) (ln l k) = R at *
  have e3 : bitsN l b + R * 2 ^ bitsL l b + q * (2 ^ bitsL l b * 2 ^ ln l k) = bitsN l b + 2 ^ bitsL l b * (R + q * 2 ^ ln l k) := by
    rw [Nat.mul_add, Nat.mul_comm R, Nat.add_assoc, Nat.mul_left_comm q]
  rw [e3, Nat.add_mul_div_left _ _ (Nat.two_pow_pos _), Nat.div_eq_of_lt hlt, Nat.zero_add, Nat.add_mul_mod_self_right, Nat.mod_eq_of_lt hr]
end Go.Proofs.YtglkfgpefpebmaaDoor
