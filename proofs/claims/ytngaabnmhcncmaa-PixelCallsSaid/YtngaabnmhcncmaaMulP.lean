/-
  Plain facts on the checked product and on bits turned round.
-/
import Derived.Test.YtngaabnmhcncmaaInt
namespace Go.Proofs.Ytngaabnmhcncmaa
open Go

/-- The product of numbers, on from p; refused where one is below 0 or the product is above 2^40. -/
def mulGo (p : Int) : List Int → Int × Bool
  | [] => (p, true)
  | n :: r => if n < 0 ∨ (0 < p ∧ 1099511627776 / p < n) then (0, false) else mulGo (p * n) r

theorem mulGo_no {p n : Int} {r : List Int} (h : n < 0 ∨ (0 < p ∧ 1099511627776 / p < n)) : mulGo p (n :: r) = (0, false) := by
  rw [mulGo, if_pos h]
theorem mulGo_yes {p n : Int} {r : List Int} (h : ¬ (n < 0 ∨ (0 < p ∧ 1099511627776 / p < n))) : mulGo p (n :: r) = mulGo (p * n) r := by
  rw [mulGo, if_neg h]

theorem mul_fits {p n : Int} (hp : 0 ≤ p) (hp1 : p ≤ 1099511627776) (hn : 0 ≤ n) (h : ¬ (0 < p ∧ 1099511627776 / p < n)) : 0 ≤ p * n ∧ p * n ≤ 1099511627776 := by
  refine ⟨Int.mul_nonneg hp hn, ?_⟩
  by_cases h0 : 0 < p
  · have h1 : n ≤ 1099511627776 / p := by
      have : ¬ 1099511627776 / p < n := fun hc => h ⟨h0, hc⟩
      omega
    calc p * n ≤ p * (1099511627776 / p) := Int.mul_le_mul_of_nonneg_left h1 hp
      _ ≤ 1099511627776 := Int.mul_ediv_self_le (by omega)
  · have : p = 0 := by omega
    rw [this, Int.zero_mul]; decide


/-- The lowest n bits of v the other way round. -/
def rev (v : Nat) : Nat → Nat
  | 0 => 0
  | n + 1 => 2 * rev v n + v / 2 ^ n % 2

theorem rev_lt (v n : Nat) : rev v n < 2 ^ n := by
  induction n with
  | zero => simp [rev]
  | succ n ih => rw [rev, Nat.pow_succ]; omega

/-- From the other end: the lowest bit stands highest. -/
theorem rev_low (v n : Nat) : rev v (n + 1) = (v % 2) * 2 ^ n + rev (v / 2) n := by
  induction n generalizing v with
  | zero => simp [rev]
  | succ n ih =>
    have e1 : v / 2 ^ (n + 1) = v / 2 / 2 ^ n := by rw [Nat.div_div_eq_div_mul, Nat.pow_succ, Nat.mul_comm]
    have e2 : v % 2 * 2 ^ (n + 1) = 2 * (v % 2 * 2 ^ n) := by rw [Nat.pow_succ, Nat.mul_comm (2 ^ n) 2, Nat.mul_left_comm]
    rw [rev, ih, rev, e1, e2]
    omega

theorem rev_add_high (v a n : Nat) (h : v < 2 ^ n) : rev (v + a * 2 ^ n) n = rev v n := by
  induction n generalizing v a with
  | zero => rfl
  | succ n ih =>
    rw [rev_low, rev_low]
    have e : v + a * 2 ^ (n + 1) = v + 2 * (a * 2 ^ n) := by rw [Nat.pow_succ]; rw [Nat.mul_comm (2 ^ n) 2, Nat.mul_left_comm]
    have e1 : (v + 2 * (a * 2 ^ n)) % 2 = v % 2 := by omega
    have e2 : (v + 2 * (a * 2 ^ n)) / 2 = v / 2 + a * 2 ^ n := by omega
    rw [e, e1, e2, ih]
    rw [Nat.pow_succ] at h; omega

theorem rev_rev (v n : Nat) : rev (rev v n) n = v % 2 ^ n := by
  induction n generalizing v with
  | zero => simp [rev, Nat.mod_one]
  | succ n ih =>
    have hl := rev_lt (v / 2) n
    rw [rev_low v n, rev, Nat.add_comm ((v % 2) * 2 ^ n), rev_add_high _ _ _ hl, ih]
    have e : (rev (v / 2) n + v % 2 * 2 ^ n) / 2 ^ n = v % 2 := by
      rw [Nat.add_mul_div_right _ _ (Nat.two_pow_pos n), Nat.div_eq_of_lt hl]; omega
    rw [e, Nat.pow_succ, Nat.mul_comm (2 ^ n) 2, Nat.mod_mul]
    omega

theorem u32_and1 (v : Nat) (h : v < 4294967296) : bits .and .u32 (v : Int) 1 = ((v % 2 : Nat) : Int) := by
  have := u32_and_nat v 1 h (by omega)
  rw [Nat.and_one_is_mod] at this
  exact this

theorem u32_or1 (a b : Nat) (hb : b < 2) (h : a * 2 + b < 4294967296) : bits .or .u32 ((a : Int) * 2) (b : Int) = ((2 * a + b : Nat) : Int) := by
  have e := u32_join b a 1 (by omega) (by omega)
  have e2 : bits .or .u32 ((a : Int) * 2) (b : Int) = bits .or .u32 (b : Int) ((a : Int) * 2) := by simp only [bits, BitVec.or_comm]
  rw [e2]
  have e3 : (((a * 2 ^ 1 : Nat)) : Int) = (a : Int) * 2 := by omega
  rw [e3] at e
  rw [e]; omega

theorem u32_hi (a b k : Nat) (ha : a < 2 ^ k) (hs : a + b * 2 ^ k < 4294967296) : bits .or .u32 ((b * 2 ^ k : Nat) : Int) (a : Int) = ((b * 2 ^ k + a : Nat) : Int) := by
  have e : bits .or .u32 ((b * 2 ^ k : Nat) : Int) (a : Int) = bits .or .u32 (a : Int) ((b * 2 ^ k : Nat) : Int) := by simp only [bits, BitVec.or_comm]
  rw [e, u32_join a b k ha hs, Nat.add_comm]

theorem u32_four (x0 x1 x2 x3 : Nat) (h0 : x0 < 256) (h1 : x1 < 256) (h2 : x2 < 256) (h3 : x3 < 256) :
    bits .or .u32 (bits .or .u32 (bits .or .u32 ((x0 : Int) * 16777216) ((x1 : Int) * 65536)) ((x2 : Int) * 256)) (x3 : Int) = ((x0 * 16777216 + x1 * 65536 + x2 * 256 + x3 : Nat) : Int) := by
  have e1 : bits .or .u32 ((x0 : Int) * 16777216) ((x1 : Int) * 65536) = ((x0 * 16777216 + x1 * 65536 : Nat) : Int) := by
    have := u32_hi (x1 * 65536) x0 24 (by omega) (by omega)
    simpa using this
  have e2 : bits .or .u32 ((x0 * 16777216 + x1 * 65536 : Nat) : Int) ((x2 : Int) * 256) = ((x0 * 16777216 + x1 * 65536 + x2 * 256 : Nat) : Int) := by
    have := u32_hi (x2 * 256) (x0 * 256 + x1) 16 (by omega) (by omega)
    have e : (x0 * 256 + x1) * 2 ^ 16 = x0 * 16777216 + x1 * 65536 := by omega
    rw [e] at this
    simpa using this
  have e3 : bits .or .u32 ((x0 * 16777216 + x1 * 65536 + x2 * 256 : Nat) : Int) (x3 : Int) = ((x0 * 16777216 + x1 * 65536 + x2 * 256 + x3 : Nat) : Int) := by
    have := u32_hi x3 (x0 * 65536 + x1 * 256 + x2) 8 (by omega) (by omega)
    have e : (x0 * 65536 + x1 * 256 + x2) * 2 ^ 8 = x0 * 16777216 + x1 * 65536 + x2 * 256 := by omega
    rw [e] at this
    exact this
  rw [e1, e2, e3]

theorem u32_orbit (a x : Nat) (h : a * 2 + 1 < 4294967296) : bits .or .u32 ((a : Int) * 2) ((x : Int) % 2) = ((2 * a + x % 2 : Nat) : Int) := by
  have e : (x : Int) % 2 = ((x % 2 : Nat) : Int) := by omega
  rw [e]; exact u32_or1 a (x % 2) (by omega) (by omega)

end Go.Proofs.Ytngaabnmhcncmaa
