/-
  Plain facts on bytes as one number, the first byte the lowest.
-/
import Derived.Laws.Bits64b
namespace Go.Proofs.Ytopjkmobnmaaaaa
open Go

def num : List UInt8 → Nat
  | [] => 0
  | b :: r => b.toNat + 256 * num r

theorem num_lt (l : List UInt8) : num l < 256 ^ l.length := by
  induction l with
  | nil => simp [num]
  | cons b r ih =>
    have hb := b.toNat_lt
    rw [num, List.length_cons, Nat.pow_succ]
    omega

theorem num_append (l m : List UInt8) : num (l ++ m) = num l + 256 ^ l.length * num m := by
  induction l with
  | nil => simp [num]
  | cons b r ih =>
    rw [List.cons_append, num, ih, num, List.length_cons, Nat.pow_succ, Nat.mul_add, Nat.mul_comm (256 ^ r.length) 256, Nat.mul_assoc]
    omega

theorem num_drop (l : List UInt8) (k : Nat) : num (l.drop k) = num l / 256 ^ k := by
  induction l generalizing k with
  | nil => simp [num]
  | cons b r ih =>
    have hb := b.toNat_lt
    cases k with
    | zero => simp
    | succ k =>
      rw [List.drop_succ_cons, ih, num, Nat.pow_succ, Nat.mul_comm (256 ^ k) 256, ← Nat.div_div_eq_div_mul]
      congr 1; omega

theorem num_take (l : List UInt8) (k : Nat) : num (l.take k) = num l % 256 ^ k := by
  induction l generalizing k with
  | nil => simp [num]
  | cons b r ih =>
    have hb := b.toNat_lt
    cases k with
    | zero => simp [num, Nat.mod_one]
    | succ k =>
      rw [List.take_succ_cons, num, ih, num, Nat.pow_succ, Nat.mul_comm (256 ^ k) 256, Nat.mod_mul]
      have h1 : (b.toNat + 256 * num r) % 256 = b.toNat := by omega
      have h2 : (b.toNat + 256 * num r) / 256 = num r := by omega
      rw [h1, h2]

theorem num_inj {l m : List UInt8} (h : l.length = m.length) (hn : num l = num m) : l = m := by
  induction l generalizing m with
  | nil => cases m with
    | nil => rfl
    | cons _ _ => simp at h
  | cons b r ih => cases m with
    | nil => simp at h
    | cons c s =>
      have hb := b.toNat_lt
      have hc := c.toNat_lt
      simp only [num] at hn
      have h1 : b.toNat = c.toNat := by omega
      have h2 : num r = num s := by omega
      rw [ih (by simpa using h) h2, UInt8.toNat_inj.1 h1]

theorem num_snoc (l : List UInt8) (b : UInt8) : num (l ++ [b]) = num l + 256 ^ l.length * b.toNat := by
  rw [num_append]; simp [num]

theorem pow_256 (k : Nat) : 256 ^ k = 2 ^ (8 * k) := by rw [Nat.pow_mul]

theorem num_get (l : List UInt8) (i : Nat) (h : i < l.length) : l[i].toNat = num l / 256 ^ i % 256 := by
  have h1 := num_take (l.drop i) 1
  rw [num_drop] at h1
  rw [List.drop_eq_getElem_cons h, List.take_succ_cons, List.take_zero] at h1
  simpa [num] using h1

/-- One bit of the bytes. -/
theorem num_bit (l : List UInt8) (i : Nat) (h : i / 8 < l.length) : l[i / 8].toNat / 2 ^ (i % 8) % 2 = num l / 2 ^ i % 2 := by
  have e : 2 ^ i = 256 ^ (i / 8) * 2 ^ (i % 8) := by
    rw [pow_256, ← Nat.pow_add]; congr 1; omega
  have h8 : 256 = 2 ^ (i % 8) * 2 ^ (8 - i % 8) := by
    rw [← Nat.pow_add, show i % 8 + (8 - i % 8) = 8 from by omega]
  have h9 : 2 ^ (8 - i % 8) = 2 * 2 ^ (7 - i % 8) := by
    rw [show 8 - i % 8 = (7 - i % 8) + 1 from by omega, Nat.pow_succ]; omega
  rw [num_get l _ h, e, ← Nat.div_div_eq_div_mul]
  generalize num l / 256 ^ (i / 8) = x
  rw [h8, Nat.mod_mul_right_div_self, h9, Nat.mod_mul_right_mod]

theorem mod_div_mod (x a r n : Nat) (h : r + n ≤ a) : x % 2 ^ a / 2 ^ r % 2 ^ n = x / 2 ^ r % 2 ^ n := by
  have e : 2 ^ a = 2 ^ r * 2 ^ (a - r) := by rw [← Nat.pow_add]; congr 1; omega
  have e2 : 2 ^ (a - r) = 2 ^ n * 2 ^ (a - r - n) := by rw [← Nat.pow_add]; congr 1; omega
  rw [e, Nat.mod_mul_right_div_self, e2, Nat.mod_mul_right_mod]

/-- The n bits from place k on. -/
def bitsOf (N k n : Nat) : Nat := N / 2 ^ k % 2 ^ n

theorem bitsOf_lt (N k n : Nat) : bitsOf N k n < 2 ^ n := Nat.mod_lt _ (Nat.two_pow_pos n)
theorem bitsOf_lt32 (N k n : Nat) (h : n ≤ 32) : bitsOf N k n < 4294967296 :=
  Nat.lt_of_lt_of_le (bitsOf_lt N k n) (Nat.pow_le_pow_right (n := 2) (by decide) h)
theorem bitsOf_zero (N k : Nat) : bitsOf N k 0 = 0 := by simp [bitsOf, Nat.mod_one]
theorem bitsOf_succ (N k n : Nat) : bitsOf N k (n + 1) = bitsOf N k n + 2 ^ n * (N / 2 ^ (k + n) % 2) := by
  unfold bitsOf
  rw [Nat.pow_succ, Nat.mod_mul, Nat.div_div_eq_div_mul, ← Nat.pow_add]

/-- The bits as they stand in the bytes that hold them. -/
theorem bitsOf_cut (l : List UInt8) (k n f p : Nat) (hf : f = k / 8) (hp : p = (k + n + 7) / 8) :
    bitsOf (num ((l.drop f).take (p - f))) (k % 8) n = bitsOf (num l) k n := by
  have e : 2 ^ k = 256 ^ f * 2 ^ (k % 8) := by rw [pow_256, ← Nat.pow_add]; congr 1; omega
  unfold bitsOf
  rw [num_take, num_drop, e, ← Nat.div_div_eq_div_mul, pow_256 (p - f), mod_div_mod _ _ _ _ (by omega)]

theorem or_of_lt {a k : Nat} (h : a < 2 ^ k) (b : Nat) : a ||| b * 2 ^ k = a + b * 2 ^ k := by
  rw [Nat.mul_comm b, Nat.or_comm, ← Nat.two_pow_add_eq_or_of_lt h, Nat.add_comm]

end Go.Proofs.Ytopjkmobnmaaaaa
