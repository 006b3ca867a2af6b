/-
  Plain facts on bits laid one a byte, and put together again.
-/
import Derived.Test.YtheipfcbpjfohaaInt
namespace Go.Proofs.Ytheipfcbpjfohaa
open Go

/-- Bits, one a byte, the first the lowest. -/
def bnum : List UInt8 → Nat
  | [] => 0
  | b :: r => b.toNat + 2 * bnum r

theorem bnum_append (l m : List UInt8) : bnum (l ++ m) = bnum l + 2 ^ l.length * bnum m := by
  induction l with
  | nil => simp [bnum]
  | cons b r ih =>
    rw [List.cons_append, bnum, ih, bnum, List.length_cons, Nat.pow_succ, Nat.mul_add, Nat.mul_comm (2 ^ r.length) 2, Nat.mul_assoc]
    omega
theorem bnum_snoc (l : List UInt8) (b : UInt8) : bnum (l ++ [b]) = bnum l + b.toNat * 2 ^ l.length := by
  rw [bnum_append, Nat.mul_comm]; simp [bnum]
theorem bnum_lt {l : List UInt8} (h : ∀ b ∈ l, b.toNat ≤ 1) : bnum l < 2 ^ l.length := by
  induction l with
  | nil => simp [bnum]
  | cons b r ih =>
    have h1 := h b (by simp)
    have h2 := ih (fun x hx => h x (by simp [hx]))
    rw [bnum, List.length_cons, Nat.pow_succ]; omega

/-- The bytes of a number. -/
def bytesOf (N m : Nat) : List UInt8 := (List.range m).map fun j => UInt8.ofNat (N / 256 ^ j % 256)
@[simp] theorem bytesOf_length (N m : Nat) : (bytesOf N m).length = m := by simp [bytesOf]
theorem bytesOf_get (N m j : Nat) (h : j < (bytesOf N m).length) : (bytesOf N m)[j].toNat = N / 256 ^ j % 256 := by
  simp [bytesOf]
theorem bytesOf_zero (m : Nat) : bytesOf 0 m = List.replicate m 0 := by
  apply List.ext_getElem
  · simp
  · intro j h1 h2
    simp [bytesOf]
theorem num_bytesOf (N m : Nat) : num (bytesOf N m) = N % 256 ^ m := by
  induction m with
  | zero => simp [bytesOf, num, Nat.mod_one]
  | succ m ih =>
    have e : bytesOf N (m + 1) = bytesOf N m ++ [UInt8.ofNat (N / 256 ^ m % 256)] := by
      simp [bytesOf, List.range_succ]
    rw [e, num_snoc, ih, bytesOf_length, Nat.pow_succ, Nat.mod_mul]
    simp

/-- One bit more. -/
theorem bytesOf_bit (N m i b : Nat) (hN : N < 2 ^ i) (hb : b ≤ 1) :
    bytesOf (N + b * 2 ^ i) m = (bytesOf N m).set (i / 8) (UInt8.ofNat (N / 256 ^ (i / 8) % 256 + b * 2 ^ (i % 8))) := by
  have e2 : 2 ^ i = 256 ^ (i / 8) * 2 ^ (i % 8) := by
    rw [pow_256, ← Nat.pow_add]; congr 1; omega
  have hr : 2 ^ (i % 8) ≤ 128 := Nat.pow_le_pow_right (n := 2) (i := i % 8) (j := 7) (by omega) (by omega)
  have hb2 : b * 2 ^ (i % 8) ≤ 1 * 2 ^ (i % 8) := Nat.mul_le_mul_right _ hb
  apply List.ext_getElem
  · simp
  · intro j h1 h2
    have hj : j < m := by simpa using h1
    rw [List.getElem_set]
    by_cases hji : i / 8 = j
    · subst hji
      rw [if_pos rfl]
      simp only [bytesOf, List.getElem_map, List.getElem_range]
      congr 1
      have hlt : N / 256 ^ (i / 8) < 2 ^ (i % 8) := by
        rw [e2] at hN
        exact Nat.div_lt_of_lt_mul hN
      rw [e2, show N + b * (256 ^ (i / 8) * 2 ^ (i % 8)) = N + (b * 2 ^ (i % 8)) * 256 ^ (i / 8) from by
        rw [Nat.mul_comm (256 ^ (i / 8)), ← Nat.mul_assoc], Nat.add_mul_div_right _ _ (Nat.pow_pos (by decide))]
      generalize N / 256 ^ (i / 8) = x at *
      generalize b * 2 ^ (i % 8) = y at *
      omega
    · rw [if_neg hji]
      simp only [bytesOf, List.getElem_map, List.getElem_range]
      congr 1
      rcases Nat.lt_or_ge j (i / 8) with hlt | hge
      · have e3 : 2 ^ i = 2 ^ (i - 8 * j) * 256 ^ j := by rw [pow_256, ← Nat.pow_add]; congr 1; omega
        have e4 : 2 ^ (i - 8 * j) = 256 * 2 ^ (i - 8 * j - 8) := by
          rw [show (256 : Nat) = 2 ^ 8 from rfl, ← Nat.pow_add]; congr 1; omega
        rw [e3, ← Nat.mul_assoc, Nat.add_mul_div_right _ _ (Nat.pow_pos (by decide)), e4, Nat.mul_left_comm, Nat.add_mul_mod_self_left]
      · have h8 : 2 ^ (i + 1) ≤ 256 ^ j := by rw [pow_256]; exact Nat.pow_le_pow_right (by omega) (by omega)
        have hbi : b * 2 ^ i ≤ 1 * 2 ^ i := Nat.mul_le_mul_right _ hb
        rw [Nat.pow_succ] at h8
        rw [Nat.div_eq_of_lt (show N < 256 ^ j by omega), Nat.div_eq_of_lt (show N + b * 2 ^ i < 256 ^ j by omega)]

/-- The lowest bits of a number, one more. -/
theorem mod_bit (v i : Nat) : v % 2 ^ (i + 1) = v % 2 ^ i + (v / 2 ^ i % 2) * 2 ^ i := by
  rw [Nat.pow_succ, Nat.mod_mul, Nat.mul_comm]

end Go.Proofs.Ytheipfcbpjfohaa
