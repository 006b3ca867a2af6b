/-
  Plain facts on the model's integers: masks, shifts, joins.
-/
import Derived.Test.YtopjkmobnmaaaaaNum
import Derived.Laws.BitsAllLaws
import Derived.Laws.Bits128
import Derived.IntWalk
namespace Go.Proofs.Ytopjkmobnmaaaaa
open Go

theorem i64_and7 (n : Int) : bits .and .i64 n 7 = n % 8 := by
  have h7 : (BitVec.ofInt 64 7).toNat = 2 ^ 3 - 1 := by decide
  have key : (BitVec.ofInt 64 n &&& BitVec.ofInt 64 7).toNat = (n % ((2 ^ 64 : Nat) : Int)).toNat % 2 ^ 3 := by
    rw [BitVec.toNat_and, BitVec.toNat_ofInt, h7, Nat.and_two_pow_sub_one_eq_mod]
  show IntKind.i64.wrap ((BitVec.ofInt 64 n &&& BitVec.ofInt 64 7).toNat : Nat) = n % 8
  rw [key, IntKind.wrap_i64]
  omega

theorem two_pow_cast (n : Nat) : ((2 ^ n : Nat) : Int) = 2 ^ n := Int.natCast_pow 2 n

theorem pow_le32 {n : Nat} (h : n ≤ 32) : 2 ^ n ≤ 4294967296 := Nat.pow_le_pow_right (n := 2) (by decide) h
theorem pow_le63 {n : Nat} (h : n ≤ 63) : 2 ^ n ≤ 9223372036854775808 := Nat.pow_le_pow_right (n := 2) (by decide) h

theorem u64_low (v n : Nat) (hv : v < 18446744073709551616) (hn : n ≤ 32) :
    bits .and .u64 (v : Int) (IntKind.u64.wrap (IntKind.u64.wrap (2 ^ n) - 1)) = ((v % 2 ^ n : Nat) : Int) := by
  have hp := pow_le32 hn
  have h1 : 1 ≤ 2 ^ n := Nat.one_le_two_pow
  have e : IntKind.u64.wrap (IntKind.u64.wrap (2 ^ n) - 1) = ((2 ^ n - 1 : Nat) : Int) := by
    rw [← two_pow_cast]
    have e1 : IntKind.u64.wrap ((2 ^ n : Nat) : Int) = ((2 ^ n : Nat) : Int) := IntWalk.u64_in _ ⟨by omega, by omega⟩
    rw [e1, IntWalk.u64_in _ ⟨by omega, by omega⟩]
    omega
  rw [e, u64_and_nat _ _ hv (by omega), Nat.and_two_pow_sub_one_eq_mod]

theorem u32_low (v n : Nat) (hv : v < 4294967296) (hn : n < 32) :
    bits .and .u32 (v : Int) (IntKind.u32.wrap (IntKind.u32.wrap (2 ^ n) - 1)) = ((v % 2 ^ n : Nat) : Int) := by
  have hp : 2 ^ n ≤ 2147483648 := Nat.pow_le_pow_right (n := 2) (i := n) (j := 31) (by omega) (by omega)
  have h1 : 1 ≤ 2 ^ n := Nat.one_le_two_pow
  have e : IntKind.u32.wrap (IntKind.u32.wrap (2 ^ n) - 1) = ((2 ^ n - 1 : Nat) : Int) := by
    rw [← two_pow_cast]
    have e1 : IntKind.u32.wrap ((2 ^ n : Nat) : Int) = ((2 ^ n : Nat) : Int) := IntWalk.u32_in _ ⟨by omega, by omega⟩
    rw [e1, IntWalk.u32_in _ ⟨by omega, by omega⟩]
    omega
  rw [e, u32_and_nat _ _ hv (by omega), Nat.and_two_pow_sub_one_eq_mod]

theorem u32_low' (v n : Nat) (hv : v < 4294967296) (hn : n < 32) :
    bits .and .u32 (v : Int) ((2 ^ n - 1) % 4294967296) = ((v % 2 ^ n : Nat) : Int) := by
  have hp : 2 ^ n ≤ 2147483648 := Nat.pow_le_pow_right (n := 2) (i := n) (j := 31) (by omega) (by omega)
  have h1 : 1 ≤ 2 ^ n := Nat.one_le_two_pow
  have e : ((2 : Int) ^ n - 1) % 4294967296 = ((2 ^ n - 1 : Nat) : Int) := by
    rw [← two_pow_cast]; omega
  rw [e, u32_and_nat _ _ hv (by omega), Nat.and_two_pow_sub_one_eq_mod]

/-- A number laid above another: or is plus. -/
theorem u64_join (a b k : Nat) (ha : a < 2 ^ k) (hs : a + b * 2 ^ k < 18446744073709551616) :
    bits .or .u64 (a : Int) ((b * 2 ^ k : Nat) : Int) = ((a + b * 2 ^ k : Nat) : Int) := by
  rw [u64_or_nat _ _ (by omega) (by omega), or_of_lt ha]
theorem u32_join (a b k : Nat) (ha : a < 2 ^ k) (hs : a + b * 2 ^ k < 4294967296) :
    bits .or .u32 (a : Int) ((b * 2 ^ k : Nat) : Int) = ((a + b * 2 ^ k : Nat) : Int) := by
  rw [u32_or_nat _ _ (by omega) (by omega), or_of_lt ha]

theorem pow_le40 {n : Nat} (h : n ≤ 40) : 2 ^ n ≤ 1099511627776 := Nat.pow_le_pow_right (n := 2) (by decide) h

/-- One byte more laid above the bytes so far. -/
theorem u64_byte (l : List UInt8) (j : Nat) (hj : j < 5) (hl : j < l.length) :
    bits .or .u64 (num (l.take j) : Nat) (IntKind.u64.wrap (IntKind.u64.wrap (l[j].toNat : Int) * 2 ^ (8 * j))) = (num (l.take (j + 1)) : Nat) := by
  have hb := l[j].toNat_lt
  have hp : 2 ^ (8 * (j + 1)) ≤ 1099511627776 := pow_le40 (by omega)
  have hq : 2 ^ (8 * (j + 1)) = 256 * 2 ^ (8 * j) := by rw [show 8 * (j + 1) = 8 * j + 8 from by omega, Nat.pow_add]; omega
  have hlen : (l.take j).length = j := by simp; omega
  have hn : num (l.take j) < 2 ^ (8 * j) := by have := num_lt (l.take j); rwa [hlen, pow_256] at this
  have hm : l[j].toNat * 2 ^ (8 * j) ≤ 255 * 2 ^ (8 * j) := Nat.mul_le_mul_right _ (by omega)
  have hs : num (l.take (j + 1)) = num (l.take j) + l[j].toNat * 2 ^ (8 * j) := by
    rw [List.take_succ_eq_append_getElem hl, num_snoc, hlen, pow_256, Nat.mul_comm]
  have e1 : IntKind.u64.wrap (l[j].toNat : Int) = (l[j].toNat : Int) := IntWalk.u64_in _ ⟨by omega, by omega⟩
  have e2 : IntKind.u64.wrap ((l[j].toNat : Int) * 2 ^ (8 * j)) = ((l[j].toNat * 2 ^ (8 * j) : Nat) : Int) := by
    rw [← two_pow_cast, ← Int.natCast_mul]; exact IntWalk.u64_in _ ⟨by omega, by omega⟩
  rw [e1, e2, u64_join _ _ _ hn (by omega), hs]

theorem ret_int {k : IntKind} {a b : Int} (h : a = b) : Ending.returned (.int k a) = .returned (.int k b) := by rw [h]
theorem ret_int_bool {k : IntKind} {a b : Int} {c d : Bool} (h : a = b) (h' : c = d) :
    Ending.returned (.tuple #[.int k a, .bool c]) = .returned (.tuple #[.int k b, .bool d]) := by rw [h, h']
theorem ret_bool {a b : Bool} (h : a = b) : Ending.returned (.bool a) = .returned (.bool b) := by rw [h]

end Go.Proofs.Ytopjkmobnmaaaaa
