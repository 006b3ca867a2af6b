/-
  Plain facts on bytes as one number, the first byte the lowest. | Plain facts on the model's integers: masks, shifts, joins. |  |  |  |  | Plain facts on the checked product and on bits turned round.
-/
import Derived.Laws.Bits64b
import Derived.Laws.BitsAllLaws
import Derived.Laws.Bits128
import Derived.IntWalk
import Derived.Test.YtlknhiihdejpeaaGreatDoorProg
import Derived.Test.YtlknhiihdejpeaaGreatDoorMMem
import Derived.Deep.QuietTactic
import Derived.BigQuiet
namespace Go.Proofs.YtlknhiihdejpeaaGreatDoor
open Go

def num : List UInt8 → Nat
  | [] => 0
  | b :: r => b.toNat + 256 * num r

theorem num_lt (l : List UInt8) : num l < 256 ^ l.length := by
  induction l with
  | nil => simp [num]
  | cons b r ih =>
    have hb := b.toNat_lt
    rw [num, List.length_cons, Nat.pow_succ]
    omega

theorem num_append (l m : List UInt8) : num (l ++ m) = num l + 256 ^ l.length * num m := by
  induction l with
  | nil => simp [num]
  | cons b r ih =>
    rw [List.cons_append, num, ih, num, List.length_cons, Nat.pow_succ, Nat.mul_add, Nat.mul_comm (256 ^ r.length) 256, Nat.mul_assoc]
    omega

theorem num_drop (l : List UInt8) (k : Nat) : num (l.drop k) = num l / 256 ^ k := by
  induction l generalizing k with
  | nil => simp [num]
  | cons b r ih =>
    have hb := b.toNat_lt
    cases k with
    | zero => simp
    | succ k =>
      rw [List.drop_succ_cons, ih, num, Nat.pow_succ, Nat.mul_comm (256 ^ k) 256, ← Nat.div_div_eq_div_mul]
      congr 1; omega

theorem num_take (l : List UInt8) (k : Nat) : num (l.take k) = num l % 256 ^ k := by
  induction l generalizing k with
  | nil => simp [num]
  | cons b r ih =>
    have hb := b.toNat_lt
    cases k with
    | zero => simp [num, Nat.mod_one]
    | succ k =>
      rw [List.take_succ_cons, num, ih, num, Nat.pow_succ, Nat.mul_comm (256 ^ k) 256, Nat.mod_mul]
      have h1 : (b.toNat + 256 * num r) % 256 = b.toNat := by omega
      have h2 : (b.toNat + 256 * num r) / 256 = num r := by omega
      rw [h1, h2]

theorem num_inj {l m : List UInt8} (h : l.length = m.length) (hn : num l = num m) : l = m := by
  induction l generalizing m with
  | nil => cases m with
    | nil => rfl
    | cons _ _ => simp at h
  | cons b r ih => cases m with
    | nil => simp at h
    | cons c s =>
      have hb := b.toNat_lt
      have hc := c.toNat_lt
      simp only [num] at hn
      have h1 : b.toNat = c.toNat := by omega
      have h2 : num r = num s := by omega
      rw [ih (by simpa using h) h2, UInt8.toNat_inj.1 h1]

theorem num_snoc (l : List UInt8) (b : UInt8) : num (l ++ [b]) = num l + 256 ^ l.length * b.toNat := by
  rw [num_append]; simp [num]

theorem pow_256 (k : Nat) : 256 ^ k = 2 ^ (8 * k) := by rw [Nat.pow_mul]

theorem num_get (l : List UInt8) (i : Nat) (h : i < l.length) : l[i].toNat = num l / 256 ^ i % 256 := by
  have h1 := num_take (l.drop i) 1
  rw [num_drop] at h1
  rw [List.drop_eq_getElem_cons h, List.take_succ_cons, List.take_zero] at h1
  simpa [num] using h1

/-- One bit of the bytes. -/
theorem num_bit (l : List UInt8) (i : Nat) (h : i / 8 < l.length) : l[i / 8].toNat / 2 ^ (i % 8) % 2 = num l / 2 ^ i % 2 := by
  have e : 2 ^ i = 256 ^ (i / 8) * 2 ^ (i % 8) := by
    rw [pow_256, ← Nat.pow_add]; congr 1; omega
  have h8 : 256 = 2 ^ (i % 8) * 2 ^ (8 - i % 8) := by
    rw [← Nat.pow_add, show i % 8 + (8 - i % 8) = 8 from by omega]
  have h9 : 2 ^ (8 - i % 8) = 2 * 2 ^ (7 - i % 8) := by
    rw [show 8 - i % 8 = (7 - i % 8) + 1 from by omega, Nat.pow_succ]; omega
  rw [num_get l _ h, e, ← Nat.div_div_eq_div_mul]
  generalize num l / 256 ^ (i / 8) = x
  rw [h8, Nat.mod_mul_right_div_self, h9, Nat.mod_mul_right_mod]

theorem mod_div_mod (x a r n : Nat) (h : r + n ≤ a) : x % 2 ^ a / 2 ^ r % 2 ^ n = x / 2 ^ r % 2 ^ n := by
  have e : 2 ^ a = 2 ^ r * 2 ^ (a - r) := by rw [← Nat.pow_add]; congr 1; omega
  have e2 : 2 ^ (a - r) = 2 ^ n * 2 ^ (a - r - n) := by rw [← Nat.pow_add]; congr 1; omega
  rw [e, Nat.mod_mul_right_div_self, e2, Nat.mod_mul_right_mod]

/-- The n bits from place k on. -/
def bitsOf (N k n : Nat) : Nat := N / 2 ^ k % 2 ^ n

theorem bitsOf_lt (N k n : Nat) : bitsOf N k n < 2 ^ n := Nat.mod_lt _ (Nat.two_pow_pos n)
theorem bitsOf_lt32 (N k n : Nat) (h : n ≤ 32) : bitsOf N k n < 4294967296 :=
  Nat.lt_of_lt_of_le (bitsOf_lt N k n) (Nat.pow_le_pow_right (n := 2) (by decide) h)
theorem bitsOf_zero (N k : Nat) : bitsOf N k 0 = 0 := by simp [bitsOf, Nat.mod_one]
theorem bitsOf_succ (N k n : Nat) : bitsOf N k (n + 1) = bitsOf N k n + 2 ^ n * (N / 2 ^ (k + n) % 2) := by
  unfold bitsOf
  rw [Nat.pow_succ, Nat.mod_mul, Nat.div_div_eq_div_mul, ← Nat.pow_add]

/-- The bits as they stand in the bytes that hold them. -/
theorem bitsOf_cut (l : List UInt8) (k n f p : Nat) (hf : f = k / 8) (hp : p = (k + n + 7) / 8) :
    bitsOf (num ((l.drop f).take (p - f))) (k % 8) n = bitsOf (num l) k n := by
  have e : 2 ^ k = 256 ^ f * 2 ^ (k % 8) := by rw [pow_256, ← Nat.pow_add]; congr 1; omega
  unfold bitsOf
  rw [num_take, num_drop, e, ← Nat.div_div_eq_div_mul, pow_256 (p - f), mod_div_mod _ _ _ _ (by omega)]

theorem or_of_lt {a k : Nat} (h : a < 2 ^ k) (b : Nat) : a ||| b * 2 ^ k = a + b * 2 ^ k := by
  rw [Nat.mul_comm b, Nat.or_comm, ← Nat.two_pow_add_eq_or_of_lt h, Nat.add_comm]

end Go.Proofs.YtlknhiihdejpeaaGreatDoor


namespace Go.Proofs.YtlknhiihdejpeaaGreatDoor
open Go

theorem i64_and7 (n : Int) : bits .and .i64 n 7 = n % 8 := by
  have h7 : (BitVec.ofInt 64 7).toNat = 2 ^ 3 - 1 := by decide
  have key : (BitVec.ofInt 64 n &&& BitVec.ofInt 64 7).toNat = (n % ((2 ^ 64 : Nat) : Int)).toNat % 2 ^ 3 := by
    rw [BitVec.toNat_and, BitVec.toNat_ofInt, h7, Nat.and_two_pow_sub_one_eq_mod]
  show IntKind.i64.wrap ((BitVec.ofInt 64 n &&& BitVec.ofInt 64 7).toNat : Nat) = n % 8
  rw [key, IntKind.wrap_i64]
  omega

theorem two_pow_cast (n : Nat) : ((2 ^ n : Nat) : Int) = 2 ^ n := Int.natCast_pow 2 n

theorem pow_le32 {n : Nat} (h : n ≤ 32) : 2 ^ n ≤ 4294967296 := Nat.pow_le_pow_right (n := 2) (by decide) h
theorem pow_le63 {n : Nat} (h : n ≤ 63) : 2 ^ n ≤ 9223372036854775808 := Nat.pow_le_pow_right (n := 2) (by decide) h

theorem u64_low (v n : Nat) (hv : v < 18446744073709551616) (hn : n ≤ 32) :
    bits .and .u64 (v : Int) (IntKind.u64.wrap (IntKind.u64.wrap (2 ^ n) - 1)) = ((v % 2 ^ n : Nat) : Int) := by
  have hp := pow_le32 hn
  have h1 : 1 ≤ 2 ^ n := Nat.one_le_two_pow
  have e : IntKind.u64.wrap (IntKind.u64.wrap (2 ^ n) - 1) = ((2 ^ n - 1 : Nat) : Int) := by
    rw [← two_pow_cast]
    have e1 : IntKind.u64.wrap ((2 ^ n : Nat) : Int) = ((2 ^ n : Nat) : Int) := IntWalk.u64_in _ ⟨by omega, by omega⟩
    rw [e1, IntWalk.u64_in _ ⟨by omega, by omega⟩]
    omega
  rw [e, u64_and_nat _ _ hv (by omega), Nat.and_two_pow_sub_one_eq_mod]

theorem u32_low (v n : Nat) (hv : v < 4294967296) (hn : n < 32) :
    bits .and .u32 (v : Int) (IntKind.u32.wrap (IntKind.u32.wrap (2 ^ n) - 1)) = ((v % 2 ^ n : Nat) : Int) := by
  have hp : 2 ^ n ≤ 2147483648 := Nat.pow_le_pow_right (n := 2) (i := n) (j := 31) (by omega) (by omega)
  have h1 : 1 ≤ 2 ^ n := Nat.one_le_two_pow
  have e : IntKind.u32.wrap (IntKind.u32.wrap (2 ^ n) - 1) = ((2 ^ n - 1 : Nat) : Int) := by
    rw [← two_pow_cast]
    have e1 : IntKind.u32.wrap ((2 ^ n : Nat) : Int) = ((2 ^ n : Nat) : Int) := IntWalk.u32_in _ ⟨by omega, by omega⟩
    rw [e1, IntWalk.u32_in _ ⟨by omega, by omega⟩]
    omega
  rw [e, u32_and_nat _ _ hv (by omega), Nat.and_two_pow_sub_one_eq_mod]

theorem u32_low' (v n : Nat) (hv : v < 4294967296) (hn : n < 32) :
    bits .and .u32 (v : Int) ((2 ^ n - 1) % 4294967296) = ((v % 2 ^ n : Nat) : Int) := by
  have hp : 2 ^ n ≤ 2147483648 := Nat.pow_le_pow_right (n := 2) (i := n) (j := 31) (by omega) (by omega)
  have h1 : 1 ≤ 2 ^ n := Nat.one_le_two_pow
  have e : ((2 : Int) ^ n - 1) % 4294967296 = ((2 ^ n - 1 : Nat) : Int) := by
    rw [← two_pow_cast]; omega
  rw [e, u32_and_nat _ _ hv (by omega), Nat.and_two_pow_sub_one_eq_mod]

/-- A number laid above another: or is plus. -/
theorem u64_join (a b k : Nat) (ha : a < 2 ^ k) (hs : a + b * 2 ^ k < 18446744073709551616) :
    bits .or .u64 (a : Int) ((b * 2 ^ k : Nat) : Int) = ((a + b * 2 ^ k : Nat) : Int) := by
  rw [u64_or_nat _ _ (by omega) (by omega), or_of_lt ha]
theorem u32_join (a b k : Nat) (ha : a < 2 ^ k) (hs : a + b * 2 ^ k < 4294967296) :
    bits .or .u32 (a : Int) ((b * 2 ^ k : Nat) : Int) = ((a + b * 2 ^ k : Nat) : Int) := by
  rw [u32_or_nat _ _ (by omega) (by omega), or_of_lt ha]

theorem pow_le40 {n : Nat} (h : n ≤ 40) : 2 ^ n ≤ 1099511627776 := Nat.pow_le_pow_right (n := 2) (by decide) h

/-- One byte more laid above the bytes so far. -/
theorem u64_byte (l : List UInt8) (j : Nat) (hj : j < 5) (hl : j < l.length) :
    bits .or .u64 (num (l.take j) : Nat) (IntKind.u64.wrap (IntKind.u64.wrap (l[j].toNat : Int) * 2 ^ (8 * j))) = (num (l.take (j + 1)) : Nat) := by
  have hb := l[j].toNat_lt
  have hp : 2 ^ (8 * (j + 1)) ≤ 1099511627776 := pow_le40 (by omega)
  have hq : 2 ^ (8 * (j + 1)) = 256 * 2 ^ (8 * j) := by rw [show 8 * (j + 1) = 8 * j + 8 from by omega, Nat.pow_add]; omega
  have hlen : (l.take j).length = j := by simp; omega
  have hn : num (l.take j) < 2 ^ (8 * j) := by have := num_lt (l.take j); rwa [hlen, pow_256] at this
  have hm : l[j].toNat * 2 ^ (8 * j) ≤ 255 * 2 ^ (8 * j) := Nat.mul_le_mul_right _ (by omega)
  have hs : num (l.take (j + 1)) = num (l.take j) + l[j].toNat * 2 ^ (8 * j) := by
    rw [List.take_succ_eq_append_getElem hl, num_snoc, hlen, pow_256, Nat.mul_comm]
  have e1 : IntKind.u64.wrap (l[j].toNat : Int) = (l[j].toNat : Int) := IntWalk.u64_in _ ⟨by omega, by omega⟩
  have e2 : IntKind.u64.wrap ((l[j].toNat : Int) * 2 ^ (8 * j)) = ((l[j].toNat * 2 ^ (8 * j) : Nat) : Int) := by
    rw [← two_pow_cast, ← Int.natCast_mul]; exact IntWalk.u64_in _ ⟨by omega, by omega⟩
  rw [e1, e2, u64_join _ _ _ hn (by omega), hs]

theorem ret_int {k : IntKind} {a b : Int} (h : a = b) : Ending.returned (.int k a) = .returned (.int k b) := by rw [h]
theorem ret_int_bool {k : IntKind} {a b : Int} {c d : Bool} (h : a = b) (h' : c = d) :
    Ending.returned (.tuple #[.int k a, .bool c]) = .returned (.tuple #[.int k b, .bool d]) := by rw [h, h']
theorem ret_bool {a b : Bool} (h : a = b) : Ending.returned (.bool a) = .returned (.bool b) := by rw [h]

end Go.Proofs.YtlknhiihdejpeaaGreatDoor


namespace Go.Proofs.YtlknhiihdejpeaaGreatDoor
open Go Go.RowKit

set_option maxHeartbeats 400000 in
theorem lowest_any (v : Int) (V n : Nat) (w : World) (hV : v = V) (hv : V < 18446744073709551616) (hn : n ≤ 32) :
    Calls Tryz.prog 54 #[.int .u64 v, .int .i64 n] w fun e w' => e = .returned (.int .u64 ((V % 2 ^ n : Nat) : Int)) ∧ w = w' := by
  subst hV
  go_enter Tryz.func54, Tryz.ntmps54
  go_wp2
  go_ret
  exact ⟨ret_int (u64_low V n hv hn), rfl⟩

set_option maxHeartbeats 400000 in
theorem at_any (g : Nat) (v : Value) (k : Int) (w : World) (h : Has w g 163 #[v, .int .i64 k]) :
    Calls Tryz.prog 87 #[.pointer (some ⟨g, 0, none⟩)] w fun e w' => e = .returned (.int .i64 k) ∧ w = w' := by
  have c1 : w.cell? ⟨g, 1, none⟩ = some (.int .i64 k) := h.cell 1
  have c0 : w.cell? ⟨g, 0, none⟩ = some v := h.cell 0
  clear h
  go_enter Tryz.func87, Tryz.ntmps87
  go_wp2
  go_ret
  exact ⟨rfl, rfl⟩

set_option maxHeartbeats 400000 in
theorem left_any (g n c : Nat) (A : Option Addr) (k : Nat) (w : World) (h : Has w g 163 #[.slice A n c, .int .i64 k]) (hn : n ≤ 140737488355328) (hk : k ≤ 8 * n) :
    Calls Tryz.prog 94 #[.pointer (some ⟨g, 0, none⟩)] w fun e w' => e = .returned (.int .i64 ((8 * n - k : Nat) : Int)) ∧ ∃ m, w' = w.drewN m := by
  have c1 : w.cell? ⟨g, 1, none⟩ = some (.int .i64 (k : Int)) := h.cell 1
  have c0 : w.cell? ⟨g, 0, none⟩ = some (.slice A n c) := h.cell 0
  clear h
  go_enter Tryz.func94, Tryz.ntmps94
  go_wp2
  go_quiet (fail)
  go_wp2
  go_ret
  exact ⟨ret_int (by omega), _, rfl⟩

set_option maxHeartbeats 400000 in
/-- Peek, where it answers no. -/
theorem peek_no (g len c : Nat) (A : Option Addr) (k : Nat) (n : Int) (w : World) (h : Has w g 163 #[.slice A len c, .int .i64 k]) (hl : len ≤ 140737488355328) (hk : k ≤ 8 * len)
    (hn : n < 0 ∨ 32 < n ∨ (8 * len - k : Nat) < n) :
    Calls Tryz.prog 91 #[.pointer (some ⟨g, 0, none⟩), .int .i64 n] w fun e w' => e = .returned (.tuple #[.int .u32 0, .bool false]) ∧ ∃ m, w' = w.drewN m := by
  by_cases h1 : n < 0
  · go_enter Tryz.func91, Tryz.ntmps91
    go_wp2
    go_ret2
    exact ⟨rfl, 0, rfl⟩
  · by_cases h2 : 32 < n
    · go_enter Tryz.func91, Tryz.ntmps91
      go_wp2
      go_ret2
      exact ⟨rfl, 0, rfl⟩
    · have h3 : ((8 * len - k : Nat) : Int) < n := by omega
      go_enter Tryz.func91, Tryz.ntmps91
      go_wp2_with fail
      refine (left_any g len c A k _ h hl hk).mono ?_
      rintro e w' ⟨rfl, m, rfl⟩
      go_wp2
      go_ret2
      exact ⟨rfl, m, rfl⟩
end Go.Proofs.YtlknhiihdejpeaaGreatDoor


namespace Go.Proofs.YtlknhiihdejpeaaGreatDoor
open Go Go.RowKit

set_option maxHeartbeats 1000000 in
theorem peek_yes (g len c gb off : Nat) (l : List UInt8) (k n : Nat) (w : World) (h : Has w g 163 #[.slice (some ⟨gb, off, none⟩) len c, .int .i64 k])
    (hlen : l.length = len) (hl : len ≤ 140737488355328) (hc : len ≤ c)
    (hcell : ∀ i, (hi : i < l.length) → w.cell? ⟨gb, off + i, none⟩ = some (.int .u8 (l[i].toNat : Int)))
    (hn : n ≤ 32) (hk : k + n ≤ 8 * len) (hz : ¬ (k + n + 7) / 8 = k / 8) :
    Calls Tryz.prog 91 #[.pointer (some ⟨g, 0, none⟩), .int .i64 n] w fun e w' =>
      e = .returned (.tuple #[.int .u32 (bitsOf (num l) k n : Nat), .bool true]) ∧ ∃ m, w' = w.drewN m := by
  have c1 : w.cell? ⟨g, 1, none⟩ = some (.int .i64 (k : Int)) := h.cell 1
  have c0 : w.cell? ⟨g, 0, none⟩ = some (.slice (some ⟨gb, off, none⟩) len c) := h.cell 0
  have h3 : ¬ ((8 * len - k : Nat) : Int) < n := by omega
  clear h3
  go_enter Tryz.func91, Tryz.ntmps91
  go_wp2_with fail
  refine (left_any g len c _ k _ h hl (by omega)).mono ?_
  rintro e w' ⟨rfl, m, rfl⟩
  go_wp2
  go_quiet (fail)
  go_wp2
  go_loop [8, 9, 10, 45] (fun v _ _ i => ∃ j : Nat, j ≤ (k + n + 7) / 8 - k / 8 ∧ i = .int .i64 j ∧ v = .int .u64 (num ((l.drop (k / 8)).take j) : Nat)) (fun _ _ _ i => (k + n + 7) / 8 - k / 8 - (intOf i).toNat)
  case atStart => exact ⟨0, Nat.zero_le _, rfl, rfl⟩
  case round =>
    obtain ⟨j, hj, rfl, rfl⟩ := hrel
    by_cases hlt : j < (k + n + 7) / 8 - k / 8
    · have hce : w.cell? ⟨gb, off + k / 8 + j, none⟩ = some (.int .u8 ((l[k / 8 + j]'(by omega)).toNat : Int)) := by
        rw [Nat.add_assoc]; exact hcell _ (by omega)
      have hst := u64_byte (l.drop (k / 8)) j (by omega) (by rw [List.length_drop]; omega)
      rw [List.getElem_drop] at hst
      have Hst := hide hst
      clear hst
      go_wp2
      go_round
      case rel => exact ⟨j + 1, hlt, by go_num, by rw [Hst.out]⟩
      case measure => simp [intOf]; omega
    · obtain rfl : j = (k + n + 7) / 8 - k / 8 := by omega
      clear hlt
      have e7 : bits BinOp.and IntKind.i64 (k : Int) 7 = ((k % 8 : Nat) : Int) := by rw [i64_and7]; rfl
      have hb := num_lt ((l.drop (k / 8)).take ((k + n + 7) / 8 - k / 8))
      have hl5 : ((l.drop (k / 8)).take ((k + n + 7) / 8 - k / 8)).length ≤ 5 := by rw [List.length_take]; omega
      have hb5 : num ((l.drop (k / 8)).take ((k + n + 7) / 8 - k / 8)) < 1099511627776 :=
        Nat.lt_of_lt_of_le hb (by rw [pow_256]; exact pow_le40 (by omega))
      have hd := Nat.div_le_self (num ((l.drop (k / 8)).take ((k + n + 7) / 8 - k / 8))) (2 ^ (k % 8))
      obtain ⟨X, hX⟩ : ∃ X, X = bitsOf (num l) k n := ⟨_, rfl⟩
      have hlt : X < 4294967296 := by rw [hX]; exact bitsOf_lt32 _ _ _ hn
      have hcut : num ((l.drop (k / 8)).take ((k + n + 7) / 8 - k / 8)) / 2 ^ (k % 8) % 2 ^ n = X := by
        rw [hX]; exact bitsOf_cut l k n (k / 8) ((k + n + 7) / 8) rfl rfl
      have HX := hide hX
      clear hX
      generalize num ((l.drop (k / 8)).take ((k + n + 7) / 8 - k / 8)) = V at *
      have Hcut := hide hcut
      clear hcut hb hl5
      go_wp2_with fail
      refine (lowest_any _ (V / 2 ^ (k % 8)) n _ (by simp) (by omega) hn).mono ?_
      rintro e w' ⟨rfl, rfl⟩
      rw [Hcut.out]
      go_wp2
      go_ret2
      exact ⟨ret_int_bool (by rw [HX.out]) rfl, _, rfl⟩

set_option maxHeartbeats 1000000 in
theorem peek_zero (g len c : Nat) (A : Option Addr) (k : Nat) (w : World) (h : Has w g 163 #[.slice A len c, .int .i64 k])
    (hl : len ≤ 140737488355328) (hc : len ≤ c) (hA : A = none → c = 0) (hk : k ≤ 8 * len) (h8 : k % 8 = 0) :
    Calls Tryz.prog 91 #[.pointer (some ⟨g, 0, none⟩), .int .i64 0] w fun e w' =>
      e = .returned (.tuple #[.int .u32 0, .bool true]) ∧ ∃ m, w' = w.drewN m := by
  have c1 : w.cell? ⟨g, 1, none⟩ = some (.int .i64 (k : Int)) := h.cell 1
  have c0 : w.cell? ⟨g, 0, none⟩ = some (.slice A len c) := h.cell 0
  have hz : (k + 7) / 8 = k / 8 := by omega
  have e7 : bits BinOp.and IntKind.i64 (k : Int) 7 = 0 := by rw [i64_and7]; omega
  rcases A with _ | ad
  · obtain rfl := hA rfl
    obtain rfl : len = 0 := by omega
    obtain rfl : k = 0 := by omega
    clear hA e7
    have e7 : bits BinOp.and IntKind.i64 0 7 = 0 := i64_and7 0
    go_enter Tryz.func91, Tryz.ntmps91
    go_wp2_with fail
    refine (left_any g 0 0 none 0 _ h hl (by omega)).mono ?_
    rintro e w' ⟨rfl, m, rfl⟩
    go_wp2
    go_quiet (fail)
    go_wp2
    go_loop [8, 9, 10, 45] (fun v _ _ i => v = .int .u64 0 ∧ i = .int .i64 0) (fun _ _ _ _ => 0)
    case atStart => exact ⟨rfl, rfl⟩
    case round =>
      obtain ⟨rfl, rfl⟩ := hrel
      go_wp2_with fail
      refine (lowest_any _ 0 0 _ (by simp) (by omega) (by omega)).mono ?_
      rintro e w' ⟨rfl, rfl⟩
      go_wp2
      go_ret2
      exact ⟨rfl, _, rfl⟩
  · clear hA
    go_enter Tryz.func91, Tryz.ntmps91
    go_wp2_with fail
    refine (left_any g len c (some ad) k _ h hl (by omega)).mono ?_
    rintro e w' ⟨rfl, m, rfl⟩
    go_wp2
    go_quiet (fail)
    go_wp2
    go_loop [8, 9, 10, 45] (fun v _ _ i => v = .int .u64 0 ∧ i = .int .i64 0) (fun _ _ _ _ => 0)
    case atStart => exact ⟨rfl, rfl⟩
    case round =>
      obtain ⟨rfl, rfl⟩ := hrel
      go_wp2_with fail
      refine (lowest_any _ 0 0 _ (by simp) (by omega) (by omega)).mono ?_
      rintro e w' ⟨rfl, rfl⟩
      go_wp2
      go_ret2
      exact ⟨rfl, _, rfl⟩
end Go.Proofs.YtlknhiihdejpeaaGreatDoor


namespace Go.Proofs.YtlknhiihdejpeaaGreatDoor
open Go Go.RowKit

/-- Block g is a bits.Reader over the bytes l (its own row, the slice v), k bits passed. -/
def Rd (w : World) (g : Nat) (v : Value) (l : List UInt8) (k : Nat) : Prop :=
  Has w g 163 #[v, .int .i64 k] ∧ w.ownsRow 0 5 1 v l.length (bvals l) ∧ l.length ≤ 140737488355328 ∧ k ≤ 8 * l.length

theorem own_cells {w : World} {base e c n : Nat} {A : Option Addr} {l : List UInt8} (h : w.ownsRow base e 1 (.slice A n c) n (bvals l)) {i : Nat} (hi : i < l.length) :
    ∃ gb, A = some ⟨gb, 0, none⟩ ∧ ∀ j, (hj : j < l.length) → w.cell? ⟨gb, 0 + j, none⟩ = some (.int .u8 (l[j].toNat : Int)) := by
  rcases h.2 with ⟨hv, rfl⟩ | ⟨g, cap, cur, hv, hb, hg, hc, hm, hs, ht⟩
  · have := h.1; rw [bvals_length] at this; omega
  · injection hv with hA hn hcap
    subst hA
    refine ⟨g, rfl, fun j hj => ?_⟩
    rw [cell_of_row w g (0 + j) cur e (0, 0) hg]
    have hl := h.1; rw [bvals_length] at hl
    have h1 : (cur.toList.take (n * 1))[j]? = (bvals l)[j]? := by rw [ht]
    rw [List.getElem?_take_of_lt (by omega), bvals_get l j hj] at h1
    simpa using h1

theorem Rd.only {w w' : World} {g : Nat} {v : Value} {l : List UInt8} {k : Nat} {S : List Nat} (h : Rd w g v l k) (ho : Only S w w') (hg : g ∉ S) (hv : ∀ b, v.ownBlock = some b → b ∉ S) : Rd w' g v l k := by
  refine ⟨h.1.only ho hg, ?_, h.2.2⟩
  obtain ⟨h1, h2⟩ := h.2.1
  refine ⟨h1, ?_⟩
  rcases h2 with h2 | ⟨gb, cap, cur, hv', hb, hgb, r⟩
  · exact .inl h2
  · refine .inr ⟨gb, cap, cur, hv', hb, ?_, r⟩
    have hlt : gb < w.heap.size := Has.lt (cs := cur) hgb
    rw [ho.block gb hlt (hv gb (by rw [hv']; rfl))]; exact hgb

def okBits (len k : Nat) (n : Int) : Bool := decide (0 ≤ n ∧ n ≤ 32 ∧ n ≤ ((8 * len - k : Nat) : Int))
def gotBits (l : List UInt8) (k : Nat) (n : Int) : Nat := if okBits l.length k n then bitsOf (num l) k n.toNat else 0

theorem peek_any (g : Nat) (v : Value) (l : List UInt8) (k : Nat) (n : Int) (w : World) (h : Rd w g v l k) :
    Calls Tryz.prog 91 #[.pointer (some ⟨g, 0, none⟩), .int .i64 n] w fun e w' =>
      e = .returned (.tuple #[.int .u32 (gotBits l k n : Nat), .bool (okBits l.length k n)]) ∧ ∃ m, w' = w.drewN m := by
  obtain ⟨hh, hown, hl, hk⟩ := h
  obtain ⟨A, c, rfl, hc, hA⟩ := own_shape hown
  unfold gotBits
  by_cases hok : 0 ≤ n ∧ n ≤ 32 ∧ n ≤ ((8 * l.length - k : Nat) : Int)
  · have hb : okBits l.length k n = true := by simp only [okBits, decide_eq_true_eq]; exact hok
    rw [hb, if_pos rfl]
    obtain ⟨h0, h1, h2⟩ := hok
    obtain ⟨n, rfl⟩ := Int.eq_ofNat_of_zero_le h0
    rw [Int.toNat_natCast]
    by_cases hz : (k + n + 7) / 8 = k / 8
    · obtain rfl : n = 0 := by omega
      rw [bitsOf_zero]
      exact peek_zero g l.length c A k w hh hl hc hA hk (by omega)
    · obtain ⟨gb, rfl, hcell⟩ := own_cells hown (i := 0) (by omega)
      exact peek_yes g l.length c gb 0 l k n w hh rfl hl hc hcell (by omega) (by omega) hz
  · have hb : okBits l.length k n = false := by simp only [okBits, decide_eq_false_iff_not]; exact hok
    rw [hb, if_neg (by simp)]
    exact peek_no g l.length c A k n w hh hl hk (by omega)

theorem Rd.drewN {w : World} {g : Nat} {v : Value} {l : List UInt8} {k : Nat} (h : Rd w g v l k) (m : Nat) : Rd (w.drewN m) g v l k := h

theorem Rd.set {w : World} {g : Nat} {v : Value} {l : List UInt8} {k j : Nat} (h : Rd w g v l k) (hj : j ≤ 8 * l.length) : Rd (w.setCell ⟨g, 1, none⟩ (.int .i64 j)) g v l j := by
  refine ⟨by simpa using h.1.set 1 (.int .i64 j), ?_, h.2.2.1, hj⟩
  refine ownsRow_setCell_other h.2.1 ?_ _
  intro hb
  obtain ⟨_, h2⟩ := h.2.1
  rcases h2 with ⟨rfl, _⟩ | ⟨gb, cap, cur, rfl, _, hg, _⟩
  · cases hb
  · have : gb = g := by simpa [Value.ownBlock] using hb
    subst this
    have h1 := h.1
    unfold Has at h1
    rw [hg] at h1
    injection h1 with h1
    injection h1 with _ ht
    exact absurd ht (by decide)

set_option maxHeartbeats 400000 in
theorem bits_any (g : Nat) (v : Value) (l : List UInt8) (k : Nat) (n : Int) (w : World) (hR : Rd w g v l k) :
    Calls Tryz.prog 85 #[.pointer (some ⟨g, 0, none⟩), .int .i64 n] w fun e w' =>
      e = .returned (.tuple #[.int .u32 (gotBits l k n : Nat), .bool (okBits l.length k n)]) ∧ Only [g] w w' ∧ Rd w' g v l (if okBits l.length k n then k + n.toNat else k) := by
  have hk : k ≤ 8 * l.length := hR.2.2.2
  have hl : l.length ≤ 140737488355328 := hR.2.2.1
  by_cases hok : 0 ≤ n ∧ n ≤ 32 ∧ n ≤ ((8 * l.length - k : Nat) : Int)
  · have hb : okBits l.length k n = true := by simp only [okBits, decide_eq_true_eq]; exact hok
    have HP := hide (peek_any g v l k n w hR)
    rw [hb] at HP ⊢
    obtain ⟨h0, h1, h2⟩ := hok
    obtain ⟨n, rfl⟩ := Int.eq_ofNat_of_zero_le h0
    have c1 : w.cell? ⟨g, 1, none⟩ = some (.int .i64 (k : Int)) := hR.1.cell 1
    have f1 : w.frozen? ⟨g, 1, none⟩ = false := hR.1.free 1
    clear hb
    go_enter Tryz.func85, Tryz.ntmps85
    go_wp2_with fail
    refine (HP.out).mono ?_
    rintro e w' ⟨rfl, m, rfl⟩
    go_wp2
    go_ret2
    refine ⟨rfl, ((Only.refl _ _).drewN m).setCell (by simp) _, ?_⟩
    exact (hR.drewN m).set (j := k + n) (by omega)
  · have hb : okBits l.length k n = false := by simp only [okBits, decide_eq_false_iff_not]; exact hok
    have HP := hide (peek_any g v l k n w hR)
    rw [hb] at HP ⊢
    clear hb hok
    go_enter Tryz.func85, Tryz.ntmps85
    go_wp2_with fail
    refine (HP.out).mono ?_
    rintro e w' ⟨rfl, m, rfl⟩
    go_wp2
    go_ret2
    exact ⟨rfl, (Only.refl _ _).drewN m, hR.drewN m⟩
end Go.Proofs.YtlknhiihdejpeaaGreatDoor


namespace Go.Proofs.YtlknhiihdejpeaaGreatDoor
open Go Go.RowKit

theorem u8_info : (Tryz.prog.info? 5).map (fun i => (i.zero, i.size, i.bytes)) = some (some (.int .u8 0), 1, 1) := by kernel_rfl


set_option maxHeartbeats 400000 in
theorem clone_nil (w : World) : Calls Tryz.prog 51 #[.slice none 0 0] w fun e w' => e = .returned (.slice none 0 0) ∧ w = w' := by
  have hn : (binOp .eql 22 (.slice none 0 0) (.slice none 0 0)).run Tryz.prog w = .ok (.bool true) w := by kernel_rfl
  go_enter Tryz.func51, Tryz.ntmps51
  go_wp2_with fail
  go_ret
  exact ⟨rfl, rfl⟩

set_option maxHeartbeats 400000 in
theorem clone_some (ad : Addr) (n c : Nat) (l : List UInt8) (w : World) (h : Holds w 1 (some ad) n (bvals l)) (hn : n ≤ 140737488355328) :
    Calls Tryz.prog 51 #[.slice (some ad) n c] w fun e w' =>
      ∃ v, e = .returned v ∧ w'.ownsRow w.heap.size 5 1 v n (bvals l) ∧ Only [] w w' := by
  obtain ⟨i0, hi0, hz0, hz1, hz2⟩ := info_of u8_info
  have hne : ∀ w : World, (binOp .eql 22 (.slice (some ad) n c) (.slice none 0 0)).run Tryz.prog w = .ok (.bool false) w := fun w => by
    have := Lib.run_eql_slice_nil (P := Tryz.prog) w 22 5 (some ad) n c 0 0 Tryz.underlying22
    simpa using this
  go_enter Tryz.func51, Tryz.ntmps51
  have hempty : (w.alloc (.cells #[] 5)).ownsRow w.heap.size 5 1 (.slice (some ⟨w.heap.size, 0, none⟩) 0 0) 0 [] :=
    World.ownsRow_made w #[] 0 (Nat.le_refl _) (by simp [maxLen]) rfl
  go_wp2_with (at_builtin; refine list_append _ rfl (.tmp 5) (.tmp 6) 22 rfl w.heap.size 1 1 Tryz.underlying22 hi0 hz0 hz1 hz2 rfl (by omega) hempty rfl (h.keep ((Only.refl [] w).alloc _) (by simp)) rfl (bvals_one l) (by omega) (by omega) (by simp) ?_; intro A1 c1 w1 hown1 hg1 hat1)
  go_ret
  refine ⟨_, rfl, by simpa using hown1, ((Only.refl [] w).alloc _).grown hg1 ?_⟩
  intro k hk hlt
  have hk' : w.heap.size = k := by injection hk
  omega

/-- slices.Clone of bytes: a row of the call's own, nil for nil. -/
theorem clone_any (A : Option Addr) (n c : Nat) (l : List UInt8) (w : World) (h : Holds w 1 A n (bvals l)) (hn : n ≤ 140737488355328) (hA : A = none → c = 0 ∧ n = 0) :
    Calls Tryz.prog 51 #[.slice A n c] w fun e w' =>
      ∃ v, e = .returned v ∧ w'.ownsRow w.heap.size 5 1 v n (bvals l) ∧ Only [] w w' := by
  rcases A with _ | ad
  · obtain ⟨rfl, rfl⟩ := hA rfl
    refine (clone_nil w).mono ?_
    rintro e w' ⟨rfl, rfl⟩
    have : bvals l = [] := List.eq_nil_of_length_eq_zero (by rw [h.1])
    rw [this]
    exact ⟨_, rfl, World.ownsRow_nil _ _ _ _, Only.refl _ _⟩
  · exact clone_some ad n c l w h hn
end Go.Proofs.YtlknhiihdejpeaaGreatDoor


namespace Go.Proofs.YtlknhiihdejpeaaGreatDoor
open Go

/-- The product of numbers, on from p; refused where one is below 0 or the product is above 2^40. -/
def mulGo (p : Int) : List Int → Int × Bool
  | [] => (p, true)
  | n :: r => if n < 0 ∨ (0 < p ∧ 1099511627776 / p < n) then (0, false) else mulGo (p * n) r

theorem mulGo_no {p n : Int} {r : List Int} (h : n < 0 ∨ (0 < p ∧ 1099511627776 / p < n)) : mulGo p (n :: r) = (0, false) := by
  rw [mulGo, if_pos h]
theorem mulGo_yes {p n : Int} {r : List Int} (h : ¬ (n < 0 ∨ (0 < p ∧ 1099511627776 / p < n))) : mulGo p (n :: r) = mulGo (p * n) r := by
  rw [mulGo, if_neg h]

theorem mul_fits {p n : Int} (hp : 0 ≤ p) (hp1 : p ≤ 1099511627776) (hn : 0 ≤ n) (h : ¬ (0 < p ∧ 1099511627776 / p < n)) : 0 ≤ p * n ∧ p * n ≤ 1099511627776 := by
  refine ⟨Int.mul_nonneg hp hn, ?_⟩
  by_cases h0 : 0 < p
  · have h1 : n ≤ 1099511627776 / p := by
      have : ¬ 1099511627776 / p < n := fun hc => h ⟨h0, hc⟩
      omega
    calc p * n ≤ p * (1099511627776 / p) := Int.mul_le_mul_of_nonneg_left h1 hp
      _ ≤ 1099511627776 := Int.mul_ediv_self_le (by omega)
  · have : p = 0 := by omega
    rw [this, Int.zero_mul]; decide


/-- The lowest n bits of v the other way round. -/
def rev (v : Nat) : Nat → Nat
  | 0 => 0
  | n + 1 => 2 * rev v n + v / 2 ^ n % 2

theorem rev_lt (v n : Nat) : rev v n < 2 ^ n := by
  induction n with
  | zero => simp [rev]
  | succ n ih => rw [rev, Nat.pow_succ]; omega

/-- From the other end: the lowest bit stands highest. -/
theorem rev_low (v n : Nat) : rev v (n + 1) = (v % 2) * 2 ^ n + rev (v / 2) n := by
  induction n generalizing v with
  | zero => simp [rev]
  | succ n ih =>
    have e1 : v / 2 ^ (n + 1) = v / 2 / 2 ^ n := by rw [Nat.div_div_eq_div_mul, Nat.pow_succ, Nat.mul_comm]
    have e2 : v % 2 * 2 ^ (n + 1) = 2 * (v % 2 * 2 ^ n) := by rw [Nat.pow_succ, Nat.mul_comm (2 ^ n) 2, Nat.mul_left_comm]
    rw [rev, ih, rev, e1, e2]
    omega

theorem rev_add_high (v a n : Nat) (h : v < 2 ^ n) : rev (v + a * 2 ^ n) n = rev v n := by
  induction n generalizing v a with
  | zero => rfl
  | succ n ih =>
    rw [rev_low, rev_low]
    have e : v + a * 2 ^ (n + 1) = v + 2 * (a * 2 ^ n) := by rw [Nat.pow_succ]; rw [Nat.mul_comm (2 ^ n) 2, Nat.mul_left_comm]
    have e1 : (v + 2 * (a * 2 ^ n)) % 2 = v % 2 := by omega
    have e2 : (v + 2 * (a * 2 ^ n)) / 2 = v / 2 + a * 2 ^ n := by omega
    rw [e, e1, e2, ih]
    rw [Nat.pow_succ] at h; omega

theorem rev_rev (v n : Nat) : rev (rev v n) n = v % 2 ^ n := by
  induction n generalizing v with
  | zero => simp [rev, Nat.mod_one]
  | succ n ih =>
    have hl := rev_lt (v / 2) n
    rw [rev_low v n, rev, Nat.add_comm ((v % 2) * 2 ^ n), rev_add_high _ _ _ hl, ih]
    have e : (rev (v / 2) n + v % 2 * 2 ^ n) / 2 ^ n = v % 2 := by
      rw [Nat.add_mul_div_right _ _ (Nat.two_pow_pos n), Nat.div_eq_of_lt hl]; omega
    rw [e, Nat.pow_succ, Nat.mul_comm (2 ^ n) 2, Nat.mod_mul]
    omega

theorem u32_and1 (v : Nat) (h : v < 4294967296) : bits .and .u32 (v : Int) 1 = ((v % 2 : Nat) : Int) := by
  have := u32_and_nat v 1 h (by omega)
  rw [Nat.and_one_is_mod] at this
  exact this

theorem u32_or1 (a b : Nat) (hb : b < 2) (h : a * 2 + b < 4294967296) : bits .or .u32 ((a : Int) * 2) (b : Int) = ((2 * a + b : Nat) : Int) := by
  have e := u32_join b a 1 (by omega) (by omega)
  have e2 : bits .or .u32 ((a : Int) * 2) (b : Int) = bits .or .u32 (b : Int) ((a : Int) * 2) := by simp only [bits, BitVec.or_comm]
  rw [e2]
  have e3 : (((a * 2 ^ 1 : Nat)) : Int) = (a : Int) * 2 := by omega
  rw [e3] at e
  rw [e]; omega

theorem u32_hi (a b k : Nat) (ha : a < 2 ^ k) (hs : a + b * 2 ^ k < 4294967296) : bits .or .u32 ((b * 2 ^ k : Nat) : Int) (a : Int) = ((b * 2 ^ k + a : Nat) : Int) := by
  have e : bits .or .u32 ((b * 2 ^ k : Nat) : Int) (a : Int) = bits .or .u32 (a : Int) ((b * 2 ^ k : Nat) : Int) := by simp only [bits, BitVec.or_comm]
  rw [e, u32_join a b k ha hs, Nat.add_comm]

theorem u32_four (x0 x1 x2 x3 : Nat) (h0 : x0 < 256) (h1 : x1 < 256) (h2 : x2 < 256) (h3 : x3 < 256) :
    bits .or .u32 (bits .or .u32 (bits .or .u32 ((x0 : Int) * 16777216) ((x1 : Int) * 65536)) ((x2 : Int) * 256)) (x3 : Int) = ((x0 * 16777216 + x1 * 65536 + x2 * 256 + x3 : Nat) : Int) := by
  have e1 : bits .or .u32 ((x0 : Int) * 16777216) ((x1 : Int) * 65536) = ((x0 * 16777216 + x1 * 65536 : Nat) : Int) := by
    have := u32_hi (x1 * 65536) x0 24 (by omega) (by omega)
    simpa using this
  have e2 : bits .or .u32 ((x0 * 16777216 + x1 * 65536 : Nat) : Int) ((x2 : Int) * 256) = ((x0 * 16777216 + x1 * 65536 + x2 * 256 : Nat) : Int) := by
    have := u32_hi (x2 * 256) (x0 * 256 + x1) 16 (by omega) (by omega)
    have e : (x0 * 256 + x1) * 2 ^ 16 = x0 * 16777216 + x1 * 65536 := by omega
    rw [e] at this
    simpa using this
  have e3 : bits .or .u32 ((x0 * 16777216 + x1 * 65536 + x2 * 256 : Nat) : Int) (x3 : Int) = ((x0 * 16777216 + x1 * 65536 + x2 * 256 + x3 : Nat) : Int) := by
    have := u32_hi x3 (x0 * 65536 + x1 * 256 + x2) 8 (by omega) (by omega)
    have e : (x0 * 65536 + x1 * 256 + x2) * 2 ^ 8 = x0 * 16777216 + x1 * 65536 + x2 * 256 := by omega
    rw [e] at this
    exact this
  rw [e1, e2, e3]

theorem u32_orbit (a x : Nat) (h : a * 2 + 1 < 4294967296) : bits .or .u32 ((a : Int) * 2) ((x : Int) % 2) = ((2 * a + x % 2 : Nat) : Int) := by
  have e : (x : Int) % 2 = ((x % 2 : Nat) : Int) := by omega
  rw [e]; exact u32_or1 a (x % 2) (by omega) (by omega)

end Go.Proofs.YtlknhiihdejpeaaGreatDoor

