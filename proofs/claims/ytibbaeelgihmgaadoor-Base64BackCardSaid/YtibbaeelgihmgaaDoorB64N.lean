/-
  Plain facts on base64: what Encode tells, and that it comes back.
-/
import Derived.Test.YtibbaeelgihmgaaDoorB64M
namespace Go.Proofs.YtibbaeelgihmgaaDoor
open Go

/-- Up to three bytes as one number of 24 bits. -/
def v3 : List UInt8 → Nat
  | [] => 0
  | [a] => a.toNat * 65536
  | [a, b] => a.toNat * 65536 + b.toNat * 256
  | a :: b :: c :: _ => a.toNat * 65536 + b.toNat * 256 + c.toNat
theorem v3_lt : ∀ l : List UInt8, v3 l < 16777216
  | [] => by simp [v3]
  | [a] => by have := a.toNat_lt; simp [v3]; omega
  | [a, b] => by have := a.toNat_lt; have := b.toNat_lt; simp [v3]; omega
  | a :: b :: c :: _ => by have := a.toNat_lt; have := b.toNat_lt; have := c.toNat_lt; simp [v3]; omega

/-- Sign k of a four. -/
def sgn (l : List UInt8) (k : Nat) : UInt8 := if k ≤ l.length then UInt8.ofNat (abc (v3 l / 2 ^ (18 - 6 * k) % 64)) else 61
def four (l : List UInt8) : List UInt8 := (List.range 4).map (sgn l)
theorem four_length (l : List UInt8) : (four l).length = 4 := by simp [four]
theorem four_take (l : List UInt8) (k : Nat) (hk : k < 4) : (four l).take (k + 1) = (four l).take k ++ [sgn l k] := by
  rw [List.take_succ_eq_append_getElem (by rw [four_length]; exact hk)]
  simp [four]

def enc : List UInt8 → List UInt8
  | [] => []
  | [a] => four [a]
  | [a, b] => four [a, b]
  | a :: b :: c :: r => four [a, b, c] ++ enc r
theorem enc_step : ∀ l : List UInt8, l ≠ [] → enc l = four (l.take 3) ++ enc (l.drop 3)
  | [], h => absurd rfl h
  | [a], _ => by simp [enc]
  | [a, b], _ => by simp [enc]
  | a :: b :: c :: r, _ => by simp [enc]
theorem enc_length : ∀ l : List UInt8, (enc l).length = (l.length + 2) / 3 * 4
  | [] => by simp [enc]
  | [a] => by simp [enc, four_length]
  | [a, b] => by simp [enc, four_length]
  | a :: b :: c :: r => by simp [enc, four_length, enc_length r]; omega
end Go.Proofs.YtibbaeelgihmgaaDoor
