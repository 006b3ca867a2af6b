/-
  Package filter: one sample of a row.
-/
import Derived.Test.YtopjkmobnmaaaaaFiE
import Derived.Test.YtopjkmobnmaaaaaFiF
namespace Go.Proofs.Ytopjkmobnmaaaaa
open Go Go.RowKit

theorem cell8 {w : World} {bb oo : Nat} {l : List UInt8} (h : ∀ j u, (bvals l)[j]? = some u → w.cell? ⟨bb, oo + j, none⟩ = some u) {i : Nat} (hi : i < l.length) : w.cell? ⟨bb, oo + i, none⟩ = some (.int .u8 ((l.getD i 0).toNat : Int)) :=
  h i _ (by rw [bvals_get l i hi, List.getD_eq_getElem?_getD, List.getElem?_eq_getElem hi]; rfl)

theorem i64_or_low (a b : Nat) (hb : b < 256) (ha : a < 256) : bits .or .i64 ((a * 256 : Nat) : Int) (b : Int) = ((a * 256 + b : Nat) : Int) := by
  have e1 : (BitVec.ofInt 64 ((a * 256 : Nat) : Int)).toNat = a * 256 := by rw [BitVec.toNat_ofInt]; omega
  have e2 : (BitVec.ofInt 64 (b : Int)).toNat = b := by rw [BitVec.toNat_ofInt]; omega
  have key : (BitVec.ofInt 64 ((a * 256 : Nat) : Int) ||| BitVec.ofInt 64 (b : Int)).toNat = a * 256 + b := by
    rw [BitVec.toNat_or, e1, e2, Nat.or_comm, show a * 256 = a * 2 ^ 8 from rfl, or_of_lt (show b < 2 ^ 8 by omega)]
    omega
  show IntKind.i64.wrap ((BitVec.ofInt 64 ((a * 256 : Nat) : Int) ||| BitVec.ofInt 64 (b : Int)).toNat : Nat) = _
  rw [key, IntKind.wrap_i64]
  omega
theorem i64_low (v n : Nat) (hv : v < 256) (hn : n ≤ 8) : bits .and .i64 (v : Int) ((2 ^ n - 1 : Nat) : Int) = ((v % 2 ^ n : Nat) : Int) := by
  have hp : 2 ^ n ≤ 256 := Nat.pow_le_pow_right (n := 2) (i := n) (j := 8) (by omega) hn
  have h1 : 1 ≤ 2 ^ n := Nat.one_le_two_pow
  have e1 : (BitVec.ofInt 64 (v : Int)).toNat = v := by rw [BitVec.toNat_ofInt]; omega
  have e2 : (BitVec.ofInt 64 ((2 ^ n - 1 : Nat) : Int)).toNat = 2 ^ n - 1 := by rw [BitVec.toNat_ofInt]; omega
  have key : (BitVec.ofInt 64 (v : Int) &&& BitVec.ofInt 64 ((2 ^ n - 1 : Nat) : Int)).toNat = v % 2 ^ n := by
    rw [BitVec.toNat_and, e1, e2, Nat.and_two_pow_sub_one_eq_mod]
  show IntKind.i64.wrap ((BitVec.ofInt 64 (v : Int) &&& BitVec.ofInt 64 ((2 ^ n - 1 : Nat) : Int)).toNat : Nat) = _
  rw [key, IntKind.wrap_i64]
  have : v % 2 ^ n ≤ v := Nat.mod_le _ _
  omega
theorem wr64 {z : Int} {n : Nat} (h : z = (n : Int)) (hn : n ≤ 4611686018427387904) : wrap64 z = (n : Int) ∧ IntKind.i64.wrap z = (n : Int) := by
  subst h
  exact ⟨IntWalk.wrap64_in _ ⟨by omega, by omega⟩, by rw [IntKind.wrap_i64]; omega⟩

set_option maxRecDepth 100000 in
set_option maxHeartbeats 4000000 in
theorem sample16 (A : Option Addr) (n c i : Nat) (l : List UInt8) (w : World) (hb : Holds w 1 A n (bvals l)) (hl : l.length = n) (hi : 2 * i + 2 ≤ n) (hn : n ≤ 100000000) :
    Calls Try.prog 28 #[.slice A n c, .int .i64 16, .int .i64 (i : Int)] w fun e w' => e = .returned (.int .i64 ((smp l 16 i 16 : Nat) : Int)) ∧ Only [] w w' := by
  obtain ⟨bb, oo, rfl, hc⟩ := hb.addr (by rw [bvals_length]; omega)
  obtain ⟨p, hp⟩ : ∃ p, p = 2 * i := ⟨_, rfl⟩
  have c0 := cell8 hc (i := p) (by omega)
  have c1 := cell8 hc (i := p + 1) (by omega)
  have e : smp l 16 i 16 = (l.getD p 0).toNat * 256 + (l.getD (p + 1) 0).toNat := by rw [smp_16, ← hp]
  rw [e]
  have hx := (l.getD p 0).toNat_lt
  have hy := (l.getD (p + 1) 0).toNat_lt
  generalize (l.getD p 0).toNat = x at *
  generalize (l.getD (p + 1) 0).toNat = y at *
  have V1 := hide (wr64 (z := 2 * (i : Int)) (n := p) (by omega) (by omega))
  have V2 := hide (wr64 (z := (p : Int) + 1) (n := p + 1) (by omega) (by omega))
  have V3 := hide (wr64 (z := (x : Int)) (n := x) rfl (by omega))
  have V4 := hide (wr64 (z := (y : Int)) (n := y) rfl (by omega))
  have V5 := hide (wr64 (z := (x : Int) * 256) (n := x * 256) (by omega) (by omega))
  have hor := i64_or_low x y (by omega) (by omega)
  obtain ⟨z, hz⟩ : ∃ z, z = x * 256 + y := ⟨_, rfl⟩
  rw [← hz] at hor ⊢
  obtain ⟨r, hr⟩ : ∃ r, r = p + 1 := ⟨_, rfl⟩
  rw [← hr] at c1 V2
  obtain ⟨t, ht⟩ : ∃ t, t = x * 256 := ⟨_, rfl⟩
  rw [← ht] at hor V5
  have i0 : p < n := by omega
  have i1 : r < n := by omega
  clear hp e hc hb hl hi hn hx hy hz hr ht
  obtain ⟨v1, u1⟩ := V1.out
  obtain ⟨v2, u2⟩ := V2.out
  obtain ⟨v3, u3⟩ := V3.out
  obtain ⟨v4, u4⟩ := V4.out
  obtain ⟨v5, u5⟩ := V5.out
  clear V1 V2 V3 V4 V5
  go_enter Try.func28, Try.ntmps28
  go_wp2_with fail
  go_quiet (fail)
  go_wp2_with fail
  go_ret
  exact ⟨rfl, (Only.refl [] w).drewN nq⟩

set_option maxRecDepth 100000 in
set_option maxHeartbeats 4000000 in
theorem sample8 (d : Nat) (hd : d = 1 ∨ d = 2 ∨ d = 4 ∨ d = 8) (A : Option Addr) (n c i : Nat) (l : List UInt8) (w : World) (hb : Holds w 1 A n (bvals l)) (hl : l.length = n) (hi : i * d + d ≤ 8 * n) (hn : n ≤ 100000000) :
    Calls Try.prog 28 #[.slice A n c, .int .i64 (d : Int), .int .i64 (i : Int)] w fun e w' => e = .returned (.int .i64 ((smp l d i d : Nat) : Int)) ∧ Only [] w w' := by
  obtain ⟨bb, oo, rfl, hc⟩ := hb.addr (by rw [bvals_length]; omega)
  obtain ⟨f, hf⟩ : ∃ f, f = i * d := ⟨_, rfl⟩
  obtain ⟨r, hr⟩ : ∃ r, r = f % 8 := ⟨_, rfl⟩
  obtain ⟨q, hq⟩ : ∃ q, q = f / 8 := ⟨_, rfl⟩
  have hrd : r + d ≤ 8 := by
    rcases hd with rfl | rfl | rfl | rfl <;> omega
  obtain ⟨b, hb2⟩ : ∃ b, b = 8 - r - d := ⟨_, rfl⟩
  have c0 := cell8 hc (i := q) (by omega)
  have e : smp l d i d = (l.getD q 0).toNat / 2 ^ b % 2 ^ d := by rw [smp_in l d i d (by rw [← hf, ← hr]; omega), ← hf, ← hr, ← hq, ← hb2]
  rw [e]
  have hx := (l.getD q 0).toNat_lt
  generalize (l.getD q 0).toNat = x at *
  have hyx : x / 2 ^ b ≤ x := Nat.div_le_self _ _
  obtain ⟨y, hy⟩ : ∃ y, y = x / 2 ^ b := ⟨_, rfl⟩
  have eD : (x : Int) / 2 ^ b = (y : Int) := by rw [hy]; simp
  rw [← hy] at hyx ⊢
  have hand := i64_low y d (by omega) (by omega)
  have hfn : f ≤ 800000000 := by omega
  have hm : (2 : Nat) ^ d - 1 = 1 ∨ (2 : Nat) ^ d - 1 = 3 ∨ (2 : Nat) ^ d - 1 = 15 ∨ (2 : Nat) ^ d - 1 = 255 := by rcases hd with rfl | rfl | rfl | rfl <;> simp
  obtain ⟨z, hz⟩ : ∃ z, z = y % 2 ^ d := ⟨_, rfl⟩
  rw [← hz] at hand ⊢
  have V1 := hide (wr64 (z := (i : Int) * (d : Int)) (n := f) (by rw [hf]; exact (Int.natCast_mul i d).symm) (by omega))
  have V2 := hide (wr64 (z := 8 - (d : Int)) (n := 8 - d) (by omega) (by omega))
  have V3 := hide (wr64 (z := ((8 - d : Nat) : Int) - (r : Int)) (n := b) (by omega) (by omega))
  have V4 := hide (wr64 (z := (x : Int)) (n := x) rfl (by omega))
  have V5 : Hid ((f : Int).tmod 8 = (r : Int)) := hide (by rw [hr]; exact (Int.ofNat_tmod f 8).symm)
  have V6 : Hid ((f : Int).tdiv 8 = (q : Int)) := hide (by rw [hq]; exact (Int.ofNat_tdiv f 8).symm)
  have i0 : q < n := by omega
  have hbn : ¬ (b : Int) < 0 := by omega
  have m1 : min b 64 = b := by omega
  have m2 : min d 64 = d := by omega
  have h16 : ¬ (d : Int) = 16 := by omega
  have V7 := hide (wr64 (z := (2 : Int) ^ d) (n := 2 ^ d) (Int.natCast_pow 2 d).symm (by have := Nat.pow_le_pow_right (n := 2) (i := d) (j := 8) (by omega) (by omega); omega))
  have V8 := hide (wr64 (z := ((2 ^ d : Nat) : Int) - 1) (n := 2 ^ d - 1) (by have := Nat.one_le_two_pow (n := d); omega) (by omega))
  have V9 := hide (wr64 (z := (q : Int)) (n := q) rfl (by omega))
  obtain ⟨M, hM⟩ : ∃ M, M = 2 ^ d := ⟨_, rfl⟩
  rw [← hM] at V7 V8 hand
  clear hf hr hq hb2 hy hyx hm hz hc hb hl hi hn hx hfn e hM
  clear hd hrd
  obtain ⟨v1, u1⟩ := V1.out
  obtain ⟨v2, u2⟩ := V2.out
  obtain ⟨v3, u3⟩ := V3.out
  obtain ⟨v4, u4⟩ := V4.out
  have v5 := V5.out
  have v6 := V6.out
  obtain ⟨v7, u7⟩ := V7.out
  obtain ⟨v8, u8⟩ := V8.out
  obtain ⟨v9, u9⟩ := V9.out
  clear V1 V2 V3 V4 V5 V6 V7 V8 V9
  go_enter Try.func28, Try.ntmps28
  go_wp2_with fail
  go_quiet (fail)
  go_wp2_with fail
  go_ret
  exact ⟨rfl, (Only.refl [] w).drewN nq⟩
end Go.Proofs.Ytopjkmobnmaaaaa
