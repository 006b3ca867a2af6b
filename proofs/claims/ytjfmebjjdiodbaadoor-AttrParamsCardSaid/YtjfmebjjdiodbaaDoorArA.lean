/-
  The document's attributes: numbers, flags, colours, what stands behind 38, 48.
-/
import Derived.Test.YtjfmebjjdiodbaaDoorAtK
namespace Go.Proofs.YtjfmebjjdiodbaaDoor
open Go Go.RowKit

theorem i64_or_nat (a b : Nat) (ha : a < 4611686018427387904) (hb : b < 4611686018427387904) : bits .or .i64 (a : Int) (b : Int) = ((a ||| b : Nat) : Int) := by
  show IntKind.i64.wrap ((BitVec.ofInt 64 (a : Int) ||| BitVec.ofInt 64 (b : Int)).toNat : Int) = _
  rw [BitVec.toNat_or, ofInt_u64 a (by omega), ofInt_u64 b (by omega), IntKind.wrap_i64]
  have : a ||| b < 2 ^ 62 := Nat.or_lt_two_pow (n := 62) (by omega) (by omega)
  omega
theorem or_plus (i a b : Nat) (ha : a < 4611686018427387904) (hb : b < 2 ^ i) (hi : i < 62) (h : a % 2 ^ i = 0) : bits .or .i64 (a : Int) (b : Int) = (a : Int) + (b : Int) := by
  have : 2 ^ i ≤ 2 ^ 61 := Nat.pow_le_pow_right (by decide) (by omega)
  rw [i64_or_nat a b ha (by omega), nat_join i a b h hb]
  omega
theorem pal_or {n : Int} (h0 : 0 ≤ n) (h1 : n ≤ 255) : bits .or .i64 16777216 n = palA n := by
  obtain ⟨k, rfl⟩ : ∃ k : Nat, n = k := ⟨n.toNat, by omega⟩
  exact or_plus 8 16777216 k (by omega) (by omega) (by omega) (by decide)
theorem dir_or {r g b : Int} (r0 : 0 ≤ r) (r1 : r ≤ 255) (g0 : 0 ≤ g) (g1 : g ≤ 255) (b0 : 0 ≤ b) (b1 : b ≤ 255) :
    bits .or .i64 33554432 (r * 65536) = 33554432 + r * 65536 ∧ bits .or .i64 (33554432 + r * 65536) (g * 256) = 33554432 + r * 65536 + g * 256 ∧ bits .or .i64 (33554432 + r * 65536 + g * 256) b = dirA r g b := by
  obtain ⟨x, rfl⟩ : ∃ k : Nat, r = k := ⟨r.toNat, by omega⟩
  obtain ⟨y, rfl⟩ : ∃ k : Nat, g = k := ⟨g.toNat, by omega⟩
  obtain ⟨z, rfl⟩ : ∃ k : Nat, b = k := ⟨b.toNat, by omega⟩
  refine ⟨?_, ?_, ?_⟩
  · have := or_plus 24 33554432 (x * 65536) (by omega) (by omega) (by omega) (by decide)
    simpa using this
  · have := or_plus 16 (33554432 + x * 65536) (y * 256) (by omega) (by omega) (by omega) (by omega)
    simpa using this
  · have := or_plus 8 (33554432 + x * 65536 + y * 256) z (by omega) (by omega) (by omega) (by omega)
    unfold dirA
    simpa using this

theorem byteNumber_any (n : Int) (w : World) : Calls Tryd.prog 31 #[.int .i64 n] w fun e w' => e = .returned (.bool (isB n)) ∧ w' = w := by
  by_cases h1 : 0 ≤ n
  · have e : isB n = decide (n ≤ 255) := by simp [isB, h1]
    rw [e]
    go_enter Tryd.func31, Tryd.ntmps31
    go_wp2_with fail
    go_ret
    exact ⟨rfl, rfl⟩
  · have e : isB n = false := by simp [isB, h1]
    rw [e]
    go_enter Tryd.func31, Tryd.ntmps31
    go_wp2_with fail
    go_ret
    exact ⟨rfl, rfl⟩

theorem rset_any (a : At) (c : Int) (fore : Bool) (w : World) : Calls Tryd.prog 24 #[a.val, .int .i64 c, .bool fore] w fun e w' => e = .returned (a.set fore c).val ∧ Only [] w w' := by
  show Calls Tryd.prog 24 #[.agg #[.int .i64 a.fg, .int .i64 a.bg, .int .i64 a.fl], .int .i64 c, .bool fore] w _
  unfold At.set
  have h1 := fun x y z => Has.new (w.alloc (.cells #[.int .i64 x, .int .i64 y, .int .i64 z] 23)) 23 #[.int .i64 x, .int .i64 y, .int .i64 z]
  simp only [World.size_alloc] at h1
  cases fore with
  | true =>
    go_enter Tryd.func24, Tryd.ntmps24
    go_wp2_with fail
    exact bodyPost_ret (results_cell_row Tryd.results24 _ _ (w.heap.size + 1) 23 _ (0, 0) _ rfl (h1 _ _ _) Tryd.underlying23 rfl (by kernel_rfl)) rfl ⟨rfl, ((Only.refl [] w).alloc _).alloc _⟩
  | false =>
    go_enter Tryd.func24, Tryd.ntmps24
    go_wp2_with fail
    exact bodyPost_ret (results_cell_row Tryd.results24 _ _ (w.heap.size + 1) 23 _ (0, 0) _ rfl (h1 _ _ _) Tryd.underlying23 rfl (by kernel_rfl)) rfl ⟨rfl, ((Only.refl [] w).alloc _).alloc _⟩

def flagF (n : Int) : Int × Bool :=
  if n = 1 then (1, true) else if n = 2 then (2, true) else if n = 3 then (4, true) else if n = 23 then (4, false) else if n = 4 then (8, true) else if n = 24 then (8, false)
  else if n = 5 then (16, true) else if n = 25 then (16, false) else if n = 7 then (32, true) else if n = 27 then (32, false) else if n = 8 then (64, true) else if n = 28 then (64, false)
  else if n = 9 then (128, true) else if n = 29 then (128, false) else if n = 22 then (3, false) else (0, false)
theorem flagF_no {n : Int} (h : ¬ (n = 1 ∨ n = 2 ∨ n = 3 ∨ n = 23 ∨ n = 4 ∨ n = 24 ∨ n = 5 ∨ n = 25 ∨ n = 7 ∨ n = 27 ∨ n = 8 ∨ n = 28 ∨ n = 9 ∨ n = 29 ∨ n = 22)) : flagF n = (0, false) := by
  unfold flagF
  iterate 15 rw [if_neg (by omega)]
set_option maxRecDepth 100000 in
set_option maxHeartbeats 4000000 in
theorem flag_any (n : Int) (w : World) : Calls Tryd.prog 22 #[.int .i64 n] w fun e w' => e = .returned (.tuple #[.int .i64 (flagF n).1, .bool (flagF n).2]) ∧ w' = w := by
  by_cases h : n = 1 ∨ n = 2 ∨ n = 3 ∨ n = 23 ∨ n = 4 ∨ n = 24 ∨ n = 5 ∨ n = 25 ∨ n = 7 ∨ n = 27 ∨ n = 8 ∨ n = 28 ∨ n = 9 ∨ n = 29 ∨ n = 22
  · rcases h with rfl | rfl | rfl | rfl | rfl | rfl | rfl | rfl | rfl | rfl | rfl | rfl | rfl | rfl | rfl
    all_goals
      go_enter Tryd.func22, Tryd.ntmps22
      go_wp2_with fail
      go_ret2
      exact ⟨rfl, rfl⟩
  · rw [flagF_no h]
    have h1 : (n == 1) = false := beq_eq_false_iff_ne.2 (by omega)
    have h2 : (n == 2) = false := beq_eq_false_iff_ne.2 (by omega)
    have h3 : (n == 3) = false := beq_eq_false_iff_ne.2 (by omega)
    have h4 : (n == 23) = false := beq_eq_false_iff_ne.2 (by omega)
    have h5 : (n == 4) = false := beq_eq_false_iff_ne.2 (by omega)
    have h6 : (n == 24) = false := beq_eq_false_iff_ne.2 (by omega)
    have h7 : (n == 5) = false := beq_eq_false_iff_ne.2 (by omega)
    have h8 : (n == 25) = false := beq_eq_false_iff_ne.2 (by omega)
    have h9 : (n == 7) = false := beq_eq_false_iff_ne.2 (by omega)
    have h10 : (n == 27) = false := beq_eq_false_iff_ne.2 (by omega)
    have h11 : (n == 8) = false := beq_eq_false_iff_ne.2 (by omega)
    have h12 : (n == 28) = false := beq_eq_false_iff_ne.2 (by omega)
    have h13 : (n == 9) = false := beq_eq_false_iff_ne.2 (by omega)
    have h14 : (n == 29) = false := beq_eq_false_iff_ne.2 (by omega)
    have h15 : (n == 22) = false := beq_eq_false_iff_ne.2 (by omega)
    clear h
    go_enter Tryd.func22, Tryd.ntmps22
    go_wp2_with fail
    go_ret2
    exact ⟨rfl, rfl⟩

def colourF (n : Int) : Int × Bool :=
  if 30 ≤ n ∧ n ≤ 37 then (n - 30, true) else if 40 ≤ n ∧ n ≤ 47 then (n - 40, false) else if 90 ≤ n ∧ n ≤ 97 then (n - 82, true) else if 100 ≤ n ∧ n ≤ 107 then (n - 92, false) else (-1, false)
set_option maxRecDepth 100000 in
set_option maxHeartbeats 4000000 in
theorem colour_any (n : Int) (w : World) : Calls Tryd.prog 21 #[.int .i64 n] w fun e w' => e = .returned (.tuple #[.int .i64 (colourF n).1, .bool (colourF n).2]) ∧ w' = w := by
  unfold colourF
  rcases (show (30 ≤ n ∧ n ≤ 37) ∨ (40 ≤ n ∧ n ≤ 47) ∨ (90 ≤ n ∧ n ≤ 97) ∨ (100 ≤ n ∧ n ≤ 107) ∨ n < 30 ∨ (38 ≤ n ∧ n ≤ 39) ∨ (48 ≤ n ∧ n ≤ 89) ∨ (98 ≤ n ∧ n ≤ 99) ∨ 108 ≤ n by omega) with ⟨h, h'⟩ | ⟨h, h'⟩ | ⟨h, h'⟩ | ⟨h, h'⟩ | h | ⟨h, h'⟩ | ⟨h, h'⟩ | ⟨h, h'⟩ | h
  · rw [if_pos ⟨h, h'⟩]
    go_enter Tryd.func21, Tryd.ntmps21
    go_wp2_with fail
    go_ret2
    exact ⟨rfl, rfl⟩
  · rw [if_neg (by omega), if_pos ⟨h, h'⟩]
    go_enter Tryd.func21, Tryd.ntmps21
    go_wp2_with fail
    go_ret2
    exact ⟨rfl, rfl⟩
  · rw [if_neg (by omega), if_neg (by omega), if_pos ⟨h, h'⟩]
    go_enter Tryd.func21, Tryd.ntmps21
    go_wp2_with fail
    go_ret2
    exact ⟨rfl, rfl⟩
  · rw [if_neg (by omega), if_neg (by omega), if_neg (by omega), if_pos ⟨h, h'⟩]
    go_enter Tryd.func21, Tryd.ntmps21
    go_wp2_with fail
    go_ret2
    exact ⟨rfl, rfl⟩
  all_goals
    rw [if_neg (by omega), if_neg (by omega), if_neg (by omega), if_neg (by omega)]
    go_enter Tryd.func21, Tryd.ntmps21
    go_wp2_with fail
    go_ret2
    exact ⟨rfl, rfl⟩
end Go.Proofs.YtjfmebjjdiodbaaDoor
