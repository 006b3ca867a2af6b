/-
  Package pixel: what of a part lies within; rows, spots.
-/
import Derived.Test.YtngaabnmhcncmaaPxA
import Derived.Test.YtngaabnmhcncmaaCut
namespace Go.Proofs.Ytngaabnmhcncmaa
open Go Go.RowKit

/-- What lies within: nothing, or four numbers. -/
def aval (l r t b : Nat) : Value := .agg #[.int .i64 (l : Int), .int .i64 (r : Int), .int .i64 (t : Int), .int .i64 (b : Int)]
/-- Its left, its right, its top, its bottom. -/
def wiL (W H : Nat) (x y w h : Int) : Nat := if spL x w W = spR x w W ∨ spL y h H = spR y h H then 0 else spL x w W
def wiR (W H : Nat) (x y w h : Int) : Nat := if spL x w W = spR x w W ∨ spL y h H = spR y h H then 0 else spR x w W
def wiT (W H : Nat) (x y w h : Int) : Nat := if spL x w W = spR x w W ∨ spL y h H = spR y h H then 0 else spL y h H
def wiB (W H : Nat) (x y w h : Int) : Nat := if spL x w W = spR x w W ∨ spL y h H = spR y h H then 0 else spR y h H

theorem int_eq_nat {a b : Nat} (h : ¬ a = b) : ((a : Int) == (b : Int)) = false := beq_eq_false_iff_ne.2 (by omega)

set_option maxRecDepth 100000 in
set_option maxHeartbeats 4000000 in
theorem within_any (W H : Nat) (A : Option Addr) (n c : Nat) (x y p q : Int) (w : World) (hok : okM W H n)
    (hx : -9223372036854775808 ≤ x ∧ x ≤ 9223372036854775807) (hy : -9223372036854775808 ≤ y ∧ y ≤ 9223372036854775807) (hp : -9223372036854775808 ≤ p ∧ p ≤ 9223372036854775807) (hq : -9223372036854775808 ≤ q ∧ q ≤ 9223372036854775807) :
    Calls Try.prog 53 #[mval W H A n c, .int .i64 x, .int .i64 y, .int .i64 p, .int .i64 q] w fun e w' => e = .returned (aval (wiL W H x y p q) (wiR W H x y p q) (wiT W H x y p q) (wiB W H x y p q)) ∧ Only [] w w' := by
  have hW : W ≤ 1000000000 := by have := hok.1; omega
  have hH : H ≤ 1000000000 := by have := hok.1; omega
  have HX := hide (fun w => span_any x p W w hx hp hW)
  have HY := hide (fun w => span_any y q H w hy hq hH)
  have HR := hide (right_any W H A n c)
  rw [hok.right] at HR
  have e1 : wiL W H x y p q = if spL x p W = spR x p W ∨ spL y q H = spR y q H then 0 else spL x p W := rfl
  have e2 : wiR W H x y p q = if spL x p W = spR x p W ∨ spL y q H = spR y q H then 0 else spR x p W := rfl
  have e3 : wiT W H x y p q = if spL x p W = spR x p W ∨ spL y q H = spR y q H then 0 else spL y q H := rfl
  have e4 : wiB W H x y p q = if spL x p W = spR x p W ∨ spL y q H = spR y q H then 0 else spR y q H := rfl
  rw [e1, e2, e3, e4]
  clear e1 e2 e3 e4 hx hy hp hq hW hH hok
  show Calls Try.prog 53 #[.agg #[.int .i64 W, .int .i64 H, .slice A n c], .int .i64 x, .int .i64 y, .int .i64 p, .int .i64 q] w _
  generalize spL x p W = a at *
  generalize spR x p W = b at *
  generalize spL y q H = t at *
  generalize spR y q H = u at *
  have hz : Has ((w.alloc (.cells #[.int .i64 (W : Int), .int .i64 (H : Int), .slice A n c] 24)).alloc (.cells #[.int .i64 0, .int .i64 0, .int .i64 0, .int .i64 0] 79)) (w.heap.size + 1) 79 #[.int .i64 0, .int .i64 0, .int .i64 0, .int .i64 0] := by
    have := Has.new (w.alloc (.cells #[.int .i64 (W : Int), .int .i64 (H : Int), .slice A n c] 24)) 79 #[.int .i64 0, .int .i64 0, .int .i64 0, .int .i64 0]
    simpa using this
  have oz : Only [] w ((w.alloc (.cells #[.int .i64 (W : Int), .int .i64 (H : Int), .slice A n c] 24)).alloc (.cells #[.int .i64 0, .int .i64 0, .int .i64 0, .int .i64 0] 79)) := ((Only.refl [] w).alloc _).alloc _
  have hone : ∀ l r t b : Int, (#[Value.int .i64 l, .int .i64 r, .int .i64 t, .int .i64 b] : Array Value).all (·.oneCell') = true := by intros; simp [Value.oneCell']
  by_cases h1 : a = b
  · rw [if_pos (.inl h1), if_pos (.inl h1), if_pos (.inl h1), if_pos (.inl h1)]
    subst h1
    go_enter Try.func53, Try.ntmps53
    go_wp2_with fail
    refine (HX.out _).mono ?_
    rintro e w1 ⟨rfl, rfl⟩
    go_wp2_with fail
    refine (HY.out _).mono ?_
    rintro e w1 ⟨rfl, rfl⟩
    go_wp2_with (refine list_store_row' rfl 79 (.tmp 10) (.tmp 44) rfl (w.heap.size + 1) #[.int .i64 0, .int .i64 0, .int .i64 0, .int .i64 0] rfl rfl 79 _ hz (by kernel_rfl) rfl (hone _ _ _ _) ?_; intro w2 hT2 hO2)
    exact bodyPost_ret (results_cell_row Try.results53 _ _ (w.heap.size + 1) 79 _ (0, 0) _ rfl hT2 Try.underlying79 rfl (by kernel_rfl)) rfl ⟨rfl, oz.trans hO2 (by intro i hi hlt; simp at hi; omega)⟩
  by_cases h2 : t = u
  · rw [if_pos (.inr h2), if_pos (.inr h2), if_pos (.inr h2), if_pos (.inr h2)]
    subst h2
    have h1 := int_eq_nat h1
    go_enter Try.func53, Try.ntmps53
    go_wp2_with fail
    refine (HX.out _).mono ?_
    rintro e w1 ⟨rfl, rfl⟩
    go_wp2_with fail
    refine (HY.out _).mono ?_
    rintro e w1 ⟨rfl, rfl⟩
    go_wp2_with (refine list_store_row' rfl 79 (.tmp 10) (.tmp 44) rfl (w.heap.size + 1) #[.int .i64 0, .int .i64 0, .int .i64 0, .int .i64 0] rfl rfl 79 _ hz (by kernel_rfl) rfl (hone _ _ _ _) ?_; intro w2 hT2 hO2)
    exact bodyPost_ret (results_cell_row Try.results53 _ _ (w.heap.size + 1) 79 _ (0, 0) _ rfl hT2 Try.underlying79 rfl (by kernel_rfl)) rfl ⟨rfl, oz.trans hO2 (by intro i hi hlt; simp at hi; omega)⟩
  · have hno : ¬ (a = b ∨ t = u) := by omega
    rw [if_neg hno, if_neg hno, if_neg hno, if_neg hno]
    have h1 := int_eq_nat h1
    have h2 := int_eq_nat h2
    clear hno
    go_enter Try.func53, Try.ntmps53
    go_wp2_with fail
    refine (HX.out _).mono ?_
    rintro e w1 ⟨rfl, rfl⟩
    go_wp2_with fail
    refine (HY.out _).mono ?_
    rintro e w1 ⟨rfl, rfl⟩
    go_wp2_with fail
    refine (HR.out _).mono ?_
    rintro e w1 ⟨rfl, ho1⟩
    have hz1 := hz.only ho1 (by simp)
    have oz1 := oz.trans ho1 (S := []) (by simp)
    clear hz oz ho1
    go_wp2_with (refine list_store_row' rfl 79 (.tmp 10) (.tmp 49) rfl (w.heap.size + 1) #[.int .i64 (a : Int), .int .i64 (b : Int), .int .i64 (t : Int), .int .i64 (u : Int)] rfl rfl 79 _ hz1 (by kernel_rfl) rfl (hone _ _ _ _) ?_; intro w2 hT2 hO2)
    exact bodyPost_ret (results_cell_row Try.results53 _ _ (w.heap.size + 1) 79 _ (0, 0) _ rfl hT2 Try.underlying79 rfl (by kernel_rfl)) rfl ⟨rfl, oz1.trans hO2 (by intro i hi hlt; simp at hi; omega)⟩

theorem wr_nat {z : Int} {n : Nat} (h : z = (n : Int)) (hn : n ≤ 4611686018427387904) : wrap64 z = (n : Int) ∧ IntKind.i64.wrap z = (n : Int) := by
  subst h
  exact ⟨IntWalk.wrap64_in _ ⟨by omega, by omega⟩, by rw [IntKind.wrap_i64]; omega⟩
/-- k bytes of a row of bytes, from the f-th on. -/
def rowV (A : Option Addr) (f k : Nat) : Value := .slice (if k = 0 then A else A.map (·.add f)) k k

theorem run_row (A : Option Addr) (n c f k : Nat) (h : f + k ≤ c) (w : World) :
    (Instr.slice 22 (.slice A n c) (some (.int .i64 (f : Int))) (some (.int .i64 ((f + k : Nat) : Int))) (some (.int .i64 ((f + k : Nat) : Int)))).run Try.prog w = .ok (rowV A f k) w := by
  rw [run_slice_lhm (w := w) 22 A n c bytes_elem .i64 .i64 .i64 (f : Int) ((f + k : Nat) : Int) ((f + k : Nat) : Int) (by omega) (by omega) (by omega) (by omega), bytes_size]
  simp only [Result.andThen_ok, sliced, rowV, Int.toNat_natCast, Nat.mul_one]
  congr 1
  by_cases hk : k = 0
  · subst hk; simp
  · rw [if_neg (by omega), if_neg hk, show f + k - f = k by omega]

set_option maxRecDepth 100000 in
set_option maxHeartbeats 4000000 in
theorem row_any (W H : Nat) (A : Option Addr) (n c y l k : Nat) (w : World) (hW : W ≤ 100000) (hy : y ≤ 100000) (hl : l + k ≤ 100000) (h : 4 * (y * W + l) + 4 * k ≤ c) :
    Calls Try.prog 54 #[mval W H A n c, .int .i64 (y : Int), .int .i64 (l : Int), .int .i64 ((l + k : Nat) : Int)] w fun e w' => e = .returned (rowV A (4 * (y * W + l)) (4 * k)) ∧ Only [] w w' := by
  obtain ⟨D, hD⟩ : ∃ D, D = y * W := ⟨_, rfl⟩
  have hD2 : D ≤ 100000 * 100000 := by rw [hD]; exact Nat.mul_le_mul hy hW
  have m1 : (y : Int) * (W : Int) = (D : Int) := by rw [hD]; exact (Int.natCast_mul y W).symm
  rw [← hD] at h ⊢
  obtain ⟨f, hf⟩ : ∃ f, f = 4 * (D + l) := ⟨_, rfl⟩
  rw [← hf] at h ⊢
  obtain ⟨z, hz⟩ : ∃ z, z = f + 4 * k := ⟨_, rfl⟩
  have hrun := run_row A n c f (4 * k) h
  rw [← hz] at hrun
  obtain ⟨r, hr⟩ : ∃ r, r = l + k := ⟨_, rfl⟩
  rw [← hr]
  have W1 := hide (wr_nat (z := (D : Int)) (n := D) rfl (by omega))
  have W2 := hide (wr_nat (z := (D : Int) + (l : Int)) (n := D + l) (by omega) (by omega))
  have W3 := hide (wr_nat (z := ((D : Int) + (l : Int)) * 4) (n := f) (by omega) (by omega))
  have W4 := hide (wr_nat (z := (D : Int) + (r : Int)) (n := D + r) (by omega) (by omega))
  have W5 := hide (wr_nat (z := ((D : Int) + (r : Int)) * 4) (n := z) (by omega) (by omega))
  generalize rowV A f (4 * k) = v at *
  clear hD hf hz hr h hD2 hW hy hl
  obtain ⟨w1, x1⟩ := W1.out
  obtain ⟨w2, x2⟩ := W2.out
  obtain ⟨w3, x3⟩ := W3.out
  obtain ⟨w4, x4⟩ := W4.out
  obtain ⟨w5, x5⟩ := W5.out
  rw [Int.natCast_add] at w2 x2 w4 x4
  clear W1 W2 W3 W4 W5
  show Calls Try.prog 54 #[.agg #[.int .i64 W, .int .i64 H, .slice A n c], .int .i64 (y : Int), .int .i64 (l : Int), .int .i64 (r : Int)] w _
  go_enter Try.func54, Try.ntmps54
  go_wp2_with fail
  go_quiet (fail)
  go_wp2_with fail
  go_ret
  exact ⟨rfl, ((Only.refl [] w).alloc _).drewN nq⟩
end Go.Proofs.Ytngaabnmhcncmaa
