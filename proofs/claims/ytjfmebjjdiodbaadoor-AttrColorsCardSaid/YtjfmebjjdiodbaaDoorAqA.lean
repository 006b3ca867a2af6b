/-
  The document's palette, colours, what a cell looks like.
-/
import Derived.Test.YtjfmebjjdiodbaaDoorArA
namespace Go.Proofs.YtjfmebjjdiodbaaDoor
open Go Go.RowKit

def litL : List Int := [0, 13434880, 52480, 13487360, 238, 13435085, 52685, 15066597, 8355711, 16711680, 65280, 16776960, 6053119, 16711935, 65535, 16777215]
theorem lit_at : ∀ k, k < 16 → (#[.int .i64 0, .int .i64 13434880, .int .i64 52480, .int .i64 13487360, .int .i64 238, .int .i64 13435085, .int .i64 52685, .int .i64 15066597, .int .i64 8355711, .int .i64 16711680, .int .i64 65280, .int .i64 16776960, .int .i64 6053119, .int .i64 16711935, .int .i64 65535, .int .i64 16777215] : Array Value)[k]? = some (.int .i64 (litL.getD k 0)) := by
  intro k hk
  rcases (show k = 0 ∨ k = 1 ∨ k = 2 ∨ k = 3 ∨ k = 4 ∨ k = 5 ∨ k = 6 ∨ k = 7 ∨ k = 8 ∨ k = 9 ∨ k = 10 ∨ k = 11 ∨ k = 12 ∨ k = 13 ∨ k = 14 ∨ k = 15 by omega) with rfl | rfl | rfl | rfl | rfl | rfl | rfl | rfl | rfl | rfl | rfl | rfl | rfl | rfl | rfl | rfl <;> rfl
theorem lev_at : ∀ k, k < 6 → (#[.int .u8 0, .int .u8 95, .int .u8 135, .int .u8 175, .int .u8 215, .int .u8 255] : Array Value)[k]? = some (.int .u8 (levelL.getD k 0)) := by
  intro k hk
  rcases (show k = 0 ∨ k = 1 ∨ k = 2 ∨ k = 3 ∨ k = 4 ∨ k = 5 by omega) with rfl | rfl | rfl | rfl | rfl | rfl <;> rfl
theorem lit_parts : ∀ k, k < 16 → litL.getD k 0 / 65536 % 256 = basicL.getD (3 * k) 0 ∧ litL.getD k 0 / 256 % 256 = basicL.getD (3 * k + 1) 0 ∧ litL.getD k 0 % 256 = basicL.getD (3 * k + 2) 0 := by decide

set_option maxRecDepth 100000 in
set_option maxHeartbeats 2000000 in
theorem rbasic_any (n : Int) (w : World) :
    Calls Tryd.prog 18 #[.int .i64 n] w fun e w' => e = .returned (basicA n).val ∧ Only [] w w' := by
  have hz := ((Has.new w 29 #[.int .u8 0, .int .u8 0, .int .u8 0]).alloc (.cells #[.int .i64 0, .int .i64 13434880, .int .i64 52480, .int .i64 13487360, .int .i64 238, .int .i64 13435085, .int .i64 52685, .int .i64 15066597, .int .i64 8355711, .int .i64 16711680, .int .i64 65280, .int .i64 16776960, .int .i64 6053119, .int .i64 16711935, .int .i64 65535, .int .i64 16777215] 3)).alloc (.cells #[.int .u8 0, .int .u8 95, .int .u8 135, .int .u8 175, .int .u8 215, .int .u8 255] 5)
  have hl := (Has.new (w.alloc (.cells #[.int .u8 0, .int .u8 0, .int .u8 0] 29)) 3 #[.int .i64 0, .int .i64 13434880, .int .i64 52480, .int .i64 13487360, .int .i64 238, .int .i64 13435085, .int .i64 52685, .int .i64 15066597, .int .i64 8355711, .int .i64 16711680, .int .i64 65280, .int .i64 16776960, .int .i64 6053119, .int .i64 16711935, .int .i64 65535, .int .i64 16777215]).alloc (.cells #[.int .u8 0, .int .u8 95, .int .u8 135, .int .u8 175, .int .u8 215, .int .u8 255] 5)
  have hs := Has.new ((w.alloc (.cells #[.int .u8 0, .int .u8 0, .int .u8 0] 29)).alloc (.cells #[.int .i64 0, .int .i64 13434880, .int .i64 52480, .int .i64 13487360, .int .i64 238, .int .i64 13435085, .int .i64 52685, .int .i64 15066597, .int .i64 8355711, .int .i64 16711680, .int .i64 65280, .int .i64 16776960, .int .i64 6053119, .int .i64 16711935, .int .i64 65535, .int .i64 16777215] 3)) 5 #[.int .u8 0, .int .u8 95, .int .u8 135, .int .u8 175, .int .u8 215, .int .u8 255]
  have oo := (((Only.refl [] w).alloc (.cells #[.int .u8 0, .int .u8 0, .int .u8 0] 29)).alloc (.cells #[.int .i64 0, .int .i64 13434880, .int .i64 52480, .int .i64 13487360, .int .i64 238, .int .i64 13435085, .int .i64 52685, .int .i64 15066597, .int .i64 8355711, .int .i64 16711680, .int .i64 65280, .int .i64 16776960, .int .i64 6053119, .int .i64 16711935, .int .i64 65535, .int .i64 16777215] 3)).alloc (.cells #[.int .u8 0, .int .u8 95, .int .u8 135, .int .u8 175, .int .u8 215, .int .u8 255] 5)
  simp only [World.size_alloc] at hl hs
  have hg : ∀ x y z : Int, Has (((w.alloc (.cells #[.int .u8 x, .int .u8 y, .int .u8 z] 29)).alloc (.cells #[.int .i64 0, .int .i64 13434880, .int .i64 52480, .int .i64 13487360, .int .i64 238, .int .i64 13435085, .int .i64 52685, .int .i64 15066597, .int .i64 8355711, .int .i64 16711680, .int .i64 65280, .int .i64 16776960, .int .i64 6053119, .int .i64 16711935, .int .i64 65535, .int .i64 16777215] 3)).alloc (.cells #[.int .u8 0, .int .u8 95, .int .u8 135, .int .u8 175, .int .u8 215, .int .u8 255] 5)) w.heap.size 29 #[.int .u8 x, .int .u8 y, .int .u8 z] ∧ Only [] w (((w.alloc (.cells #[.int .u8 x, .int .u8 y, .int .u8 z] 29)).alloc (.cells #[.int .i64 0, .int .i64 13434880, .int .i64 52480, .int .i64 13487360, .int .i64 238, .int .i64 13435085, .int .i64 52685, .int .i64 15066597, .int .i64 8355711, .int .i64 16711680, .int .i64 65280, .int .i64 16776960, .int .i64 6053119, .int .i64 16711935, .int .i64 65535, .int .i64 16777215] 3)).alloc (.cells #[.int .u8 0, .int .u8 95, .int .u8 135, .int .u8 175, .int .u8 215, .int .u8 255] 5)) :=
    fun x y z => ⟨((Has.new w _ _).alloc _).alloc _, (((Only.refl [] w).alloc _).alloc _).alloc _⟩
  have HG := hide hg
  have HW := hide (And.intro hz (And.intro hl (And.intro hs oo)))
  clear hz hl hs oo hg
  have hA : basicA n = if isB n = false then C3.zero
    else if n < 16 then ⟨basicL.getD (3 * n.toNat) 0, basicL.getD (3 * n.toNat + 1) 0, basicL.getD (3 * n.toNat + 2) 0⟩
    else if n < 232 then ⟨levelL.getD ((n - 16).toNat / 36) 0, levelL.getD ((n - 16).toNat / 6 % 6) 0, levelL.getD ((n - 16).toNat % 6) 0⟩
    else ⟨8 + 10 * (n - 232), 8 + 10 * (n - 232), 8 + 10 * (n - 232)⟩ := rfl
  generalize basicA n = R at *
  cases hb : isB n with
  | false =>
    rw [if_pos hb] at hA
    have hn : n < 0 ∨ 256 ≤ n := by
      unfold isB at hb
      rw [Bool.and_eq_false_iff, decide_eq_false_iff_not, decide_eq_false_iff_not] at hb
      omega
    clear hb
    subst hA
    rcases hn with hn | hn
    all_goals
      go_enter Tryd.func18, Tryd.ntmps18
      go_wp2_with fail
      exact bodyPost_ret (results_cell_row Tryd.results18 _ _ w.heap.size 29 _ (0, 0) _ rfl (HG.out 0 0 0).1 Tryd.underlying29 rfl (by kernel_rfl)) rfl ⟨rfl, (HG.out _ _ _).2⟩
  | true =>
    rw [if_neg (by rw [hb]; decide)] at hA
    obtain ⟨k0, k1⟩ := isB_iff.1 hb
    clear hb
    by_cases h16 : n < 16
    · rw [if_pos h16] at hA
      obtain ⟨k, rfl⟩ : ∃ k : Nat, n = k := ⟨n.toNat, by omega⟩
      rw [show ((k : Nat) : Int).toNat = k from rfl] at hA
      have hk : k < 16 := by omega
      obtain ⟨p0, p1, p2⟩ := lit_parts k hk
      have lit_at := lit_at
      have i1 : (k : Int) < 16 := by omega
      generalize basicL.getD (3 * k) 0 = x at *
      generalize basicL.getD (3 * k + 1) 0 = y at *
      generalize basicL.getD (3 * k + 2) 0 = z at *
      subst hA
      have LT := hide lit_at
      clear lit_at
      go_enter Tryd.func18, Tryd.ntmps18
      go_wp2_with fail
      obtain ⟨hz, hl, hs, oo⟩ := HW.out
      generalize ((w.alloc (.cells #[.int .u8 0, .int .u8 0, .int .u8 0] 29)).alloc (.cells #[.int .i64 0, .int .i64 13434880, .int .i64 52480, .int .i64 13487360, .int .i64 238, .int .i64 13435085, .int .i64 52685, .int .i64 15066597, .int .i64 8355711, .int .i64 16711680, .int .i64 65280, .int .i64 16776960, .int .i64 6053119, .int .i64 16711935, .int .i64 65535, .int .i64 16777215] 3)).alloc (.cells #[.int .u8 0, .int .u8 95, .int .u8 135, .int .u8 175, .int .u8 215, .int .u8 255] 5) = W at *
      have c0 : W.cell? ⟨w.heap.size, 0, none⟩ = some (.int .u8 0) := hz.cell 0
      have c1 : W.cell? ⟨w.heap.size, 1, none⟩ = some (.int .u8 0) := hz.cell 1
      have c2 : W.cell? ⟨w.heap.size, 2, none⟩ = some (.int .u8 0) := hz.cell 2
      have f0 := hz.free 0
      have f1 := hz.free 1
      have f2 := hz.free 2
      have e0 := (hl.cell k).trans (LT.out k hk)
      have HH := hide (And.intro hz oo)
      clear hz hl hs oo HW
      generalize litL.getD k 0 = v at *
      have r0 : IntKind.u8.wrap (v / 65536) = x := by rw [IntKind.wrap_u8']; exact p0
      have r1 : IntKind.u8.wrap (v / 256) = y := by rw [IntKind.wrap_u8']; exact p1
      have r2 : IntKind.u8.wrap v = z := by rw [IntKind.wrap_u8']; exact p2
      go_still_tail 18, (by kernel_rfl)
      change wpList _ _ _ _ _ W.drew
      go_wp2_with fail
      exact bodyPost_ret (results_cell_row Tryd.results18 _ _ w.heap.size 29 _ (0, 0) _ rfl (HH.out.1.set3 (.int .u8 x) (.int .u8 y) (.int .u8 z)).drew Tryd.underlying29 rfl (by kernel_rfl)) rfl ⟨rfl, (HH.out.2.set3 (by omega) (.int .u8 x) (.int .u8 y) (.int .u8 z)).drew⟩
    · rw [if_neg h16] at hA
      by_cases h232 : n < 232
      · rw [if_pos h232] at hA
        obtain ⟨k, hk⟩ : ∃ k : Nat, n - 16 = (k : Int) := ⟨(n - 16).toNat, by omega⟩
        rw [show (n - 16).toNat = k by omega] at hA
        have h16 : 16 ≤ n := by omega
        have r1 : IntKind.i64.wrap ((k : Int) / 36) = ((k / 36 : Nat) : Int) := by rw [IntKind.wrap_i64]; omega
        have r2 : IntKind.i64.wrap ((k : Int) / 6) = ((k / 6 : Nat) : Int) := by rw [IntKind.wrap_i64]; omega
        have r3 : ((k / 6 : Nat) : Int).tmod 6 = ((k / 6 % 6 : Nat) : Int) := by rw [Int.tmod_eq_emod_of_nonneg (by omega)]; omega
        have r4 : (k : Int).tmod 6 = ((k % 6 : Nat) : Int) := by rw [Int.tmod_eq_emod_of_nonneg (by omega)]; omega
        have b1 : ((k / 36 : Nat) : Int) < 6 := by omega
        have b2 : ((k / 6 % 6 : Nat) : Int) < 6 := by omega
        have b3 : ((k % 6 : Nat) : Int) < 6 := by omega
        have b4 : (k / 36 : Nat) < 6 := by omega
        have b5 : (k / 6 % 6 : Nat) < 6 := by omega
        have b6 : (k % 6 : Nat) < 6 := by omega
        generalize k / 36 = q1 at *
        generalize k / 6 % 6 = q2 at *
        generalize k % 6 = q3 at *
        generalize k / 6 = q4 at *
        have v1 := lev_at q1 b4
        have v2 := lev_at q2 b5
        have v3 := lev_at q3 b6
        generalize levelL.getD q1 0 = x at *
        generalize levelL.getD q2 0 = y at *
        generalize levelL.getD q3 0 = z at *
        have HV := hide (And.intro v1 (And.intro v2 v3))
        clear v1 v2 v3
        subst hA
        have HRR := hide (And.intro r1 (And.intro r2 (And.intro r3 (And.intro r4 (And.intro b1 (And.intro b2 (And.intro b3 (And.intro b4 (And.intro b5 b6)))))))))
        clear r1 r2 r3 r4 b1 b2 b3 b4 b5 b6
        go_enter Tryd.func18, Tryd.ntmps18
        go_wp2_with fail
        obtain ⟨hz, hl, hs, oo⟩ := HW.out
        generalize ((w.alloc (.cells #[.int .u8 0, .int .u8 0, .int .u8 0] 29)).alloc (.cells #[.int .i64 0, .int .i64 13434880, .int .i64 52480, .int .i64 13487360, .int .i64 238, .int .i64 13435085, .int .i64 52685, .int .i64 15066597, .int .i64 8355711, .int .i64 16711680, .int .i64 65280, .int .i64 16776960, .int .i64 6053119, .int .i64 16711935, .int .i64 65535, .int .i64 16777215] 3)).alloc (.cells #[.int .u8 0, .int .u8 95, .int .u8 135, .int .u8 175, .int .u8 215, .int .u8 255] 5) = W at *
        have c0 : W.cell? ⟨w.heap.size, 0, none⟩ = some (.int .u8 0) := hz.cell 0
        have c1 : W.cell? ⟨w.heap.size, 1, none⟩ = some (.int .u8 0) := hz.cell 1
        have c2 : W.cell? ⟨w.heap.size, 2, none⟩ = some (.int .u8 0) := hz.cell 2
        have f0 := hz.free 0
        have f1 := hz.free 1
        have f2 := hz.free 2
        obtain ⟨r1, r2, r3, r4, b1, b2, b3, b4, b5, b6⟩ := HRR.out
        have e1 := (hs.cell q1).trans HV.out.1
        have e2 := (hs.cell q2).trans HV.out.2.1
        have e3 := (hs.cell q3).trans HV.out.2.2
        have HH := hide (And.intro hz oo)
        clear hz hl hs oo HW
        go_still_tail 17, (by kernel_rfl)
        change wpList _ _ _ _ _ W.drew
        go_wp2_with fail
        exact bodyPost_ret (results_cell_row Tryd.results18 _ _ w.heap.size 29 _ (0, 0) _ rfl (HH.out.1.set3 (.int .u8 x) (.int .u8 y) (.int .u8 z)).drew Tryd.underlying29 rfl (by kernel_rfl)) rfl ⟨rfl, (HH.out.2.set3 (by omega) (.int .u8 x) (.int .u8 y) (.int .u8 z)).drew⟩
      · rw [if_neg h232] at hA
        subst hA
        go_enter Tryd.func18, Tryd.ntmps18
        go_wp2_with fail
        obtain ⟨hz, hl, hs, oo⟩ := HW.out
        exact bodyPost_ret (results_cell_row Tryd.results18 _ _ w.heap.size 29 _ (0, 0) _ rfl (HG.out (8 + 10 * (n - 232)) (8 + 10 * (n - 232)) (8 + 10 * (n - 232))).1 Tryd.underlying29 rfl (by kernel_rfl)) rfl ⟨rfl, (HG.out _ _ _).2⟩
end Go.Proofs.YtjfmebjjdiodbaaDoor
