/-
  Package filter: the pass half-way between what is known.
-/
import Derived.Test.YtopjkmobnmaaaaaFiI
import Derived.Test.YtopjkmobnmaaaaaFiH
import Derived.Test.YtopjkmobnmaaaaaEqA
import Derived.BigRegion
namespace Go.Proofs.Ytopjkmobnmaaaaa
open Go Go.RowKit

theorem pass_one (x y dx dy : Int) : (#[Value.int .i64 x, .int .i64 y, .int .i64 dx, .int .i64 dy] : Array Value).all (·.oneCell') = true := by simp [Value.oneCell']

set_option maxRecDepth 100000 in
set_option maxHeartbeats 4000000 in
theorem between_any (p q x y : Nat) (w : World) (hp : p ≤ 100) (hq : q ≤ 100) (hx : x = if p < q then 0 else p / 2) (hy : y = if p < q then q / 2 else 0) :
    Calls Try.prog 33 #[.agg #[.int .i64 0, .int .i64 0, .int .i64 (p : Int), .int .i64 (q : Int)]] w fun e w' => e = .returned (.agg #[.int .i64 (x : Int), .int .i64 (y : Int), .int .i64 (p : Int), .int .i64 (q : Int)]) ∧ Only [] w w' := by
  have hpt : (p : Int).tdiv 2 = ((p / 2 : Nat) : Int) := (Int.ofNat_tdiv p 2).symm
  have hqt : (q : Int).tdiv 2 = ((q / 2 : Nat) : Int) := (Int.ofNat_tdiv q 2).symm
  have hr : ∀ cs ds : Array Value, Has ((w.alloc (.cells cs 40)).alloc (.cells ds 40)) (w.heap.size + 1) 40 ds := fun cs ds => by
    have := Has.new (w.alloc (.cells cs 40)) 40 ds
    simpa using this
  have HR := hide hr
  clear hr
  by_cases h : p < q
  · rw [if_pos h] at hx hy
    subst hx
    rw [← hy] at hqt
    have W1 := hide (wr64 (z := (y : Int)) (n := y) rfl (by omega))
    have hi : (p : Int) < (q : Int) := by omega
    clear hy hpt hp hq
    obtain ⟨v1, u1⟩ := W1.out
    clear W1
    go_enter Try.func33, Try.ntmps33
    go_wp2_with fail
    exact bodyPost_ret (results_cell_row Try.results33 _ _ (w.heap.size + 1) 40 _ (0, 0) _ rfl (HR.out _ _) Try.underlying40 rfl (by kernel_rfl)) rfl ⟨rfl, ((Only.refl [] w).alloc _).alloc _⟩
  · rw [if_neg h] at hx hy
    subst hy
    rw [← hx] at hpt
    have W1 := hide (wr64 (z := (x : Int)) (n := x) rfl (by omega))
    have hi : ¬ (p : Int) < (q : Int) := by omega
    clear hx hqt hp hq
    obtain ⟨v1, u1⟩ := W1.out
    clear W1
    go_enter Try.func33, Try.ntmps33
    go_wp2_with fail
    exact bodyPost_ret (results_cell_row Try.results33 _ _ (w.heap.size + 1) 40 _ (0, 0) _ rfl (HR.out _ _) Try.underlying40 rfl (by kernel_rfl)) rfl ⟨rfl, ((Only.refl [] w).alloc _).alloc _⟩

end Go.Proofs.Ytopjkmobnmaaaaa
