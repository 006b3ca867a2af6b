/-
  What the laws ask of two matrices, of sides; the document's From.
-/
import Derived.Test.YtngaabnmhcncmaaPxR
namespace Go.Proofs.Ytngaabnmhcncmaa
open Go Go.RowKit

set_option maxRecDepth 100000 in
set_option maxHeartbeats 8000000 in
theorem alike_any (W H W' H' : Int) (A A' : Option Addr) (n n' c c' : Nat) (l l' : List UInt8) (w : World) (hb : Holds w 1 A n (bvals l)) (hb' : Holds w 1 A' n' (bvals l')) :
    Calls Try.prog 18 #[mval W H A n c, mval W' H' A' n' c'] w fun e w' => e = .returned (.bool (sameB W H W' H' l l')) ∧ Only [] w w' := by
  have HO := hide (fun w => of_any W H A n c w)
  have HS := hide (fun w h h' => tSame_any W H W' H' A A' n n' c c' l l' w h h')
  obtain ⟨b, hbb⟩ : ∃ b, b = sameB W H W' H' l l' := ⟨_, rfl⟩
  rw [← hbb] at HS ⊢
  have o2 : Only [] w ((w.alloc (.cells #[.int .i64 W, .int .i64 H, .slice A n c] 24)).alloc (.cells #[.int .i64 W', .int .i64 H', .slice A' n' c'] 31)) := ((Only.refl [] w).alloc _).alloc _
  have h1 : Has ((w.alloc (.cells #[.int .i64 W, .int .i64 H, .slice A n c] 24)).alloc (.cells #[.int .i64 W', .int .i64 H', .slice A' n' c'] 31)) w.heap.size 24 #[.int .i64 W, .int .i64 H, .slice A n c] := (Has.new w _ _).alloc _
  have h2 : Has ((w.alloc (.cells #[.int .i64 W, .int .i64 H, .slice A n c] 24)).alloc (.cells #[.int .i64 W', .int .i64 H', .slice A' n' c'] 31)) (w.heap.size + 1) 31 #[.int .i64 W', .int .i64 H', .slice A' n' c'] := Has.new' _ _ _ _ (by simp)
  have hk := hb.keep o2 (by simp)
  have hk' := hb'.keep o2 (by simp)
  show Calls Try.prog 18 #[.agg #[.int .i64 W, .int .i64 H, .slice A n c], .agg #[.int .i64 W', .int .i64 H', .slice A' n' c']] w _
  go_enter Try.func18, Try.ntmps18
  go_wp2_with fail
  generalize (w.alloc (.cells #[.int .i64 W, .int .i64 H, .slice A n c] 24)).alloc (.cells #[.int .i64 W', .int .i64 H', .slice A' n' c'] 31) = w0 at *
  have HI := hide (And.intro o2 (And.intro h2 (And.intro hk hk')))
  have a0 : w0.drew.cell? ⟨w.heap.size, 0, none⟩ = some (.int .i64 W) := h1.drew.cell 0
  have a1 : w0.drew.cell? ⟨w.heap.size, 1, none⟩ = some (.int .i64 H) := h1.drew.cell 1
  have a2 : w0.drew.cell? ⟨w.heap.size, 2, none⟩ = some (.slice A n c) := h1.drew.cell 2
  have b0 : w0.drew.cell? ⟨w.heap.size + 1, 0, none⟩ = some (.int .i64 W') := h2.drew.cell 0
  have b1 : w0.drew.cell? ⟨w.heap.size + 1, 1, none⟩ = some (.int .i64 H') := h2.drew.cell 1
  have b2 : w0.drew.cell? ⟨w.heap.size + 1, 2, none⟩ = some (.slice A' n' c') := h2.drew.cell 2
  clear o2 h1 h2 hk hk' hb hb' hbb
  unfold mval at HO HS
  go_region_with (first | (go_at_call 21; refine (HO.out _).mono ?_; rintro e w1 ⟨rfl, ho1⟩; have e0 : w1.cell? ⟨w.heap.size + 1, 0, none⟩ = some (.int .i64 W') := (HI.out.2.1.drew.only ho1 (by simp)).cell 0; have e1 : w1.cell? ⟨w.heap.size + 1, 1, none⟩ = some (.int .i64 H') := (HI.out.2.1.drew.only ho1 (by simp)).cell 1; have e2 : w1.cell? ⟨w.heap.size + 1, 2, none⟩ = some (.slice A' n' c') := (HI.out.2.1.drew.only ho1 (by simp)).cell 2) | (go_at_call 35; refine (HS.out _ (HI.out.2.2.1.keep (((Only.refl [] w0).drew).trans ho1 (by simp)) (by simp)) (HI.out.2.2.2.keep (((Only.refl [] w0).drew).trans ho1 (by simp)) (by simp))).mono ?_; rintro e w2 ⟨rfl, ho2⟩))
  all_goals
    go_wp2_with fail
    go_ret
    exact ⟨rfl, (HI.out.1.drew.trans ho1 (S := []) (by simp)).trans ho2 (S := []) (by simp)⟩

def smallB (x y : Int) : Bool := decide (x < 1 ∨ y < 1 ∨ 16384 < x ∨ 16384 < y ∨ x * y ≤ 4096)
set_option maxRecDepth 100000 in
set_option maxHeartbeats 8000000 in
theorem small_any (x y : Int) (w : World) : Calls Try.prog 11 #[.int .i64 x, .int .i64 y] w fun e w' => e = .returned (.bool (smallB x y)) ∧ w' = w := by
  have hyes : x < 1 ∨ y < 1 ∨ 16384 < x ∨ 16384 < y ∨ x * y ≤ 4096 → smallB x y = true := fun h => decide_eq_true h
  by_cases h1 : x < 1
  · rw [hyes (.inl h1)]
    clear hyes
    go_enter Try.func11, Try.ntmps11
    go_wp2_with fail
    go_ret
    exact ⟨rfl, rfl⟩
  by_cases h2 : y < 1
  · rw [hyes (.inr (.inl h2))]
    clear hyes
    go_enter Try.func11, Try.ntmps11
    go_wp2_with fail
    go_ret
    exact ⟨rfl, rfl⟩
  by_cases h3 : 16384 < x
  · rw [hyes (.inr (.inr (.inl h3)))]
    clear hyes
    go_enter Try.func11, Try.ntmps11
    go_wp2_with fail
    go_ret
    exact ⟨rfl, rfl⟩
  by_cases h4 : 16384 < y
  · rw [hyes (.inr (.inr (.inr (.inl h4))))]
    clear hyes
    go_enter Try.func11, Try.ntmps11
    go_wp2_with fail
    go_ret
    exact ⟨rfl, rfl⟩
  have hxy : x * y ≤ 16384 * 16384 ∧ 0 ≤ x * y := ⟨Int.mul_le_mul (by omega) (by omega) (by omega) (by omega), Int.mul_nonneg (by omega) (by omega)⟩
  have hw : wrap64 (x * y) = x * y := IntWalk.wrap64_in _ ⟨by omega, by omega⟩
  by_cases h5 : x * y ≤ 4096
  · rw [hyes (.inr (.inr (.inr (.inr h5))))]
    clear hyes
    go_enter Try.func11, Try.ntmps11
    go_wp2_with fail
    go_ret
    exact ⟨rfl, rfl⟩
  · have hno : smallB x y = false := decide_eq_false (by rintro (h | h | h | h | h); exact h1 h; exact h2 h; exact h3 h; exact h4 h; exact h5 h)
    rw [hno]
    clear hyes hno
    go_enter Try.func11, Try.ntmps11
    go_wp2_with fail
    go_ret
    exact ⟨rfl, rfl⟩
end Go.Proofs.Ytngaabnmhcncmaa
