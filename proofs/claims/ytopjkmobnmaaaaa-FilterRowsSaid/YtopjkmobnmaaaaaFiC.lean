/-
  Package filter: which filters may be.
-/
import Derived.Test.YtopjkmobnmaaaaaFiA
namespace Go.Proofs.Ytopjkmobnmaaaaa
open Go Go.RowKit

theorem fErr_one (k s : Int) (n m : Nat) : fErr k s n m = 0 ∨ fErr k s n m = 1 := by unfold fErr; split <;> simp

set_option maxRecDepth 100000 in
set_option maxHeartbeats 4000000 in
theorem mayBeF_any (k s : Int) (A1 A2 : Option Addr) (n1 c1 n2 c2 : Nat) (w : World) :
    Calls Try.prog 22 #[.int .i64 k, .slice A1 n1 c1, .slice A2 n2 c2, .int .i64 s] w fun e w' => e = .returned (.bool (decide (fErr k s n1 n2 = 0))) ∧ w' = w := by
  have hyes : (0 ≤ k ∧ k ≤ 4) ∧ (1 ≤ s ∧ s ≤ 8) ∧ (n2 = 0 ∨ n2 = n1) → fErr k s n1 n2 = 0 := fun h => if_pos h
  have hno : ¬ ((0 ≤ k ∧ k ≤ 4) ∧ (1 ≤ s ∧ s ≤ 8) ∧ (n2 = 0 ∨ n2 = n1)) → fErr k s n1 n2 = 1 := fun h => if_neg h
  generalize fErr k s n1 n2 = x at *
  by_cases hn : n2 = 0 ∨ n2 = n1
  · have hn' : (n2 : Int) = 0 ∨ (¬ (n2 : Int) = 0 ∧ (n2 : Int) = (n1 : Int)) := by omega
    by_cases hk0 : 0 ≤ k
    · by_cases hk4 : k ≤ 4
      · by_cases hs1 : 1 ≤ s
        · by_cases hs8 : s ≤ 8
          · obtain rfl := hyes ⟨⟨hk0, hk4⟩, ⟨hs1, hs8⟩, hn⟩
            clear hyes hno hn
            rcases hn' with hn | ⟨hn, hn'⟩
            · go_enter Try.func22, Try.ntmps22
              go_wp2_with fail
              go_ret
              exact ⟨rfl, rfl⟩
            · have hnb : ((n2 : Int) == 0) = false := beq_eq_false_iff_ne.2 hn
              obtain rfl : n2 = n1 := by omega
              go_enter Try.func22, Try.ntmps22
              go_wp2_with fail
              go_ret
              exact ⟨rfl, rfl⟩
          · obtain rfl := hno (fun h => hs8 h.2.1.2)
            clear hyes hno hn
            rcases hn' with hn | ⟨hn, hn'⟩
            · go_enter Try.func22, Try.ntmps22
              go_wp2_with fail
              go_ret
              exact ⟨rfl, rfl⟩
            · have hnb : ((n2 : Int) == 0) = false := beq_eq_false_iff_ne.2 hn
              obtain rfl : n2 = n1 := by omega
              go_enter Try.func22, Try.ntmps22
              go_wp2_with fail
              go_ret
              exact ⟨rfl, rfl⟩
        · obtain rfl := hno (fun h => hs1 h.2.1.1)
          clear hyes hno hn
          rcases hn' with hn | ⟨hn, hn'⟩
          · go_enter Try.func22, Try.ntmps22
            go_wp2_with fail
            go_ret
            exact ⟨rfl, rfl⟩
          · have hnb : ((n2 : Int) == 0) = false := beq_eq_false_iff_ne.2 hn
            obtain rfl : n2 = n1 := by omega
            go_enter Try.func22, Try.ntmps22
            go_wp2_with fail
            go_ret
            exact ⟨rfl, rfl⟩
      · obtain rfl := hno (fun h => hk4 h.1.2)
        clear hyes hno hn
        rcases hn' with hn | ⟨hn, hn'⟩
        · go_enter Try.func22, Try.ntmps22
          go_wp2_with fail
          go_ret
          exact ⟨rfl, rfl⟩
        · have hnb : ((n2 : Int) == 0) = false := beq_eq_false_iff_ne.2 hn
          obtain rfl : n2 = n1 := by omega
          go_enter Try.func22, Try.ntmps22
          go_wp2_with fail
          go_ret
          exact ⟨rfl, rfl⟩
    · obtain rfl := hno (fun h => hk0 h.1.1)
      clear hyes hno hn
      rcases hn' with hn | ⟨hn, hn'⟩
      · go_enter Try.func22, Try.ntmps22
        go_wp2_with fail
        go_ret
        exact ⟨rfl, rfl⟩
      · have hnb : ((n2 : Int) == 0) = false := beq_eq_false_iff_ne.2 hn
        obtain rfl : n2 = n1 := by omega
        go_enter Try.func22, Try.ntmps22
        go_wp2_with fail
        go_ret
        exact ⟨rfl, rfl⟩
  · obtain rfl := hno (fun h => hn h.2.2)
    have h1 : ((n2 : Int) == 0) = false := beq_eq_false_iff_ne.2 (by omega)
    have h2 : ((n2 : Int) == (n1 : Int)) = false := beq_eq_false_iff_ne.2 (by omega)
    have h5 : ((n2 : Int) != 0) = true := by rw [bne, h1]; rfl
    have h6 : ((n2 : Int) != (n1 : Int)) = true := by rw [bne, h2]; rfl
    have h3 : ¬ (n2 : Int) = 0 := by omega
    have h4 : ¬ (n2 : Int) = (n1 : Int) := by omega
    clear hyes hno hn
    go_enter Try.func22, Try.ntmps22
    go_wp2_with fail
    go_ret
    exact ⟨rfl, rfl⟩
end Go.Proofs.Ytopjkmobnmaaaaa
