/-
  Contracts of the reference's signs and bytes.
-/
import Derived.Test.YtibbaeelgihmgaaDoorGrow
import Derived.Test.YtibbaeelgihmgaaDoorCut
import Derived.Test.YtibbaeelgihmgaaDoorInt
import Derived.Test.YtibbaeelgihmgaaDoorB64M
import Derived.Deep.QuietTactic
import Derived.BigQuiet
namespace Go.Proofs.YtibbaeelgihmgaaDoor
open Go Go.RowKit

/-- A sign as the reference tells it. -/
def valZ (c : Nat) : Int := if six c < 64 then (six c : Int) else -1

set_option maxHeartbeats 1000000 in
theorem tValue (c : Nat) (w : World) (hc : c < 256) : Calls Tryd.prog 29 #[.int .u8 c] w fun e w' => e = .returned (.int .i64 (valZ c)) ∧ w = w' := by
  by_cases h1 : 65 ≤ c ∧ c ≤ 90
  · have e : valZ c = (c : Int) - 65 := by have : six c = c - 65 := by { unfold six; rw [if_pos h1] }; unfold valZ; rw [this, if_pos (by omega)]; omega
    rw [e]
    clear e
    obtain ⟨h1, h2⟩ := h1
    go_enter Tryd.func29, Tryd.ntmps29
    go_wp2
    go_ret
    exact ⟨rfl, rfl⟩
  by_cases h2 : 97 ≤ c ∧ c ≤ 122
  · have e : valZ c = (c : Int) - 97 + 26 := by have : six c = c - 71 := by { unfold six; rw [if_neg h1, if_pos h2] }; unfold valZ; rw [this, if_pos (by omega)]; omega
    rw [e]
    clear e h1
    obtain ⟨h1, h2⟩ := h2
    go_enter Tryd.func29, Tryd.ntmps29
    go_wp2
    go_ret
    exact ⟨rfl, rfl⟩
  by_cases h3 : 48 ≤ c ∧ c ≤ 57
  · have e : valZ c = (c : Int) - 48 + 52 := by have : six c = c + 4 := by { unfold six; rw [if_neg h1, if_neg h2, if_pos h3] }; unfold valZ; rw [this, if_pos (by omega)]; omega
    rw [e]
    clear e h1 h2
    obtain ⟨h1, h2⟩ := h3
    go_enter Tryd.func29, Tryd.ntmps29
    go_wp2
    go_ret
    exact ⟨rfl, rfl⟩
  by_cases h4 : c = 43
  · subst h4
    clear h1 h2 h3 hc
    go_enter Tryd.func29, Tryd.ntmps29
    go_wp2
    go_ret
    exact ⟨rfl, rfl⟩
  by_cases h5 : c = 47
  · subst h5
    clear h1 h2 h3 h4 hc
    go_enter Tryd.func29, Tryd.ntmps29
    go_wp2
    go_ret
    exact ⟨rfl, rfl⟩
  have e : valZ c = -1 := by have : six c = 64 := by { unfold six; rw [if_neg h1, if_neg h2, if_neg h3, if_neg h4, if_neg h5] }; unfold valZ; rw [this]; rfl
  rw [e]
  have b4 : ((c : Int) == 43) = false := by simp; omega
  have b5 : ((c : Int) == 47) = false := by simp; omega
  clear e h4 h5
  by_cases c1 : c < 48
  · clear h1 h2 h3
    go_enter Tryd.func29, Tryd.ntmps29
    go_wp2
    go_ret
    exact ⟨rfl, rfl⟩
  by_cases c2 : c < 65
  · have d1 : 58 ≤ c := by omega
    clear h1 h2 h3
    go_enter Tryd.func29, Tryd.ntmps29
    go_wp2
    go_ret
    exact ⟨rfl, rfl⟩
  by_cases c3 : c < 97
  · have d1 : 91 ≤ c := by omega
    clear h1 h2 h3
    go_enter Tryd.func29, Tryd.ntmps29
    go_wp2
    go_ret
    exact ⟨rfl, rfl⟩
  · have d1 : 123 ≤ c := by omega
    clear h1 h2 h3
    go_enter Tryd.func29, Tryd.ntmps29
    go_wp2
    go_ret
    exact ⟨rfl, rfl⟩
end Go.Proofs.YtibbaeelgihmgaaDoor
