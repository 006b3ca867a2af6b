/-
  Contracts of package base64: the tables, a sign, what waits.
-/
import Derived.Test.YtibbaeelgihmgaaDoorProg
import Derived.Test.YtibbaeelgihmgaaDoorMem
import Derived.Test.YtibbaeelgihmgaaDoorInt
import Derived.Test.YtibbaeelgihmgaaDoorB64M
import Derived.Lib.LaidTab
import Derived.Deep.QuietTactic
import Derived.BigQuiet
import Derived.StillTailTactics
namespace Go.Proofs.YtibbaeelgihmgaaDoor
open Go Go.RowKit

/-- The two tables, as start-up lays them. -/
structure Tab (w : World) : Prop where
  abc : ∀ i, i < 64 → w.cell? ⟨0, i, none⟩ = some (.int .u8 (abcZ.getD i 0))
  six : ∀ i, i < 80 → w.cell? ⟨1, i, none⟩ = some (.int .i8 (sixZ.getD i 0))
theorem Tab.lt0 {w : World} (h : Tab w) : 0 < w.heap.size := World.block_lt_of_cell? w _ (h.abc 0 (by omega))
theorem Tab.lt1 {w : World} (h : Tab w) : 1 < w.heap.size := World.block_lt_of_cell? w _ (h.six 0 (by omega))
theorem Tab.only {w w' : World} {S : List Nat} (h : Tab w) (ho : Only S w w') (h0 : 0 ∉ S) (h1 : 1 ∉ S) : Tab w' :=
  ⟨fun i hi => (ho.cell (p := ⟨0, i, none⟩) h.lt0 h0).trans (h.abc i hi), fun i hi => (ho.cell (p := ⟨1, i, none⟩) h.lt1 h1).trans (h.six i hi)⟩

set_option maxHeartbeats 400000 in
theorem six_no (c : Nat) (w : World) (T : Tab w) (hc : c < 256) (h : 64 ≤ six c) :
    Calls Tryd.prog 31 #[.int .u8 c] w fun e w' => e = .returned (.tuple #[.int .u32 0, .bool false]) ∧ w = w' := by
  by_cases h1 : c < 43
  · clear T h
    go_enter Tryd.func31, Tryd.ntmps31
    go_wp2
    go_ret2
    exact ⟨rfl, rfl⟩
  by_cases h2 : 123 ≤ c
  · clear T h
    go_enter Tryd.func31, Tryd.ntmps31
    go_wp2
    go_ret2
    exact ⟨rfl, rfl⟩
  obtain ⟨k, rfl⟩ : ∃ k, c = k + 43 := ⟨c - 43, by omega⟩
  have hk : k < 80 := by omega
  have hcell : w.cell? ⟨1, k, none⟩ = some (.int .i8 (-1)) := by rw [T.six k hk, six_all k hk, if_neg (by omega)]
  clear T h h1 h2 hc
  go_enter Tryd.func31, Tryd.ntmps31
  go_wp2
  go_ret2
  exact ⟨rfl, rfl⟩

set_option maxHeartbeats 400000 in
theorem six_yes (c : Nat) (w : World) (T : Tab w) (hc : c < 256) (h : six c < 64) :
    Calls Tryd.prog 31 #[.int .u8 c] w fun e w' => e = .returned (.tuple #[.int .u32 (six c : Nat), .bool true]) ∧ w = w' := by
  have h1 : ¬ (c < 43 ∨ 123 ≤ c) := fun h1 => by have := six_out h1; omega
  obtain ⟨k, rfl⟩ : ∃ k, c = k + 43 := ⟨c - 43, by omega⟩
  have hk : k < 80 := by omega
  have hcell : w.cell? ⟨1, k, none⟩ = some (.int .i8 (six (k + 43) : Nat)) := by rw [T.six k hk, six_all k hk, if_pos h]
  clear T h1
  generalize six (k + 43) = x at *
  go_enter Tryd.func31, Tryd.ntmps31
  go_wp2
  go_ret2
  exact ⟨rfl, rfl⟩

end Go.Proofs.YtibbaeelgihmgaaDoor
