/-
  Package attr: the tables; one number, the numbers behind 38, 48.
-/
import Derived.Test.YtjfmebjjdiodbaaDoorProg
import Derived.Test.YtjfmebjjdiodbaaDoorMem
import Derived.Test.YtjfmebjjdiodbaaDoorAtM
import Derived.StillTailTactics
import Derived.Deep.QuietTactic
import Derived.BigQuiet
namespace Go.Proofs.YtjfmebjjdiodbaaDoor
open Go Go.RowKit

def basicL : List Int := [0, 0, 0, 205, 0, 0, 0, 205, 0, 205, 205, 0, 0, 0, 238, 205, 0, 205, 0, 205, 205, 229, 229, 229, 127, 127, 127, 255, 0, 0, 0, 255, 0, 255, 255, 0, 92, 92, 255, 255, 0, 255, 0, 255, 255, 255, 255, 255]
def levelL : List Int := [0, 95, 135, 175, 215, 255]
/-- The three tables, as start-up lays them. -/
structure Tab (w : World) : Prop where
  flag : ∀ i, i < 10 → w.cell? ⟨2, i, none⟩ = some (.int .i64 (flagL.getD i 0))
  basic : ∀ i, i < 48 → w.cell? ⟨0, i, none⟩ = some (.int .u8 (basicL.getD i 0))
  level : ∀ i, i < 6 → w.cell? ⟨1, i, none⟩ = some (.int .u8 (levelL.getD i 0))
theorem Tab.lt0 {w : World} (h : Tab w) : 2 < w.heap.size := World.block_lt_of_cell? w _ (h.flag 0 (by omega))
theorem Tab.lt1 {w : World} (h : Tab w) : 0 < w.heap.size := World.block_lt_of_cell? w _ (h.basic 0 (by omega))
theorem Tab.lt2 {w : World} (h : Tab w) : 1 < w.heap.size := World.block_lt_of_cell? w _ (h.level 0 (by omega))
/-- A block above the tables. -/
structure Above (k : Nat) : Prop where
  a : 2 < k
  b : 0 < k
  c : 1 < k
theorem Tab.above {w : World} (h : Tab w) : Above w.heap.size := ⟨h.lt0, h.lt1, h.lt2⟩
/-- Kept, whatever blocks above the tables were changed. -/
theorem Tab.only {w w' : World} {S : List Nat} (h : Tab w) (ho : Only S w w') (hS : ∀ k ∈ S, Above k) : Tab w' :=
  ⟨fun i hi => (ho.cell (p := ⟨2, i, none⟩) h.lt0 (fun hm => absurd (hS _ hm).a (Nat.lt_irrefl _))).trans (h.flag i hi),
   fun i hi => (ho.cell (p := ⟨0, i, none⟩) h.lt1 (fun hm => absurd (hS _ hm).b (Nat.lt_irrefl _))).trans (h.basic i hi),
   fun i hi => (ho.cell (p := ⟨1, i, none⟩) h.lt2 (fun hm => absurd (hS _ hm).c (Nat.lt_irrefl _))).trans (h.level i hi)⟩

theorem isByte_any (n : Int) (w : World) : Calls Tryd.prog 28 #[.int .i64 n] w fun e w' => e = .returned (.bool (isB n)) ∧ w' = w := by
  by_cases h1 : 0 ≤ n
  · have e : isB n = decide (n ≤ 255) := by simp [isB, h1]
    rw [e]
    go_enter Tryd.func28, Tryd.ntmps28
    go_wp2_with fail
    go_ret
    exact ⟨rfl, rfl⟩
  · have e : isB n = false := by simp [isB, h1]
    rw [e]
    go_enter Tryd.func28, Tryd.ntmps28
    go_wp2_with fail
    go_ret
    exact ⟨rfl, rfl⟩
end Go.Proofs.YtjfmebjjdiodbaaDoor
