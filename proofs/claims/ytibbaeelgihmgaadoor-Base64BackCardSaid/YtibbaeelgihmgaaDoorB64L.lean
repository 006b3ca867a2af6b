/-
  The two tables, as the rows list them.
-/
import Derived.Test.YtibbaeelgihmgaaDoorLaw
import Derived.Test.YtibbaeelgihmgaaDoorOpen
import Derived.Test.YtibbaeelgihmgaaDoorB64A
import Derived.Test.YtibbaeelgihmgaaDoorCards
import Derived.Test.YtibbaeelgihmgaaDoorTie
import Derived.LaidMore
import Derived.Lay
import Derived.SevenTiedAt
import Derived.Stop.Joined
namespace Go.Proofs.YtibbaeelgihmgaaDoor
open Go Go.RowKit Go.ChangeShapes Go.WideShapes Go.ChangeAt

def laidB : List (String × DataW Unit) := [("phosphor/base64.signs", Rows.laid_phosphor_base64_signs), ("phosphor/base64.sixes", Rows.laid_phosphor_base64_sixes)]

theorem signs_data : (Rows.laid_phosphor_base64_signs : DataW Unit) = Lib.tabData .u8 abcZ := by rfl
theorem sixes_data : (Rows.laid_phosphor_base64_sixes : DataW Unit) = Lib.tabData .i8 sixZ := by rfl

theorem tab_of_laid {W : World} (h : laidMetH Tryd.prog laidB W) : Tab W := by
  rw [MakeChecks.laidMetH_plain _ _ _ (by kernel_rfl)] at h
  obtain ⟨ps, ⟨g0, t0, cs0, f0, p0, q0, hg0, ht0, hv0, hd0, ⟨g1, t1, cs1, f1, p1, q1, hg1, ht1, hv1, hd1, _, _⟩, _⟩, _, _⟩ := h
  have gS : Tryd.prog.globalNamed "phosphor/base64.signs" = some 0 := by kernel_rfl
  have gX : Tryd.prog.globalNamed "phosphor/base64.sixes" = some 1 := by kernel_rfl
  obtain rfl := Option.some.inj (gS.symm.trans hg0)
  obtain rfl := Option.some.inj (gX.symm.trans hg1)
  obtain rfl := Option.some.inj ((show (Tryd.prog.globals[0]?).map (·.type) = some 58 by kernel_rfl).symm.trans ht0)
  obtain rfl := Option.some.inj ((show (Tryd.prog.globals[1]?).map (·.type) = some 60 by kernel_rfl).symm.trans ht1)
  rw [signs_data] at hd0
  rw [sixes_data] at hd1
  have e0 := Lib.cells_of_tab Tryd.underlying58 Tryd.underlying5 (by kernel_rfl) (by kernel_rfl) hd0
  have e1 := Lib.cells_of_tab Tryd.underlying60 Tryd.underlying59 (by kernel_rfl) (by kernel_rfl) hd1
  have i0 : Lib.TabIs Tryd.prog W "phosphor/base64.signs" .u8 abcZ := by unfold Lib.TabIs; rw [hv0, ← e0]
  have i1 : Lib.TabIs Tryd.prog W "phosphor/base64.sixes" .i8 sixZ := by unfold Lib.TabIs; rw [hv1, ← e1]
  exact ⟨fun i hi => i0.cell gS i hi, fun i hi => i1.cell gX i hi⟩

/-- The door's own heap meets the condition. -/
theorem door_met (os : Os) (args : Array Value) : laidMetH Tryd.prog laidB ((World.doorLaid Tryd.prog 400 os).forCall (fun _ _ => 0) ⟨#[], args, []⟩).memory :=
  laidMetH_of_parts3 (fuel := 8) (laidMet_of_run' 8 (by kernel_rfl) (by kernel_rfl)) (by kernel_rfl) (by kernel_rfl)
end Go.Proofs.YtibbaeelgihmgaaDoor
