/-
  The tables of inflate, as the rows list them (the laws' own calls do not read them).
-/
import Derived.Test.YtglkfgpefpebmaaDoorLaw
import Derived.Test.YtglkfgpefpebmaaDoorOpen
import Derived.Test.YtglkfgpefpebmaaDoorCards
import Derived.Test.YtglkfgpefpebmaaDoorTie
import Derived.LaidMore
import Derived.Lay
import Derived.SevenTiedAt
import Derived.Stop.Joined
namespace Go.Proofs.YtglkfgpefpebmaaDoor
open Go Go.RowKit Go.ChangeShapes Go.WideShapes Go.ChangeAt

def laidI : List (String × DataW Unit) := [("phosphor/inflate.ranks", Rows.laid_phosphor_inflate_ranks), ("phosphor/inflate.lengths", Rows.laid_phosphor_inflate_lengths), ("phosphor/inflate.distances", Rows.laid_phosphor_inflate_distances)]

/-- The door's own heap meets the condition. -/
theorem door_met (os : Os) (args : Array Value) : laidMetH Tryd.prog laidI ((World.doorLaid Tryd.prog 400 os).forCall (fun _ _ => 0) ⟨#[], args, []⟩).memory :=
  laidMetH_of_parts3 (fuel := 8) (laidMet_of_run' 8 (by kernel_rfl) (by kernel_rfl)) (by kernel_rfl) (by kernel_rfl)
end Go.Proofs.YtglkfgpefpebmaaDoor
