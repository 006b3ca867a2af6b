/-
  DERIVED. GIVEN WITH THE SEED: THE CARDS: each row of YtopjkmobnmaaaaaDoorRows.lean that lists a variable, with what it lists TIED to the program's text (the seventh form; the later family's looks); each row that meets fmt, with fmt's text TOLD by the authors' own Lean function (tested against real Go, not proved from fmt's source: count such statements apart). THE CARD IS WHAT COUNTS. Prove the row's statement (the work); the ties are given (YtopjkmobnmaaaaaDoorTie.lean); close each card by the builder's one call (the guide's Derived/Test/ToyasCard.lean, 'card_holds'). Laid BY PROGRAM, IN A SANDBOX (cutbox-door.mjs). By AI agents, Wed Nov 11 2026. No macro, syntax, notation, axiom, sorry.
-/
import Derived.Test.YtopjkmobnmaaaaaDoorRows
import GoSem.ClaimSeven
namespace Go.Proofs.YtopjkmobnmaaaaaDoor
namespace Rows

/-- THE TIED CARD OF 'phosphorlaw6.ZlibBack'. -/
def zlibBackCard : Claim7 := { stood := { row := zlibBackRow, standIns := [], harness := (true, "069f6c2b224c64a0e29abcc826b61c6a59efcb96ca5a5ea0193113c7301be141"), looks := false }, kinds := [], alts := [], laidByText := true, laidKinds := [.data, .data, .data], laidTests := true, laidLooks := .later }
def ZlibBackCardSaid : Prop := Claim7.holds Tryd.pinned (.plain (OpenSpec.ofChange zlibBackSpec)) zlibBackCard

/-- THE TIED CARD OF 'phosphorlaw6.ZlibFronts'. -/
def zlibFrontsCard : Claim7 := { stood := { row := zlibFrontsRow, standIns := [], harness := (true, "069f6c2b224c64a0e29abcc826b61c6a59efcb96ca5a5ea0193113c7301be141"), looks := false }, kinds := [], alts := [], laidByText := true, laidKinds := [.data, .data, .data], laidTests := true, laidLooks := .later }
def ZlibFrontsCardSaid : Prop := Claim7.holds Tryd.pinned (.plain (OpenSpec.ofChange zlibFrontsSpec)) zlibFrontsCard

/-- THE SECOND FORM's CARD OF 'phosphorlaw6.ZlibBack'. -/
def zlibBackUptoCard : Claim7 := { stood := { row := zlibBackUptoRow, standIns := [], harness := (true, "069f6c2b224c64a0e29abcc826b61c6a59efcb96ca5a5ea0193113c7301be141"), looks := false }, kinds := [], alts := [], laidByText := true, laidKinds := [.data, .data, .data], laidTests := true, laidLooks := .later }
def ZlibBackUptoCardSaid : Prop := Claim7.holds Tryd.pinned (.plain (OpenSpec.upto zlibBackSpec)) zlibBackUptoCard

/-- THE SECOND FORM's CARD OF 'phosphorlaw6.ZlibFronts'. -/
def zlibFrontsUptoCard : Claim7 := { stood := { row := zlibFrontsUptoRow, standIns := [], harness := (true, "069f6c2b224c64a0e29abcc826b61c6a59efcb96ca5a5ea0193113c7301be141"), looks := false }, kinds := [], alts := [], laidByText := true, laidKinds := [.data, .data, .data], laidTests := true, laidLooks := .later }
def ZlibFrontsUptoCardSaid : Prop := Claim7.holds Tryd.pinned (.plain (OpenSpec.upto zlibFrontsSpec)) zlibFrontsUptoCard
end Rows
end Go.Proofs.YtopjkmobnmaaaaaDoor
