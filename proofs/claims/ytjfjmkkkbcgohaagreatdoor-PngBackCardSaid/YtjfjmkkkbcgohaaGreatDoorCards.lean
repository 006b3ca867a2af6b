/-
  DERIVED. GIVEN WITH THE SEED: THE CARDS: each row of YtjfjmkkkbcgohaaGreatDoorRows.lean that lists a variable, with what it lists TIED to the program's text (the seventh form; the later family's looks); each row that meets fmt, with fmt's text TOLD by the authors' own Lean function (tested against real Go, not proved from fmt's source: count such statements apart). THE CARD IS WHAT COUNTS. Prove the row's statement (the work); the ties are given (YtjfjmkkkbcgohaaGreatDoorTie.lean); close each card by the builder's one call (the guide's Derived/Test/ToyasCard.lean, 'card_holds'). Laid BY PROGRAM, IN A SANDBOX (cutbox-door.mjs). By AI agents, Wed Nov 11 2026. No macro, syntax, notation, axiom, sorry.
-/
import Derived.Test.YtjfjmkkkbcgohaaGreatDoorRows
import GoSem.ClaimSeven
namespace Go.Proofs.YtjfjmkkkbcgohaaGreatDoor
namespace Rows

/-- THE TIED CARD OF 'phosphorlaw9.PngBack'. -/
def pngBackCard : Claim7 := { stood := { row := pngBackRow, standIns := [], harness := (true, "c0a1e575d1056b8052cfd7b1beef8c8ad938d141f7416c9e8ed642599e7683b4"), looks := false }, kinds := [], alts := [], laidByText := true, laidKinds := [.data, .data, .data], laidTests := true, laidLooks := .later }
def PngBackCardSaid : Prop := Claim7.holds Tryz.pinned (.plain (OpenSpec.ofChange pngBackSpec)) pngBackCard

/-- THE SECOND FORM's CARD OF 'phosphorlaw9.PngBack'. -/
def pngBackUptoCard : Claim7 := { stood := { row := pngBackUptoRow, standIns := [], harness := (true, "c0a1e575d1056b8052cfd7b1beef8c8ad938d141f7416c9e8ed642599e7683b4"), looks := false }, kinds := [], alts := [], laidByText := true, laidKinds := [.data, .data, .data], laidTests := true, laidLooks := .later }
def PngBackUptoCardSaid : Prop := Claim7.holds Tryz.pinned (.plain (OpenSpec.upto pngBackSpec)) pngBackUptoCard
end Rows
end Go.Proofs.YtjfjmkkkbcgohaaGreatDoor
