/-
  DERIVED. GIVEN WITH THE SEED: THE CARDS: each row of YtlknhiihdejpeaaGreatDoorRows.lean that lists a variable, with what it lists TIED to the program's text (the seventh form; the later family's looks); each row that meets fmt, with fmt's text TOLD by the authors' own Lean function (tested against real Go, not proved from fmt's source: count such statements apart). THE CARD IS WHAT COUNTS. Prove the row's statement (the work); the ties are given (YtlknhiihdejpeaaGreatDoorTie.lean); close each card by the builder's one call (the guide's Derived/Test/ToyasCard.lean, 'card_holds'). Laid BY PROGRAM, IN A SANDBOX (cutbox-door.mjs). By AI agents, Wed Nov 11 2026. No macro, syntax, notation, axiom, sorry.
-/
import Derived.Test.YtlknhiihdejpeaaGreatDoorRows
import GoSem.ClaimSeven
namespace Go.Proofs.YtlknhiihdejpeaaGreatDoor
namespace Rows

/-- THE TIED CARD OF 'phosphorlaw6.ZlibStreams'. -/
def zlibStreamsCard : Claim7 := { stood := { row := zlibStreamsRow, standIns := [], harness := (true, "a2eb7e695c3ca38c1824363b187809a1c3ca404c0d3b06047d5b16bc5cb6c389"), looks := false }, kinds := [], alts := [], laidByText := true, laidKinds := [.data, .data, .data], laidTests := true, laidLooks := .later }
def ZlibStreamsCardSaid : Prop := Claim7.holds Tryz.pinned (.plain (OpenSpec.ofChange zlibStreamsSpec)) zlibStreamsCard

/-- THE TIED CARD OF 'phosphorlaw6.ZlibPieces'. -/
def zlibPiecesCard : Claim7 := { stood := { row := zlibPiecesRow, standIns := [], harness := (true, "a2eb7e695c3ca38c1824363b187809a1c3ca404c0d3b06047d5b16bc5cb6c389"), looks := false }, kinds := [], alts := [], laidByText := true, laidKinds := [.data, .data, .data], laidTests := true, laidLooks := .later }
def ZlibPiecesCardSaid : Prop := Claim7.holds Tryz.pinned (.plain (OpenSpec.ofChange zlibPiecesSpec)) zlibPiecesCard

/-- THE SECOND FORM's CARD OF 'phosphorlaw6.ZlibStreams'. -/
def zlibStreamsUptoCard : Claim7 := { stood := { row := zlibStreamsUptoRow, standIns := [], harness := (true, "a2eb7e695c3ca38c1824363b187809a1c3ca404c0d3b06047d5b16bc5cb6c389"), looks := false }, kinds := [], alts := [], laidByText := true, laidKinds := [.data, .data, .data], laidTests := true, laidLooks := .later }
def ZlibStreamsUptoCardSaid : Prop := Claim7.holds Tryz.pinned (.plain (OpenSpec.upto zlibStreamsSpec)) zlibStreamsUptoCard

/-- THE SECOND FORM's CARD OF 'phosphorlaw6.ZlibPieces'. -/
def zlibPiecesUptoCard : Claim7 := { stood := { row := zlibPiecesUptoRow, standIns := [], harness := (true, "a2eb7e695c3ca38c1824363b187809a1c3ca404c0d3b06047d5b16bc5cb6c389"), looks := false }, kinds := [], alts := [], laidByText := true, laidKinds := [.data, .data, .data], laidTests := true, laidLooks := .later }
def ZlibPiecesUptoCardSaid : Prop := Claim7.holds Tryz.pinned (.plain (OpenSpec.upto zlibPiecesSpec)) zlibPiecesUptoCard
end Rows
end Go.Proofs.YtlknhiihdejpeaaGreatDoor
