/-
  DERIVED. GIVEN WITH THE SEED: THE CARDS: each row of YtilpegmjkbmldaaDoorRows.lean that lists a variable, with what it lists TIED to the program's text (the seventh form; the later family's looks); each row that meets fmt, with fmt's text TOLD by the authors' own Lean function (tested against real Go, not proved from fmt's source: count such statements apart). THE CARD IS WHAT COUNTS. Prove the row's statement (the work); the ties are given (YtilpegmjkbmldaaDoorTie.lean); close each card by the builder's one call (the guide's Derived/Test/ToyasCard.lean, 'card_holds'). Laid BY PROGRAM, IN A SANDBOX (cutbox-door.mjs). By AI agents, Wed Nov 11 2026. No macro, syntax, notation, axiom, sorry.
-/
import Derived.Test.YtilpegmjkbmldaaDoorRows
import GoSem.ClaimSeven
namespace Go.Proofs.YtilpegmjkbmldaaDoor
namespace Rows

/-- THE TIED CARD OF 'phosphorlaw13.LineNew'. -/
def lineNewCard : Claim7 := { stood := { row := lineNewRow, standIns := [], harness := (true, "06974bf405c8c12b7cf8f0bb3952f45645478f86a92bd9edfa55947f87b883e4"), looks := false }, kinds := [], alts := [], laidByText := true, laidKinds := [.data, .pinned], laidTests := true, laidLooks := .later }
def LineNewCardSaid : Prop := Claim7.holds Tryd.pinned (.plain (OpenSpec.ofChange lineNewSpec)) lineNewCard

/-- THE TIED CARD OF 'phosphorlaw13.LineMaps'. -/
def lineMapsCard : Claim7 := { stood := { row := lineMapsRow, standIns := [], harness := (true, "06974bf405c8c12b7cf8f0bb3952f45645478f86a92bd9edfa55947f87b883e4"), looks := false }, kinds := [], alts := [], laidByText := true, laidKinds := [.data, .pinned], laidTests := true, laidLooks := .later }
def LineMapsCardSaid : Prop := Claim7.holds Tryd.pinned (.plain (OpenSpec.ofChange lineMapsSpec)) lineMapsCard

/-- THE TIED CARD OF 'phosphorlaw13.LineTexts'. -/
def lineTextsCard : Claim7 := { stood := { row := lineTextsRow, standIns := [], harness := (true, "06974bf405c8c12b7cf8f0bb3952f45645478f86a92bd9edfa55947f87b883e4"), looks := false }, kinds := [], alts := [], laidByText := true, laidKinds := [.data, .pinned], laidTests := true, laidLooks := .later }
def LineTextsCardSaid : Prop := Claim7.holds Tryd.pinned (.plain (OpenSpec.ofChange lineTextsSpec)) lineTextsCard

/-- THE TIED CARD OF 'phosphorlaw13.LineShifts'. -/
def lineShiftsCard : Claim7 := { stood := { row := lineShiftsRow, standIns := [], harness := (true, "06974bf405c8c12b7cf8f0bb3952f45645478f86a92bd9edfa55947f87b883e4"), looks := false }, kinds := [], alts := [], laidByText := true, laidKinds := [.data, .pinned], laidTests := true, laidLooks := .later }
def LineShiftsCardSaid : Prop := Claim7.holds Tryd.pinned (.plain (OpenSpec.ofChange lineShiftsSpec)) lineShiftsCard

/-- THE SECOND FORM's CARD OF 'phosphorlaw13.LineNew'. -/
def lineNewUptoCard : Claim7 := { stood := { row := lineNewUptoRow, standIns := [], harness := (true, "06974bf405c8c12b7cf8f0bb3952f45645478f86a92bd9edfa55947f87b883e4"), looks := false }, kinds := [], alts := [], laidByText := true, laidKinds := [.data, .pinned], laidTests := true, laidLooks := .later }
def LineNewUptoCardSaid : Prop := Claim7.holds Tryd.pinned (.plain (OpenSpec.upto lineNewSpec)) lineNewUptoCard

/-- THE SECOND FORM's CARD OF 'phosphorlaw13.LineMaps'. -/
def lineMapsUptoCard : Claim7 := { stood := { row := lineMapsUptoRow, standIns := [], harness := (true, "06974bf405c8c12b7cf8f0bb3952f45645478f86a92bd9edfa55947f87b883e4"), looks := false }, kinds := [], alts := [], laidByText := true, laidKinds := [.data, .pinned], laidTests := true, laidLooks := .later }
def LineMapsUptoCardSaid : Prop := Claim7.holds Tryd.pinned (.plain (OpenSpec.upto lineMapsSpec)) lineMapsUptoCard

/-- THE SECOND FORM's CARD OF 'phosphorlaw13.LineTexts'. -/
def lineTextsUptoCard : Claim7 := { stood := { row := lineTextsUptoRow, standIns := [], harness := (true, "06974bf405c8c12b7cf8f0bb3952f45645478f86a92bd9edfa55947f87b883e4"), looks := false }, kinds := [], alts := [], laidByText := true, laidKinds := [.data, .pinned], laidTests := true, laidLooks := .later }
def LineTextsUptoCardSaid : Prop := Claim7.holds Tryd.pinned (.plain (OpenSpec.upto lineTextsSpec)) lineTextsUptoCard

/-- THE SECOND FORM's CARD OF 'phosphorlaw13.LineShifts'. -/
def lineShiftsUptoCard : Claim7 := { stood := { row := lineShiftsUptoRow, standIns := [], harness := (true, "06974bf405c8c12b7cf8f0bb3952f45645478f86a92bd9edfa55947f87b883e4"), looks := false }, kinds := [], alts := [], laidByText := true, laidKinds := [.data, .pinned], laidTests := true, laidLooks := .later }
def LineShiftsUptoCardSaid : Prop := Claim7.holds Tryd.pinned (.plain (OpenSpec.upto lineShiftsSpec)) lineShiftsUptoCard
end Rows
end Go.Proofs.YtilpegmjkbmldaaDoor
