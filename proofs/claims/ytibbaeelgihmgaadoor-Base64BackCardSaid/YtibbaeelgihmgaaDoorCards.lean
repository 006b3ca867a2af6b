/-
  DERIVED. GIVEN WITH THE SEED: THE CARDS: each row of YtibbaeelgihmgaaDoorRows.lean that lists a variable, with what it lists TIED to the program's text (the seventh form; the later family's looks); each row that meets fmt, with fmt's text TOLD by the authors' own Lean function (tested against real Go, not proved from fmt's source: count such statements apart). THE CARD IS WHAT COUNTS. Prove the row's statement (the work); the ties are given (YtibbaeelgihmgaaDoorTie.lean); close each card by the builder's one call (the guide's Derived/Test/ToyasCard.lean, 'card_holds'). Laid BY PROGRAM, IN A SANDBOX (cutbox-door.mjs). By AI agents, Wed Nov 11 2026. No macro, syntax, notation, axiom, sorry.
-/
import Derived.Test.YtibbaeelgihmgaaDoorRows
import GoSem.ClaimSeven
namespace Go.Proofs.YtibbaeelgihmgaaDoor
namespace Rows

/-- THE TIED CARD OF 'phosphorlaw3.Base64Pieces'. -/
def base64PiecesCard : Claim7 := { stood := { row := base64PiecesRow, standIns := [], harness := (true, "07cd8b5d59b52586b5d8b3187e83c61ed0408cca25f186f46db9669e4f03d86e"), looks := false }, kinds := [], alts := [], laidByText := true, laidKinds := [.data, .data], laidTests := true, laidLooks := .later }
def Base64PiecesCardSaid : Prop := Claim7.holds Tryd.pinned (.plain (OpenSpec.ofChange base64PiecesSpec)) base64PiecesCard

/-- THE TIED CARD OF 'phosphorlaw3.Base64Texts'. -/
def base64TextsCard : Claim7 := { stood := { row := base64TextsRow, standIns := [], harness := (true, "07cd8b5d59b52586b5d8b3187e83c61ed0408cca25f186f46db9669e4f03d86e"), looks := false }, kinds := [], alts := [], laidByText := true, laidKinds := [.data, .data], laidTests := true, laidLooks := .later }
def Base64TextsCardSaid : Prop := Claim7.holds Tryd.pinned (.plain (OpenSpec.ofChange base64TextsSpec)) base64TextsCard

/-- THE TIED CARD OF 'phosphorlaw3.Base64Back'. -/
def base64BackCard : Claim7 := { stood := { row := base64BackRow, standIns := [], harness := (true, "07cd8b5d59b52586b5d8b3187e83c61ed0408cca25f186f46db9669e4f03d86e"), looks := false }, kinds := [], alts := [], laidByText := true, laidKinds := [.data, .data], laidTests := true, laidLooks := .later }
def Base64BackCardSaid : Prop := Claim7.holds Tryd.pinned (.plain (OpenSpec.ofChange base64BackSpec)) base64BackCard

/-- THE TIED CARD OF 'phosphorlaw3.Base64Errors'. -/
def base64ErrorsCard : Claim7 := { stood := { row := base64ErrorsRow, standIns := [], harness := (true, "07cd8b5d59b52586b5d8b3187e83c61ed0408cca25f186f46db9669e4f03d86e"), looks := false }, kinds := [], alts := [], laidByText := true, laidKinds := [.data, .data], laidTests := true, laidLooks := .later }
def Base64ErrorsCardSaid : Prop := Claim7.holds Tryd.pinned (.plain (OpenSpec.ofChange base64ErrorsSpec)) base64ErrorsCard

/-- THE SECOND FORM's CARD OF 'phosphorlaw3.Base64Pieces'. -/
def base64PiecesUptoCard : Claim7 := { stood := { row := base64PiecesUptoRow, standIns := [], harness := (true, "07cd8b5d59b52586b5d8b3187e83c61ed0408cca25f186f46db9669e4f03d86e"), looks := false }, kinds := [], alts := [], laidByText := true, laidKinds := [.data, .data], laidTests := true, laidLooks := .later }
def Base64PiecesUptoCardSaid : Prop := Claim7.holds Tryd.pinned (.plain (OpenSpec.upto base64PiecesSpec)) base64PiecesUptoCard

/-- THE SECOND FORM's CARD OF 'phosphorlaw3.Base64Texts'. -/
def base64TextsUptoCard : Claim7 := { stood := { row := base64TextsUptoRow, standIns := [], harness := (true, "07cd8b5d59b52586b5d8b3187e83c61ed0408cca25f186f46db9669e4f03d86e"), looks := false }, kinds := [], alts := [], laidByText := true, laidKinds := [.data, .data], laidTests := true, laidLooks := .later }
def Base64TextsUptoCardSaid : Prop := Claim7.holds Tryd.pinned (.plain (OpenSpec.upto base64TextsSpec)) base64TextsUptoCard

/-- THE SECOND FORM's CARD OF 'phosphorlaw3.Base64Back'. -/
def base64BackUptoCard : Claim7 := { stood := { row := base64BackUptoRow, standIns := [], harness := (true, "07cd8b5d59b52586b5d8b3187e83c61ed0408cca25f186f46db9669e4f03d86e"), looks := false }, kinds := [], alts := [], laidByText := true, laidKinds := [.data, .data], laidTests := true, laidLooks := .later }
def Base64BackUptoCardSaid : Prop := Claim7.holds Tryd.pinned (.plain (OpenSpec.upto base64BackSpec)) base64BackUptoCard

/-- THE SECOND FORM's CARD OF 'phosphorlaw3.Base64Errors'. -/
def base64ErrorsUptoCard : Claim7 := { stood := { row := base64ErrorsUptoRow, standIns := [], harness := (true, "07cd8b5d59b52586b5d8b3187e83c61ed0408cca25f186f46db9669e4f03d86e"), looks := false }, kinds := [], alts := [], laidByText := true, laidKinds := [.data, .data], laidTests := true, laidLooks := .later }
def Base64ErrorsUptoCardSaid : Prop := Claim7.holds Tryd.pinned (.plain (OpenSpec.upto base64ErrorsSpec)) base64ErrorsUptoCard
end Rows
end Go.Proofs.YtibbaeelgihmgaaDoor
