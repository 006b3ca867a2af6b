/-
  DERIVED. GIVEN WITH THE SEED: THE CARDS: each row of YtjfmebjjdiodbaaDoorRows.lean that lists a variable, with what it lists TIED to the program's text (the seventh form; the later family's looks); each row that meets fmt, with fmt's text TOLD by the authors' own Lean function (tested against real Go, not proved from fmt's source: count such statements apart). THE CARD IS WHAT COUNTS. Prove the row's statement (the work); the ties are given (YtjfmebjjdiodbaaDoorTie.lean); close each card by the builder's one call (the guide's Derived/Test/ToyasCard.lean, 'card_holds'). Laid BY PROGRAM, IN A SANDBOX (cutbox-door.mjs). By AI agents, Wed Nov 11 2026. No macro, syntax, notation, axiom, sorry.
-/
import Derived.Test.YtjfmebjjdiodbaaDoorRows
import GoSem.ClaimSeven
namespace Go.Proofs.YtjfmebjjdiodbaaDoor
namespace Rows

/-- THE TIED CARD OF 'phosphorlaw12.AttrApplies'. -/
def attrAppliesCard : Claim7 := { stood := { row := attrAppliesRow, standIns := [], harness := (true, "7953d1e53654cd8ec4f125168c3aa1466f893926244dd0dfbb037513bcf2faa6"), looks := false }, kinds := [], alts := [], laidByText := true, laidKinds := [.data, .data, .data], laidTests := true, laidLooks := .later }
def AttrAppliesCardSaid : Prop := Claim7.holds Tryd.pinned (.plain (OpenSpec.ofChange attrAppliesSpec)) attrAppliesCard

/-- THE TIED CARD OF 'phosphorlaw12.AttrColors'. -/
def attrColorsCard : Claim7 := { stood := { row := attrColorsRow, standIns := [], harness := (true, "7953d1e53654cd8ec4f125168c3aa1466f893926244dd0dfbb037513bcf2faa6"), looks := false }, kinds := [], alts := [], laidByText := true, laidKinds := [.data, .data, .data], laidTests := true, laidLooks := .later }
def AttrColorsCardSaid : Prop := Claim7.holds Tryd.pinned (.plain (OpenSpec.ofChange attrColorsSpec)) attrColorsCard

/-- THE TIED CARD OF 'phosphorlaw12.AttrFlags'. -/
def attrFlagsCard : Claim7 := { stood := { row := attrFlagsRow, standIns := [], harness := (true, "7953d1e53654cd8ec4f125168c3aa1466f893926244dd0dfbb037513bcf2faa6"), looks := false }, kinds := [], alts := [], laidByText := true, laidKinds := [.data, .data, .data], laidTests := true, laidLooks := .later }
def AttrFlagsCardSaid : Prop := Claim7.holds Tryd.pinned (.plain (OpenSpec.ofChange attrFlagsSpec)) attrFlagsCard

/-- THE TIED CARD OF 'phosphorlaw12.AttrParams'. -/
def attrParamsCard : Claim7 := { stood := { row := attrParamsRow, standIns := [], harness := (true, "7953d1e53654cd8ec4f125168c3aa1466f893926244dd0dfbb037513bcf2faa6"), looks := false }, kinds := [], alts := [], laidByText := true, laidKinds := [.data, .data, .data], laidTests := true, laidLooks := .later }
def AttrParamsCardSaid : Prop := Claim7.holds Tryd.pinned (.plain (OpenSpec.ofChange attrParamsSpec)) attrParamsCard

/-- THE TIED CARD OF 'phosphorlaw12.AttrParts'. -/
def attrPartsCard : Claim7 := { stood := { row := attrPartsRow, standIns := [], harness := (true, "7953d1e53654cd8ec4f125168c3aa1466f893926244dd0dfbb037513bcf2faa6"), looks := false }, kinds := [], alts := [], laidByText := true, laidKinds := [.data, .data, .data], laidTests := true, laidLooks := .later }
def AttrPartsCardSaid : Prop := Claim7.holds Tryd.pinned (.plain (OpenSpec.ofChange attrPartsSpec)) attrPartsCard

/-- THE SECOND FORM's CARD OF 'phosphorlaw12.AttrApplies'. -/
def attrAppliesUptoCard : Claim7 := { stood := { row := attrAppliesUptoRow, standIns := [], harness := (true, "7953d1e53654cd8ec4f125168c3aa1466f893926244dd0dfbb037513bcf2faa6"), looks := false }, kinds := [], alts := [], laidByText := true, laidKinds := [.data, .data, .data], laidTests := true, laidLooks := .later }
def AttrAppliesUptoCardSaid : Prop := Claim7.holds Tryd.pinned (.plain (OpenSpec.upto attrAppliesSpec)) attrAppliesUptoCard

/-- THE SECOND FORM's CARD OF 'phosphorlaw12.AttrColors'. -/
def attrColorsUptoCard : Claim7 := { stood := { row := attrColorsUptoRow, standIns := [], harness := (true, "7953d1e53654cd8ec4f125168c3aa1466f893926244dd0dfbb037513bcf2faa6"), looks := false }, kinds := [], alts := [], laidByText := true, laidKinds := [.data, .data, .data], laidTests := true, laidLooks := .later }
def AttrColorsUptoCardSaid : Prop := Claim7.holds Tryd.pinned (.plain (OpenSpec.upto attrColorsSpec)) attrColorsUptoCard

/-- THE SECOND FORM's CARD OF 'phosphorlaw12.AttrFlags'. -/
def attrFlagsUptoCard : Claim7 := { stood := { row := attrFlagsUptoRow, standIns := [], harness := (true, "7953d1e53654cd8ec4f125168c3aa1466f893926244dd0dfbb037513bcf2faa6"), looks := false }, kinds := [], alts := [], laidByText := true, laidKinds := [.data, .data, .data], laidTests := true, laidLooks := .later }
def AttrFlagsUptoCardSaid : Prop := Claim7.holds Tryd.pinned (.plain (OpenSpec.upto attrFlagsSpec)) attrFlagsUptoCard

/-- THE SECOND FORM's CARD OF 'phosphorlaw12.AttrParams'. -/
def attrParamsUptoCard : Claim7 := { stood := { row := attrParamsUptoRow, standIns := [], harness := (true, "7953d1e53654cd8ec4f125168c3aa1466f893926244dd0dfbb037513bcf2faa6"), looks := false }, kinds := [], alts := [], laidByText := true, laidKinds := [.data, .data, .data], laidTests := true, laidLooks := .later }
def AttrParamsUptoCardSaid : Prop := Claim7.holds Tryd.pinned (.plain (OpenSpec.upto attrParamsSpec)) attrParamsUptoCard

/-- THE SECOND FORM's CARD OF 'phosphorlaw12.AttrParts'. -/
def attrPartsUptoCard : Claim7 := { stood := { row := attrPartsUptoRow, standIns := [], harness := (true, "7953d1e53654cd8ec4f125168c3aa1466f893926244dd0dfbb037513bcf2faa6"), looks := false }, kinds := [], alts := [], laidByText := true, laidKinds := [.data, .data, .data], laidTests := true, laidLooks := .later }
def AttrPartsUptoCardSaid : Prop := Claim7.holds Tryd.pinned (.plain (OpenSpec.upto attrPartsSpec)) attrPartsUptoCard
end Rows
end Go.Proofs.YtjfmebjjdiodbaaDoor
