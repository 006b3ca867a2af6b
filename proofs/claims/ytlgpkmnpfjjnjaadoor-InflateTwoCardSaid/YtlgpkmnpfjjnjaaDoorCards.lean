/-
  DERIVED. GIVEN WITH THE SEED: THE CARDS: each row of YtlgpkmnpfjjnjaaDoorRows.lean that lists a variable, with what it lists TIED to the program's text (the seventh form; the later family's looks); each row that meets fmt, with fmt's text TOLD by the authors' own Lean function (tested against real Go, not proved from fmt's source: count such statements apart). THE CARD IS WHAT COUNTS. Prove the row's statement (the work); the ties are given (YtlgpkmnpfjjnjaaDoorTie.lean); close each card by the builder's one call (the guide's Derived/Test/ToyasCard.lean, 'card_holds'). Laid BY PROGRAM, IN A SANDBOX (cutbox-door.mjs). By AI agents, Wed Nov 11 2026. No macro, syntax, notation, axiom, sorry.
-/
import Derived.Test.YtlgpkmnpfjjnjaaDoorRows
import GoSem.ClaimSeven
namespace Go.Proofs.YtlgpkmnpfjjnjaaDoor
namespace Rows

/-- THE TIED CARD OF 'phosphorlaw5.InflateBack'. -/
def inflateBackCard : Claim7 := { stood := { row := inflateBackRow, standIns := [], harness := (true, "ae6493bc19f63fd1397c0f4b941cbf23d1b940336e41a69e4ed7ef6f7ce06619"), looks := false }, kinds := [], alts := [], laidByText := true, laidKinds := [.data, .data, .data], laidTests := true, laidLooks := .later }
def InflateBackCardSaid : Prop := Claim7.holds Tryd.pinned (.plain (OpenSpec.ofChange inflateBackSpec)) inflateBackCard

/-- THE TIED CARD OF 'phosphorlaw5.InflateCaps'. -/
def inflateCapsCard : Claim7 := { stood := { row := inflateCapsRow, standIns := [], harness := (true, "ae6493bc19f63fd1397c0f4b941cbf23d1b940336e41a69e4ed7ef6f7ce06619"), looks := false }, kinds := [], alts := [], laidByText := true, laidKinds := [.data, .data, .data], laidTests := true, laidLooks := .later }
def InflateCapsCardSaid : Prop := Claim7.holds Tryd.pinned (.plain (OpenSpec.ofChange inflateCapsSpec)) inflateCapsCard

/-- THE TIED CARD OF 'phosphorlaw5.InflateFronts'. -/
def inflateFrontsCard : Claim7 := { stood := { row := inflateFrontsRow, standIns := [], harness := (true, "ae6493bc19f63fd1397c0f4b941cbf23d1b940336e41a69e4ed7ef6f7ce06619"), looks := false }, kinds := [], alts := [], laidByText := true, laidKinds := [.data, .data, .data], laidTests := true, laidLooks := .later }
def InflateFrontsCardSaid : Prop := Claim7.holds Tryd.pinned (.plain (OpenSpec.ofChange inflateFrontsSpec)) inflateFrontsCard

/-- THE TIED CARD OF 'phosphorlaw5.InflateTwo'. -/
def inflateTwoCard : Claim7 := { stood := { row := inflateTwoRow, standIns := [], harness := (true, "ae6493bc19f63fd1397c0f4b941cbf23d1b940336e41a69e4ed7ef6f7ce06619"), looks := false }, kinds := [], alts := [], laidByText := true, laidKinds := [.data, .data, .data], laidTests := true, laidLooks := .later }
def InflateTwoCardSaid : Prop := Claim7.holds Tryd.pinned (.plain (OpenSpec.ofChange inflateTwoSpec)) inflateTwoCard

/-- THE SECOND FORM's CARD OF 'phosphorlaw5.InflateBack'. -/
def inflateBackUptoCard : Claim7 := { stood := { row := inflateBackUptoRow, standIns := [], harness := (true, "ae6493bc19f63fd1397c0f4b941cbf23d1b940336e41a69e4ed7ef6f7ce06619"), looks := false }, kinds := [], alts := [], laidByText := true, laidKinds := [.data, .data, .data], laidTests := true, laidLooks := .later }
def InflateBackUptoCardSaid : Prop := Claim7.holds Tryd.pinned (.plain (OpenSpec.upto inflateBackSpec)) inflateBackUptoCard

/-- THE SECOND FORM's CARD OF 'phosphorlaw5.InflateCaps'. -/
def inflateCapsUptoCard : Claim7 := { stood := { row := inflateCapsUptoRow, standIns := [], harness := (true, "ae6493bc19f63fd1397c0f4b941cbf23d1b940336e41a69e4ed7ef6f7ce06619"), looks := false }, kinds := [], alts := [], laidByText := true, laidKinds := [.data, .data, .data], laidTests := true, laidLooks := .later }
def InflateCapsUptoCardSaid : Prop := Claim7.holds Tryd.pinned (.plain (OpenSpec.upto inflateCapsSpec)) inflateCapsUptoCard

/-- THE SECOND FORM's CARD OF 'phosphorlaw5.InflateFronts'. -/
def inflateFrontsUptoCard : Claim7 := { stood := { row := inflateFrontsUptoRow, standIns := [], harness := (true, "ae6493bc19f63fd1397c0f4b941cbf23d1b940336e41a69e4ed7ef6f7ce06619"), looks := false }, kinds := [], alts := [], laidByText := true, laidKinds := [.data, .data, .data], laidTests := true, laidLooks := .later }
def InflateFrontsUptoCardSaid : Prop := Claim7.holds Tryd.pinned (.plain (OpenSpec.upto inflateFrontsSpec)) inflateFrontsUptoCard

/-- THE SECOND FORM's CARD OF 'phosphorlaw5.InflateTwo'. -/
def inflateTwoUptoCard : Claim7 := { stood := { row := inflateTwoUptoRow, standIns := [], harness := (true, "ae6493bc19f63fd1397c0f4b941cbf23d1b940336e41a69e4ed7ef6f7ce06619"), looks := false }, kinds := [], alts := [], laidByText := true, laidKinds := [.data, .data, .data], laidTests := true, laidLooks := .later }
def InflateTwoUptoCardSaid : Prop := Claim7.holds Tryd.pinned (.plain (OpenSpec.upto inflateTwoSpec)) inflateTwoUptoCard
end Rows
end Go.Proofs.YtlgpkmnpfjjnjaaDoor
