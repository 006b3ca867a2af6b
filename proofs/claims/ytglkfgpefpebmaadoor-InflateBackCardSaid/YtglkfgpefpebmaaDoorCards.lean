/-
  DERIVED. GIVEN WITH THE SEED: THE CARDS: each row of YtglkfgpefpebmaaDoorRows.lean that lists a variable, with what it lists TIED to the program's text (the seventh form; the later family's looks); each row that meets fmt, with fmt's text TOLD by the authors' own Lean function (tested against real Go, not proved from fmt's source: count such statements apart). THE CARD IS WHAT COUNTS. Prove the row's statement (the work); the ties are given (YtglkfgpefpebmaaDoorTie.lean); close each card by the builder's one call (the guide's Derived/Test/ToyasCard.lean, 'card_holds'). Laid BY PROGRAM, IN A SANDBOX (cutbox-door.mjs). By AI agents, Wed Nov 11 2026. No macro, syntax, notation, axiom, sorry.
-/
import Derived.Test.YtglkfgpefpebmaaDoorRows
import GoSem.ClaimSeven
namespace Go.Proofs.YtglkfgpefpebmaaDoor
namespace Rows

/-- THE TIED CARD OF 'phosphorlaw5.InflateBack'. -/
def inflateBackCard : Claim7 := { stood := { row := inflateBackRow, standIns := [], harness := (true, "63397a9f12decbb1c3e691df01d32ec4aa97df8dc7ecf333625299739a805f66"), looks := false }, kinds := [], alts := [], laidByText := true, laidKinds := [.data, .data, .data], laidTests := true, laidLooks := .later }
def InflateBackCardSaid : Prop := Claim7.holds Tryd.pinned (.plain (OpenSpec.ofChange inflateBackSpec)) inflateBackCard

/-- THE TIED CARD OF 'phosphorlaw5.InflateCaps'. -/
def inflateCapsCard : Claim7 := { stood := { row := inflateCapsRow, standIns := [], harness := (true, "63397a9f12decbb1c3e691df01d32ec4aa97df8dc7ecf333625299739a805f66"), looks := false }, kinds := [], alts := [], laidByText := true, laidKinds := [.data, .data, .data], laidTests := true, laidLooks := .later }
def InflateCapsCardSaid : Prop := Claim7.holds Tryd.pinned (.plain (OpenSpec.ofChange inflateCapsSpec)) inflateCapsCard

/-- THE TIED CARD OF 'phosphorlaw5.InflateFronts'. -/
def inflateFrontsCard : Claim7 := { stood := { row := inflateFrontsRow, standIns := [], harness := (true, "63397a9f12decbb1c3e691df01d32ec4aa97df8dc7ecf333625299739a805f66"), looks := false }, kinds := [], alts := [], laidByText := true, laidKinds := [.data, .data, .data], laidTests := true, laidLooks := .later }
def InflateFrontsCardSaid : Prop := Claim7.holds Tryd.pinned (.plain (OpenSpec.ofChange inflateFrontsSpec)) inflateFrontsCard

/-- THE TIED CARD OF 'phosphorlaw5.InflateTwo'. -/
def inflateTwoCard : Claim7 := { stood := { row := inflateTwoRow, standIns := [], harness := (true, "63397a9f12decbb1c3e691df01d32ec4aa97df8dc7ecf333625299739a805f66"), looks := false }, kinds := [], alts := [], laidByText := true, laidKinds := [.data, .data, .data], laidTests := true, laidLooks := .later }
def InflateTwoCardSaid : Prop := Claim7.holds Tryd.pinned (.plain (OpenSpec.ofChange inflateTwoSpec)) inflateTwoCard

/-- THE TIED CARD OF 'phosphorlaw6.ZlibBack'. -/
def zlibBackCard : Claim7 := { stood := { row := zlibBackRow, standIns := [], harness := (true, "63397a9f12decbb1c3e691df01d32ec4aa97df8dc7ecf333625299739a805f66"), looks := false }, kinds := [], alts := [], laidByText := true, laidKinds := [.data, .data, .data], laidTests := true, laidLooks := .later }
def ZlibBackCardSaid : Prop := Claim7.holds Tryd.pinned (.plain (OpenSpec.ofChange zlibBackSpec)) zlibBackCard

/-- THE TIED CARD OF 'phosphorlaw6.ZlibFronts'. -/
def zlibFrontsCard : Claim7 := { stood := { row := zlibFrontsRow, standIns := [], harness := (true, "63397a9f12decbb1c3e691df01d32ec4aa97df8dc7ecf333625299739a805f66"), looks := false }, kinds := [], alts := [], laidByText := true, laidKinds := [.data, .data, .data], laidTests := true, laidLooks := .later }
def ZlibFrontsCardSaid : Prop := Claim7.holds Tryd.pinned (.plain (OpenSpec.ofChange zlibFrontsSpec)) zlibFrontsCard

/-- THE SECOND FORM's CARD OF 'phosphorlaw5.InflateBack'. -/
def inflateBackUptoCard : Claim7 := { stood := { row := inflateBackUptoRow, standIns := [], harness := (true, "63397a9f12decbb1c3e691df01d32ec4aa97df8dc7ecf333625299739a805f66"), looks := false }, kinds := [], alts := [], laidByText := true, laidKinds := [.data, .data, .data], laidTests := true, laidLooks := .later }
def InflateBackUptoCardSaid : Prop := Claim7.holds Tryd.pinned (.plain (OpenSpec.upto inflateBackSpec)) inflateBackUptoCard

/-- THE SECOND FORM's CARD OF 'phosphorlaw5.InflateCaps'. -/
def inflateCapsUptoCard : Claim7 := { stood := { row := inflateCapsUptoRow, standIns := [], harness := (true, "63397a9f12decbb1c3e691df01d32ec4aa97df8dc7ecf333625299739a805f66"), looks := false }, kinds := [], alts := [], laidByText := true, laidKinds := [.data, .data, .data], laidTests := true, laidLooks := .later }
def InflateCapsUptoCardSaid : Prop := Claim7.holds Tryd.pinned (.plain (OpenSpec.upto inflateCapsSpec)) inflateCapsUptoCard

/-- THE SECOND FORM's CARD OF 'phosphorlaw5.InflateFronts'. -/
def inflateFrontsUptoCard : Claim7 := { stood := { row := inflateFrontsUptoRow, standIns := [], harness := (true, "63397a9f12decbb1c3e691df01d32ec4aa97df8dc7ecf333625299739a805f66"), looks := false }, kinds := [], alts := [], laidByText := true, laidKinds := [.data, .data, .data], laidTests := true, laidLooks := .later }
def InflateFrontsUptoCardSaid : Prop := Claim7.holds Tryd.pinned (.plain (OpenSpec.upto inflateFrontsSpec)) inflateFrontsUptoCard

/-- THE SECOND FORM's CARD OF 'phosphorlaw5.InflateTwo'. -/
def inflateTwoUptoCard : Claim7 := { stood := { row := inflateTwoUptoRow, standIns := [], harness := (true, "63397a9f12decbb1c3e691df01d32ec4aa97df8dc7ecf333625299739a805f66"), looks := false }, kinds := [], alts := [], laidByText := true, laidKinds := [.data, .data, .data], laidTests := true, laidLooks := .later }
def InflateTwoUptoCardSaid : Prop := Claim7.holds Tryd.pinned (.plain (OpenSpec.upto inflateTwoSpec)) inflateTwoUptoCard

/-- THE SECOND FORM's CARD OF 'phosphorlaw6.ZlibBack'. -/
def zlibBackUptoCard : Claim7 := { stood := { row := zlibBackUptoRow, standIns := [], harness := (true, "63397a9f12decbb1c3e691df01d32ec4aa97df8dc7ecf333625299739a805f66"), looks := false }, kinds := [], alts := [], laidByText := true, laidKinds := [.data, .data, .data], laidTests := true, laidLooks := .later }
def ZlibBackUptoCardSaid : Prop := Claim7.holds Tryd.pinned (.plain (OpenSpec.upto zlibBackSpec)) zlibBackUptoCard

/-- THE SECOND FORM's CARD OF 'phosphorlaw6.ZlibFronts'. -/
def zlibFrontsUptoCard : Claim7 := { stood := { row := zlibFrontsUptoRow, standIns := [], harness := (true, "63397a9f12decbb1c3e691df01d32ec4aa97df8dc7ecf333625299739a805f66"), looks := false }, kinds := [], alts := [], laidByText := true, laidKinds := [.data, .data, .data], laidTests := true, laidLooks := .later }
def ZlibFrontsUptoCardSaid : Prop := Claim7.holds Tryd.pinned (.plain (OpenSpec.upto zlibFrontsSpec)) zlibFrontsUptoCard
end Rows
end Go.Proofs.YtglkfgpefpebmaaDoor
