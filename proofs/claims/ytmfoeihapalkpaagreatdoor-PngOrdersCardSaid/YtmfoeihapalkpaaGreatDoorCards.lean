/-
  DERIVED. GIVEN WITH THE SEED: THE CARDS: each row of YtmfoeihapalkpaaGreatDoorRows.lean that lists a variable, with what it lists TIED to the program's text (the seventh form; the later family's looks); each row that meets fmt, with fmt's text TOLD by the authors' own Lean function (tested against real Go, not proved from fmt's source: count such statements apart). THE CARD IS WHAT COUNTS. Prove the row's statement (the work); the ties are given (YtmfoeihapalkpaaGreatDoorTie.lean); close each card by the builder's one call (the guide's Derived/Test/ToyasCard.lean, 'card_holds'). Laid BY PROGRAM, IN A SANDBOX (cutbox-door.mjs). By AI agents, Wed Nov 11 2026. No macro, syntax, notation, axiom, sorry.
-/
import Derived.Test.YtmfoeihapalkpaaGreatDoorRows
import GoSem.ClaimSeven
namespace Go.Proofs.YtmfoeihapalkpaaGreatDoor
namespace Rows

/-- THE TIED CARD OF 'phosphorlaw9.PngBack'. -/
def pngBackCard : Claim7 := { stood := { row := pngBackRow, standIns := [], harness := (true, "6ed4e378d21e0fcafd20da45f99e7fd74ec8403536acab4c3a1e8aef644288e2"), looks := false }, kinds := [], alts := [], laidByText := true, laidKinds := [.data, .data, .data], laidTests := true, laidLooks := .later }
def PngBackCardSaid : Prop := Claim7.holds Tryz.pinned (.plain (OpenSpec.ofChange pngBackSpec)) pngBackCard

/-- THE TIED CARD OF 'phosphorlaw9.PngChunks'. -/
def pngChunksCard : Claim7 := { stood := { row := pngChunksRow, standIns := [], harness := (true, "6ed4e378d21e0fcafd20da45f99e7fd74ec8403536acab4c3a1e8aef644288e2"), looks := false }, kinds := [], alts := [], laidByText := true, laidKinds := [.data, .data, .data], laidTests := true, laidLooks := .later }
def PngChunksCardSaid : Prop := Claim7.holds Tryz.pinned (.plain (OpenSpec.ofChange pngChunksSpec)) pngChunksCard

/-- THE TIED CARD OF 'phosphorlaw9.PngFiles'. -/
def pngFilesCard : Claim7 := { stood := { row := pngFilesRow, standIns := [], harness := (true, "6ed4e378d21e0fcafd20da45f99e7fd74ec8403536acab4c3a1e8aef644288e2"), looks := false }, kinds := [], alts := [], laidByText := true, laidKinds := [.data, .data, .data], laidTests := true, laidLooks := .later }
def PngFilesCardSaid : Prop := Claim7.holds Tryz.pinned (.plain (OpenSpec.ofChange pngFilesSpec)) pngFilesCard

/-- THE TIED CARD OF 'phosphorlaw9.PngOrders'. -/
def pngOrdersCard : Claim7 := { stood := { row := pngOrdersRow, standIns := [], harness := (true, "6ed4e378d21e0fcafd20da45f99e7fd74ec8403536acab4c3a1e8aef644288e2"), looks := false }, kinds := [], alts := [], laidByText := true, laidKinds := [.data, .data, .data], laidTests := true, laidLooks := .later }
def PngOrdersCardSaid : Prop := Claim7.holds Tryz.pinned (.plain (OpenSpec.ofChange pngOrdersSpec)) pngOrdersCard

/-- THE SECOND FORM's CARD OF 'phosphorlaw9.PngBack'. -/
def pngBackUptoCard : Claim7 := { stood := { row := pngBackUptoRow, standIns := [], harness := (true, "6ed4e378d21e0fcafd20da45f99e7fd74ec8403536acab4c3a1e8aef644288e2"), looks := false }, kinds := [], alts := [], laidByText := true, laidKinds := [.data, .data, .data], laidTests := true, laidLooks := .later }
def PngBackUptoCardSaid : Prop := Claim7.holds Tryz.pinned (.plain (OpenSpec.upto pngBackSpec)) pngBackUptoCard

/-- THE SECOND FORM's CARD OF 'phosphorlaw9.PngChunks'. -/
def pngChunksUptoCard : Claim7 := { stood := { row := pngChunksUptoRow, standIns := [], harness := (true, "6ed4e378d21e0fcafd20da45f99e7fd74ec8403536acab4c3a1e8aef644288e2"), looks := false }, kinds := [], alts := [], laidByText := true, laidKinds := [.data, .data, .data], laidTests := true, laidLooks := .later }
def PngChunksUptoCardSaid : Prop := Claim7.holds Tryz.pinned (.plain (OpenSpec.upto pngChunksSpec)) pngChunksUptoCard

/-- THE SECOND FORM's CARD OF 'phosphorlaw9.PngFiles'. -/
def pngFilesUptoCard : Claim7 := { stood := { row := pngFilesUptoRow, standIns := [], harness := (true, "6ed4e378d21e0fcafd20da45f99e7fd74ec8403536acab4c3a1e8aef644288e2"), looks := false }, kinds := [], alts := [], laidByText := true, laidKinds := [.data, .data, .data], laidTests := true, laidLooks := .later }
def PngFilesUptoCardSaid : Prop := Claim7.holds Tryz.pinned (.plain (OpenSpec.upto pngFilesSpec)) pngFilesUptoCard

/-- THE SECOND FORM's CARD OF 'phosphorlaw9.PngOrders'. -/
def pngOrdersUptoCard : Claim7 := { stood := { row := pngOrdersUptoRow, standIns := [], harness := (true, "6ed4e378d21e0fcafd20da45f99e7fd74ec8403536acab4c3a1e8aef644288e2"), looks := false }, kinds := [], alts := [], laidByText := true, laidKinds := [.data, .data, .data], laidTests := true, laidLooks := .later }
def PngOrdersUptoCardSaid : Prop := Claim7.holds Tryz.pinned (.plain (OpenSpec.upto pngOrdersSpec)) pngOrdersUptoCard
end Rows
end Go.Proofs.YtmfoeihapalkpaaGreatDoor
