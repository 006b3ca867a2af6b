/-
  NARROWER THAN 'FOR EVERY INPUT', by the rows' own cells (each row's printed sentence says how): PngBack: laid.
  DERIVED. THE GIVEN ROWS OF THIS SEAT. 1 by the template 'for every input the law returns true; each argument reads behind the call as it read before'; 0 by the template 'total and deterministic' (their statements: YtjfjmkkkbcgohaaGreatDoorTotals.lean).
  GIVEN WITH THE SEED: the statements are not yours to turn. If you find one false, say at which input.
  Laid BY PROGRAM, IN A SANDBOX (cutbox-rows.mjs): the forced cells as the released guide's own fill.sh prints them over the translation 874c5ef84baf9b35… (all of the seat's roots in one cut). By AI agents, Wed Nov 11 2026. No macro, syntax, notation, axiom, sorry.
-/
import Derived.Test.YtjfjmkkkbcgohaaGreatDoorChecked
import GoSem.Claim
import GoSem.ClaimJoined
import GoSem.ClaimMapViews
import Derived.JoinedTies
import Derived.KernelRfl
namespace Go.Proofs.YtjfjmkkkbcgohaaGreatDoor
/- THE CELL 'sum', in the pinned program and in every row, IS THE sha256 OF THE DUMP (.gsa) THAT YtjfjmkkkbcgohaaGreatDoorProg.lean LOADS. Nothing in Lean hashes anything: it is a label: what it is worth is what the hold of that sum in a sandbox is worth. -/
noncomputable def Tryz.pinned : Pinned := { name := "ytjfjmkkkbcgohaagreatdoor", sum := "874c5ef84baf9b350348c3aab00b9c53bc90a9fca8783ea13c8ccbb642ea0bdc", checked := Tryz.checked }
namespace Rows
def none {H : Type} : Left H := { results := [], args := [] }

/- WHAT THE LISTED PACKAGE-LEVEL VARIABLES READ AS WHEN THE CALL BEGINS. Each datum BY PROGRAM (the guide's laid-datum.mjs) off the statement by which the dump's own 'gosem.cut.vars' lays the variable. In a bare row this is a premise. The card (YtjfjmkkkbcgohaaGreatDoorCards.lean) ties it to the program's text. -/
def laid_phosphor_inflate_ranks {H : Type} : DataW H := .agg [.lit (.int .u8 16), .lit (.int .u8 17), .lit (.int .u8 18), .lit (.int .u8 0), .lit (.int .u8 8), .lit (.int .u8 7), .lit (.int .u8 9), .lit (.int .u8 6), .lit (.int .u8 10), .lit (.int .u8 5), .lit (.int .u8 11), .lit (.int .u8 4), .lit (.int .u8 12), .lit (.int .u8 3), .lit (.int .u8 13), .lit (.int .u8 2), .lit (.int .u8 14), .lit (.int .u8 1), .lit (.int .u8 15)]
def laid_phosphor_inflate_lengths {H : Type} : DataW H := .agg [.agg [.lit (.int .u16 3), .lit (.int .u8 0)], .agg [.lit (.int .u16 4), .lit (.int .u8 0)], .agg [.lit (.int .u16 5), .lit (.int .u8 0)], .agg [.lit (.int .u16 6), .lit (.int .u8 0)], .agg [.lit (.int .u16 7), .lit (.int .u8 0)], .agg [.lit (.int .u16 8), .lit (.int .u8 0)], .agg [.lit (.int .u16 9), .lit (.int .u8 0)], .agg [.lit (.int .u16 10), .lit (.int .u8 0)], .agg [.lit (.int .u16 11), .lit (.int .u8 1)], .agg [.lit (.int .u16 13), .lit (.int .u8 1)], .agg [.lit (.int .u16 15), .lit (.int .u8 1)], .agg [.lit (.int .u16 17), .lit (.int .u8 1)], .agg [.lit (.int .u16 19), .lit (.int .u8 2)], .agg [.lit (.int .u16 23), .lit (.int .u8 2)], .agg [.lit (.int .u16 27), .lit (.int .u8 2)], .agg [.lit (.int .u16 31), .lit (.int .u8 2)], .agg [.lit (.int .u16 35), .lit (.int .u8 3)], .agg [.lit (.int .u16 43), .lit (.int .u8 3)], .agg [.lit (.int .u16 51), .lit (.int .u8 3)], .agg [.lit (.int .u16 59), .lit (.int .u8 3)], .agg [.lit (.int .u16 67), .lit (.int .u8 4)], .agg [.lit (.int .u16 83), .lit (.int .u8 4)], .agg [.lit (.int .u16 99), .lit (.int .u8 4)], .agg [.lit (.int .u16 115), .lit (.int .u8 4)], .agg [.lit (.int .u16 131), .lit (.int .u8 5)], .agg [.lit (.int .u16 163), .lit (.int .u8 5)], .agg [.lit (.int .u16 195), .lit (.int .u8 5)], .agg [.lit (.int .u16 227), .lit (.int .u8 5)], .agg [.lit (.int .u16 258), .lit (.int .u8 0)]]
def laid_phosphor_inflate_distances {H : Type} : DataW H := .agg [.agg [.lit (.int .u16 1), .lit (.int .u8 0)], .agg [.lit (.int .u16 2), .lit (.int .u8 0)], .agg [.lit (.int .u16 3), .lit (.int .u8 0)], .agg [.lit (.int .u16 4), .lit (.int .u8 0)], .agg [.lit (.int .u16 5), .lit (.int .u8 1)], .agg [.lit (.int .u16 7), .lit (.int .u8 1)], .agg [.lit (.int .u16 9), .lit (.int .u8 2)], .agg [.lit (.int .u16 13), .lit (.int .u8 2)], .agg [.lit (.int .u16 17), .lit (.int .u8 3)], .agg [.lit (.int .u16 25), .lit (.int .u8 3)], .agg [.lit (.int .u16 33), .lit (.int .u8 4)], .agg [.lit (.int .u16 49), .lit (.int .u8 4)], .agg [.lit (.int .u16 65), .lit (.int .u8 5)], .agg [.lit (.int .u16 97), .lit (.int .u8 5)], .agg [.lit (.int .u16 129), .lit (.int .u8 6)], .agg [.lit (.int .u16 193), .lit (.int .u8 6)], .agg [.lit (.int .u16 257), .lit (.int .u8 7)], .agg [.lit (.int .u16 385), .lit (.int .u8 7)], .agg [.lit (.int .u16 513), .lit (.int .u8 8)], .agg [.lit (.int .u16 769), .lit (.int .u8 8)], .agg [.lit (.int .u16 1025), .lit (.int .u8 9)], .agg [.lit (.int .u16 1537), .lit (.int .u8 9)], .agg [.lit (.int .u16 2049), .lit (.int .u8 10)], .agg [.lit (.int .u16 3073), .lit (.int .u8 10)], .agg [.lit (.int .u16 4097), .lit (.int .u8 11)], .agg [.lit (.int .u16 6145), .lit (.int .u8 11)], .agg [.lit (.int .u16 8193), .lit (.int .u8 12)], .agg [.lit (.int .u16 12289), .lit (.int .u8 12)], .agg [.lit (.int .u16 16385), .lit (.int .u8 13)], .agg [.lit (.int .u16 24577), .lit (.int .u8 13)]]

/-- 'phosphorlaw9.PngBack': WHATEVER THE INPUT: true; the input reads as it did. -/
def pngBackSpec : ChangeSpec := { name := "pngBack", fn := fun _ => fun
  | [d1, d2, d3] => { results := [.lit (.bool true)], args := [d1, d2, d3] }
  | _ => none }
def pngBackRow : OpenClaim := { program := "ytjfjmkkkbcgohaagreatdoor", sum := "874c5ef84baf9b350348c3aab00b9c53bc90a9fca8783ea13c8ccbb642ea0bdc", func := "phosphor/phosphorlaw9.PngBack", spec := "pngBack", unfollowed := true, recurses := true, named := ["phosphor/inflate.ranks", "phosphor/inflate.lengths", "phosphor/inflate.distances"], apart := false, laid := [("phosphor/inflate.ranks", laid_phosphor_inflate_ranks), ("phosphor/inflate.lengths", laid_phosphor_inflate_lengths), ("phosphor/inflate.distances", laid_phosphor_inflate_distances)] }
def PngBackSaid : Prop := pngBackRow.holds Tryz.pinned (OpenSpec.ofChange pngBackSpec)

/-- ITS FALSE NEIGHBOUR: 'it returns false'. Refute it at one input. -/
def pngBackWrong : ChangeSpec := { name := "pngBack", fn := fun _ => fun
  | [d1, d2, d3] => { results := [.lit (.bool false)], args := [d1, d2, d3] }
  | _ => none }
def PngBackWrongFalsely : Prop := pngBackRow.holds Tryz.pinned (OpenSpec.ofChange pngBackWrong)

/- THE SECOND FORM. 'bulk': how many values and letters a reading holds, each counted each time it is reached (what is shared counts as often as it is met; a slice's spare places count too). A statement '..UptoSaid' is the law's where the arguments, and the package variables that the reading takes, are together of bulk at most 1048576: NARROWER than '..Said'. Prove '..Said' where nothing that the law and all that it calls make is longer than what came in: it says more and counts as full. Else prove '..UptoSaid'. A law counts once. -/
mutual
def uptoBulk {H : Type} : DataW H → Nat
  | .lit (.string bytes) => bytes.length + 1
  | .lit _ => 1
  | .nil => 1
  | .ptr d => uptoBulk d + 1
  | .slice elems spare => uptoBulkAll elems + uptoBulkAll spare + 1
  | .agg parts => uptoBulkAll parts + 1
  | .iface _ d => uptoBulk d + 1
  | .map entries => uptoBulkEntries entries + 1
  | .held _ => 1
def uptoBulkAll {H : Type} : List (DataW H) → Nat
  | [] => 0
  | d :: r => uptoBulk d + uptoBulkAll r
def uptoBulkEntries {H : Type} : List (Lit × DataW H) → Nat
  | [] => 0
  | x :: r => uptoBulkEntry x + uptoBulkEntries r
def uptoBulkEntry {H : Type} : Lit × DataW H → Nat
  | (.string bytes, d) => bytes.length + uptoBulk d + 1
  | (_, d) => uptoBulk d + 1
 end
def uptoSmall : (H : Type) → List (DataW H) → Bool := fun _ ds => decide (uptoBulkAll ds ≤ 1048576)
def OpenSpec.upto (s : _root_.Go.ChangeSpec) : _root_.Go.OpenSpec := { _root_.Go.OpenSpec.ofChange s with cond := some uptoSmall }

/-- 'phosphorlaw9.PngBack', WHERE WHAT IT READS IS OF BULK AT MOST 1048576: true; the input reads as it did. -/
def pngBackUptoRow : OpenClaim := { program := "ytjfjmkkkbcgohaagreatdoor", sum := "874c5ef84baf9b350348c3aab00b9c53bc90a9fca8783ea13c8ccbb642ea0bdc", func := "phosphor/phosphorlaw9.PngBack", spec := "pngBack", unfollowed := true, recurses := true, named := ["phosphor/inflate.ranks", "phosphor/inflate.lengths", "phosphor/inflate.distances"], apart := false, laid := [("phosphor/inflate.ranks", laid_phosphor_inflate_ranks), ("phosphor/inflate.lengths", laid_phosphor_inflate_lengths), ("phosphor/inflate.distances", laid_phosphor_inflate_distances)], narrowed := true }
def PngBackUptoSaid : Prop := pngBackUptoRow.holds Tryz.pinned (OpenSpec.upto pngBackSpec)

end Rows
end Go.Proofs.YtjfjmkkkbcgohaaGreatDoor
