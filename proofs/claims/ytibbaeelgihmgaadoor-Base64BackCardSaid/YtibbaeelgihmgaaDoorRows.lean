/-
  NARROWER THAN 'FOR EVERY INPUT', by the rows' own cells (each row's printed sentence says how): Base64Pieces: laid · Base64Texts: laid · Base64Back: laid · Base64Errors: laid.
  DERIVED. THE GIVEN ROWS OF THIS SEAT. 4 by the template 'for every input the law returns true; each argument reads behind the call as it read before'; 0 by the template 'total and deterministic' (their statements: YtibbaeelgihmgaaDoorTotals.lean).
  GIVEN WITH THE SEED: the statements are not yours to turn. If you find one false, say at which input.
  Laid BY PROGRAM, IN A SANDBOX (cutbox-rows.mjs): the forced cells as the released guide's own fill.sh prints them over the translation 1f95802614a8147c… (all of the seat's roots in one cut). By AI agents, Wed Nov 11 2026. No macro, syntax, notation, axiom, sorry.
-/
import Derived.Test.YtibbaeelgihmgaaDoorChecked
import GoSem.Claim
import GoSem.ClaimJoined
import GoSem.ClaimMapViews
import Derived.JoinedTies
import Derived.KernelRfl
namespace Go.Proofs.YtibbaeelgihmgaaDoor
/- THE CELL 'sum', in the pinned program and in every row, IS THE sha256 OF THE DUMP (.gsa) THAT YtibbaeelgihmgaaDoorProg.lean LOADS. Nothing in Lean hashes anything: it is a label: what it is worth is what the hold of that sum in a sandbox is worth. -/
noncomputable def Tryd.pinned : Pinned := { name := "ytibbaeelgihmgaadoor", sum := "1f95802614a8147c9baf553153a369e30cfb008e81886822638ebfb079e5e297", checked := Tryd.checked }
namespace Rows
def none {H : Type} : Left H := { results := [], args := [] }

/- WHAT THE LISTED PACKAGE-LEVEL VARIABLES READ AS WHEN THE CALL BEGINS. Each datum BY PROGRAM (the guide's laid-datum.mjs) off the statement by which the dump's own 'gosem.cut.vars' lays the variable. In a bare row this is a premise. The card (YtibbaeelgihmgaaDoorCards.lean) ties it to the program's text. -/
def laid_phosphor_base64_signs {H : Type} : DataW H := .agg [.lit (.int .u8 65), .lit (.int .u8 66), .lit (.int .u8 67), .lit (.int .u8 68), .lit (.int .u8 69), .lit (.int .u8 70), .lit (.int .u8 71), .lit (.int .u8 72), .lit (.int .u8 73), .lit (.int .u8 74), .lit (.int .u8 75), .lit (.int .u8 76), .lit (.int .u8 77), .lit (.int .u8 78), .lit (.int .u8 79), .lit (.int .u8 80), .lit (.int .u8 81), .lit (.int .u8 82), .lit (.int .u8 83), .lit (.int .u8 84), .lit (.int .u8 85), .lit (.int .u8 86), .lit (.int .u8 87), .lit (.int .u8 88), .lit (.int .u8 89), .lit (.int .u8 90), .lit (.int .u8 97), .lit (.int .u8 98), .lit (.int .u8 99), .lit (.int .u8 100), .lit (.int .u8 101), .lit (.int .u8 102), .lit (.int .u8 103), .lit (.int .u8 104), .lit (.int .u8 105), .lit (.int .u8 106), .lit (.int .u8 107), .lit (.int .u8 108), .lit (.int .u8 109), .lit (.int .u8 110), .lit (.int .u8 111), .lit (.int .u8 112), .lit (.int .u8 113), .lit (.int .u8 114), .lit (.int .u8 115), .lit (.int .u8 116), .lit (.int .u8 117), .lit (.int .u8 118), .lit (.int .u8 119), .lit (.int .u8 120), .lit (.int .u8 121), .lit (.int .u8 122), .lit (.int .u8 48), .lit (.int .u8 49), .lit (.int .u8 50), .lit (.int .u8 51), .lit (.int .u8 52), .lit (.int .u8 53), .lit (.int .u8 54), .lit (.int .u8 55), .lit (.int .u8 56), .lit (.int .u8 57), .lit (.int .u8 43), .lit (.int .u8 47)]
def laid_phosphor_base64_sixes {H : Type} : DataW H := .agg [.lit (.int .i8 62), .lit (.int .i8 (-1)), .lit (.int .i8 (-1)), .lit (.int .i8 (-1)), .lit (.int .i8 63), .lit (.int .i8 52), .lit (.int .i8 53), .lit (.int .i8 54), .lit (.int .i8 55), .lit (.int .i8 56), .lit (.int .i8 57), .lit (.int .i8 58), .lit (.int .i8 59), .lit (.int .i8 60), .lit (.int .i8 61), .lit (.int .i8 (-1)), .lit (.int .i8 (-1)), .lit (.int .i8 (-1)), .lit (.int .i8 (-1)), .lit (.int .i8 (-1)), .lit (.int .i8 (-1)), .lit (.int .i8 (-1)), .lit (.int .i8 0), .lit (.int .i8 1), .lit (.int .i8 2), .lit (.int .i8 3), .lit (.int .i8 4), .lit (.int .i8 5), .lit (.int .i8 6), .lit (.int .i8 7), .lit (.int .i8 8), .lit (.int .i8 9), .lit (.int .i8 10), .lit (.int .i8 11), .lit (.int .i8 12), .lit (.int .i8 13), .lit (.int .i8 14), .lit (.int .i8 15), .lit (.int .i8 16), .lit (.int .i8 17), .lit (.int .i8 18), .lit (.int .i8 19), .lit (.int .i8 20), .lit (.int .i8 21), .lit (.int .i8 22), .lit (.int .i8 23), .lit (.int .i8 24), .lit (.int .i8 25), .lit (.int .i8 (-1)), .lit (.int .i8 (-1)), .lit (.int .i8 (-1)), .lit (.int .i8 (-1)), .lit (.int .i8 (-1)), .lit (.int .i8 (-1)), .lit (.int .i8 26), .lit (.int .i8 27), .lit (.int .i8 28), .lit (.int .i8 29), .lit (.int .i8 30), .lit (.int .i8 31), .lit (.int .i8 32), .lit (.int .i8 33), .lit (.int .i8 34), .lit (.int .i8 35), .lit (.int .i8 36), .lit (.int .i8 37), .lit (.int .i8 38), .lit (.int .i8 39), .lit (.int .i8 40), .lit (.int .i8 41), .lit (.int .i8 42), .lit (.int .i8 43), .lit (.int .i8 44), .lit (.int .i8 45), .lit (.int .i8 46), .lit (.int .i8 47), .lit (.int .i8 48), .lit (.int .i8 49), .lit (.int .i8 50), .lit (.int .i8 51)]

/-- 'phosphorlaw3.Base64Pieces': WHATEVER THE INPUT: true; the input reads as it did. -/
def base64PiecesSpec : ChangeSpec := { name := "base64Pieces", fn := fun _ => fun
  | [d] => { results := [.lit (.bool true)], args := [d] }
  | _ => none }
def base64PiecesRow : OpenClaim := { program := "ytibbaeelgihmgaadoor", sum := "1f95802614a8147c9baf553153a369e30cfb008e81886822638ebfb079e5e297", func := "phosphor/phosphorlaw3.Base64Pieces", spec := "base64Pieces", named := ["phosphor/base64.sixes", "phosphor/base64.signs"], apart := false, laid := [("phosphor/base64.signs", laid_phosphor_base64_signs), ("phosphor/base64.sixes", laid_phosphor_base64_sixes)] }
def Base64PiecesSaid : Prop := base64PiecesRow.holds Tryd.pinned (OpenSpec.ofChange base64PiecesSpec)

/-- ITS FALSE NEIGHBOUR: 'it returns false'. Refute it at one input. -/
def base64PiecesWrong : ChangeSpec := { name := "base64Pieces", fn := fun _ => fun
  | [d] => { results := [.lit (.bool false)], args := [d] }
  | _ => none }
def Base64PiecesWrongFalsely : Prop := base64PiecesRow.holds Tryd.pinned (OpenSpec.ofChange base64PiecesWrong)

/-- 'phosphorlaw3.Base64Texts': WHATEVER THE INPUT: true; the input reads as it did. -/
def base64TextsSpec : ChangeSpec := { name := "base64Texts", fn := fun _ => fun
  | [d1, d2] => { results := [.lit (.bool true)], args := [d1, d2] }
  | _ => none }
def base64TextsRow : OpenClaim := { program := "ytibbaeelgihmgaadoor", sum := "1f95802614a8147c9baf553153a369e30cfb008e81886822638ebfb079e5e297", func := "phosphor/phosphorlaw3.Base64Texts", spec := "base64Texts", named := ["phosphor/base64.sixes", "phosphor/base64.signs"], apart := false, laid := [("phosphor/base64.signs", laid_phosphor_base64_signs), ("phosphor/base64.sixes", laid_phosphor_base64_sixes)] }
def Base64TextsSaid : Prop := base64TextsRow.holds Tryd.pinned (OpenSpec.ofChange base64TextsSpec)

/-- ITS FALSE NEIGHBOUR: 'it returns false'. Refute it at one input. -/
def base64TextsWrong : ChangeSpec := { name := "base64Texts", fn := fun _ => fun
  | [d1, d2] => { results := [.lit (.bool false)], args := [d1, d2] }
  | _ => none }
def Base64TextsWrongFalsely : Prop := base64TextsRow.holds Tryd.pinned (OpenSpec.ofChange base64TextsWrong)

/-- 'phosphorlaw3.Base64Back': WHATEVER THE INPUT: true; the input reads as it did. -/
def base64BackSpec : ChangeSpec := { name := "base64Back", fn := fun _ => fun
  | [d1, d2, d3] => { results := [.lit (.bool true)], args := [d1, d2, d3] }
  | _ => none }
def base64BackRow : OpenClaim := { program := "ytibbaeelgihmgaadoor", sum := "1f95802614a8147c9baf553153a369e30cfb008e81886822638ebfb079e5e297", func := "phosphor/phosphorlaw3.Base64Back", spec := "base64Back", named := ["phosphor/base64.sixes", "phosphor/base64.signs"], apart := false, laid := [("phosphor/base64.signs", laid_phosphor_base64_signs), ("phosphor/base64.sixes", laid_phosphor_base64_sixes)] }
def Base64BackSaid : Prop := base64BackRow.holds Tryd.pinned (OpenSpec.ofChange base64BackSpec)

/-- ITS FALSE NEIGHBOUR: 'it returns false'. Refute it at one input. -/
def base64BackWrong : ChangeSpec := { name := "base64Back", fn := fun _ => fun
  | [d1, d2, d3] => { results := [.lit (.bool false)], args := [d1, d2, d3] }
  | _ => none }
def Base64BackWrongFalsely : Prop := base64BackRow.holds Tryd.pinned (OpenSpec.ofChange base64BackWrong)

/-- 'phosphorlaw3.Base64Errors': WHATEVER THE INPUT: true; the input reads as it did. -/
def base64ErrorsSpec : ChangeSpec := { name := "base64Errors", fn := fun _ => fun
  | [d1, d2, d3] => { results := [.lit (.bool true)], args := [d1, d2, d3] }
  | _ => none }
def base64ErrorsRow : OpenClaim := { program := "ytibbaeelgihmgaadoor", sum := "1f95802614a8147c9baf553153a369e30cfb008e81886822638ebfb079e5e297", func := "phosphor/phosphorlaw3.Base64Errors", spec := "base64Errors", named := ["phosphor/base64.sixes", "phosphor/base64.signs"], apart := false, laid := [("phosphor/base64.signs", laid_phosphor_base64_signs), ("phosphor/base64.sixes", laid_phosphor_base64_sixes)] }
def Base64ErrorsSaid : Prop := base64ErrorsRow.holds Tryd.pinned (OpenSpec.ofChange base64ErrorsSpec)

/-- ITS FALSE NEIGHBOUR: 'it returns false'. Refute it at one input. -/
def base64ErrorsWrong : ChangeSpec := { name := "base64Errors", fn := fun _ => fun
  | [d1, d2, d3] => { results := [.lit (.bool false)], args := [d1, d2, d3] }
  | _ => none }
def Base64ErrorsWrongFalsely : Prop := base64ErrorsRow.holds Tryd.pinned (OpenSpec.ofChange base64ErrorsWrong)

/- THE SECOND FORM. 'bulk': how many values and letters a reading holds, each counted each time it is reached (what is shared counts as often as it is met; a slice's spare places count too). A statement '..UptoSaid' is the law's where the arguments, and the package variables that the reading takes, are together of bulk at most 1048576: NARROWER than '..Said'. Prove '..Said' where nothing that the law and all that it calls make is longer than what came in: it says more and counts as full. Else prove '..UptoSaid'. A law counts once. -/
mutual
def uptoBulk {H : Type} : DataW H → Nat
  | .lit (.string bytes) => bytes.length + 1
  | .lit _ => 1
  | .nil => 1
  | .ptr d => uptoBulk d + 1
  | .slice elems spare => uptoBulkAll elems + uptoBulkAll spare + 1
  | .agg parts => uptoBulkAll parts + 1
  | .iface _ d => uptoBulk d + 1
  | .map entries => uptoBulkEntries entries + 1
  | .held _ => 1
def uptoBulkAll {H : Type} : List (DataW H) → Nat
  | [] => 0
  | d :: r => uptoBulk d + uptoBulkAll r
def uptoBulkEntries {H : Type} : List (Lit × DataW H) → Nat
  | [] => 0
  | x :: r => uptoBulkEntry x + uptoBulkEntries r
def uptoBulkEntry {H : Type} : Lit × DataW H → Nat
  | (.string bytes, d) => bytes.length + uptoBulk d + 1
  | (_, d) => uptoBulk d + 1
 end
def uptoSmall : (H : Type) → List (DataW H) → Bool := fun _ ds => decide (uptoBulkAll ds ≤ 1048576)
def OpenSpec.upto (s : _root_.Go.ChangeSpec) : _root_.Go.OpenSpec := { _root_.Go.OpenSpec.ofChange s with cond := some uptoSmall }

/-- 'phosphorlaw3.Base64Pieces', WHERE WHAT IT READS IS OF BULK AT MOST 1048576: true; the input reads as it did. -/
def base64PiecesUptoRow : OpenClaim := { program := "ytibbaeelgihmgaadoor", sum := "1f95802614a8147c9baf553153a369e30cfb008e81886822638ebfb079e5e297", func := "phosphor/phosphorlaw3.Base64Pieces", spec := "base64Pieces", named := ["phosphor/base64.sixes", "phosphor/base64.signs"], apart := false, laid := [("phosphor/base64.signs", laid_phosphor_base64_signs), ("phosphor/base64.sixes", laid_phosphor_base64_sixes)], narrowed := true }
def Base64PiecesUptoSaid : Prop := base64PiecesUptoRow.holds Tryd.pinned (OpenSpec.upto base64PiecesSpec)

/-- 'phosphorlaw3.Base64Texts', WHERE WHAT IT READS IS OF BULK AT MOST 1048576: true; the input reads as it did. -/
def base64TextsUptoRow : OpenClaim := { program := "ytibbaeelgihmgaadoor", sum := "1f95802614a8147c9baf553153a369e30cfb008e81886822638ebfb079e5e297", func := "phosphor/phosphorlaw3.Base64Texts", spec := "base64Texts", named := ["phosphor/base64.sixes", "phosphor/base64.signs"], apart := false, laid := [("phosphor/base64.signs", laid_phosphor_base64_signs), ("phosphor/base64.sixes", laid_phosphor_base64_sixes)], narrowed := true }
def Base64TextsUptoSaid : Prop := base64TextsUptoRow.holds Tryd.pinned (OpenSpec.upto base64TextsSpec)

/-- 'phosphorlaw3.Base64Back', WHERE WHAT IT READS IS OF BULK AT MOST 1048576: true; the input reads as it did. -/
def base64BackUptoRow : OpenClaim := { program := "ytibbaeelgihmgaadoor", sum := "1f95802614a8147c9baf553153a369e30cfb008e81886822638ebfb079e5e297", func := "phosphor/phosphorlaw3.Base64Back", spec := "base64Back", named := ["phosphor/base64.sixes", "phosphor/base64.signs"], apart := false, laid := [("phosphor/base64.signs", laid_phosphor_base64_signs), ("phosphor/base64.sixes", laid_phosphor_base64_sixes)], narrowed := true }
def Base64BackUptoSaid : Prop := base64BackUptoRow.holds Tryd.pinned (OpenSpec.upto base64BackSpec)

/-- 'phosphorlaw3.Base64Errors', WHERE WHAT IT READS IS OF BULK AT MOST 1048576: true; the input reads as it did. -/
def base64ErrorsUptoRow : OpenClaim := { program := "ytibbaeelgihmgaadoor", sum := "1f95802614a8147c9baf553153a369e30cfb008e81886822638ebfb079e5e297", func := "phosphor/phosphorlaw3.Base64Errors", spec := "base64Errors", named := ["phosphor/base64.sixes", "phosphor/base64.signs"], apart := false, laid := [("phosphor/base64.signs", laid_phosphor_base64_signs), ("phosphor/base64.sixes", laid_phosphor_base64_sixes)], narrowed := true }
def Base64ErrorsUptoSaid : Prop := base64ErrorsUptoRow.holds Tryd.pinned (OpenSpec.upto base64ErrorsSpec)

end Rows
end Go.Proofs.YtibbaeelgihmgaaDoor
