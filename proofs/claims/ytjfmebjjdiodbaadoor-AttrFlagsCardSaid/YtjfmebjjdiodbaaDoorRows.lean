/-
  NARROWER THAN 'FOR EVERY INPUT', by the rows' own cells (each row's printed sentence says how): AttrApplies: laid · AttrColors: laid · AttrFlags: laid · AttrParams: laid · AttrParts: laid.
  DERIVED. THE GIVEN ROWS OF THIS SEAT. 5 by the template 'for every input the law returns true; each argument reads behind the call as it read before'; 0 by the template 'total and deterministic' (their statements: YtjfmebjjdiodbaaDoorTotals.lean).
  GIVEN WITH THE SEED: the statements are not yours to turn. If you find one false, say at which input.
  Laid BY PROGRAM, IN A SANDBOX (cutbox-rows.mjs): the forced cells as the released guide's own fill.sh prints them over the translation df0479665f33fb03… (all of the seat's roots in one cut). By AI agents, Wed Nov 11 2026. No macro, syntax, notation, axiom, sorry.
-/
import Derived.Test.YtjfmebjjdiodbaaDoorChecked
import GoSem.Claim
import GoSem.ClaimJoined
import GoSem.ClaimMapViews
import Derived.JoinedTies
import Derived.KernelRfl
namespace Go.Proofs.YtjfmebjjdiodbaaDoor
/- THE CELL 'sum', in the pinned program and in every row, IS THE sha256 OF THE DUMP (.gsa) THAT YtjfmebjjdiodbaaDoorProg.lean LOADS. Nothing in Lean hashes anything: it is a label: what it is worth is what the hold of that sum in a sandbox is worth. -/
noncomputable def Tryd.pinned : Pinned := { name := "ytjfmebjjdiodbaadoor", sum := "df0479665f33fb0364ba113e4bde2639c5c1ab279321d44ac644a136373e850e", checked := Tryd.checked }
namespace Rows
def none {H : Type} : Left H := { results := [], args := [] }

/- WHAT THE LISTED PACKAGE-LEVEL VARIABLES READ AS WHEN THE CALL BEGINS. Each datum BY PROGRAM (the guide's laid-datum.mjs) off the statement by which the dump's own 'gosem.cut.vars' lays the variable. In a bare row this is a premise. The card (YtjfmebjjdiodbaaDoorCards.lean) ties it to the program's text. -/
def laid_phosphor_attr_flagOf {H : Type} : DataW H := .agg [.lit (.int .i64 0), .lit (.int .i64 1), .lit (.int .i64 2), .lit (.int .i64 4), .lit (.int .i64 8), .lit (.int .i64 16), .lit (.int .i64 0), .lit (.int .i64 32), .lit (.int .i64 64), .lit (.int .i64 128)]
def laid_phosphor_attr_basic {H : Type} : DataW H := .agg [.agg [.lit (.int .u8 0), .lit (.int .u8 0), .lit (.int .u8 0)], .agg [.lit (.int .u8 205), .lit (.int .u8 0), .lit (.int .u8 0)], .agg [.lit (.int .u8 0), .lit (.int .u8 205), .lit (.int .u8 0)], .agg [.lit (.int .u8 205), .lit (.int .u8 205), .lit (.int .u8 0)], .agg [.lit (.int .u8 0), .lit (.int .u8 0), .lit (.int .u8 238)], .agg [.lit (.int .u8 205), .lit (.int .u8 0), .lit (.int .u8 205)], .agg [.lit (.int .u8 0), .lit (.int .u8 205), .lit (.int .u8 205)], .agg [.lit (.int .u8 229), .lit (.int .u8 229), .lit (.int .u8 229)], .agg [.lit (.int .u8 127), .lit (.int .u8 127), .lit (.int .u8 127)], .agg [.lit (.int .u8 255), .lit (.int .u8 0), .lit (.int .u8 0)], .agg [.lit (.int .u8 0), .lit (.int .u8 255), .lit (.int .u8 0)], .agg [.lit (.int .u8 255), .lit (.int .u8 255), .lit (.int .u8 0)], .agg [.lit (.int .u8 92), .lit (.int .u8 92), .lit (.int .u8 255)], .agg [.lit (.int .u8 255), .lit (.int .u8 0), .lit (.int .u8 255)], .agg [.lit (.int .u8 0), .lit (.int .u8 255), .lit (.int .u8 255)], .agg [.lit (.int .u8 255), .lit (.int .u8 255), .lit (.int .u8 255)]]
def laid_phosphor_attr_levels {H : Type} : DataW H := .agg [.lit (.int .u8 0), .lit (.int .u8 95), .lit (.int .u8 135), .lit (.int .u8 175), .lit (.int .u8 215), .lit (.int .u8 255)]

/-- 'phosphorlaw12.AttrApplies': WHATEVER THE INPUT: true; the input reads as it did. -/
def attrAppliesSpec : ChangeSpec := { name := "attrApplies", fn := fun _ => fun
  | [d1, d2] => { results := [.lit (.bool true)], args := [d1, d2] }
  | _ => none }
def attrAppliesRow : OpenClaim := { program := "ytjfmebjjdiodbaadoor", sum := "df0479665f33fb0364ba113e4bde2639c5c1ab279321d44ac644a136373e850e", func := "phosphor/phosphorlaw12.AttrApplies", spec := "attrApplies", named := ["phosphor/attr.flagOf", "phosphor/attr.basic", "phosphor/attr.levels"], apart := false, laid := [("phosphor/attr.flagOf", laid_phosphor_attr_flagOf), ("phosphor/attr.basic", laid_phosphor_attr_basic), ("phosphor/attr.levels", laid_phosphor_attr_levels)] }
def AttrAppliesSaid : Prop := attrAppliesRow.holds Tryd.pinned (OpenSpec.ofChange attrAppliesSpec)

/-- ITS FALSE NEIGHBOUR: 'it returns false'. Refute it at one input. -/
def attrAppliesWrong : ChangeSpec := { name := "attrApplies", fn := fun _ => fun
  | [d1, d2] => { results := [.lit (.bool false)], args := [d1, d2] }
  | _ => none }
def AttrAppliesWrongFalsely : Prop := attrAppliesRow.holds Tryd.pinned (OpenSpec.ofChange attrAppliesWrong)

/-- 'phosphorlaw12.AttrColors': WHATEVER THE INPUT: true; the input reads as it did. -/
def attrColorsSpec : ChangeSpec := { name := "attrColors", fn := fun _ => fun
  | [d1, d2, d3] => { results := [.lit (.bool true)], args := [d1, d2, d3] }
  | _ => none }
def attrColorsRow : OpenClaim := { program := "ytjfmebjjdiodbaadoor", sum := "df0479665f33fb0364ba113e4bde2639c5c1ab279321d44ac644a136373e850e", func := "phosphor/phosphorlaw12.AttrColors", spec := "attrColors", named := ["phosphor/attr.flagOf", "phosphor/attr.basic", "phosphor/attr.levels"], apart := false, laid := [("phosphor/attr.flagOf", laid_phosphor_attr_flagOf), ("phosphor/attr.basic", laid_phosphor_attr_basic), ("phosphor/attr.levels", laid_phosphor_attr_levels)] }
def AttrColorsSaid : Prop := attrColorsRow.holds Tryd.pinned (OpenSpec.ofChange attrColorsSpec)

/-- ITS FALSE NEIGHBOUR: 'it returns false'. Refute it at one input. -/
def attrColorsWrong : ChangeSpec := { name := "attrColors", fn := fun _ => fun
  | [d1, d2, d3] => { results := [.lit (.bool false)], args := [d1, d2, d3] }
  | _ => none }
def AttrColorsWrongFalsely : Prop := attrColorsRow.holds Tryd.pinned (OpenSpec.ofChange attrColorsWrong)

/-- 'phosphorlaw12.AttrFlags': WHATEVER THE INPUT: true; the input reads as it did. -/
def attrFlagsSpec : ChangeSpec := { name := "attrFlags", fn := fun _ => fun
  | [d1, d2] => { results := [.lit (.bool true)], args := [d1, d2] }
  | _ => none }
def attrFlagsRow : OpenClaim := { program := "ytjfmebjjdiodbaadoor", sum := "df0479665f33fb0364ba113e4bde2639c5c1ab279321d44ac644a136373e850e", func := "phosphor/phosphorlaw12.AttrFlags", spec := "attrFlags", named := ["phosphor/attr.flagOf", "phosphor/attr.basic", "phosphor/attr.levels"], apart := false, laid := [("phosphor/attr.flagOf", laid_phosphor_attr_flagOf), ("phosphor/attr.basic", laid_phosphor_attr_basic), ("phosphor/attr.levels", laid_phosphor_attr_levels)] }
def AttrFlagsSaid : Prop := attrFlagsRow.holds Tryd.pinned (OpenSpec.ofChange attrFlagsSpec)

/-- ITS FALSE NEIGHBOUR: 'it returns false'. Refute it at one input. -/
def attrFlagsWrong : ChangeSpec := { name := "attrFlags", fn := fun _ => fun
  | [d1, d2] => { results := [.lit (.bool false)], args := [d1, d2] }
  | _ => none }
def AttrFlagsWrongFalsely : Prop := attrFlagsRow.holds Tryd.pinned (OpenSpec.ofChange attrFlagsWrong)

/-- 'phosphorlaw12.AttrParams': WHATEVER THE INPUT: true; the input reads as it did. -/
def attrParamsSpec : ChangeSpec := { name := "attrParams", fn := fun _ => fun
  | [d1, d2] => { results := [.lit (.bool true)], args := [d1, d2] }
  | _ => none }
def attrParamsRow : OpenClaim := { program := "ytjfmebjjdiodbaadoor", sum := "df0479665f33fb0364ba113e4bde2639c5c1ab279321d44ac644a136373e850e", func := "phosphor/phosphorlaw12.AttrParams", spec := "attrParams", named := ["phosphor/attr.flagOf", "phosphor/attr.basic", "phosphor/attr.levels"], apart := false, laid := [("phosphor/attr.flagOf", laid_phosphor_attr_flagOf), ("phosphor/attr.basic", laid_phosphor_attr_basic), ("phosphor/attr.levels", laid_phosphor_attr_levels)] }
def AttrParamsSaid : Prop := attrParamsRow.holds Tryd.pinned (OpenSpec.ofChange attrParamsSpec)

/-- ITS FALSE NEIGHBOUR: 'it returns false'. Refute it at one input. -/
def attrParamsWrong : ChangeSpec := { name := "attrParams", fn := fun _ => fun
  | [d1, d2] => { results := [.lit (.bool false)], args := [d1, d2] }
  | _ => none }
def AttrParamsWrongFalsely : Prop := attrParamsRow.holds Tryd.pinned (OpenSpec.ofChange attrParamsWrong)

/-- 'phosphorlaw12.AttrParts': WHATEVER THE INPUT: true; the input reads as it did. -/
def attrPartsSpec : ChangeSpec := { name := "attrParts", fn := fun _ => fun
  | [d1, d2, d3] => { results := [.lit (.bool true)], args := [d1, d2, d3] }
  | _ => none }
def attrPartsRow : OpenClaim := { program := "ytjfmebjjdiodbaadoor", sum := "df0479665f33fb0364ba113e4bde2639c5c1ab279321d44ac644a136373e850e", func := "phosphor/phosphorlaw12.AttrParts", spec := "attrParts", named := ["phosphor/attr.flagOf", "phosphor/attr.basic", "phosphor/attr.levels"], apart := false, laid := [("phosphor/attr.flagOf", laid_phosphor_attr_flagOf), ("phosphor/attr.basic", laid_phosphor_attr_basic), ("phosphor/attr.levels", laid_phosphor_attr_levels)] }
def AttrPartsSaid : Prop := attrPartsRow.holds Tryd.pinned (OpenSpec.ofChange attrPartsSpec)

/-- ITS FALSE NEIGHBOUR: 'it returns false'. Refute it at one input. -/
def attrPartsWrong : ChangeSpec := { name := "attrParts", fn := fun _ => fun
  | [d1, d2, d3] => { results := [.lit (.bool false)], args := [d1, d2, d3] }
  | _ => none }
def AttrPartsWrongFalsely : Prop := attrPartsRow.holds Tryd.pinned (OpenSpec.ofChange attrPartsWrong)

/- THE SECOND FORM. 'bulk': how many values and letters a reading holds, each counted each time it is reached (what is shared counts as often as it is met; a slice's spare places count too). A statement '..UptoSaid' is the law's where the arguments, and the package variables that the reading takes, are together of bulk at most 1048576: NARROWER than '..Said'. Prove '..Said' where nothing that the law and all that it calls make is longer than what came in: it says more and counts as full. Else prove '..UptoSaid'. A law counts once. -/
mutual
def uptoBulk {H : Type} : DataW H → Nat
  | .lit (.string bytes) => bytes.length + 1
  | .lit _ => 1
  | .nil => 1
  | .ptr d => uptoBulk d + 1
  | .slice elems spare => uptoBulkAll elems + uptoBulkAll spare + 1
  | .agg parts => uptoBulkAll parts + 1
  | .iface _ d => uptoBulk d + 1
  | .map entries => uptoBulkEntries entries + 1
  | .held _ => 1
def uptoBulkAll {H : Type} : List (DataW H) → Nat
  | [] => 0
  | d :: r => uptoBulk d + uptoBulkAll r
def uptoBulkEntries {H : Type} : List (Lit × DataW H) → Nat
  | [] => 0
  | x :: r => uptoBulkEntry x + uptoBulkEntries r
def uptoBulkEntry {H : Type} : Lit × DataW H → Nat
  | (.string bytes, d) => bytes.length + uptoBulk d + 1
  | (_, d) => uptoBulk d + 1
 end
def uptoSmall : (H : Type) → List (DataW H) → Bool := fun _ ds => decide (uptoBulkAll ds ≤ 1048576)
def OpenSpec.upto (s : _root_.Go.ChangeSpec) : _root_.Go.OpenSpec := { _root_.Go.OpenSpec.ofChange s with cond := some uptoSmall }

/-- 'phosphorlaw12.AttrApplies', WHERE WHAT IT READS IS OF BULK AT MOST 1048576: true; the input reads as it did. -/
def attrAppliesUptoRow : OpenClaim := { program := "ytjfmebjjdiodbaadoor", sum := "df0479665f33fb0364ba113e4bde2639c5c1ab279321d44ac644a136373e850e", func := "phosphor/phosphorlaw12.AttrApplies", spec := "attrApplies", named := ["phosphor/attr.flagOf", "phosphor/attr.basic", "phosphor/attr.levels"], apart := false, laid := [("phosphor/attr.flagOf", laid_phosphor_attr_flagOf), ("phosphor/attr.basic", laid_phosphor_attr_basic), ("phosphor/attr.levels", laid_phosphor_attr_levels)], narrowed := true }
def AttrAppliesUptoSaid : Prop := attrAppliesUptoRow.holds Tryd.pinned (OpenSpec.upto attrAppliesSpec)

/-- 'phosphorlaw12.AttrColors', WHERE WHAT IT READS IS OF BULK AT MOST 1048576: true; the input reads as it did. -/
def attrColorsUptoRow : OpenClaim := { program := "ytjfmebjjdiodbaadoor", sum := "df0479665f33fb0364ba113e4bde2639c5c1ab279321d44ac644a136373e850e", func := "phosphor/phosphorlaw12.AttrColors", spec := "attrColors", named := ["phosphor/attr.flagOf", "phosphor/attr.basic", "phosphor/attr.levels"], apart := false, laid := [("phosphor/attr.flagOf", laid_phosphor_attr_flagOf), ("phosphor/attr.basic", laid_phosphor_attr_basic), ("phosphor/attr.levels", laid_phosphor_attr_levels)], narrowed := true }
def AttrColorsUptoSaid : Prop := attrColorsUptoRow.holds Tryd.pinned (OpenSpec.upto attrColorsSpec)

/-- 'phosphorlaw12.AttrFlags', WHERE WHAT IT READS IS OF BULK AT MOST 1048576: true; the input reads as it did. -/
def attrFlagsUptoRow : OpenClaim := { program := "ytjfmebjjdiodbaadoor", sum := "df0479665f33fb0364ba113e4bde2639c5c1ab279321d44ac644a136373e850e", func := "phosphor/phosphorlaw12.AttrFlags", spec := "attrFlags", named := ["phosphor/attr.flagOf", "phosphor/attr.basic", "phosphor/attr.levels"], apart := false, laid := [("phosphor/attr.flagOf", laid_phosphor_attr_flagOf), ("phosphor/attr.basic", laid_phosphor_attr_basic), ("phosphor/attr.levels", laid_phosphor_attr_levels)], narrowed := true }
def AttrFlagsUptoSaid : Prop := attrFlagsUptoRow.holds Tryd.pinned (OpenSpec.upto attrFlagsSpec)

/-- 'phosphorlaw12.AttrParams', WHERE WHAT IT READS IS OF BULK AT MOST 1048576: true; the input reads as it did. -/
def attrParamsUptoRow : OpenClaim := { program := "ytjfmebjjdiodbaadoor", sum := "df0479665f33fb0364ba113e4bde2639c5c1ab279321d44ac644a136373e850e", func := "phosphor/phosphorlaw12.AttrParams", spec := "attrParams", named := ["phosphor/attr.flagOf", "phosphor/attr.basic", "phosphor/attr.levels"], apart := false, laid := [("phosphor/attr.flagOf", laid_phosphor_attr_flagOf), ("phosphor/attr.basic", laid_phosphor_attr_basic), ("phosphor/attr.levels", laid_phosphor_attr_levels)], narrowed := true }
def AttrParamsUptoSaid : Prop := attrParamsUptoRow.holds Tryd.pinned (OpenSpec.upto attrParamsSpec)

/-- 'phosphorlaw12.AttrParts', WHERE WHAT IT READS IS OF BULK AT MOST 1048576: true; the input reads as it did. -/
def attrPartsUptoRow : OpenClaim := { program := "ytjfmebjjdiodbaadoor", sum := "df0479665f33fb0364ba113e4bde2639c5c1ab279321d44ac644a136373e850e", func := "phosphor/phosphorlaw12.AttrParts", spec := "attrParts", named := ["phosphor/attr.flagOf", "phosphor/attr.basic", "phosphor/attr.levels"], apart := false, laid := [("phosphor/attr.flagOf", laid_phosphor_attr_flagOf), ("phosphor/attr.basic", laid_phosphor_attr_basic), ("phosphor/attr.levels", laid_phosphor_attr_levels)], narrowed := true }
def AttrPartsUptoSaid : Prop := attrPartsUptoRow.holds Tryd.pinned (OpenSpec.upto attrPartsSpec)

end Rows
end Go.Proofs.YtjfmebjjdiodbaaDoor
