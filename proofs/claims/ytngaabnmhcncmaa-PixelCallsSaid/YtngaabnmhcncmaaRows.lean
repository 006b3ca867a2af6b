/-
  No cell of these rows narrows 'for every input' (looked for: loops, veiled, ifaces, maps, wideKeys, modest, calm, conditions, laid).
  DERIVED. THE GIVEN ROWS OF THIS SEAT. 7 by the template 'for every input the law returns true; each argument reads behind the call as it read before'; 0 by the template 'total and deterministic' (their statements: YtngaabnmhcncmaaTotals.lean).
  GIVEN WITH THE SEED: the statements are not yours to turn. If you find one false, say at which input.
  Laid BY PROGRAM, IN A SANDBOX (cutbox-rows.mjs): the forced cells as the released guide's own fill.sh prints them over the translation 02f36db92db77747… (all of the seat's roots in one cut). By AI agents, Wed Nov 11 2026. No macro, syntax, notation, axiom, sorry.
-/
import Derived.Test.YtngaabnmhcncmaaChecked
import GoSem.Claim
import GoSem.ClaimJoined
import GoSem.ClaimMapViews
import Derived.JoinedTies
import Derived.KernelRfl
namespace Go.Proofs.Ytngaabnmhcncmaa
/- THE CELL 'sum', in the pinned program and in every row, IS THE sha256 OF THE DUMP (.gsa) THAT YtngaabnmhcncmaaProg.lean LOADS. Nothing in Lean hashes anything: it is a label: what it is worth is what the hold of that sum in a sandbox is worth. -/
noncomputable def Try.pinned : Pinned := { name := "ytngaabnmhcncmaa", sum := "02f36db92db77747290f7c793364245064866770feeb7a6231653c99d9bd3789", checked := Try.checked }
namespace Rows
def none {H : Type} : Left H := { results := [], args := [] }

/-- 'phosphorlaw7.PixelMakes': WHATEVER THE INPUT: true; the input reads as it did. -/
def pixelMakesSpec : ChangeSpec := { name := "pixelMakes", fn := fun _ => fun
  | [d1, d2, d3, d4] => { results := [.lit (.bool true)], args := [d1, d2, d3, d4] }
  | _ => none }
def pixelMakesRow : OpenClaim := { program := "ytngaabnmhcncmaa", sum := "02f36db92db77747290f7c793364245064866770feeb7a6231653c99d9bd3789", func := "phosphor/phosphorlaw7.PixelMakes", spec := "pixelMakes", apart := false }
def PixelMakesSaid : Prop := pixelMakesRow.holds Try.pinned (OpenSpec.ofChange pixelMakesSpec)

/-- ITS FALSE NEIGHBOUR: 'it returns false'. Refute it at one input. -/
def pixelMakesWrong : ChangeSpec := { name := "pixelMakes", fn := fun _ => fun
  | [d1, d2, d3, d4] => { results := [.lit (.bool false)], args := [d1, d2, d3, d4] }
  | _ => none }
def PixelMakesWrongFalsely : Prop := pixelMakesRow.holds Try.pinned (OpenSpec.ofChange pixelMakesWrong)

/-- 'phosphorlaw7.PixelCalls': WHATEVER THE INPUT: true; the input reads as it did. -/
def pixelCallsSpec : ChangeSpec := { name := "pixelCalls", fn := fun _ => fun
  | [d1, d2, d3, d4, d5, d6] => { results := [.lit (.bool true)], args := [d1, d2, d3, d4, d5, d6] }
  | _ => none }
def pixelCallsRow : OpenClaim := { program := "ytngaabnmhcncmaa", sum := "02f36db92db77747290f7c793364245064866770feeb7a6231653c99d9bd3789", func := "phosphor/phosphorlaw7.PixelCalls", spec := "pixelCalls", apart := false }
def PixelCallsSaid : Prop := pixelCallsRow.holds Try.pinned (OpenSpec.ofChange pixelCallsSpec)

/-- ITS FALSE NEIGHBOUR: 'it returns false'. Refute it at one input. -/
def pixelCallsWrong : ChangeSpec := { name := "pixelCalls", fn := fun _ => fun
  | [d1, d2, d3, d4, d5, d6] => { results := [.lit (.bool false)], args := [d1, d2, d3, d4, d5, d6] }
  | _ => none }
def PixelCallsWrongFalsely : Prop := pixelCallsRow.holds Try.pinned (OpenSpec.ofChange pixelCallsWrong)

/-- 'phosphorlaw7.PixelDraws': WHATEVER THE INPUT: true; the input reads as it did. -/
def pixelDrawsSpec : ChangeSpec := { name := "pixelDraws", fn := fun _ => fun
  | [d1, d2, d3, d4] => { results := [.lit (.bool true)], args := [d1, d2, d3, d4] }
  | _ => none }
def pixelDrawsRow : OpenClaim := { program := "ytngaabnmhcncmaa", sum := "02f36db92db77747290f7c793364245064866770feeb7a6231653c99d9bd3789", func := "phosphor/phosphorlaw7.PixelDraws", spec := "pixelDraws", apart := false }
def PixelDrawsSaid : Prop := pixelDrawsRow.holds Try.pinned (OpenSpec.ofChange pixelDrawsSpec)

/-- ITS FALSE NEIGHBOUR: 'it returns false'. Refute it at one input. -/
def pixelDrawsWrong : ChangeSpec := { name := "pixelDraws", fn := fun _ => fun
  | [d1, d2, d3, d4] => { results := [.lit (.bool false)], args := [d1, d2, d3, d4] }
  | _ => none }
def PixelDrawsWrongFalsely : Prop := pixelDrawsRow.holds Try.pinned (OpenSpec.ofChange pixelDrawsWrong)

/-- 'phosphorlaw7.PixelOver': WHATEVER THE INPUT: true; the input reads as it did. -/
def pixelOverSpec : ChangeSpec := { name := "pixelOver", fn := fun _ => fun
  | [d1, d2] => { results := [.lit (.bool true)], args := [d1, d2] }
  | _ => none }
def pixelOverRow : OpenClaim := { program := "ytngaabnmhcncmaa", sum := "02f36db92db77747290f7c793364245064866770feeb7a6231653c99d9bd3789", func := "phosphor/phosphorlaw7.PixelOver", spec := "pixelOver", apart := false }
def PixelOverSaid : Prop := pixelOverRow.holds Try.pinned (OpenSpec.ofChange pixelOverSpec)

/-- ITS FALSE NEIGHBOUR: 'it returns false'. Refute it at one input. -/
def pixelOverWrong : ChangeSpec := { name := "pixelOver", fn := fun _ => fun
  | [d1, d2] => { results := [.lit (.bool false)], args := [d1, d2] }
  | _ => none }
def PixelOverWrongFalsely : Prop := pixelOverRow.holds Try.pinned (OpenSpec.ofChange pixelOverWrong)

/-- 'phosphorlaw7.PixelScales': WHATEVER THE INPUT: true; the input reads as it did. -/
def pixelScalesSpec : ChangeSpec := { name := "pixelScales", fn := fun _ => fun
  | [d1, d2, d3] => { results := [.lit (.bool true)], args := [d1, d2, d3] }
  | _ => none }
def pixelScalesRow : OpenClaim := { program := "ytngaabnmhcncmaa", sum := "02f36db92db77747290f7c793364245064866770feeb7a6231653c99d9bd3789", func := "phosphor/phosphorlaw7.PixelScales", spec := "pixelScales", apart := false }
def PixelScalesSaid : Prop := pixelScalesRow.holds Try.pinned (OpenSpec.ofChange pixelScalesSpec)

/-- ITS FALSE NEIGHBOUR: 'it returns false'. Refute it at one input. -/
def pixelScalesWrong : ChangeSpec := { name := "pixelScales", fn := fun _ => fun
  | [d1, d2, d3] => { results := [.lit (.bool false)], args := [d1, d2, d3] }
  | _ => none }
def PixelScalesWrongFalsely : Prop := pixelScalesRow.holds Try.pinned (OpenSpec.ofChange pixelScalesWrong)

/-- 'phosphorlaw7.PixelParts': WHATEVER THE INPUT: true; the input reads as it did. -/
def pixelPartsSpec : ChangeSpec := { name := "pixelParts", fn := fun _ => fun
  | [d1, d2, d3, d4, d5, d6] => { results := [.lit (.bool true)], args := [d1, d2, d3, d4, d5, d6] }
  | _ => none }
def pixelPartsRow : OpenClaim := { program := "ytngaabnmhcncmaa", sum := "02f36db92db77747290f7c793364245064866770feeb7a6231653c99d9bd3789", func := "phosphor/phosphorlaw7.PixelParts", spec := "pixelParts", apart := false }
def PixelPartsSaid : Prop := pixelPartsRow.holds Try.pinned (OpenSpec.ofChange pixelPartsSpec)

/-- ITS FALSE NEIGHBOUR: 'it returns false'. Refute it at one input. -/
def pixelPartsWrong : ChangeSpec := { name := "pixelParts", fn := fun _ => fun
  | [d1, d2, d3, d4, d5, d6] => { results := [.lit (.bool false)], args := [d1, d2, d3, d4, d5, d6] }
  | _ => none }
def PixelPartsWrongFalsely : Prop := pixelPartsRow.holds Try.pinned (OpenSpec.ofChange pixelPartsWrong)

/-- 'phosphorlaw7.PixelFits': WHATEVER THE INPUT: true; the input reads as it did. -/
def pixelFitsSpec : ChangeSpec := { name := "pixelFits", fn := fun _ => fun
  | [d] => { results := [.lit (.bool true)], args := [d] }
  | _ => none }
def pixelFitsRow : OpenClaim := { program := "ytngaabnmhcncmaa", sum := "02f36db92db77747290f7c793364245064866770feeb7a6231653c99d9bd3789", func := "phosphor/phosphorlaw7.PixelFits", spec := "pixelFits", apart := false }
def PixelFitsSaid : Prop := pixelFitsRow.holds Try.pinned (OpenSpec.ofChange pixelFitsSpec)

/-- ITS FALSE NEIGHBOUR: 'it returns false'. Refute it at one input. -/
def pixelFitsWrong : ChangeSpec := { name := "pixelFits", fn := fun _ => fun
  | [d] => { results := [.lit (.bool false)], args := [d] }
  | _ => none }
def PixelFitsWrongFalsely : Prop := pixelFitsRow.holds Try.pinned (OpenSpec.ofChange pixelFitsWrong)

/- THE SECOND FORM. 'bulk': how many values and letters a reading holds, each counted each time it is reached (what is shared counts as often as it is met; a slice's spare places count too). A statement '..UptoSaid' is the law's where the arguments, and the package variables that the reading takes, are together of bulk at most 1048576: NARROWER than '..Said'. Prove '..Said' where nothing that the law and all that it calls make is longer than what came in: it says more and counts as full. Else prove '..UptoSaid'. A law counts once. -/
mutual
def uptoBulk {H : Type} : DataW H → Nat
  | .lit (.string bytes) => bytes.length + 1
  | .lit _ => 1
  | .nil => 1
  | .ptr d => uptoBulk d + 1
  | .slice elems spare => uptoBulkAll elems + uptoBulkAll spare + 1
  | .agg parts => uptoBulkAll parts + 1
  | .iface _ d => uptoBulk d + 1
  | .map entries => uptoBulkEntries entries + 1
  | .held _ => 1
def uptoBulkAll {H : Type} : List (DataW H) → Nat
  | [] => 0
  | d :: r => uptoBulk d + uptoBulkAll r
def uptoBulkEntries {H : Type} : List (Lit × DataW H) → Nat
  | [] => 0
  | x :: r => uptoBulkEntry x + uptoBulkEntries r
def uptoBulkEntry {H : Type} : Lit × DataW H → Nat
  | (.string bytes, d) => bytes.length + uptoBulk d + 1
  | (_, d) => uptoBulk d + 1
 end
def uptoSmall : (H : Type) → List (DataW H) → Bool := fun _ ds => decide (uptoBulkAll ds ≤ 1048576)
def OpenSpec.upto (s : _root_.Go.ChangeSpec) : _root_.Go.OpenSpec := { _root_.Go.OpenSpec.ofChange s with cond := some uptoSmall }

/-- 'phosphorlaw7.PixelMakes', WHERE WHAT IT READS IS OF BULK AT MOST 1048576: true; the input reads as it did. -/
def pixelMakesUptoRow : OpenClaim := { program := "ytngaabnmhcncmaa", sum := "02f36db92db77747290f7c793364245064866770feeb7a6231653c99d9bd3789", func := "phosphor/phosphorlaw7.PixelMakes", spec := "pixelMakes", apart := false, narrowed := true }
def PixelMakesUptoSaid : Prop := pixelMakesUptoRow.holds Try.pinned (OpenSpec.upto pixelMakesSpec)

/-- 'phosphorlaw7.PixelCalls', WHERE WHAT IT READS IS OF BULK AT MOST 1048576: true; the input reads as it did. -/
def pixelCallsUptoRow : OpenClaim := { program := "ytngaabnmhcncmaa", sum := "02f36db92db77747290f7c793364245064866770feeb7a6231653c99d9bd3789", func := "phosphor/phosphorlaw7.PixelCalls", spec := "pixelCalls", apart := false, narrowed := true }
def PixelCallsUptoSaid : Prop := pixelCallsUptoRow.holds Try.pinned (OpenSpec.upto pixelCallsSpec)

/-- 'phosphorlaw7.PixelDraws', WHERE WHAT IT READS IS OF BULK AT MOST 1048576: true; the input reads as it did. -/
def pixelDrawsUptoRow : OpenClaim := { program := "ytngaabnmhcncmaa", sum := "02f36db92db77747290f7c793364245064866770feeb7a6231653c99d9bd3789", func := "phosphor/phosphorlaw7.PixelDraws", spec := "pixelDraws", apart := false, narrowed := true }
def PixelDrawsUptoSaid : Prop := pixelDrawsUptoRow.holds Try.pinned (OpenSpec.upto pixelDrawsSpec)

/-- 'phosphorlaw7.PixelOver', WHERE WHAT IT READS IS OF BULK AT MOST 1048576: true; the input reads as it did. -/
def pixelOverUptoRow : OpenClaim := { program := "ytngaabnmhcncmaa", sum := "02f36db92db77747290f7c793364245064866770feeb7a6231653c99d9bd3789", func := "phosphor/phosphorlaw7.PixelOver", spec := "pixelOver", apart := false, narrowed := true }
def PixelOverUptoSaid : Prop := pixelOverUptoRow.holds Try.pinned (OpenSpec.upto pixelOverSpec)

/-- 'phosphorlaw7.PixelScales', WHERE WHAT IT READS IS OF BULK AT MOST 1048576: true; the input reads as it did. -/
def pixelScalesUptoRow : OpenClaim := { program := "ytngaabnmhcncmaa", sum := "02f36db92db77747290f7c793364245064866770feeb7a6231653c99d9bd3789", func := "phosphor/phosphorlaw7.PixelScales", spec := "pixelScales", apart := false, narrowed := true }
def PixelScalesUptoSaid : Prop := pixelScalesUptoRow.holds Try.pinned (OpenSpec.upto pixelScalesSpec)

/-- 'phosphorlaw7.PixelParts', WHERE WHAT IT READS IS OF BULK AT MOST 1048576: true; the input reads as it did. -/
def pixelPartsUptoRow : OpenClaim := { program := "ytngaabnmhcncmaa", sum := "02f36db92db77747290f7c793364245064866770feeb7a6231653c99d9bd3789", func := "phosphor/phosphorlaw7.PixelParts", spec := "pixelParts", apart := false, narrowed := true }
def PixelPartsUptoSaid : Prop := pixelPartsUptoRow.holds Try.pinned (OpenSpec.upto pixelPartsSpec)

/-- 'phosphorlaw7.PixelFits', WHERE WHAT IT READS IS OF BULK AT MOST 1048576: true; the input reads as it did. -/
def pixelFitsUptoRow : OpenClaim := { program := "ytngaabnmhcncmaa", sum := "02f36db92db77747290f7c793364245064866770feeb7a6231653c99d9bd3789", func := "phosphor/phosphorlaw7.PixelFits", spec := "pixelFits", apart := false, narrowed := true }
def PixelFitsUptoSaid : Prop := pixelFitsUptoRow.holds Try.pinned (OpenSpec.upto pixelFitsSpec)

end Rows
end Go.Proofs.Ytngaabnmhcncmaa
