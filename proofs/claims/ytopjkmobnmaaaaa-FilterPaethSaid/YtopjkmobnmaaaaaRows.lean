/-
  No cell of these rows narrows 'for every input' (looked for: loops, veiled, ifaces, maps, wideKeys, modest, calm, conditions, laid).
  DERIVED. THE GIVEN ROWS OF THIS SEAT. 5 by the template 'for every input the law returns true; each argument reads behind the call as it read before'; 0 by the template 'total and deterministic' (their statements: YtopjkmobnmaaaaaTotals.lean).
  GIVEN WITH THE SEED: the statements are not yours to turn. If you find one false, say at which input.
  Laid BY PROGRAM, IN A SANDBOX (cutbox-rows.mjs): the forced cells as the released guide's own fill.sh prints them over the translation 6184e537ad73e103… (all of the seat's roots in one cut). By AI agents, Wed Nov 11 2026. No macro, syntax, notation, axiom, sorry.
-/
import Derived.Test.YtopjkmobnmaaaaaChecked
import GoSem.Claim
import GoSem.ClaimJoined
import GoSem.ClaimMapViews
import Derived.JoinedTies
import Derived.KernelRfl
namespace Go.Proofs.Ytopjkmobnmaaaaa
/- THE CELL 'sum', in the pinned program and in every row, IS THE sha256 OF THE DUMP (.gsa) THAT YtopjkmobnmaaaaaProg.lean LOADS. Nothing in Lean hashes anything: it is a label: what it is worth is what the hold of that sum in a sandbox is worth. -/
noncomputable def Try.pinned : Pinned := { name := "ytopjkmobnmaaaaa", sum := "6184e537ad73e1039d2bbcf783c751772f5e42df943dd8a933c4749caa0e9feb", checked := Try.checked }
namespace Rows
def none {H : Type} : Left H := { results := [], args := [] }

/-- 'phosphorlaw8.FilterRows': WHATEVER THE INPUT: true; the input reads as it did. -/
def filterRowsSpec : ChangeSpec := { name := "filterRows", fn := fun _ => fun
  | [d1, d2, d3, d4] => { results := [.lit (.bool true)], args := [d1, d2, d3, d4] }
  | _ => none }
def filterRowsRow : OpenClaim := { program := "ytopjkmobnmaaaaa", sum := "6184e537ad73e1039d2bbcf783c751772f5e42df943dd8a933c4749caa0e9feb", func := "phosphor/phosphorlaw8.FilterRows", spec := "filterRows", apart := false }
def FilterRowsSaid : Prop := filterRowsRow.holds Try.pinned (OpenSpec.ofChange filterRowsSpec)

/-- ITS FALSE NEIGHBOUR: 'it returns false'. Refute it at one input. -/
def filterRowsWrong : ChangeSpec := { name := "filterRows", fn := fun _ => fun
  | [d1, d2, d3, d4] => { results := [.lit (.bool false)], args := [d1, d2, d3, d4] }
  | _ => none }
def FilterRowsWrongFalsely : Prop := filterRowsRow.holds Try.pinned (OpenSpec.ofChange filterRowsWrong)

/-- 'phosphorlaw8.FilterPaeth': WHATEVER THE INPUT: true; the input reads as it did. -/
def filterPaethSpec : ChangeSpec := { name := "filterPaeth", fn := fun _ => fun
  | [d1, d2, d3] => { results := [.lit (.bool true)], args := [d1, d2, d3] }
  | _ => none }
def filterPaethRow : OpenClaim := { program := "ytopjkmobnmaaaaa", sum := "6184e537ad73e1039d2bbcf783c751772f5e42df943dd8a933c4749caa0e9feb", func := "phosphor/phosphorlaw8.FilterPaeth", spec := "filterPaeth", apart := false }
def FilterPaethSaid : Prop := filterPaethRow.holds Try.pinned (OpenSpec.ofChange filterPaethSpec)

/-- ITS FALSE NEIGHBOUR: 'it returns false'. Refute it at one input. -/
def filterPaethWrong : ChangeSpec := { name := "filterPaeth", fn := fun _ => fun
  | [d1, d2, d3] => { results := [.lit (.bool false)], args := [d1, d2, d3] }
  | _ => none }
def FilterPaethWrongFalsely : Prop := filterPaethRow.holds Try.pinned (OpenSpec.ofChange filterPaethWrong)

/-- 'phosphorlaw8.FilterSamples': WHATEVER THE INPUT: true; the input reads as it did. -/
def filterSamplesSpec : ChangeSpec := { name := "filterSamples", fn := fun _ => fun
  | [d1, d2, d3, d4, d5] => { results := [.lit (.bool true)], args := [d1, d2, d3, d4, d5] }
  | _ => none }
def filterSamplesRow : OpenClaim := { program := "ytopjkmobnmaaaaa", sum := "6184e537ad73e1039d2bbcf783c751772f5e42df943dd8a933c4749caa0e9feb", func := "phosphor/phosphorlaw8.FilterSamples", spec := "filterSamples", apart := false }
def FilterSamplesSaid : Prop := filterSamplesRow.holds Try.pinned (OpenSpec.ofChange filterSamplesSpec)

/-- ITS FALSE NEIGHBOUR: 'it returns false'. Refute it at one input. -/
def filterSamplesWrong : ChangeSpec := { name := "filterSamples", fn := fun _ => fun
  | [d1, d2, d3, d4, d5] => { results := [.lit (.bool false)], args := [d1, d2, d3, d4, d5] }
  | _ => none }
def FilterSamplesWrongFalsely : Prop := filterSamplesRow.holds Try.pinned (OpenSpec.ofChange filterSamplesWrong)

/-- 'phosphorlaw8.FilterPasses': WHATEVER THE INPUT: true; the input reads as it did. -/
def filterPassesSpec : ChangeSpec := { name := "filterPasses", fn := fun _ => fun
  | [d1, d2, d3] => { results := [.lit (.bool true)], args := [d1, d2, d3] }
  | _ => none }
def filterPassesRow : OpenClaim := { program := "ytopjkmobnmaaaaa", sum := "6184e537ad73e1039d2bbcf783c751772f5e42df943dd8a933c4749caa0e9feb", func := "phosphor/phosphorlaw8.FilterPasses", spec := "filterPasses", apart := false }
def FilterPassesSaid : Prop := filterPassesRow.holds Try.pinned (OpenSpec.ofChange filterPassesSpec)

/-- ITS FALSE NEIGHBOUR: 'it returns false'. Refute it at one input. -/
def filterPassesWrong : ChangeSpec := { name := "filterPasses", fn := fun _ => fun
  | [d1, d2, d3] => { results := [.lit (.bool false)], args := [d1, d2, d3] }
  | _ => none }
def FilterPassesWrongFalsely : Prop := filterPassesRow.holds Try.pinned (OpenSpec.ofChange filterPassesWrong)

/-- 'phosphorlaw8.FilterBits': WHATEVER THE INPUT: true; the input reads as it did. -/
def filterBitsSpec : ChangeSpec := { name := "filterBits", fn := fun _ => fun
  | [d1, d2] => { results := [.lit (.bool true)], args := [d1, d2] }
  | _ => none }
def filterBitsRow : OpenClaim := { program := "ytopjkmobnmaaaaa", sum := "6184e537ad73e1039d2bbcf783c751772f5e42df943dd8a933c4749caa0e9feb", func := "phosphor/phosphorlaw8.FilterBits", spec := "filterBits", apart := false }
def FilterBitsSaid : Prop := filterBitsRow.holds Try.pinned (OpenSpec.ofChange filterBitsSpec)

/-- ITS FALSE NEIGHBOUR: 'it returns false'. Refute it at one input. -/
def filterBitsWrong : ChangeSpec := { name := "filterBits", fn := fun _ => fun
  | [d1, d2] => { results := [.lit (.bool false)], args := [d1, d2] }
  | _ => none }
def FilterBitsWrongFalsely : Prop := filterBitsRow.holds Try.pinned (OpenSpec.ofChange filterBitsWrong)

/- THE SECOND FORM. 'bulk': how many values and letters a reading holds, each counted each time it is reached (what is shared counts as often as it is met; a slice's spare places count too). A statement '..UptoSaid' is the law's where the arguments, and the package variables that the reading takes, are together of bulk at most 1048576: NARROWER than '..Said'. Prove '..Said' where nothing that the law and all that it calls make is longer than what came in: it says more and counts as full. Else prove '..UptoSaid'. A law counts once. -/
mutual
def uptoBulk {H : Type} : DataW H → Nat
  | .lit (.string bytes) => bytes.length + 1
  | .lit _ => 1
  | .nil => 1
  | .ptr d => uptoBulk d + 1
  | .slice elems spare => uptoBulkAll elems + uptoBulkAll spare + 1
  | .agg parts => uptoBulkAll parts + 1
  | .iface _ d => uptoBulk d + 1
  | .map entries => uptoBulkEntries entries + 1
  | .held _ => 1
def uptoBulkAll {H : Type} : List (DataW H) → Nat
  | [] => 0
  | d :: r => uptoBulk d + uptoBulkAll r
def uptoBulkEntries {H : Type} : List (Lit × DataW H) → Nat
  | [] => 0
  | x :: r => uptoBulkEntry x + uptoBulkEntries r
def uptoBulkEntry {H : Type} : Lit × DataW H → Nat
  | (.string bytes, d) => bytes.length + uptoBulk d + 1
  | (_, d) => uptoBulk d + 1
 end
def uptoSmall : (H : Type) → List (DataW H) → Bool := fun _ ds => decide (uptoBulkAll ds ≤ 1048576)
def OpenSpec.upto (s : _root_.Go.ChangeSpec) : _root_.Go.OpenSpec := { _root_.Go.OpenSpec.ofChange s with cond := some uptoSmall }

/-- 'phosphorlaw8.FilterRows', WHERE WHAT IT READS IS OF BULK AT MOST 1048576: true; the input reads as it did. -/
def filterRowsUptoRow : OpenClaim := { program := "ytopjkmobnmaaaaa", sum := "6184e537ad73e1039d2bbcf783c751772f5e42df943dd8a933c4749caa0e9feb", func := "phosphor/phosphorlaw8.FilterRows", spec := "filterRows", apart := false, narrowed := true }
def FilterRowsUptoSaid : Prop := filterRowsUptoRow.holds Try.pinned (OpenSpec.upto filterRowsSpec)

/-- 'phosphorlaw8.FilterPaeth', WHERE WHAT IT READS IS OF BULK AT MOST 1048576: true; the input reads as it did. -/
def filterPaethUptoRow : OpenClaim := { program := "ytopjkmobnmaaaaa", sum := "6184e537ad73e1039d2bbcf783c751772f5e42df943dd8a933c4749caa0e9feb", func := "phosphor/phosphorlaw8.FilterPaeth", spec := "filterPaeth", apart := false, narrowed := true }
def FilterPaethUptoSaid : Prop := filterPaethUptoRow.holds Try.pinned (OpenSpec.upto filterPaethSpec)

/-- 'phosphorlaw8.FilterSamples', WHERE WHAT IT READS IS OF BULK AT MOST 1048576: true; the input reads as it did. -/
def filterSamplesUptoRow : OpenClaim := { program := "ytopjkmobnmaaaaa", sum := "6184e537ad73e1039d2bbcf783c751772f5e42df943dd8a933c4749caa0e9feb", func := "phosphor/phosphorlaw8.FilterSamples", spec := "filterSamples", apart := false, narrowed := true }
def FilterSamplesUptoSaid : Prop := filterSamplesUptoRow.holds Try.pinned (OpenSpec.upto filterSamplesSpec)

/-- 'phosphorlaw8.FilterPasses', WHERE WHAT IT READS IS OF BULK AT MOST 1048576: true; the input reads as it did. -/
def filterPassesUptoRow : OpenClaim := { program := "ytopjkmobnmaaaaa", sum := "6184e537ad73e1039d2bbcf783c751772f5e42df943dd8a933c4749caa0e9feb", func := "phosphor/phosphorlaw8.FilterPasses", spec := "filterPasses", apart := false, narrowed := true }
def FilterPassesUptoSaid : Prop := filterPassesUptoRow.holds Try.pinned (OpenSpec.upto filterPassesSpec)

/-- 'phosphorlaw8.FilterBits', WHERE WHAT IT READS IS OF BULK AT MOST 1048576: true; the input reads as it did. -/
def filterBitsUptoRow : OpenClaim := { program := "ytopjkmobnmaaaaa", sum := "6184e537ad73e1039d2bbcf783c751772f5e42df943dd8a933c4749caa0e9feb", func := "phosphor/phosphorlaw8.FilterBits", spec := "filterBits", apart := false, narrowed := true }
def FilterBitsUptoSaid : Prop := filterBitsUptoRow.holds Try.pinned (OpenSpec.upto filterBitsSpec)

end Rows
end Go.Proofs.Ytopjkmobnmaaaaa
