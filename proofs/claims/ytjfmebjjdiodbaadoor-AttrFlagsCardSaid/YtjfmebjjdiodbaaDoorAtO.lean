/-
  Arguments opened: attributes, numbers of any length.
-/
import Derived.Test.YtjfmebjjdiodbaaDoorAtL
import Derived.Lib.SmallJoins
namespace Go.Proofs.YtjfmebjjdiodbaaDoor
open Go Go.RowKit Go.ChangeShapes Go.WideShapes Go.ChangeAt

section
variable {H : Type} {enc : TypeId × Value → H} {W : World}
theorem field_i64 {fuel : Nat} {u : Value} {y : DataW H × List MemPlace} (h : DataW.trod enc Tryd.prog W 0 (fun _ => true) true fuel 3 [u] = some y) : ∃ n, u = .int .i64 n ∧ (Lit.int .i64 n).wf = true := by
  obtain ⟨n, h1, _, h2⟩ := DataW.trod_int Tryd.underlying3 h
  simp at h1
  exact ⟨n, h1, h2⟩
set_option maxRecDepth 100000 in
theorem open_attr {r : Reach} {b0 : Nat} {v : Value} {d : DataW H} {p : List MemPlace} (hval : Value.okWide Tryd.prog W r b0 23 v) (h : DataW.Trod enc Tryd.prog W 0 (fun _ => true) true 23 v d p) :
    ∃ a : At, v = a.val ∧ a.Wf := by
  obtain ⟨v0, v1, v2, y0, y1, y2, n, rfl, _, _, h0, h1, h2⟩ := Go.Joins.open_agg3 Tryd.underlying23 (by kernel_rfl) (by kernel_rfl) hval h
  obtain ⟨a, rfl, ha⟩ := field_i64 h0
  obtain ⟨b, rfl, hb⟩ := field_i64 h1
  obtain ⟨c, rfl, hc⟩ := field_i64 h2
  exact ⟨⟨a, b, c⟩, rfl, wf_i64 ha, wf_i64 hb, wf_i64 hc⟩
end
end Go.Proofs.YtjfmebjjdiodbaaDoor
