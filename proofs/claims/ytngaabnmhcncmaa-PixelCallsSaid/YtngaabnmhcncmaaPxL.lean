/-
  Arguments opened: matrices, colours.
-/
import Derived.Test.YtngaabnmhcncmaaPxK
import Derived.Test.YtngaabnmhcncmaaOpen
import Derived.Lib.SmallJoins
import Derived.Laws.IdiomArrays
namespace Go.Proofs.Ytngaabnmhcncmaa
open Go Go.RowKit Go.ChangeShapes Go.WideShapes Go.ChangeAt

section
variable {H : Type} {enc : TypeId × Value → H} {W : World}

set_option maxRecDepth 100000 in
/-- A slice of bytes within a struct that came in. -/
theorem open_bytes_in {fuel : Nat} {v : Value} {x : DataW H × List MemPlace} (hf : DataW.trod enc Try.prog W 0 (fun _ => true) true fuel 22 [v] = some x) :
    ∃ (A : Option Addr) (n c : Nat) (l : List UInt8), v = .slice A n c ∧ n ≤ c ∧ c ≤ maxLen ∧ (A = none → c = 0 ∧ n = 0) ∧ l.length = n ∧ Holds W 1 A n (bvals l) := by
  rcases open_ints Try.underlying22 Try.underlying5 (by kernel_rfl) hf with ⟨hcs, hx⟩ | ⟨a, len, cap, zs, hcs, _, hl, hm, hz, hx, hcell, hwz⟩
  · injection hcs with hv
    exact ⟨none, 0, 0, [], hv, Nat.le_refl _, by simp [maxLen], fun _ => ⟨rfl, rfl⟩, rfl, Holds.empty _ _ _⟩
  · injection hcs with hv
    have hzl : zs.length = cap := by simpa using hz
    have e : bvals ((zs.take len).map fun z => UInt8.ofNat z.toNat) = (zs.take len).map (Value.int .u8) := by
      unfold bvals
      rw [List.map_map]
      refine List.map_congr_left fun z hz => ?_
      have := wf_u8 (hwz z (List.mem_of_mem_take hz))
      simp; omega
    refine ⟨some a, len, cap, (zs.take len).map fun z => UInt8.ofNat z.toNat, hv, hl, hm, by simp, by rw [List.length_map, List.length_take]; omega, ?_⟩
    rw [e]
    refine ⟨by simp; omega, fun hp => ⟨a, rfl, ?_, fun j u hu => ?_⟩⟩
    · have h0 := hcell 0 (by omega)
      have := World.block_lt_of_cell? W (a.add 0) h0
      rwa [add_block] at this
    · have hj : j < len := by
        have := (List.getElem?_eq_some_iff.1 hu).1
        simp at this; omega
      rw [hcell j (by omega)]
      rw [← hu]
      simp [hj, List.getElem?_eq_getElem (show j < zs.length by omega)]

theorem field_i64 {fuel : Nat} {u : Value} {y : DataW H × List MemPlace} (h : DataW.trod enc Try.prog W 0 (fun _ => true) true fuel 3 [u] = some y) : ∃ n, u = .int .i64 n ∧ (Lit.int .i64 n).wf = true := by
  obtain ⟨n, h1, _, h2⟩ := DataW.trod_int Try.underlying3 h
  simp at h1
  exact ⟨n, h1, h2⟩
theorem field_u8 {fuel : Nat} {u : Value} {y : DataW H × List MemPlace} (h : DataW.trod enc Try.prog W 0 (fun _ => true) true fuel 5 [u] = some y) : ∃ b : UInt8, u = .int .u8 (b.toNat : Int) := by
  obtain ⟨n, h1, _, h2⟩ := DataW.trod_int Try.underlying5 h
  simp at h1
  have h3 := wf_u8 h2
  refine ⟨UInt8.ofNat n.toNat, ?_⟩
  rw [h1, u8_back (by omega)]
  congr 1; omega

set_option maxRecDepth 100000 in
theorem open_mat {r : Reach} {b0 : Nat} {v : Value} {d : DataW H} {p : List MemPlace} (hval : Value.okWide Try.prog W r b0 24 v) (h : DataW.Trod enc Try.prog W 0 (fun _ => true) true 24 v d p) :
    ∃ (X Y : Int) (A : Option Addr) (n c : Nat) (l : List UInt8), v = mval X Y A n c ∧ (-9223372036854775808 ≤ X ∧ X ≤ 9223372036854775807) ∧ (-9223372036854775808 ≤ Y ∧ Y ≤ 9223372036854775807) ∧ n ≤ c ∧ c ≤ maxLen ∧ (A = none → c = 0 ∧ n = 0) ∧ l.length = n ∧ Holds W 1 A n (bvals l) := by
  obtain ⟨v0, v1, v2, y0, y1, y2, n, rfl, _, _, h0, h1, h2⟩ := Go.Joins.open_agg3 Try.underlying24 (by kernel_rfl) (by kernel_rfl) hval h
  obtain ⟨a, rfl, ha⟩ := field_i64 h0
  obtain ⟨b, rfl, hb⟩ := field_i64 h1
  obtain ⟨A, m, c, l, rfl, q1, q2, q3, q4, q5⟩ := open_bytes_in h2
  exact ⟨a, b, A, m, c, l, rfl, wf_i64 ha, wf_i64 hb, q1, q2, q3, q4, q5⟩

set_option maxRecDepth 100000 in
theorem open_col {r : Reach} {b0 : Nat} {v : Value} {d : DataW H} {p : List MemPlace} (hval : Value.okWide Try.prog W r b0 41 v) (h : DataW.Trod enc Try.prog W 0 (fun _ => true) true 41 v d p) : ∃ x : Px, v = x.val := by
  have hu := Try.underlying41
  simp only [Value.okWide, hu] at hval
  obtain ⟨cs, rfl, hs, _⟩ := hval
  have h4 : Try.prog.cellsOf 41 = 4 := by kernel_rfl
  rw [h4] at hs
  obtain ⟨c0, c1, c2, c3, rfl⟩ := Go.Joins.array4 hs
  obtain ⟨fuel, hf⟩ := h
  obtain ⟨y0, y1, y2, y3, n, _, h0, h1, h2, h3⟩ := trod_array4 hu (by kernel_rfl) (show DataW.trod enc Try.prog W 0 (fun _ => true) true fuel 41 [c0, c1, c2, c3] = some (d, p) from hf)
  obtain ⟨b0, rfl⟩ := field_u8 h0
  obtain ⟨b1, rfl⟩ := field_u8 h1
  obtain ⟨b2, rfl⟩ := field_u8 h2
  obtain ⟨b3, rfl⟩ := field_u8 h3
  exact ⟨⟨b0, b1, b2, b3⟩, rfl⟩
end
end Go.Proofs.Ytngaabnmhcncmaa
