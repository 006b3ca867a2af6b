/-
  A slice of structs of one-cell fields that came in: its cells, each with its own reading.
-/
import Derived.Test.YtdnkkdpcahmngaaDoorOpen
import Derived.Deep.Slices
import Derived.Deep.Fields
namespace Go.Proofs.YtdnkkdpcahmngaaDoor
open Go Go.RowKit Go.ChangeShapes Go.WideShapes Go.ChangeAt

section
variable {H : Type} {enc : TypeId × Value → H} {W : World}

theorem open_recs {t e : TypeId} {fs : Array Field} {r : Reach} {b0 : Nat} {v : Value} {d : DataW H} {p : List MemPlace} (ht : Tryd.prog.underlying t = some (.slice e)) (he : Tryd.prog.underlying e = some (.struct fs))
    (hone : Go.Deep.oneCellFields Tryd.prog fs = true) (hC : Tryd.prog.cellsOf e = fs.size) (hpos : 0 < fs.size)
    (hval : Value.okWide Tryd.prog W r b0 t v) (h : DataW.Trod enc Tryd.prog W 0 (fun _ => true) true t v d p) :
    ∃ (A : Option Addr) (n c : Nat) (xs : List Value), v = .slice A n c ∧ n ≤ c ∧ c ≤ maxLen ∧ (A = none → c = 0 ∧ n = 0) ∧ Holds W fs.size A n xs ∧
      ∀ i j f, i < n → fs[j]? = some f → ∃ u fuel y, xs[i * fs.size + j]? = some u ∧ DataW.trod enc Tryd.prog W 0 (fun _ => true) true fuel f.type [u] = some y := by
  obtain ⟨a0, len, cap, rfl⟩ := okWide_slice ht hval
  obtain ⟨fuel, hf⟩ := h
  rcases Go.Deep.open_slice ht hf with ⟨hcs, hx⟩ | ⟨a, len', cap', m, k, D, Pl, hcs, _, hl, hm, hmm, hx, hel⟩
  · simp [Value.cells] at hcs
    obtain ⟨rfl, rfl, rfl⟩ := hcs
    exact ⟨none, 0, 0, [], rfl, Nat.le_refl _, by simp [maxLen], fun _ => ⟨rfl, rfl⟩, Holds.empty _ _ _, fun i _ _ hi => absurd hi (by omega)⟩
  · simp [Value.cells] at hcs
    obtain ⟨rfl, rfl, rfl⟩ := hcs
    have hmc : m = cap := by simpa using hmm
    have hcell : ∀ i j f, i < len → fs[j]? = some f → ∃ u fuel y, W.cell? (a.add (i * fs.size + j)) = some u ∧ DataW.trod enc Tryd.prog W 0 (fun _ => true) true fuel f.type [u] = some y := by
      intro i j f hi hj
      obtain ⟨cs', hc, htr⟩ := hel i (by omega)
      rw [hC] at hc
      obtain ⟨_, hlen, hat⟩ := World.cells?_some hc
      obtain ⟨ys, n', _, _, _, hyl, hg⟩ := DataW.trod_struct he htr
      obtain ⟨ho, hk⟩ := Go.Deep.hone_of hone j f hj
      have hjl : j < fs.size := (Array.getElem?_eq_some_iff.1 hj).1
      have h1 := hg j f hj
      rw [ho, hk] at h1
      have e1 : (cs'.drop j).take 1 = [cs'[j]'(by omega)] := by rw [List.drop_eq_getElem_cons (by omega), List.take_succ_cons, List.take_zero]
      rw [e1, List.getElem?_eq_getElem (by omega)] at h1
      refine ⟨_, _, _, ?_, h1⟩
      have h2 := hat j hjl
      rw [List.getElem?_eq_getElem (by omega), Go.Deep.add_add] at h2
      exact h2
    have hall : ∀ q, q < len * fs.size → ∃ u, W.cell? (a.add q) = some u := by
      intro q hq
      have hd : q / fs.size < len := Nat.div_lt_of_lt_mul (by rw [Nat.mul_comm]; exact hq)
      have hm2 := Nat.mod_lt q hpos
      obtain ⟨u, _, _, hu, _⟩ := hcell (q / fs.size) (q % fs.size) fs[q % fs.size] hd (Array.getElem?_eq_getElem hm2)
      have e : q / fs.size * fs.size + q % fs.size = q := by rw [Nat.mul_comm]; exact Nat.div_add_mod q fs.size
      rw [e] at hu
      exact ⟨u, hu⟩
    have hxs : ∀ q, q < len * fs.size → ((List.range (len * fs.size)).map fun q => (W.cell? (a.add q)).getD undef)[q]? = W.cell? (a.add q) := by
      intro q hq
      obtain ⟨u, hu⟩ := hall q hq
      simp [hq, hu]
    refine ⟨some a, len, cap, (List.range (len * fs.size)).map fun q => (W.cell? (a.add q)).getD undef, rfl, hl, hm, by simp, ⟨by simp, fun hp => ⟨a, rfl, ?_, fun q u hu => ?_⟩⟩, fun i j f hi hj => ?_⟩
    · obtain ⟨u, hu⟩ := hall 0 (Nat.mul_pos hp hpos)
      have := World.block_lt_of_cell? W (a.add 0) hu
      rwa [add_block] at this
    · have hq : q < len * fs.size := by
        have := (List.getElem?_eq_some_iff.1 hu).1
        simpa using this
      rw [hxs q hq] at hu
      exact hu
    · obtain ⟨u, fuel, y, hu, hy⟩ := hcell i j f hi hj
      have hjl : j < fs.size := (Array.getElem?_eq_some_iff.1 hj).1
      have hq : i * fs.size + j < len * fs.size := by
        have : (i + 1) * fs.size ≤ len * fs.size := Nat.mul_le_mul_right _ (by omega)
        rw [Nat.succ_mul] at this; omega
      exact ⟨u, fuel, y, by rw [hxs _ hq]; exact hu, hy⟩

/-- A field that is an integer. -/
theorem field_int {P : Program} {t : TypeId} {k : IntKind} {fuel : Nat} {u : Value} {y : DataW H × List MemPlace} {base : Nat} {sp : Nat → Bool} {hd : Bool} (ht : P.underlying t = some (.int k)) (h : DataW.trod enc P W base sp hd fuel t [u] = some y) : ∃ n, u = .int k n ∧ (Lit.int k n).wf = true := by
  obtain ⟨n, h1, _, h2⟩ := DataW.trod_int ht h
  simp at h1
  exact ⟨n, h1, h2⟩
end
end Go.Proofs.YtdnkkdpcahmngaaDoor
