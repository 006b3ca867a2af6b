/-
  A slice of pairs of numbers that came in.
-/
import Derived.Test.YtakeoabeaopamaaOpen
import Derived.Deep.Slices
import Derived.Deep.Fields
namespace Go.Proofs.Ytakeoabeaopamaa
open Go Go.RowKit Go.ChangeShapes Go.WideShapes Go.ChangeAt

section
variable {H : Type} {enc : TypeId × Value → H} {W : World}

theorem open_pairs {t e qt : TypeId} {r : Reach} {b0 : Nat} {v : Value} {d : DataW H} {p : List MemPlace} (ht : Try.prog.underlying t = some (.slice e)) (he : Try.prog.underlying e = some (.array 2 qt))
    (hqc : Try.prog.cellsOf qt = 1) (hC : Try.prog.cellsOf e = 2)
    (hval : Value.okWide Try.prog W r b0 t v) (h : DataW.Trod enc Try.prog W 0 (fun _ => true) true t v d p) :
    ∃ (A : Option Addr) (n c : Nat) (xs : List Value), v = .slice A n c ∧ n ≤ c ∧ c ≤ maxLen ∧ (A = none → c = 0 ∧ n = 0) ∧ Holds W 2 A n xs ∧
      ∀ i j, i < n → j < 2 → ∃ u fuel y, xs[i * 2 + j]? = some u ∧ DataW.trod enc Try.prog W 0 (fun _ => true) true fuel qt [u] = some y := by
  obtain ⟨a0, len, cap, rfl⟩ := okWide_slice ht hval
  obtain ⟨fuel, hf⟩ := h
  rcases Go.Deep.open_slice ht hf with ⟨hcs, hx⟩ | ⟨a, len', cap', m, k, D, Pl, hcs, _, hl, hm, hmm, hx, hel⟩
  · simp [Value.cells] at hcs
    obtain ⟨rfl, rfl, rfl⟩ := hcs
    exact ⟨none, 0, 0, [], rfl, Nat.le_refl _, by simp [maxLen], fun _ => ⟨rfl, rfl⟩, Holds.empty _ _ _, fun i _ hi => absurd hi (by omega)⟩
  · simp [Value.cells] at hcs
    obtain ⟨rfl, rfl, rfl⟩ := hcs
    have hmc : m = cap := by simpa using hmm
    have hcell : ∀ i j, i < len → j < 2 → ∃ u fuel y, W.cell? (a.add (i * 2 + j)) = some u ∧ DataW.trod enc Try.prog W 0 (fun _ => true) true fuel qt [u] = some y := by
      intro i j hi hj
      obtain ⟨cs', hc, htr⟩ := hel i (by omega)
      rw [hC] at hc
      obtain ⟨_, hlen, hat⟩ := World.cells?_some hc
      obtain ⟨ys, n', _, _, _, hyl, hg⟩ := DataW.trod_array he htr
      have h1 := hg j hj
      rw [hqc, Nat.mul_one] at h1
      have e1 : (cs'.drop j).take 1 = [cs'[j]'(by omega)] := by rw [List.drop_eq_getElem_cons (by omega), List.take_succ_cons, List.take_zero]
      rw [e1, List.getElem?_eq_getElem (by omega)] at h1
      refine ⟨_, _, _, ?_, h1⟩
      have h2 := hat j hj
      rw [List.getElem?_eq_getElem (by omega), Go.Deep.add_add] at h2
      exact h2
    have hall : ∀ q, q < len * 2 → ∃ u, W.cell? (a.add q) = some u := by
      intro q hq
      have hd : q / 2 < len := Nat.div_lt_of_lt_mul (by rw [Nat.mul_comm]; exact hq)
      have hm2 := Nat.mod_lt q (show 0 < 2 by decide)
      obtain ⟨u, _, _, hu, _⟩ := hcell (q / 2) (q % 2) hd hm2
      have e : q / 2 * 2 + q % 2 = q := by rw [Nat.mul_comm]; exact Nat.div_add_mod q 2
      rw [e] at hu
      exact ⟨u, hu⟩
    have hxs : ∀ q, q < len * 2 → ((List.range (len * 2)).map fun q => (W.cell? (a.add q)).getD undef)[q]? = W.cell? (a.add q) := by
      intro q hq
      obtain ⟨u, hu⟩ := hall q hq
      simp [hq, hu]
    refine ⟨some a, len, cap, (List.range (len * 2)).map fun q => (W.cell? (a.add q)).getD undef, rfl, hl, hm, by simp, ⟨by simp, fun hp => ⟨a, rfl, ?_, fun q u hu => ?_⟩⟩, fun i j hi hj => ?_⟩
    · obtain ⟨u, hu⟩ := hall 0 (Nat.mul_pos hp (show 0 < 2 by decide))
      have := World.block_lt_of_cell? W (a.add 0) hu
      rwa [add_block] at this
    · have hq : q < len * 2 := by
        have := (List.getElem?_eq_some_iff.1 hu).1
        simpa using this
      rw [hxs q hq] at hu
      exact hu
    · obtain ⟨u, fuel, y, hu, hy⟩ := hcell i j hi hj
      have hq : i * 2 + j < len * 2 := by
        have : (i + 1) * 2 ≤ len * 2 := Nat.mul_le_mul_right _ (by omega)
        rw [Nat.succ_mul] at this; omega
      exact ⟨u, fuel, y, by rw [hxs _ hq]; exact hu, hy⟩


theorem field_int {P : Program} {t : TypeId} {k : IntKind} {fuel : Nat} {u : Value} {y : DataW H × List MemPlace} {base : Nat} {sp : Nat → Bool} {hd : Bool} (ht : P.underlying t = some (.int k)) (h : DataW.trod enc P W base sp hd fuel t [u] = some y) : ∃ n, u = .int k n := by
  obtain ⟨n, h1, _, _⟩ := DataW.trod_int ht h
  simp at h1
  exact ⟨n, h1⟩

/-- The acts: what each pair's cells hold. -/
def Acts (W : World) (A : Option Addr) (n : Nat) (x y : Nat → Int) : Prop := ∀ i, i < n → ∃ b o, A = some ⟨b, o, none⟩ ∧ b < W.heap.size ∧ W.cell? ⟨b, o + i * 2, none⟩ = some (.int .i64 (x i)) ∧ W.cell? ⟨b, o + i * 2 + 1, none⟩ = some (.int .i64 (y i))

theorem open_acts {r : Reach} {b0 : Nat} {v : Value} {d : DataW H} {p : List MemPlace} (hval : Value.okWide Try.prog W r b0 22 v) (h : DataW.Trod enc Try.prog W 0 (fun _ => true) true 22 v d p) :
    ∃ (A : Option Addr) (n c : Nat) (x y : Nat → Int), v = .slice A n c ∧ n ≤ c ∧ c ≤ maxLen ∧ Acts W A n x y := by
  obtain ⟨A, n, c, xs, rfl, hc, cm, _, hx, hf⟩ := open_pairs Try.underlying22 Try.underlying31 (by kernel_rfl) (by kernel_rfl) hval h
  have hxl : xs.length = n * 2 := hx.1
  refine ⟨A, n, c, fun i => match xs[i * 2]? with | some (.int _ z) => z | _ => 0, fun i => match xs[i * 2 + 1]? with | some (.int _ z) => z | _ => 0, rfl, hc, cm, fun i hi => ?_⟩
  obtain ⟨b, o, rfl, hcell⟩ := hx.addr (by omega)
  obtain ⟨u0, f0, y0, hu0, hy0⟩ := hf i 0 hi (by decide)
  obtain ⟨z0, rfl⟩ := field_int Try.underlying3 hy0
  obtain ⟨u1, f1, y1, hu1, hy1⟩ := hf i 1 hi (by decide)
  obtain ⟨z1, rfl⟩ := field_int Try.underlying3 hy1
  rw [Nat.add_zero] at hu0
  have e0 := hcell _ _ hu0
  have e1 := hcell _ _ hu1
  refine ⟨b, o, rfl, World.block_lt_of_cell? W _ e0, ?_, ?_⟩
  · simp only [hu0]; exact e0
  · simp only [hu1]; rw [← Nat.add_assoc] at e1; exact e1
end
end Go.Proofs.Ytakeoabeaopamaa
