/-
  Arguments opened: how a cell looks, lines; the tables that the rows list.
-/
import Derived.Test.YtilpegmjkbmldaaDoorLaw
import Derived.Test.YtilpegmjkbmldaaDoorOpen
import Derived.Test.YtilpegmjkbmldaaDoorLnD
import Derived.Test.YtilpegmjkbmldaaDoorCards
import Derived.Test.YtilpegmjkbmldaaDoorTie
import Derived.LaidMore
import Derived.Lay
import Derived.LaidOnce
import Derived.SevenTiedAt
import Derived.Lib.SmallJoins
namespace Go.Proofs.YtilpegmjkbmldaaDoor
open Go Go.RowKit Go.ChangeShapes Go.WideShapes Go.ChangeAt

def laidB : List (String × DataW Unit) := [("unicode/utf8.acceptRanges", Rows.laid_unicode_utf8_acceptRanges), ("unicode/utf8.first", Rows.laid_unicode_utf8_first)]
set_option maxRecDepth 100000 in
theorem start_met (os : Os) (args : Array Value) : laidMetH Tryd.prog laidB ((World.laidAll Tryd.prog os laidB).forCall (fun _ _ => 0) ⟨#[], args, []⟩).memory := by
  rw [MakeChecks.laidMetH_plain _ _ _ (by kernel_rfl)]
  exact laidMet_laidAll args (by kernel_rfl) (by kernel_rfl)
instance : Inhabited Ce := ⟨noCe⟩

section
variable {H : Type} {enc : TypeId × Value → H} {W : World}
theorem field_i64 {fuel : Nat} {cs : List Value} {y : DataW H × List MemPlace} {b : Nat} {sp : Nat → Bool} {hd : Bool} (h : DataW.trod enc Tryd.prog W b sp hd fuel 3 cs = some y) : ∃ n, cs = [.int .i64 n] ∧ (Lit.int .i64 n).wf = true := by
  obtain ⟨n, h1, _, h2⟩ := DataW.trod_int Tryd.underlying3 h
  exact ⟨n, h1, h2⟩
theorem open_lk {r : Reach} {b0 : Nat} {v : Value} {d : DataW H} {p : List MemPlace} (hval : Value.okWide Tryd.prog W r b0 23 v) (h : DataW.Trod enc Tryd.prog W 0 (fun _ => true) true 23 v d p) :
    ∃ a : Lk, v = a.val := by
  obtain ⟨v0, v1, v2, y0, y1, y2, n, rfl, _, _, h0, h1, h2⟩ := Go.Joins.open_agg3 Tryd.underlying23 (by kernel_rfl) (by kernel_rfl) hval h
  obtain ⟨a, ha, _⟩ := field_i64 h0
  obtain ⟨b, hb, _⟩ := field_i64 h1
  obtain ⟨c, hc, _⟩ := field_i64 h2
  injection ha with ha
  injection hb with hb
  injection hc with hc
  subst ha hb hc
  exact ⟨⟨a, b, c⟩, rfl⟩
theorem lk_trod {fuel : Nat} {cs : List Value} {y : DataW H × List MemPlace} {b : Nat} {sp : Nat → Bool} {hd : Bool} (h : DataW.trod enc Tryd.prog W b sp hd fuel 23 cs = some y) : ∃ a : Lk, cs = [.int .i64 a.fg, .int .i64 a.bg, .int .i64 a.fl] := by
  obtain ⟨ys, n', _, _, hl, hyl, hg⟩ := DataW.trod_struct Tryd.underlying23 h
  rw [show Tryd.prog.cellsOf 23 = 3 by kernel_rfl] at hl
  obtain ⟨v0, v1, v2, rfl⟩ : ∃ v0 v1 v2, cs = [v0, v1, v2] := by
    match cs, hl with
    | [v0, v1, v2], _ => exact ⟨v0, v1, v2, rfl⟩
  have hy : ys.length = 3 := hyl
  have e1 : Tryd.prog.cellsOf 3 = 1 := by kernel_rfl
  have g0 : DataW.trod enc Tryd.prog W b sp hd n' 3 (List.take (Tryd.prog.cellsOf 3) (List.drop 0 [v0, v1, v2])) = ys[0]? := hg 0 _ rfl
  have g1 : DataW.trod enc Tryd.prog W b sp hd n' 3 (List.take (Tryd.prog.cellsOf 3) (List.drop 1 [v0, v1, v2])) = ys[1]? := hg 1 _ rfl
  have g2 : DataW.trod enc Tryd.prog W b sp hd n' 3 (List.take (Tryd.prog.cellsOf 3) (List.drop 2 [v0, v1, v2])) = ys[2]? := hg 2 _ rfl
  rw [List.getElem?_eq_getElem (by omega)] at g0 g1 g2
  simp only [e1, List.drop_zero, List.drop_succ_cons, List.take_succ_cons, List.take_zero] at g0 g1 g2
  obtain ⟨a, ha, _⟩ := field_i64 g0
  obtain ⟨b, hb, _⟩ := field_i64 g1
  obtain ⟨c, hc, _⟩ := field_i64 g2
  injection ha with ha
  injection hb with hb
  injection hc with hc
  subst ha hb hc
  exact ⟨⟨a, b, c⟩, rfl⟩
theorem ce_trod {fuel : Nat} {cs : List Value} {y : DataW H × List MemPlace} {b : Nat} {sp : Nat → Bool} {hd : Bool} (h : DataW.trod enc Tryd.prog W b sp hd fuel 37 cs = some y) : ∃ C : Ce, cs = C.cells ∧ -2147483648 ≤ C.r ∧ C.r ≤ 2147483647 := by
  obtain ⟨ys, n', _, _, hl, hyl, hg⟩ := DataW.trod_struct Tryd.underlying37 h
  rw [show Tryd.prog.cellsOf 37 = 5 by kernel_rfl] at hl
  obtain ⟨v0, v1, v2, v3, v4, rfl⟩ : ∃ v0 v1 v2 v3 v4, cs = [v0, v1, v2, v3, v4] := by
    match cs, hl with
    | [v0, v1, v2, v3, v4], _ => exact ⟨v0, v1, v2, v3, v4, rfl⟩
  have hy : ys.length = 3 := hyl
  have e1 : Tryd.prog.cellsOf 3 = 1 := by kernel_rfl
  have e2 : Tryd.prog.cellsOf 21 = 1 := by kernel_rfl
  have e3 : Tryd.prog.cellsOf 23 = 3 := by kernel_rfl
  have g0 : DataW.trod enc Tryd.prog W b sp hd n' 21 (List.take (Tryd.prog.cellsOf 21) (List.drop 0 [v0, v1, v2, v3, v4])) = ys[0]? := hg 0 _ rfl
  have g1 : DataW.trod enc Tryd.prog W b sp hd n' 3 (List.take (Tryd.prog.cellsOf 3) (List.drop 1 [v0, v1, v2, v3, v4])) = ys[1]? := hg 1 _ rfl
  have g2 : DataW.trod enc Tryd.prog W b sp hd n' 23 (List.take (Tryd.prog.cellsOf 23) (List.drop 2 [v0, v1, v2, v3, v4])) = ys[2]? := hg 2 _ rfl
  rw [List.getElem?_eq_getElem (by omega)] at g0 g1 g2
  simp only [e1, e2, e3, List.drop_zero, List.drop_succ_cons, List.take_succ_cons, List.take_zero] at g0 g1 g2
  obtain ⟨r, hr, _, hw⟩ := DataW.trod_int Tryd.underlying21 g0
  obtain ⟨k, hk, _⟩ := field_i64 g1
  obtain ⟨a, ha⟩ := lk_trod g2
  injection hr with hr
  injection hk with hk
  injection ha with h0 ha
  injection ha with h1 ha
  injection ha with h2 ha
  subst hr hk h0 h1 h2
  have hw2 : -2147483648 ≤ r ∧ r ≤ 2147483647 := by simpa [Lit.wf, IntKind.min, IntKind.max, IntKind.signed, IntKind.bits] using hw
  exact ⟨⟨r, k, a⟩, rfl, hw2⟩

/-- A line that came in. -/
theorem open_line {r : Reach} {b0 : Nat} {v : Value} {d : DataW H} {p : List MemPlace} (hval : Value.okWide Tryd.prog W r b0 25 v) (h : DataW.Trod enc Tryd.prog W 0 (fun _ => true) true 25 v d p) :
    ∃ (A : Option Addr) (n c : Nat) (L : List Ce), v = .slice A n c ∧ LineAt W A n c L ∧ n ≤ maxLen ∧ ∀ C ∈ L, -2147483648 ≤ C.r ∧ C.r ≤ 2147483647 := by
  obtain ⟨a0, len, cap, rfl⟩ := okWide_slice Tryd.underlying25 hval
  obtain ⟨fuel, hf⟩ := h
  rcases Go.Deep.open_slice Tryd.underlying25 hf with ⟨hcs, hx⟩ | ⟨a, len', cap', m, k, D, Pl, hcs, _, hl, hm, hmm, hx, hel⟩
  · simp [Value.cells] at hcs
    obtain ⟨rfl, rfl, rfl⟩ := hcs
    exact ⟨none, 0, 0, [], rfl, ⟨Holds.empty _ _ _, Nat.le_refl _, fun _ => rfl⟩, by simp [maxLen], by simp⟩
  · simp [Value.cells] at hcs
    obtain ⟨rfl, rfl, rfl⟩ := hcs
    have hmc : m = cap := by simpa using hmm
    have hC : Tryd.prog.cellsOf 37 = 5 := by kernel_rfl
    have hcell : ∀ i, i < len → ∃ C : Ce, (∀ j, j < 5 → W.cell? (a.add (i * 5 + j)) = C.cells[j]?) ∧ -2147483648 ≤ C.r ∧ C.r ≤ 2147483647 := fun i hi => by
      obtain ⟨cs', h1, h2⟩ := hel i (by omega)
      rw [hC] at h1
      obtain ⟨C, rfl, hr⟩ := ce_trod h2
      obtain ⟨_, _, hat⟩ := World.cells?_some h1
      refine ⟨C, fun j hj => ?_, hr⟩
      have := hat j hj
      rwa [Go.Deep.add_add] at this
    obtain ⟨f, hfC⟩ := Go.Deep.choose_lt hcell
    have hget : ∀ i, i < len → ((List.range len).map f)[i]? = some (f i) := fun i hi => by simp [hi]
    refine ⟨some a, len, cap, (List.range len).map f, rfl, ⟨⟨by rw [cvals_len]; simp, fun hp => ⟨a, rfl, ?_, fun q u hu => ?_⟩⟩, hl, by simp⟩, by omega, fun C hC => ?_⟩
    · have := (hfC 0 hp).1 0 (by omega)
      have := World.block_lt_of_cell? W (a.add (0 * 5 + 0)) (this.trans rfl)
      rwa [add_block] at this
    · have hq : q < len * 5 := by
        have := (List.getElem?_eq_some_iff.1 hu).1
        rw [cvals_len] at this
        simpa using this
      have h1 := cvals_at ((List.range len).map f) (q / 5) (by simp; omega) (q % 5) (by omega)
      rw [show q / 5 * 5 + q % 5 = q by omega] at h1
      have h2 := (hfC (q / 5) (by omega)).1 (q % 5) (by omega)
      rw [show q / 5 * 5 + q % 5 = q by omega] at h2
      rw [h2, ← hu, h1]
      simp
    · simp only [List.mem_map, List.mem_range] at hC
      obtain ⟨i, hi, rfl⟩ := hC
      exact (hfC i hi).2
end
end Go.Proofs.YtilpegmjkbmldaaDoor
