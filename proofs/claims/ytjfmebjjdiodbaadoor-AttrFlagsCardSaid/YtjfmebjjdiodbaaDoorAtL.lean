/-
  The three tables, as the rows list them.
-/
import Derived.Test.YtjfmebjjdiodbaaDoorLaw
import Derived.Test.YtjfmebjjdiodbaaDoorOpen
import Derived.Test.YtjfmebjjdiodbaaDoorAtK
import Derived.Test.YtjfmebjjdiodbaaDoorCards
import Derived.Test.YtjfmebjjdiodbaaDoorTie
import Derived.LaidMore
import Derived.Lay
import Derived.SevenTiedAt
import Derived.Stop.Joined
import Derived.Lib.LaidTab
namespace Go.Proofs.YtjfmebjjdiodbaaDoor
open Go Go.RowKit Go.ChangeShapes Go.WideShapes Go.ChangeAt

def laidB : List (String × DataW Unit) := [("phosphor/attr.flagOf", Rows.laid_phosphor_attr_flagOf), ("phosphor/attr.basic", Rows.laid_phosphor_attr_basic), ("phosphor/attr.levels", Rows.laid_phosphor_attr_levels)]
def basic3 : List (List Int) := [[0, 0, 0], [205, 0, 0], [0, 205, 0], [205, 205, 0], [0, 0, 238], [205, 0, 205], [0, 205, 205], [229, 229, 229], [127, 127, 127], [255, 0, 0], [0, 255, 0], [255, 255, 0], [92, 92, 255], [255, 0, 255], [0, 255, 255], [255, 255, 255]]

theorem flag_data : (Rows.laid_phosphor_attr_flagOf : DataW Unit) = Lib.tabData .i64 flagL := by rfl
theorem basic_data : (Rows.laid_phosphor_attr_basic : DataW Unit) = .agg (basic3.map (Lib.tabData .u8)) := by rfl
theorem level_data : (Rows.laid_phosphor_attr_levels : DataW Unit) = Lib.tabData .u8 levelL := by rfl

/-- An array of arrays of integers, row by row. -/
theorem rows_of_tab {H : Type} {enc : TypeId × Value → H} {P : Program} {w : World} {base : Nat} {sp : Nat → Bool} {held : Bool} {fuel : Nat} {t e e2 : TypeId} {n m : Nat} {k : IntKind} {cs : List Value} {rows : List (List Int)} {p : List MemPlace}
    (ht : P.underlying t = some (.array n e)) (he : P.underlying e = some (.array m e2)) (he2 : P.underlying e2 = some (.int k)) (hc2 : P.cellsOf e2 = 1) (hce : P.cellsOf e = m)
    (h : DataW.trod enc P w base sp held fuel t cs = some (.agg (rows.map (Lib.tabData k)), p)) (i : Nat) (row : List Int) (hr : rows[i]? = some row) : (cs.drop (i * m)).take m = row.map fun z => Value.int k z := by
  obtain ⟨xs, q, _, hx, _, hl, hf⟩ := DataW.trod_array ht h
  have h1 : xs.map (·.1) = rows.map (Lib.tabData k) := by
    have := congrArg Prod.fst hx
    simpa using this.symm
  have hi : i < n := by
    have h2 := congrArg List.length h1
    simp at h2
    have := (List.getElem?_eq_some_iff.1 hr).1
    omega
  have h3 := hf i hi
  rw [hce] at h3
  obtain ⟨x, hx1⟩ : ∃ x, xs[i]? = some x := ⟨xs[i]'(by omega), List.getElem?_eq_getElem (by omega)⟩
  have h4 : x.1 = Lib.tabData k row := by
    have := congrArg (·[i]?) h1
    simp only [List.getElem?_map, hx1, hr, Option.map_some, Option.some.injEq] at this
    exact this
  rw [hx1] at h3
  obtain ⟨x1, x2⟩ := x
  subst h4
  exact Lib.cells_of_tab he he2 hc2 hce h3

theorem basic_at : ∀ i, i < 48 → ∃ row, basic3[i / 3]? = some row ∧ row[i % 3]? = some (basicL.getD i 0) := by
  intro i hi
  have : ∀ i : Fin 48, ((basic3[i.val / 3]?).getD [])[i.val % 3]? = some (basicL.getD i.val 0) := by decide
  have h := this ⟨i, hi⟩
  cases hr : basic3[i / 3]? with
  | none => rw [hr] at h; simp at h
  | some row => rw [hr] at h; exact ⟨row, rfl, h⟩

theorem tab_of_laid {W : World} (h : laidMetH Tryd.prog laidB W) : Tab W := by
  rw [MakeChecks.laidMetH_plain _ _ _ (by kernel_rfl)] at h
  obtain ⟨ps, ⟨g0, t0, cs0, f0, p0, q0, hg0, ht0, hv0, hd0, ⟨g1, t1, cs1, f1, p1, q1, hg1, ht1, hv1, hd1, ⟨g2, t2, cs2, f2, p2, q2, hg2, ht2, hv2, hd2, _, _⟩, _⟩, _⟩, _, _⟩ := h
  have gF : Tryd.prog.globalNamed "phosphor/attr.flagOf" = some 2 := by kernel_rfl
  have gB : Tryd.prog.globalNamed "phosphor/attr.basic" = some 0 := by kernel_rfl
  have gL : Tryd.prog.globalNamed "phosphor/attr.levels" = some 1 := by kernel_rfl
  obtain rfl := Option.some.inj (gF.symm.trans hg0)
  obtain rfl := Option.some.inj (gB.symm.trans hg1)
  obtain rfl := Option.some.inj (gL.symm.trans hg2)
  obtain rfl := Option.some.inj ((show (Tryd.prog.globals[2]?).map (·.type) = some 53 by kernel_rfl).symm.trans ht0)
  obtain rfl := Option.some.inj ((show (Tryd.prog.globals[0]?).map (·.type) = some 50 by kernel_rfl).symm.trans ht1)
  obtain rfl := Option.some.inj ((show (Tryd.prog.globals[1]?).map (·.type) = some 51 by kernel_rfl).symm.trans ht2)
  rw [flag_data] at hd0
  rw [basic_data] at hd1
  rw [level_data] at hd2
  have e0 := Lib.cells_of_tab Tryd.underlying53 Tryd.underlying3 (by kernel_rfl) (by kernel_rfl) hd0
  have e2 := Lib.cells_of_tab Tryd.underlying51 Tryd.underlying5 (by kernel_rfl) (by kernel_rfl) hd2
  have i0 : Lib.TabIs Tryd.prog W "phosphor/attr.flagOf" .i64 flagL := by unfold Lib.TabIs; rw [hv0, ← e0]
  have i2 : Lib.TabIs Tryd.prog W "phosphor/attr.levels" .u8 levelL := by unfold Lib.TabIs; rw [hv2, ← e2]
  refine ⟨fun i hi => i0.cell gF i hi, fun i hi => ?_, fun i hi => i2.cell gL i hi⟩
  obtain ⟨row, h1, h2⟩ := basic_at i hi
  have h3 := rows_of_tab Tryd.underlying50 Tryd.underlying29 Tryd.underlying5 (by kernel_rfl) (by kernel_rfl) hd1 (i / 3) row h1
  have h4 := congrArg (·[i % 3]?) h3
  simp only [List.getElem?_map, h2, Option.map_some, List.getElem?_take, List.getElem?_drop] at h4
  rw [if_pos (by omega), show i / 3 * 3 + i % 3 = i by omega] at h4
  have h5 := World.var?_cell gB hv1 i
  rw [h5, ← h4]
  simp

/-- The door's own heap meets the condition. -/
theorem door_met (os : Os) (args : Array Value) : laidMetH Tryd.prog laidB ((World.doorLaid Tryd.prog 400 os).forCall (fun _ _ => 0) ⟨#[], args, []⟩).memory :=
  laidMetH_of_parts3 (fuel := 8) (laidMet_of_run' 8 (by kernel_rfl) (by kernel_rfl)) (by kernel_rfl) (by kernel_rfl)
end Go.Proofs.YtjfmebjjdiodbaaDoor
