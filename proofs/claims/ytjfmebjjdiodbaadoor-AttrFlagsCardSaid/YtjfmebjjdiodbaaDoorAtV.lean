/-
  Package attr: what a cell looks like.
-/
import Derived.Test.YtjfmebjjdiodbaaDoorAtU
import Derived.Test.YtjfmebjjdiodbaaDoorLater
import Derived.Test.YtjfmebjjdiodbaaDoorTail
import Derived.Deep.DeepCutAuto
import Derived.BigRegion
namespace Go.Proofs.YtjfmebjjdiodbaaDoor
open Go Go.RowKit

theorem results_two_cells {fn : Func} {p u : Tmp} {ty tu : TypeId} (h : fn.results = #[.cell p ty, .cell u tu]) (tmps : Array Value) (P : Program) (w : World) :
    (results fn tmps).run P w =
      ((asAddr (tmps.getD p undef)).run P w).andThen fun a w1 => ((loadVar ty a).run P w1).andThen fun x w2 => ((asAddr (tmps.getD u undef)).run P w2).andThen fun b w3 => ((loadVar tu b).run P w3).andThen fun y w4 => .ok (.tuple #[x, y]) w4 := by
  simp only [results, h]
  simp [Sem.run_bind, Result.andThen]
/-- Two results, both in cells' rows. -/
theorem results_row_row {P : Program} {fn : Func} {p u : Tmp} {ty : TypeId} (h : fn.results = #[.cell p ty, .cell u ty]) (tmps : Array Value) (w : World) (g g2 : Nat) (t : TypeId) (cs ds : Array Value) (d : TypeDesc)
    (hp : tmps.getD p undef = .pointer (some ⟨g, 0, none⟩)) (hg : Has w g t cs) (hp2 : tmps.getD u undef = .pointer (some ⟨g2, 0, none⟩)) (hg2 : Has w g2 t ds)
    (hu : P.underlying ty = some d) (hd : (match d with | .struct _ | .array _ _ => true | _ => false) = true) (hi : (P.info? ty).map (·.size) = some cs.size) (hi2 : (P.info? ty).map (·.size) = some ds.size) :
    (results fn tmps).run P w = .ok (.tuple #[.agg cs, .agg ds]) w := by
  rw [results_two_cells h, hp, hp2]
  simp [asAddr, Result.andThen, run_loadVar_row w g t ty cs (0, 0) d hg hu hd hi, run_loadVar_row w g2 t ty ds (0, 0) d hg2 hu hd hi2]

theorem Has.other3 {w : World} {g p : Nat} {t : TypeId} {cs : Array Value} (h : Has w g t cs) (hp : g ≠ p) (x y z : Value) : Has (((w.setCell ⟨p, 0, none⟩ x).setCell ⟨p, 1, none⟩ y).setCell ⟨p, 2, none⟩ z) g t cs :=
  ((h.other (p := ⟨p, 0, none⟩) hp x).other (p := ⟨p, 1, none⟩) hp y).other (p := ⟨p, 2, none⟩) hp z

structure C3.Ok (c : C3) : Prop where
  r : 0 ≤ c.r ∧ c.r ≤ 255
  g : 0 ≤ c.g ∧ c.g ≤ 255
  b : 0 ≤ c.b ∧ c.b ≤ 255
theorem basicL_ok (i : Nat) : 0 ≤ basicL.getD i 0 ∧ basicL.getD i 0 ≤ 255 := by
  by_cases h : i < 48
  · revert i; decide
  · rw [List.getD_eq_getElem?_getD, List.getElem?_eq_none (by show 48 ≤ i; omega)]; decide
theorem levelL_ok (i : Nat) : 0 ≤ levelL.getD i 0 ∧ levelL.getD i 0 ≤ 255 := by
  by_cases h : i < 6
  · revert i; decide
  · rw [List.getD_eq_getElem?_getD, List.getElem?_eq_none (by show 6 ≤ i; omega)]; decide
theorem zero_ok : C3.zero.Ok := ⟨by decide, by decide, by decide⟩
theorem basicA_ok (n : Int) : (basicA n).Ok := by
  unfold basicA
  by_cases hb : isB n = false
  · rw [if_pos hb]; exact zero_ok
  · rw [if_neg hb]
    obtain ⟨h0, h1⟩ := isB_iff.1 (by simpa using hb)
    split
    · exact ⟨basicL_ok _, basicL_ok _, basicL_ok _⟩
    · split
      · exact ⟨levelL_ok _, levelL_ok _, levelL_ok _⟩
      · have e : 0 ≤ 8 + 10 * (n - 232) ∧ 8 + 10 * (n - 232) ≤ 255 := by omega
        exact ⟨e, e, e⟩
theorem rgbA_ok (c : Int) : (rgbA c).Ok := ⟨by show 0 ≤ c / 65536 % 256 ∧ c / 65536 % 256 ≤ 255; omega, by show 0 ≤ c / 256 % 256 ∧ c / 256 % 256 ≤ 255; omega, by show 0 ≤ c % 256 ∧ c % 256 ≤ 255; omega⟩
theorem colorA_ok (c : Int) (fore : Bool) : (colorA c fore).Ok := by
  unfold colorA
  split
  · exact zero_ok
  split
  · exact rgbA_ok c
  split
  · exact basicA_ok _
  split
  · exact ⟨by decide, by decide, by decide⟩
  · exact zero_ok

/-- Flags, told of colours. -/
def half (c : C3) : C3 := ⟨c.r / 2, c.g / 2, c.b / 2⟩
def shadeF (k2 k32 k64 : Bool) (f b : C3) : C3 := if k64 then (if k32 then (if k2 then half f else f) else b) else (if k32 then b else (if k2 then half f else f))
def shadeB (k2 k32 : Bool) (f b : C3) : C3 := if k32 then (if k2 then half f else f) else b
def bitA (x m : Int) : Bool := bits .and .i64 x m != 0
def foreA (a : At) : C3 := shadeF (bitA a.fl 2) (bitA a.fl 32) (bitA a.fl 64) (colorA a.fg true) (colorA a.bg false)
def backA (a : At) : C3 := shadeB (bitA a.fl 2) (bitA a.fl 32) (colorA a.fg true) (colorA a.bg false)

set_option maxRecDepth 100000 in
set_option maxHeartbeats 4000000 in
theorem colors_any (a : At) (ha : a.Wf) (w : World) (T : Tab w) :
    Calls Tryd.prog 13 #[a.val] w fun e w' => e = .returned (.tuple #[(foreA a).val, (backA a).val]) ∧ Only [] w w' := by
  have HF := hide (fun w T => color_any a.fg true ha.fg w T)
  have HB := hide (fun w T => color_any a.bg false ha.bg w T)
  have of := colorA_ok a.fg true
  have ob := colorA_ok a.bg false
  unfold foreA backA
  show Calls Tryd.prog 13 #[.agg #[.int .i64 a.fg, .int .i64 a.bg, .int .i64 a.fl]] w _
  generalize colorA a.fg true = f at *
  generalize colorA a.bg false = b at *
  unfold bitA
  generalize h2 : (bits .and .i64 a.fl 2 != 0) = k2
  generalize h32 : (bits .and .i64 a.fl 32 != 0) = k32
  generalize h64 : (bits .and .i64 a.fl 64 != 0) = k64
  obtain ⟨fr, fg, fb⟩ := f
  obtain ⟨br, bg, bb⟩ := b
  obtain ⟨⟨p1, p2⟩, ⟨p3, p4⟩, p5, p6⟩ := of
  obtain ⟨⟨q1, q2⟩, ⟨q3, q4⟩, q5, q6⟩ := ob
  have p1 : 0 ≤ fr := p1
  have p2 : fr ≤ 255 := p2
  have p3 : 0 ≤ fg := p3
  have p4 : fg ≤ 255 := p4
  have p5 : 0 ≤ fb := p5
  have p6 : fb ≤ 255 := p6
  have q1 : 0 ≤ br := q1
  have q2 : br ≤ 255 := q2
  have q3 : 0 ≤ bg := q3
  have q4 : bg ≤ 255 := q4
  have q5 : 0 ≤ bb := q5
  have q6 : bb ≤ 255 := q6
  unfold C3.val C3.cells at HF HB
  have HT := hide T
  clear ha T
  have hA := ((Has.new w 23 #[.int .i64 a.fg, .int .i64 a.bg, .int .i64 a.fl]).alloc (.cells #[.int .u8 0, .int .u8 0, .int .u8 0] 29)).alloc (.cells #[.int .u8 0, .int .u8 0, .int .u8 0] 29)
  have hF := (Has.new (w.alloc (.cells #[.int .i64 a.fg, .int .i64 a.bg, .int .i64 a.fl] 23)) 29 #[.int .u8 0, .int .u8 0, .int .u8 0]).alloc (.cells #[.int .u8 0, .int .u8 0, .int .u8 0] 29)
  have hB := Has.new ((w.alloc (.cells #[.int .i64 a.fg, .int .i64 a.bg, .int .i64 a.fl] 23)).alloc (.cells #[.int .u8 0, .int .u8 0, .int .u8 0] 29)) 29 #[.int .u8 0, .int .u8 0, .int .u8 0]
  have oo := (((Only.refl [] w).alloc (.cells #[.int .i64 a.fg, .int .i64 a.bg, .int .i64 a.fl] 23)).alloc (.cells #[.int .u8 0, .int .u8 0, .int .u8 0] 29)).alloc (.cells #[.int .u8 0, .int .u8 0, .int .u8 0] 29)
  simp only [World.size_alloc] at hF hB
  have HH := hide (And.intro hA (And.intro hF (And.intro hB oo)))
  clear hA hF hB oo
  go_enter Tryd.func13, Tryd.ntmps13
  go_wp2_with fail
  obtain ⟨hA, hF, hB, oo⟩ := HH.out
  have tt := HT.out.only oo (by simp)
  generalize ((w.alloc (.cells #[.int .i64 a.fg, .int .i64 a.bg, .int .i64 a.fl] 23)).alloc (.cells #[.int .u8 0, .int .u8 0, .int .u8 0] 29)).alloc (.cells #[.int .u8 0, .int .u8 0, .int .u8 0] 29) = W at *
  have m0 := later_cell (show W.cell? ⟨w.heap.size, 0, none⟩ = some (.int .i64 a.fg) from hA.cell 0)
  have m1 := later_cell (show W.cell? ⟨w.heap.size, 1, none⟩ = some (.int .i64 a.bg) from hA.cell 1)
  have HW := hide (And.intro hA (And.intro hF (And.intro hB (And.intro oo tt))))
  clear hA hF hB oo tt HH
  refine region_later_tail 6 (by kernel_rfl) (by kernel_rfl) ?_
  simp only [List.take_succ_cons, List.take_zero, List.drop_succ_cons, List.drop_zero]
  iterate 2 (go_big_quiet_step (fail))
  go_big_quiet_step ((go_at_call 15; refine later_of (HF.out _ (HW.out.2.2.2.2.only (Later.only _) (by simp)))))
  iterate 2 (go_big_quiet_step (fail))
  go_big_quiet_step ((go_at_call 15; refine later_of (HB.out _ (HW.out.2.2.2.2.only (Later.only _) (by simp)))))
  refine wpQuiet_nil ?_
  rintro _ ⟨X, rfl⟩
  change wpList _ _ _ _ _ X.val
  have hA := HW.out.1.only X.only (by simp)
  have hF := HW.out.2.1.only X.only (by simp)
  have hB := HW.out.2.2.1.only X.only (by simp)
  have oX := HW.out.2.2.2.1.trans X.only (S := []) (by simp)
  clear m0 m1 HW HF HB HT
  generalize X.val = Y at *
  have m2 : Y.cell? ⟨w.heap.size, 2, none⟩ = some (.int .i64 a.fl) := hA.cell 2
  have c0 : Y.cell? ⟨w.heap.size + 1, 0, none⟩ = some (.int .u8 0) := hF.cell 0
  have c1 : Y.cell? ⟨w.heap.size + 1, 1, none⟩ = some (.int .u8 0) := hF.cell 1
  have c2 : Y.cell? ⟨w.heap.size + 1, 2, none⟩ = some (.int .u8 0) := hF.cell 2
  have c3 : Y.cell? ⟨w.heap.size + 1 + 1, 0, none⟩ = some (.int .u8 0) := hB.cell 0
  have c4 : Y.cell? ⟨w.heap.size + 1 + 1, 1, none⟩ = some (.int .u8 0) := hB.cell 1
  have c5 : Y.cell? ⟨w.heap.size + 1 + 1, 2, none⟩ = some (.int .u8 0) := hB.cell 2
  have f0 := hF.free 0
  have f1 := hF.free 1
  have f2 := hF.free 2
  have f3 := hB.free 0
  have f4 := hB.free 1
  have f5 := hB.free 2
  have HY := hide (And.intro hA (And.intro hF (And.intro hB oX)))
  clear hA hF hB oX
  --GEN
  go_upto_region 2 with fail
  obtain ⟨hA, hF, hB, oX⟩ := HY.out
  clear c0 c1 c2 c3 c4 c5 f0 f1 f2 f3 f4 f5 m2 HY
  have hA := hA.other3 (p := w.heap.size + 1) (by omega) (.int .u8 fr) (.int .u8 fg) (.int .u8 fb)
  have hF := hF.set3 (.int .u8 fr) (.int .u8 fg) (.int .u8 fb)
  have hB := hB.other3 (p := w.heap.size + 1) (by omega) (.int .u8 fr) (.int .u8 fg) (.int .u8 fb)
  have oX := oX.set3 (g := w.heap.size + 1) (by omega) (.int .u8 fr) (.int .u8 fg) (.int .u8 fb)
  have hA := hA.other3 (p := w.heap.size + 1 + 1) (by omega) (.int .u8 br) (.int .u8 bg) (.int .u8 bb)
  have hF := hF.other3 (p := w.heap.size + 1 + 1) (by omega) (.int .u8 br) (.int .u8 bg) (.int .u8 bb)
  have hB := hB.set3 (.int .u8 br) (.int .u8 bg) (.int .u8 bb)
  have oX := oX.set3 (g := w.heap.size + 1 + 1) (by omega) (.int .u8 br) (.int .u8 bg) (.int .u8 bb)
  generalize ((((((Y.setCell ⟨w.heap.size + 1, 0, none⟩ (.int .u8 fr)).setCell ⟨w.heap.size + 1, 1, none⟩ (.int .u8 fg)).setCell ⟨w.heap.size + 1, 2, none⟩ (.int .u8 fb)).setCell ⟨w.heap.size + 1 + 1, 0, none⟩ (.int .u8 br)).setCell ⟨w.heap.size + 1 + 1, 1, none⟩ (.int .u8 bg)).setCell ⟨w.heap.size + 1 + 1, 2, none⟩ (.int .u8 bb)) = Y1 at *
  have m2 : Y1.cell? ⟨w.heap.size, 2, none⟩ = some (.int .i64 a.fl) := hA.cell 2
  have c0 : Y1.cell? ⟨w.heap.size + 1, 0, none⟩ = some (.int .u8 fr) := hF.cell 0
  have c1 : Y1.cell? ⟨w.heap.size + 1, 1, none⟩ = some (.int .u8 fg) := hF.cell 1
  have c2 : Y1.cell? ⟨w.heap.size + 1, 2, none⟩ = some (.int .u8 fb) := hF.cell 2
  have c3 : Y1.cell? ⟨w.heap.size + 1 + 1, 0, none⟩ = some (.int .u8 br) := hB.cell 0
  have c4 : Y1.cell? ⟨w.heap.size + 1 + 1, 1, none⟩ = some (.int .u8 bg) := hB.cell 1
  have c5 : Y1.cell? ⟨w.heap.size + 1 + 1, 2, none⟩ = some (.int .u8 bb) := hB.cell 2
  have f0 := hF.free 0
  have f1 := hF.free 1
  have f2 := hF.free 2
  have f3 := hB.free 0
  have f4 := hB.free 1
  have f5 := hB.free 2
  have HY := hide (And.intro hA (And.intro hF (And.intro hB oX)))
  clear hA hF hB oX
  cases k2 with
  | true =>
    go_upto_region 4 with fail
    obtain ⟨hA, hF, hB, oX⟩ := HY.out
    clear c0 c1 c2 c3 c4 c5 f0 f1 f2 f3 f4 f5 m2 HY
    have hA := hA.other3 (p := w.heap.size + 1) (by omega) (.int .u8 (fr / 2)) (.int .u8 (fg / 2)) (.int .u8 (fb / 2))
    have hF := hF.set3 (.int .u8 (fr / 2)) (.int .u8 (fg / 2)) (.int .u8 (fb / 2))
    have hB := hB.other3 (p := w.heap.size + 1) (by omega) (.int .u8 (fr / 2)) (.int .u8 (fg / 2)) (.int .u8 (fb / 2))
    have oX := oX.set3 (g := w.heap.size + 1) (by omega) (.int .u8 (fr / 2)) (.int .u8 (fg / 2)) (.int .u8 (fb / 2))
    generalize (((Y1.setCell ⟨w.heap.size + 1, 0, none⟩ (.int .u8 (fr / 2))).setCell ⟨w.heap.size + 1, 1, none⟩ (.int .u8 (fg / 2))).setCell ⟨w.heap.size + 1, 2, none⟩ (.int .u8 (fb / 2))) = Y2 at *
    have m2 : Y2.cell? ⟨w.heap.size, 2, none⟩ = some (.int .i64 a.fl) := hA.cell 2
    have c0 : Y2.cell? ⟨w.heap.size + 1, 0, none⟩ = some (.int .u8 (fr / 2)) := hF.cell 0
    have c1 : Y2.cell? ⟨w.heap.size + 1, 1, none⟩ = some (.int .u8 (fg / 2)) := hF.cell 1
    have c2 : Y2.cell? ⟨w.heap.size + 1, 2, none⟩ = some (.int .u8 (fb / 2)) := hF.cell 2
    have c3 : Y2.cell? ⟨w.heap.size + 1 + 1, 0, none⟩ = some (.int .u8 br) := hB.cell 0
    have c4 : Y2.cell? ⟨w.heap.size + 1 + 1, 1, none⟩ = some (.int .u8 bg) := hB.cell 1
    have c5 : Y2.cell? ⟨w.heap.size + 1 + 1, 2, none⟩ = some (.int .u8 bb) := hB.cell 2
    have f0 := hF.free 0
    have f1 := hF.free 1
    have f2 := hF.free 2
    have f3 := hB.free 0
    have f4 := hB.free 1
    have f5 := hB.free 2
    have HY := hide (And.intro hA (And.intro hF (And.intro hB oX)))
    clear hA hF hB oX
    clear h2
    cases k32 with
    | true =>
      go_upto_region 6 with fail
      obtain ⟨hA, hF, hB, oX⟩ := HY.out
      clear c0 c1 c2 c3 c4 c5 f0 f1 f2 f3 f4 f5 m2 HY
      have hA := hA.other3 (p := w.heap.size + 1) (by omega) (.int .u8 br) (.int .u8 bg) (.int .u8 bb)
      have hF := hF.set3 (.int .u8 br) (.int .u8 bg) (.int .u8 bb)
      have hB := hB.other3 (p := w.heap.size + 1) (by omega) (.int .u8 br) (.int .u8 bg) (.int .u8 bb)
      have oX := oX.set3 (g := w.heap.size + 1) (by omega) (.int .u8 br) (.int .u8 bg) (.int .u8 bb)
      have hA := hA.other3 (p := w.heap.size + 1 + 1) (by omega) (.int .u8 (fr / 2)) (.int .u8 (fg / 2)) (.int .u8 (fb / 2))
      have hF := hF.other3 (p := w.heap.size + 1 + 1) (by omega) (.int .u8 (fr / 2)) (.int .u8 (fg / 2)) (.int .u8 (fb / 2))
      have hB := hB.set3 (.int .u8 (fr / 2)) (.int .u8 (fg / 2)) (.int .u8 (fb / 2))
      have oX := oX.set3 (g := w.heap.size + 1 + 1) (by omega) (.int .u8 (fr / 2)) (.int .u8 (fg / 2)) (.int .u8 (fb / 2))
      generalize ((((((Y2.setCell ⟨w.heap.size + 1, 0, none⟩ (.int .u8 br)).setCell ⟨w.heap.size + 1, 1, none⟩ (.int .u8 bg)).setCell ⟨w.heap.size + 1, 2, none⟩ (.int .u8 bb)).setCell ⟨w.heap.size + 1 + 1, 0, none⟩ (.int .u8 (fr / 2))).setCell ⟨w.heap.size + 1 + 1, 1, none⟩ (.int .u8 (fg / 2))).setCell ⟨w.heap.size + 1 + 1, 2, none⟩ (.int .u8 (fb / 2))) = Y3 at *
      have m2 : Y3.cell? ⟨w.heap.size, 2, none⟩ = some (.int .i64 a.fl) := hA.cell 2
      have c0 : Y3.cell? ⟨w.heap.size + 1, 0, none⟩ = some (.int .u8 br) := hF.cell 0
      have c1 : Y3.cell? ⟨w.heap.size + 1, 1, none⟩ = some (.int .u8 bg) := hF.cell 1
      have c2 : Y3.cell? ⟨w.heap.size + 1, 2, none⟩ = some (.int .u8 bb) := hF.cell 2
      have c3 : Y3.cell? ⟨w.heap.size + 1 + 1, 0, none⟩ = some (.int .u8 (fr / 2)) := hB.cell 0
      have c4 : Y3.cell? ⟨w.heap.size + 1 + 1, 1, none⟩ = some (.int .u8 (fg / 2)) := hB.cell 1
      have c5 : Y3.cell? ⟨w.heap.size + 1 + 1, 2, none⟩ = some (.int .u8 (fb / 2)) := hB.cell 2
      have f0 := hF.free 0
      have f1 := hF.free 1
      have f2 := hF.free 2
      have f3 := hB.free 0
      have f4 := hB.free 1
      have f5 := hB.free 2
      have HY := hide (And.intro hA (And.intro hF (And.intro hB oX)))
      clear hA hF hB oX
      clear h32
      cases k64 with
      | true =>
        go_upto_region 8 with fail
        obtain ⟨hA, hF, hB, oX⟩ := HY.out
        clear c0 c1 c2 c3 c4 c5 f0 f1 f2 f3 f4 f5 m2 HY
        have hA := hA.other3 (p := w.heap.size + 1) (by omega) (.int .u8 (fr / 2)) (.int .u8 (fg / 2)) (.int .u8 (fb / 2))
        have hF := hF.set3 (.int .u8 (fr / 2)) (.int .u8 (fg / 2)) (.int .u8 (fb / 2))
        have hB := hB.other3 (p := w.heap.size + 1) (by omega) (.int .u8 (fr / 2)) (.int .u8 (fg / 2)) (.int .u8 (fb / 2))
        have oX := oX.set3 (g := w.heap.size + 1) (by omega) (.int .u8 (fr / 2)) (.int .u8 (fg / 2)) (.int .u8 (fb / 2))
        generalize (((Y3.setCell ⟨w.heap.size + 1, 0, none⟩ (.int .u8 (fr / 2))).setCell ⟨w.heap.size + 1, 1, none⟩ (.int .u8 (fg / 2))).setCell ⟨w.heap.size + 1, 2, none⟩ (.int .u8 (fb / 2))) = Y4 at *
        have m2 : Y4.cell? ⟨w.heap.size, 2, none⟩ = some (.int .i64 a.fl) := hA.cell 2
        have c0 : Y4.cell? ⟨w.heap.size + 1, 0, none⟩ = some (.int .u8 (fr / 2)) := hF.cell 0
        have c1 : Y4.cell? ⟨w.heap.size + 1, 1, none⟩ = some (.int .u8 (fg / 2)) := hF.cell 1
        have c2 : Y4.cell? ⟨w.heap.size + 1, 2, none⟩ = some (.int .u8 (fb / 2)) := hF.cell 2
        have c3 : Y4.cell? ⟨w.heap.size + 1 + 1, 0, none⟩ = some (.int .u8 (fr / 2)) := hB.cell 0
        have c4 : Y4.cell? ⟨w.heap.size + 1 + 1, 1, none⟩ = some (.int .u8 (fg / 2)) := hB.cell 1
        have c5 : Y4.cell? ⟨w.heap.size + 1 + 1, 2, none⟩ = some (.int .u8 (fb / 2)) := hB.cell 2
        have f0 := hF.free 0
        have f1 := hF.free 1
        have f2 := hF.free 2
        have f3 := hB.free 0
        have f4 := hB.free 1
        have f5 := hB.free 2
        have HY := hide (And.intro hA (And.intro hF (And.intro hB oX)))
        clear hA hF hB oX
        clear h64
        go_region
        go_wp2_with fail
        obtain ⟨hA, hF, hB, oX⟩ := HY.out
        exact bodyPost_ret (results_row_row Tryd.results13 _ _ (w.heap.size + 1) (w.heap.size + 1 + 1) 29 _ _ _ rfl ((hF.set3 (.int .u8 (fr / 2)) (.int .u8 (fg / 2)) (.int .u8 (fb / 2))).other3 (by omega) (.int .u8 (fr / 2)) (.int .u8 (fg / 2)) (.int .u8 (fb / 2))).drew rfl ((hB.other3 (by omega) (.int .u8 (fr / 2)) (.int .u8 (fg / 2)) (.int .u8 (fb / 2))).set3 (.int .u8 (fr / 2)) (.int .u8 (fg / 2)) (.int .u8 (fb / 2))).drew Tryd.underlying29 rfl (by kernel_rfl) (by kernel_rfl)) rfl ⟨rfl, ((oX.set3 (by omega) (.int .u8 (fr / 2)) (.int .u8 (fg / 2)) (.int .u8 (fb / 2))).set3 (by omega) (.int .u8 (fr / 2)) (.int .u8 (fg / 2)) (.int .u8 (fb / 2))).drew⟩
      | false =>
        go_upto_region 8 with fail
        clear h64
        go_region
        go_wp2_with fail
        obtain ⟨hA, hF, hB, oX⟩ := HY.out
        exact bodyPost_ret (results_row_row Tryd.results13 _ _ (w.heap.size + 1) (w.heap.size + 1 + 1) 29 _ _ _ rfl ((hF.set3 (.int .u8 br) (.int .u8 bg) (.int .u8 bb)).other3 (by omega) (.int .u8 (fr / 2)) (.int .u8 (fg / 2)) (.int .u8 (fb / 2))).drew rfl ((hB.other3 (by omega) (.int .u8 br) (.int .u8 bg) (.int .u8 bb)).set3 (.int .u8 (fr / 2)) (.int .u8 (fg / 2)) (.int .u8 (fb / 2))).drew Tryd.underlying29 rfl (by kernel_rfl) (by kernel_rfl)) rfl ⟨rfl, ((oX.set3 (by omega) (.int .u8 br) (.int .u8 bg) (.int .u8 bb)).set3 (by omega) (.int .u8 (fr / 2)) (.int .u8 (fg / 2)) (.int .u8 (fb / 2))).drew⟩
    | false =>
      go_upto_region 6 with fail
      clear h32
      cases k64 with
      | true =>
        go_upto_region 8 with fail
        obtain ⟨hA, hF, hB, oX⟩ := HY.out
        clear c0 c1 c2 c3 c4 c5 f0 f1 f2 f3 f4 f5 m2 HY
        have hA := hA.other3 (p := w.heap.size + 1) (by omega) (.int .u8 br) (.int .u8 bg) (.int .u8 bb)
        have hF := hF.set3 (.int .u8 br) (.int .u8 bg) (.int .u8 bb)
        have hB := hB.other3 (p := w.heap.size + 1) (by omega) (.int .u8 br) (.int .u8 bg) (.int .u8 bb)
        have oX := oX.set3 (g := w.heap.size + 1) (by omega) (.int .u8 br) (.int .u8 bg) (.int .u8 bb)
        generalize (((Y2.setCell ⟨w.heap.size + 1, 0, none⟩ (.int .u8 br)).setCell ⟨w.heap.size + 1, 1, none⟩ (.int .u8 bg)).setCell ⟨w.heap.size + 1, 2, none⟩ (.int .u8 bb)) = Y5 at *
        have m2 : Y5.cell? ⟨w.heap.size, 2, none⟩ = some (.int .i64 a.fl) := hA.cell 2
        have c0 : Y5.cell? ⟨w.heap.size + 1, 0, none⟩ = some (.int .u8 br) := hF.cell 0
        have c1 : Y5.cell? ⟨w.heap.size + 1, 1, none⟩ = some (.int .u8 bg) := hF.cell 1
        have c2 : Y5.cell? ⟨w.heap.size + 1, 2, none⟩ = some (.int .u8 bb) := hF.cell 2
        have c3 : Y5.cell? ⟨w.heap.size + 1 + 1, 0, none⟩ = some (.int .u8 br) := hB.cell 0
        have c4 : Y5.cell? ⟨w.heap.size + 1 + 1, 1, none⟩ = some (.int .u8 bg) := hB.cell 1
        have c5 : Y5.cell? ⟨w.heap.size + 1 + 1, 2, none⟩ = some (.int .u8 bb) := hB.cell 2
        have f0 := hF.free 0
        have f1 := hF.free 1
        have f2 := hF.free 2
        have f3 := hB.free 0
        have f4 := hB.free 1
        have f5 := hB.free 2
        have HY := hide (And.intro hA (And.intro hF (And.intro hB oX)))
        clear hA hF hB oX
        clear h64
        go_region
        go_wp2_with fail
        obtain ⟨hA, hF, hB, oX⟩ := HY.out
        exact bodyPost_ret (results_row_row Tryd.results13 _ _ (w.heap.size + 1) (w.heap.size + 1 + 1) 29 _ _ _ rfl ((hF.set3 (.int .u8 br) (.int .u8 bg) (.int .u8 bb)).other3 (by omega) (.int .u8 br) (.int .u8 bg) (.int .u8 bb)).drew rfl ((hB.other3 (by omega) (.int .u8 br) (.int .u8 bg) (.int .u8 bb)).set3 (.int .u8 br) (.int .u8 bg) (.int .u8 bb)).drew Tryd.underlying29 rfl (by kernel_rfl) (by kernel_rfl)) rfl ⟨rfl, ((oX.set3 (by omega) (.int .u8 br) (.int .u8 bg) (.int .u8 bb)).set3 (by omega) (.int .u8 br) (.int .u8 bg) (.int .u8 bb)).drew⟩
      | false =>
        go_upto_region 8 with fail
        clear h64
        go_region
        go_wp2_with fail
        obtain ⟨hA, hF, hB, oX⟩ := HY.out
        exact bodyPost_ret (results_row_row Tryd.results13 _ _ (w.heap.size + 1) (w.heap.size + 1 + 1) 29 _ _ _ rfl ((hF.set3 (.int .u8 (fr / 2)) (.int .u8 (fg / 2)) (.int .u8 (fb / 2))).other3 (by omega) (.int .u8 br) (.int .u8 bg) (.int .u8 bb)).drew rfl ((hB.other3 (by omega) (.int .u8 (fr / 2)) (.int .u8 (fg / 2)) (.int .u8 (fb / 2))).set3 (.int .u8 br) (.int .u8 bg) (.int .u8 bb)).drew Tryd.underlying29 rfl (by kernel_rfl) (by kernel_rfl)) rfl ⟨rfl, ((oX.set3 (by omega) (.int .u8 (fr / 2)) (.int .u8 (fg / 2)) (.int .u8 (fb / 2))).set3 (by omega) (.int .u8 br) (.int .u8 bg) (.int .u8 bb)).drew⟩
  | false =>
    go_upto_region 4 with fail
    clear h2
    cases k32 with
    | true =>
      go_upto_region 6 with fail
      obtain ⟨hA, hF, hB, oX⟩ := HY.out
      clear c0 c1 c2 c3 c4 c5 f0 f1 f2 f3 f4 f5 m2 HY
      have hA := hA.other3 (p := w.heap.size + 1) (by omega) (.int .u8 br) (.int .u8 bg) (.int .u8 bb)
      have hF := hF.set3 (.int .u8 br) (.int .u8 bg) (.int .u8 bb)
      have hB := hB.other3 (p := w.heap.size + 1) (by omega) (.int .u8 br) (.int .u8 bg) (.int .u8 bb)
      have oX := oX.set3 (g := w.heap.size + 1) (by omega) (.int .u8 br) (.int .u8 bg) (.int .u8 bb)
      have hA := hA.other3 (p := w.heap.size + 1 + 1) (by omega) (.int .u8 fr) (.int .u8 fg) (.int .u8 fb)
      have hF := hF.other3 (p := w.heap.size + 1 + 1) (by omega) (.int .u8 fr) (.int .u8 fg) (.int .u8 fb)
      have hB := hB.set3 (.int .u8 fr) (.int .u8 fg) (.int .u8 fb)
      have oX := oX.set3 (g := w.heap.size + 1 + 1) (by omega) (.int .u8 fr) (.int .u8 fg) (.int .u8 fb)
      generalize ((((((Y1.setCell ⟨w.heap.size + 1, 0, none⟩ (.int .u8 br)).setCell ⟨w.heap.size + 1, 1, none⟩ (.int .u8 bg)).setCell ⟨w.heap.size + 1, 2, none⟩ (.int .u8 bb)).setCell ⟨w.heap.size + 1 + 1, 0, none⟩ (.int .u8 fr)).setCell ⟨w.heap.size + 1 + 1, 1, none⟩ (.int .u8 fg)).setCell ⟨w.heap.size + 1 + 1, 2, none⟩ (.int .u8 fb)) = Y6 at *
      have m2 : Y6.cell? ⟨w.heap.size, 2, none⟩ = some (.int .i64 a.fl) := hA.cell 2
      have c0 : Y6.cell? ⟨w.heap.size + 1, 0, none⟩ = some (.int .u8 br) := hF.cell 0
      have c1 : Y6.cell? ⟨w.heap.size + 1, 1, none⟩ = some (.int .u8 bg) := hF.cell 1
      have c2 : Y6.cell? ⟨w.heap.size + 1, 2, none⟩ = some (.int .u8 bb) := hF.cell 2
      have c3 : Y6.cell? ⟨w.heap.size + 1 + 1, 0, none⟩ = some (.int .u8 fr) := hB.cell 0
      have c4 : Y6.cell? ⟨w.heap.size + 1 + 1, 1, none⟩ = some (.int .u8 fg) := hB.cell 1
      have c5 : Y6.cell? ⟨w.heap.size + 1 + 1, 2, none⟩ = some (.int .u8 fb) := hB.cell 2
      have f0 := hF.free 0
      have f1 := hF.free 1
      have f2 := hF.free 2
      have f3 := hB.free 0
      have f4 := hB.free 1
      have f5 := hB.free 2
      have HY := hide (And.intro hA (And.intro hF (And.intro hB oX)))
      clear hA hF hB oX
      clear h32
      cases k64 with
      | true =>
        go_upto_region 8 with fail
        obtain ⟨hA, hF, hB, oX⟩ := HY.out
        clear c0 c1 c2 c3 c4 c5 f0 f1 f2 f3 f4 f5 m2 HY
        have hA := hA.other3 (p := w.heap.size + 1) (by omega) (.int .u8 fr) (.int .u8 fg) (.int .u8 fb)
        have hF := hF.set3 (.int .u8 fr) (.int .u8 fg) (.int .u8 fb)
        have hB := hB.other3 (p := w.heap.size + 1) (by omega) (.int .u8 fr) (.int .u8 fg) (.int .u8 fb)
        have oX := oX.set3 (g := w.heap.size + 1) (by omega) (.int .u8 fr) (.int .u8 fg) (.int .u8 fb)
        generalize (((Y6.setCell ⟨w.heap.size + 1, 0, none⟩ (.int .u8 fr)).setCell ⟨w.heap.size + 1, 1, none⟩ (.int .u8 fg)).setCell ⟨w.heap.size + 1, 2, none⟩ (.int .u8 fb)) = Y7 at *
        have m2 : Y7.cell? ⟨w.heap.size, 2, none⟩ = some (.int .i64 a.fl) := hA.cell 2
        have c0 : Y7.cell? ⟨w.heap.size + 1, 0, none⟩ = some (.int .u8 fr) := hF.cell 0
        have c1 : Y7.cell? ⟨w.heap.size + 1, 1, none⟩ = some (.int .u8 fg) := hF.cell 1
        have c2 : Y7.cell? ⟨w.heap.size + 1, 2, none⟩ = some (.int .u8 fb) := hF.cell 2
        have c3 : Y7.cell? ⟨w.heap.size + 1 + 1, 0, none⟩ = some (.int .u8 fr) := hB.cell 0
        have c4 : Y7.cell? ⟨w.heap.size + 1 + 1, 1, none⟩ = some (.int .u8 fg) := hB.cell 1
        have c5 : Y7.cell? ⟨w.heap.size + 1 + 1, 2, none⟩ = some (.int .u8 fb) := hB.cell 2
        have f0 := hF.free 0
        have f1 := hF.free 1
        have f2 := hF.free 2
        have f3 := hB.free 0
        have f4 := hB.free 1
        have f5 := hB.free 2
        have HY := hide (And.intro hA (And.intro hF (And.intro hB oX)))
        clear hA hF hB oX
        clear h64
        go_region
        go_wp2_with fail
        obtain ⟨hA, hF, hB, oX⟩ := HY.out
        exact bodyPost_ret (results_row_row Tryd.results13 _ _ (w.heap.size + 1) (w.heap.size + 1 + 1) 29 _ _ _ rfl ((hF.set3 (.int .u8 fr) (.int .u8 fg) (.int .u8 fb)).other3 (by omega) (.int .u8 fr) (.int .u8 fg) (.int .u8 fb)).drew rfl ((hB.other3 (by omega) (.int .u8 fr) (.int .u8 fg) (.int .u8 fb)).set3 (.int .u8 fr) (.int .u8 fg) (.int .u8 fb)).drew Tryd.underlying29 rfl (by kernel_rfl) (by kernel_rfl)) rfl ⟨rfl, ((oX.set3 (by omega) (.int .u8 fr) (.int .u8 fg) (.int .u8 fb)).set3 (by omega) (.int .u8 fr) (.int .u8 fg) (.int .u8 fb)).drew⟩
      | false =>
        go_upto_region 8 with fail
        clear h64
        go_region
        go_wp2_with fail
        obtain ⟨hA, hF, hB, oX⟩ := HY.out
        exact bodyPost_ret (results_row_row Tryd.results13 _ _ (w.heap.size + 1) (w.heap.size + 1 + 1) 29 _ _ _ rfl ((hF.set3 (.int .u8 br) (.int .u8 bg) (.int .u8 bb)).other3 (by omega) (.int .u8 fr) (.int .u8 fg) (.int .u8 fb)).drew rfl ((hB.other3 (by omega) (.int .u8 br) (.int .u8 bg) (.int .u8 bb)).set3 (.int .u8 fr) (.int .u8 fg) (.int .u8 fb)).drew Tryd.underlying29 rfl (by kernel_rfl) (by kernel_rfl)) rfl ⟨rfl, ((oX.set3 (by omega) (.int .u8 br) (.int .u8 bg) (.int .u8 bb)).set3 (by omega) (.int .u8 fr) (.int .u8 fg) (.int .u8 fb)).drew⟩
    | false =>
      go_upto_region 6 with fail
      clear h32
      cases k64 with
      | true =>
        go_upto_region 8 with fail
        obtain ⟨hA, hF, hB, oX⟩ := HY.out
        clear c0 c1 c2 c3 c4 c5 f0 f1 f2 f3 f4 f5 m2 HY
        have hA := hA.other3 (p := w.heap.size + 1) (by omega) (.int .u8 br) (.int .u8 bg) (.int .u8 bb)
        have hF := hF.set3 (.int .u8 br) (.int .u8 bg) (.int .u8 bb)
        have hB := hB.other3 (p := w.heap.size + 1) (by omega) (.int .u8 br) (.int .u8 bg) (.int .u8 bb)
        have oX := oX.set3 (g := w.heap.size + 1) (by omega) (.int .u8 br) (.int .u8 bg) (.int .u8 bb)
        generalize (((Y1.setCell ⟨w.heap.size + 1, 0, none⟩ (.int .u8 br)).setCell ⟨w.heap.size + 1, 1, none⟩ (.int .u8 bg)).setCell ⟨w.heap.size + 1, 2, none⟩ (.int .u8 bb)) = Y8 at *
        have m2 : Y8.cell? ⟨w.heap.size, 2, none⟩ = some (.int .i64 a.fl) := hA.cell 2
        have c0 : Y8.cell? ⟨w.heap.size + 1, 0, none⟩ = some (.int .u8 br) := hF.cell 0
        have c1 : Y8.cell? ⟨w.heap.size + 1, 1, none⟩ = some (.int .u8 bg) := hF.cell 1
        have c2 : Y8.cell? ⟨w.heap.size + 1, 2, none⟩ = some (.int .u8 bb) := hF.cell 2
        have c3 : Y8.cell? ⟨w.heap.size + 1 + 1, 0, none⟩ = some (.int .u8 br) := hB.cell 0
        have c4 : Y8.cell? ⟨w.heap.size + 1 + 1, 1, none⟩ = some (.int .u8 bg) := hB.cell 1
        have c5 : Y8.cell? ⟨w.heap.size + 1 + 1, 2, none⟩ = some (.int .u8 bb) := hB.cell 2
        have f0 := hF.free 0
        have f1 := hF.free 1
        have f2 := hF.free 2
        have f3 := hB.free 0
        have f4 := hB.free 1
        have f5 := hB.free 2
        have HY := hide (And.intro hA (And.intro hF (And.intro hB oX)))
        clear hA hF hB oX
        clear h64
        go_region
        go_wp2_with fail
        obtain ⟨hA, hF, hB, oX⟩ := HY.out
        exact bodyPost_ret (results_row_row Tryd.results13 _ _ (w.heap.size + 1) (w.heap.size + 1 + 1) 29 _ _ _ rfl ((hF.set3 (.int .u8 br) (.int .u8 bg) (.int .u8 bb)).other3 (by omega) (.int .u8 br) (.int .u8 bg) (.int .u8 bb)).drew rfl ((hB.other3 (by omega) (.int .u8 br) (.int .u8 bg) (.int .u8 bb)).set3 (.int .u8 br) (.int .u8 bg) (.int .u8 bb)).drew Tryd.underlying29 rfl (by kernel_rfl) (by kernel_rfl)) rfl ⟨rfl, ((oX.set3 (by omega) (.int .u8 br) (.int .u8 bg) (.int .u8 bb)).set3 (by omega) (.int .u8 br) (.int .u8 bg) (.int .u8 bb)).drew⟩
      | false =>
        go_upto_region 8 with fail
        clear h64
        go_region
        go_wp2_with fail
        obtain ⟨hA, hF, hB, oX⟩ := HY.out
        exact bodyPost_ret (results_row_row Tryd.results13 _ _ (w.heap.size + 1) (w.heap.size + 1 + 1) 29 _ _ _ rfl ((hF.set3 (.int .u8 fr) (.int .u8 fg) (.int .u8 fb)).other3 (by omega) (.int .u8 br) (.int .u8 bg) (.int .u8 bb)).drew rfl ((hB.other3 (by omega) (.int .u8 fr) (.int .u8 fg) (.int .u8 fb)).set3 (.int .u8 br) (.int .u8 bg) (.int .u8 bb)).drew Tryd.underlying29 rfl (by kernel_rfl) (by kernel_rfl)) rfl ⟨rfl, ((oX.set3 (by omega) (.int .u8 fr) (.int .u8 fg) (.int .u8 fb)).set3 (by omega) (.int .u8 br) (.int .u8 bg) (.int .u8 bb)).drew⟩
end Go.Proofs.YtjfmebjjdiodbaaDoor
