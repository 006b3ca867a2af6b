/-
  The document's colours.
-/
import Derived.Test.YtjfmebjjdiodbaaDoorAqA
namespace Go.Proofs.YtjfmebjjdiodbaaDoor
open Go Go.RowKit

theorem colorA_none (c : Int) (fore : Bool) (h : c ≠ 0 ∧ ¬ (16777216 ≤ c ∧ c ≤ 16777471) ∧ ¬ (33554432 ≤ c ∧ c < 50331648)) : colorA c fore = C3.zero := by
  unfold colorA
  rw [if_pos (by unfold rightI; rw [decide_eq_false_iff_not]; omega)]
theorem colorA_zero (fore : Bool) : colorA 0 fore = if fore = true then ⟨229, 229, 229⟩ else C3.zero := by
  unfold colorA
  rw [if_neg (by decide), if_neg (by decide), if_neg (by decide)]
theorem colorA_pal (c : Int) (fore : Bool) (h0 : 16777216 ≤ c) (h1 : c ≤ 16777471) : colorA c fore = basicA (c - 16777216) := by
  unfold colorA
  have hr : rightI c = true := by unfold rightI; rw [decide_eq_true_iff]; omega
  have hk : kindA c = 16777216 := by unfold kindA; omega
  have hb : (rgbA c).b = c - 16777216 := by show c % 256 = _; omega
  rw [hr, if_neg (by decide), if_neg (by rw [hk]; decide), if_pos hk, hb]
theorem colorA_dir (c : Int) (fore : Bool) (h0 : 33554432 ≤ c) (h1 : c < 50331648) : colorA c fore = ⟨(c - 33554432) / 65536, (c - 33554432) / 256 % 256, (c - 33554432) % 256⟩ := by
  unfold colorA
  have hr : rightI c = true := by unfold rightI; rw [decide_eq_true_iff]; omega
  have hk : kindA c = 33554432 := by unfold kindA; omega
  rw [hr, if_neg (by decide), if_pos hk]
  unfold rgbA
  have e1 : c / 65536 % 256 = (c - 33554432) / 65536 := by omega
  have e2 : c / 256 % 256 = (c - 33554432) / 256 % 256 := by omega
  have e3 : c % 256 = (c - 33554432) % 256 := by omega
  rw [e1, e2, e3]

set_option maxRecDepth 100000 in
set_option maxHeartbeats 2000000 in
theorem rcolor_any (c : Int) (fore : Bool) (hc : I64 c) (w : World) :
    Calls Tryd.prog 16 #[.int .i64 c, .bool fore] w fun e w' => e = .returned (colorA c fore).val ∧ Only [] w w' := by
  obtain ⟨hc0, hc1⟩ := hc
  rcases (show c < 0 ∨ c = 0 ∨ (1 ≤ c ∧ c ≤ 16777215) ∨ (16777216 ≤ c ∧ c ≤ 16777471) ∨ (16777472 ≤ c ∧ c ≤ 33554431) ∨ (33554432 ≤ c ∧ c < 50331648) ∨ 50331648 ≤ c by omega) with h | rfl | ⟨h, h'⟩ | ⟨h, h'⟩ | ⟨h, h'⟩ | ⟨h, h'⟩ | h
  · rw [colorA_none c fore (by omega)]
    have h0 : (c == 0) = false := beq_eq_false_iff_ne.2 (by omega)
    have d1 : decide (c ≤ 16777471) = true := decide_eq_true (by omega)
    have d2 : decide (c < 50331648) = true := decide_eq_true (by omega)
    go_enter Tryd.func16, Tryd.ntmps16
    go_wp2_with fail
    exact bodyPost_ret (results_cell_row Tryd.results16 _ _ w.heap.size 29 _ (0, 0) _ rfl (Has.new w _ _) Tryd.underlying29 rfl (by kernel_rfl)) rfl ⟨rfl, (Only.refl [] w).alloc _⟩
  · rw [colorA_zero]
    cases fore with
    | true =>
      rw [if_pos rfl]
      go_enter Tryd.func16, Tryd.ntmps16
      go_wp2_with fail
      exact bodyPost_ret (results_cell_row Tryd.results16 _ _ w.heap.size 29 _ (0, 0) _ rfl (Has.new w _ _) Tryd.underlying29 rfl (by kernel_rfl)) rfl ⟨rfl, (Only.refl [] w).alloc _⟩
    | false =>
      rw [if_neg (by decide)]
      go_enter Tryd.func16, Tryd.ntmps16
      go_wp2_with fail
      exact bodyPost_ret (results_cell_row Tryd.results16 _ _ w.heap.size 29 _ (0, 0) _ rfl (Has.new w _ _) Tryd.underlying29 rfl (by kernel_rfl)) rfl ⟨rfl, (Only.refl [] w).alloc _⟩
  · rw [colorA_none c fore (by omega)]
    have h0 : (c == 0) = false := beq_eq_false_iff_ne.2 (by omega)
    have d1 : decide (c ≤ 16777471) = true := decide_eq_true (by omega)
    have d2 : decide (c < 50331648) = true := decide_eq_true (by omega)
    go_enter Tryd.func16, Tryd.ntmps16
    go_wp2_with fail
    exact bodyPost_ret (results_cell_row Tryd.results16 _ _ w.heap.size 29 _ (0, 0) _ rfl (Has.new w _ _) Tryd.underlying29 rfl (by kernel_rfl)) rfl ⟨rfl, (Only.refl [] w).alloc _⟩
  · rw [colorA_pal c fore h h']
    have HB := hide (rbasic_any (c - 16777216))
    generalize basicA (c - 16777216) = P at *
    obtain ⟨r, g, b⟩ := P
    unfold C3.val C3.cells at HB
    have h0 : (c == 0) = false := beq_eq_false_iff_ne.2 (by omega)
    have d1 : decide (c ≤ 16777471) = true := decide_eq_true (by omega)
    have hz := Has.new w 29 #[.int .u8 0, .int .u8 0, .int .u8 0]
    have oz := (Only.refl [] w).alloc (.cells #[.int .u8 0, .int .u8 0, .int .u8 0] 29)
    have HZ := hide (And.intro hz oz)
    clear hz oz
    go_enter Tryd.func16, Tryd.ntmps16
    go_wp2_with fail
    obtain ⟨hz, oz⟩ := HZ.out
    generalize w.alloc (.cells #[.int .u8 0, .int .u8 0, .int .u8 0] 29) = W at *
    refine (HB.out _).mono ?_
    rintro e w1 ⟨rfl, ho⟩
    have h3 := hz.only ho (by simp)
    have o3 := oz.trans ho (S := []) (by simp)
    have c0 : w1.cell? ⟨w.heap.size, 0, none⟩ = some (.int .u8 0) := h3.cell 0
    have c1 : w1.cell? ⟨w.heap.size, 1, none⟩ = some (.int .u8 0) := h3.cell 1
    have c2 : w1.cell? ⟨w.heap.size, 2, none⟩ = some (.int .u8 0) := h3.cell 2
    have f0 := h3.free 0
    have f1 := h3.free 1
    have f2 := h3.free 2
    have H3 := hide (And.intro h3 o3)
    clear h3 o3 ho hz oz HZ HB
    go_wp2_with fail
    exact bodyPost_ret (results_cell_row Tryd.results16 _ _ w.heap.size 29 _ (0, 0) _ rfl (H3.out.1.set3 (.int .u8 r) (.int .u8 g) (.int .u8 b)) Tryd.underlying29 rfl (by kernel_rfl)) rfl ⟨rfl, H3.out.2.set3 (by omega) (.int .u8 r) (.int .u8 g) (.int .u8 b)⟩
  · rw [colorA_none c fore (by omega)]
    have h0 : (c == 0) = false := beq_eq_false_iff_ne.2 (by omega)
    have d1 : decide (c ≤ 16777471) = false := decide_eq_false (by omega)
    have d2 : decide (c < 50331648) = true := decide_eq_true (by omega)
    go_enter Tryd.func16, Tryd.ntmps16
    go_wp2_with fail
    exact bodyPost_ret (results_cell_row Tryd.results16 _ _ w.heap.size 29 _ (0, 0) _ rfl (Has.new w _ _) Tryd.underlying29 rfl (by kernel_rfl)) rfl ⟨rfl, (Only.refl [] w).alloc _⟩
  · rw [colorA_dir c fore h h']
    have h0 : (c == 0) = false := beq_eq_false_iff_ne.2 (by omega)
    have d1 : decide (c ≤ 16777471) = false := decide_eq_false (by omega)
    have d2 : decide (c < 50331648) = true := decide_eq_true (by omega)
    go_enter Tryd.func16, Tryd.ntmps16
    go_wp2_with fail
    exact bodyPost_ret (results_cell_row Tryd.results16 _ _ w.heap.size 29 _ (0, 0) _ rfl (Has.new w _ _) Tryd.underlying29 rfl (by kernel_rfl)) rfl ⟨rfl, (Only.refl [] w).alloc _⟩
  · rw [colorA_none c fore (by omega)]
    have h0 : (c == 0) = false := beq_eq_false_iff_ne.2 (by omega)
    have d1 : decide (c ≤ 16777471) = false := decide_eq_false (by omega)
    have d2 : decide (c < 50331648) = false := decide_eq_false (by omega)
    go_enter Tryd.func16, Tryd.ntmps16
    go_wp2_with fail
    exact bodyPost_ret (results_cell_row Tryd.results16 _ _ w.heap.size 29 _ (0, 0) _ rfl (Has.new w _ _) Tryd.underlying29 rfl (by kernel_rfl)) rfl ⟨rfl, (Only.refl [] w).alloc _⟩

set_option maxRecDepth 100000 in
set_option maxHeartbeats 8000000 in
theorem rcolors_any (a : At) (ha : a.Wf) (w : World) :
    Calls Tryd.prog 14 #[a.val] w fun e w' => e = .returned (.tuple #[(foreA a).val, (backA a).val]) ∧ Only [] w w' := by
  have HF := hide (fun w => rcolor_any a.fg true ha.fg w)
  have HB := hide (fun w => rcolor_any a.bg false ha.bg w)
  have of := colorA_ok a.fg true
  have ob := colorA_ok a.bg false
  unfold foreA backA
  show Calls Tryd.prog 14 #[.agg #[.int .i64 a.fg, .int .i64 a.bg, .int .i64 a.fl]] w _
  generalize colorA a.fg true = f at *
  generalize colorA a.bg false = b at *
  unfold bitA
  generalize h2 : (bits .and .i64 a.fl 2 != 0) = k2
  generalize h32 : (bits .and .i64 a.fl 32 != 0) = k32
  generalize h64 : (bits .and .i64 a.fl 64 != 0) = k64
  obtain ⟨fr, fg, fb⟩ := f
  obtain ⟨br, bg, bb⟩ := b
  obtain ⟨⟨p1, p2⟩, ⟨p3, p4⟩, p5, p6⟩ := of
  obtain ⟨⟨q1, q2⟩, ⟨q3, q4⟩, q5, q6⟩ := ob
  have p1 : 0 ≤ fr := p1
  have p2 : fr ≤ 255 := p2
  have p3 : 0 ≤ fg := p3
  have p4 : fg ≤ 255 := p4
  have p5 : 0 ≤ fb := p5
  have p6 : fb ≤ 255 := p6
  have q1 : 0 ≤ br := q1
  have q2 : br ≤ 255 := q2
  have q3 : 0 ≤ bg := q3
  have q4 : bg ≤ 255 := q4
  have q5 : 0 ≤ bb := q5
  have q6 : bb ≤ 255 := q6
  unfold C3.val C3.cells at HF HB
  clear ha
  have hA := ((Has.new w 23 #[.int .i64 a.fg, .int .i64 a.bg, .int .i64 a.fl]).alloc (.cells #[.int .u8 0, .int .u8 0, .int .u8 0] 29)).alloc (.cells #[.int .u8 0, .int .u8 0, .int .u8 0] 29)
  have hP := (Has.new (w.alloc (.cells #[.int .i64 a.fg, .int .i64 a.bg, .int .i64 a.fl] 23)) 29 #[.int .u8 0, .int .u8 0, .int .u8 0]).alloc (.cells #[.int .u8 0, .int .u8 0, .int .u8 0] 29)
  have hQ := Has.new ((w.alloc (.cells #[.int .i64 a.fg, .int .i64 a.bg, .int .i64 a.fl] 23)).alloc (.cells #[.int .u8 0, .int .u8 0, .int .u8 0] 29)) 29 #[.int .u8 0, .int .u8 0, .int .u8 0]
  have oo := (((Only.refl [] w).alloc (.cells #[.int .i64 a.fg, .int .i64 a.bg, .int .i64 a.fl] 23)).alloc (.cells #[.int .u8 0, .int .u8 0, .int .u8 0] 29)).alloc (.cells #[.int .u8 0, .int .u8 0, .int .u8 0] 29)
  simp only [World.size_alloc] at hP hQ
  have HH := hide (And.intro hA (And.intro hP (And.intro hQ oo)))
  clear hA hP hQ oo
  go_enter Tryd.func14, Tryd.ntmps14
  go_wp2_with fail
  obtain ⟨hA, hP, hQ, oo⟩ := HH.out
  generalize ((w.alloc (.cells #[.int .i64 a.fg, .int .i64 a.bg, .int .i64 a.fl] 23)).alloc (.cells #[.int .u8 0, .int .u8 0, .int .u8 0] 29)).alloc (.cells #[.int .u8 0, .int .u8 0, .int .u8 0] 29) = W at *
  refine (HF.out _).mono ?_
  rintro e w1 ⟨rfl, ho⟩
  have hA := hA.only ho (by simp)
  have hP := hP.only ho (by simp)
  have hQ := hQ.only ho (by simp)
  have oo := oo.trans ho (S := []) (by simp)
  have l1 := hQ.lt
  have oa := (Only.refl [] w1).alloc (.cells #[.int .u8 fr, .int .u8 fg, .int .u8 fb] 29)
  have hA := hA.only oa (by simp)
  have hP := hP.only oa (by simp)
  have hQ := hQ.only oa (by simp)
  have oo := oo.trans oa (S := []) (by simp)
  have hF := Has.new w1 29 #[.int .u8 fr, .int .u8 fg, .int .u8 fb]
  clear HF HH ho
  have HW := hide (And.intro hA (And.intro hP (And.intro hQ (And.intro oo hF))))
  clear hA hP hQ oo hF oa
  go_upto_region 2 with fail
  obtain ⟨hA, hP, hQ, oo, hF⟩ := HW.out
  generalize w1.alloc (.cells #[.int .u8 fr, .int .u8 fg, .int .u8 fb] 29) = V at *
  have m1 : V.cell? ⟨w.heap.size, 1, none⟩ = some (.int .i64 a.bg) := hA.cell 1
  have HW := hide (And.intro hA (And.intro hP (And.intro hQ (And.intro oo hF))))
  clear hA hP hQ oo hF
  go_wp2_with fail
  refine (HB.out _).mono ?_
  rintro e w2 ⟨rfl, ho⟩
  obtain ⟨hA, hP, hQ, oo, hF⟩ := HW.out
  have hA := hA.only ho (by simp)
  have hP := hP.only ho (by simp)
  have hQ := hQ.only ho (by simp)
  have hF := hF.only ho (by simp)
  have oo := oo.trans ho (S := []) (by simp)
  have l2 := hF.lt
  have oa := (Only.refl [] w2).alloc (.cells #[.int .u8 br, .int .u8 bg, .int .u8 bb] 29)
  have hA := hA.only oa (by simp)
  have hP := hP.only oa (by simp)
  have hQ := hQ.only oa (by simp)
  have hF := hF.only oa (by simp)
  have oX := oo.trans oa (S := []) (by simp)
  have hB := Has.new w2 29 #[.int .u8 br, .int .u8 bg, .int .u8 bb]
  clear m1 HW HB ho oo
  have HW := hide (And.intro hA (And.intro hF (And.intro hB (And.intro hP (And.intro hQ oX)))))
  clear hA hF hB hP hQ oX oa
  go_upto_region 3 with fail
  obtain ⟨hA, hF, hB, hP, hQ, oX⟩ := HW.out
  clear HW
  generalize w2.alloc (.cells #[.int .u8 br, .int .u8 bg, .int .u8 bb] 29) = Y at *
  have m2 : Y.cell? ⟨w.heap.size, 2, none⟩ = some (.int .i64 a.fl) := hA.cell 2
  have c0 : Y.cell? ⟨w1.heap.size, 0, none⟩ = some (.int .u8 fr) := hF.cell 0
  have c1 : Y.cell? ⟨w1.heap.size, 1, none⟩ = some (.int .u8 fg) := hF.cell 1
  have c2 : Y.cell? ⟨w1.heap.size, 2, none⟩ = some (.int .u8 fb) := hF.cell 2
  have c3 : Y.cell? ⟨w2.heap.size, 0, none⟩ = some (.int .u8 br) := hB.cell 0
  have c4 : Y.cell? ⟨w2.heap.size, 1, none⟩ = some (.int .u8 bg) := hB.cell 1
  have c5 : Y.cell? ⟨w2.heap.size, 2, none⟩ = some (.int .u8 bb) := hB.cell 2
  have f0 := hF.free 0
  have f1 := hF.free 1
  have f2 := hF.free 2
  have f3 := hB.free 0
  have f4 := hB.free 1
  have f5 := hB.free 2
  have HY := hide (And.intro hA (And.intro hF (And.intro hB (And.intro hP (And.intro hQ oX)))))
  clear hA hF hB hP hQ oX
  cases k2 with
  | true =>
    go_upto_region 5 with fail
    obtain ⟨hA, hF, hB, hP, hQ, oX⟩ := HY.out
    clear c0 c1 c2 c3 c4 c5 f0 f1 f2 f3 f4 f5 m2 HY
    have hA := hA.other3 (p := w1.heap.size) (by omega) (.int .u8 (fr / 2)) (.int .u8 (fg / 2)) (.int .u8 (fb / 2))
    have hP := hP.other3 (p := w1.heap.size) (by omega) (.int .u8 (fr / 2)) (.int .u8 (fg / 2)) (.int .u8 (fb / 2))
    have hQ := hQ.other3 (p := w1.heap.size) (by omega) (.int .u8 (fr / 2)) (.int .u8 (fg / 2)) (.int .u8 (fb / 2))
    have hF := hF.set3 (.int .u8 (fr / 2)) (.int .u8 (fg / 2)) (.int .u8 (fb / 2))
    have hB := hB.other3 (p := w1.heap.size) (by omega) (.int .u8 (fr / 2)) (.int .u8 (fg / 2)) (.int .u8 (fb / 2))
    have oX := oX.set3 (g := w1.heap.size) (by omega) (.int .u8 (fr / 2)) (.int .u8 (fg / 2)) (.int .u8 (fb / 2))
    generalize (((Y.setCell ⟨w1.heap.size, 0, none⟩ (.int .u8 (fr / 2))).setCell ⟨w1.heap.size, 1, none⟩ (.int .u8 (fg / 2))).setCell ⟨w1.heap.size, 2, none⟩ (.int .u8 (fb / 2))) = Y1 at *
    have m2 : Y1.cell? ⟨w.heap.size, 2, none⟩ = some (.int .i64 a.fl) := hA.cell 2
    have c0 : Y1.cell? ⟨w1.heap.size, 0, none⟩ = some (.int .u8 (fr / 2)) := hF.cell 0
    have c1 : Y1.cell? ⟨w1.heap.size, 1, none⟩ = some (.int .u8 (fg / 2)) := hF.cell 1
    have c2 : Y1.cell? ⟨w1.heap.size, 2, none⟩ = some (.int .u8 (fb / 2)) := hF.cell 2
    have c3 : Y1.cell? ⟨w2.heap.size, 0, none⟩ = some (.int .u8 br) := hB.cell 0
    have c4 : Y1.cell? ⟨w2.heap.size, 1, none⟩ = some (.int .u8 bg) := hB.cell 1
    have c5 : Y1.cell? ⟨w2.heap.size, 2, none⟩ = some (.int .u8 bb) := hB.cell 2
    have f0 := hF.free 0
    have f1 := hF.free 1
    have f2 := hF.free 2
    have f3 := hB.free 0
    have f4 := hB.free 1
    have f5 := hB.free 2
    have HY := hide (And.intro hA (And.intro hF (And.intro hB (And.intro hP (And.intro hQ oX)))))
    clear hA hF hB hP hQ oX
    clear h2
    cases k32 with
    | true =>
      go_upto_region 7 with fail
      obtain ⟨hA, hF, hB, hP, hQ, oX⟩ := HY.out
      clear c0 c1 c2 c3 c4 c5 f0 f1 f2 f3 f4 f5 m2 HY
      have hA := hA.other3 (p := w1.heap.size) (by omega) (.int .u8 br) (.int .u8 bg) (.int .u8 bb)
      have hP := hP.other3 (p := w1.heap.size) (by omega) (.int .u8 br) (.int .u8 bg) (.int .u8 bb)
      have hQ := hQ.other3 (p := w1.heap.size) (by omega) (.int .u8 br) (.int .u8 bg) (.int .u8 bb)
      have hF := hF.set3 (.int .u8 br) (.int .u8 bg) (.int .u8 bb)
      have hB := hB.other3 (p := w1.heap.size) (by omega) (.int .u8 br) (.int .u8 bg) (.int .u8 bb)
      have oX := oX.set3 (g := w1.heap.size) (by omega) (.int .u8 br) (.int .u8 bg) (.int .u8 bb)
      have hA := hA.other3 (p := w2.heap.size) (by omega) (.int .u8 (fr / 2)) (.int .u8 (fg / 2)) (.int .u8 (fb / 2))
      have hP := hP.other3 (p := w2.heap.size) (by omega) (.int .u8 (fr / 2)) (.int .u8 (fg / 2)) (.int .u8 (fb / 2))
      have hQ := hQ.other3 (p := w2.heap.size) (by omega) (.int .u8 (fr / 2)) (.int .u8 (fg / 2)) (.int .u8 (fb / 2))
      have hF := hF.other3 (p := w2.heap.size) (by omega) (.int .u8 (fr / 2)) (.int .u8 (fg / 2)) (.int .u8 (fb / 2))
      have hB := hB.set3 (.int .u8 (fr / 2)) (.int .u8 (fg / 2)) (.int .u8 (fb / 2))
      have oX := oX.set3 (g := w2.heap.size) (by omega) (.int .u8 (fr / 2)) (.int .u8 (fg / 2)) (.int .u8 (fb / 2))
      generalize ((((((Y1.setCell ⟨w1.heap.size, 0, none⟩ (.int .u8 br)).setCell ⟨w1.heap.size, 1, none⟩ (.int .u8 bg)).setCell ⟨w1.heap.size, 2, none⟩ (.int .u8 bb)).setCell ⟨w2.heap.size, 0, none⟩ (.int .u8 (fr / 2))).setCell ⟨w2.heap.size, 1, none⟩ (.int .u8 (fg / 2))).setCell ⟨w2.heap.size, 2, none⟩ (.int .u8 (fb / 2))) = Y2 at *
      have m2 : Y2.cell? ⟨w.heap.size, 2, none⟩ = some (.int .i64 a.fl) := hA.cell 2
      have c0 : Y2.cell? ⟨w1.heap.size, 0, none⟩ = some (.int .u8 br) := hF.cell 0
      have c1 : Y2.cell? ⟨w1.heap.size, 1, none⟩ = some (.int .u8 bg) := hF.cell 1
      have c2 : Y2.cell? ⟨w1.heap.size, 2, none⟩ = some (.int .u8 bb) := hF.cell 2
      have c3 : Y2.cell? ⟨w2.heap.size, 0, none⟩ = some (.int .u8 (fr / 2)) := hB.cell 0
      have c4 : Y2.cell? ⟨w2.heap.size, 1, none⟩ = some (.int .u8 (fg / 2)) := hB.cell 1
      have c5 : Y2.cell? ⟨w2.heap.size, 2, none⟩ = some (.int .u8 (fb / 2)) := hB.cell 2
      have f0 := hF.free 0
      have f1 := hF.free 1
      have f2 := hF.free 2
      have f3 := hB.free 0
      have f4 := hB.free 1
      have f5 := hB.free 2
      have HY := hide (And.intro hA (And.intro hF (And.intro hB (And.intro hP (And.intro hQ oX)))))
      clear hA hF hB hP hQ oX
      clear h32
      cases k64 with
      | true =>
        go_upto_region 9 with fail
        obtain ⟨hA, hF, hB, hP, hQ, oX⟩ := HY.out
        clear c0 c1 c2 c3 c4 c5 f0 f1 f2 f3 f4 f5 m2 HY
        have hA := hA.other3 (p := w1.heap.size) (by omega) (.int .u8 (fr / 2)) (.int .u8 (fg / 2)) (.int .u8 (fb / 2))
        have hP := hP.other3 (p := w1.heap.size) (by omega) (.int .u8 (fr / 2)) (.int .u8 (fg / 2)) (.int .u8 (fb / 2))
        have hQ := hQ.other3 (p := w1.heap.size) (by omega) (.int .u8 (fr / 2)) (.int .u8 (fg / 2)) (.int .u8 (fb / 2))
        have hF := hF.set3 (.int .u8 (fr / 2)) (.int .u8 (fg / 2)) (.int .u8 (fb / 2))
        have hB := hB.other3 (p := w1.heap.size) (by omega) (.int .u8 (fr / 2)) (.int .u8 (fg / 2)) (.int .u8 (fb / 2))
        have oX := oX.set3 (g := w1.heap.size) (by omega) (.int .u8 (fr / 2)) (.int .u8 (fg / 2)) (.int .u8 (fb / 2))
        generalize (((Y2.setCell ⟨w1.heap.size, 0, none⟩ (.int .u8 (fr / 2))).setCell ⟨w1.heap.size, 1, none⟩ (.int .u8 (fg / 2))).setCell ⟨w1.heap.size, 2, none⟩ (.int .u8 (fb / 2))) = Y3 at *
        have m2 : Y3.cell? ⟨w.heap.size, 2, none⟩ = some (.int .i64 a.fl) := hA.cell 2
        have c0 : Y3.cell? ⟨w1.heap.size, 0, none⟩ = some (.int .u8 (fr / 2)) := hF.cell 0
        have c1 : Y3.cell? ⟨w1.heap.size, 1, none⟩ = some (.int .u8 (fg / 2)) := hF.cell 1
        have c2 : Y3.cell? ⟨w1.heap.size, 2, none⟩ = some (.int .u8 (fb / 2)) := hF.cell 2
        have c3 : Y3.cell? ⟨w2.heap.size, 0, none⟩ = some (.int .u8 (fr / 2)) := hB.cell 0
        have c4 : Y3.cell? ⟨w2.heap.size, 1, none⟩ = some (.int .u8 (fg / 2)) := hB.cell 1
        have c5 : Y3.cell? ⟨w2.heap.size, 2, none⟩ = some (.int .u8 (fb / 2)) := hB.cell 2
        have f0 := hF.free 0
        have f1 := hF.free 1
        have f2 := hF.free 2
        have f3 := hB.free 0
        have f4 := hB.free 1
        have f5 := hB.free 2
        have HY := hide (And.intro hA (And.intro hF (And.intro hB (And.intro hP (And.intro hQ oX)))))
        clear hA hF hB hP hQ oX
        clear h64
        obtain ⟨hA, hF, hB, hP, hQ, oX⟩ := HY.out
        have p0 : Y3.cell? ⟨w.heap.size + 1, 0, none⟩ = some (.int .u8 0) := hP.cell 0
        have p1 : Y3.cell? ⟨w.heap.size + 1, 1, none⟩ = some (.int .u8 0) := hP.cell 1
        have p2 : Y3.cell? ⟨w.heap.size + 1, 2, none⟩ = some (.int .u8 0) := hP.cell 2
        have q0 : Y3.cell? ⟨w.heap.size + 1 + 1, 0, none⟩ = some (.int .u8 0) := hQ.cell 0
        have q1 : Y3.cell? ⟨w.heap.size + 1 + 1, 1, none⟩ = some (.int .u8 0) := hQ.cell 1
        have q2 : Y3.cell? ⟨w.heap.size + 1 + 1, 2, none⟩ = some (.int .u8 0) := hQ.cell 2
        have s0 := hP.free 0
        have t0 := hQ.free 0
        have s1 := hP.free 1
        have t1 := hQ.free 1
        have s2 := hP.free 2
        have t2 := hQ.free 2
        clear hA hF hB hP hQ oX
        go_region
        go_wp2_with fail
        obtain ⟨hA, hF, hB, hP, hQ, oX⟩ := HY.out
        exact bodyPost_ret (results_row_row Tryd.results14 _ _ (w.heap.size + 1) (w.heap.size + 1 + 1) 29 _ _ _ rfl ((hP.set3 (.int .u8 (fr / 2)) (.int .u8 (fg / 2)) (.int .u8 (fb / 2))).other3 (by omega) (.int .u8 (fr / 2)) (.int .u8 (fg / 2)) (.int .u8 (fb / 2))).drew rfl ((hQ.other3 (by omega) (.int .u8 (fr / 2)) (.int .u8 (fg / 2)) (.int .u8 (fb / 2))).set3 (.int .u8 (fr / 2)) (.int .u8 (fg / 2)) (.int .u8 (fb / 2))).drew Tryd.underlying29 rfl (by kernel_rfl) (by kernel_rfl)) rfl ⟨rfl, ((oX.set3 (by omega) (.int .u8 (fr / 2)) (.int .u8 (fg / 2)) (.int .u8 (fb / 2))).set3 (by omega) (.int .u8 (fr / 2)) (.int .u8 (fg / 2)) (.int .u8 (fb / 2))).drew⟩
      | false =>
        go_upto_region 9 with fail
        clear h64
        obtain ⟨hA, hF, hB, hP, hQ, oX⟩ := HY.out
        have p0 : Y2.cell? ⟨w.heap.size + 1, 0, none⟩ = some (.int .u8 0) := hP.cell 0
        have p1 : Y2.cell? ⟨w.heap.size + 1, 1, none⟩ = some (.int .u8 0) := hP.cell 1
        have p2 : Y2.cell? ⟨w.heap.size + 1, 2, none⟩ = some (.int .u8 0) := hP.cell 2
        have q0 : Y2.cell? ⟨w.heap.size + 1 + 1, 0, none⟩ = some (.int .u8 0) := hQ.cell 0
        have q1 : Y2.cell? ⟨w.heap.size + 1 + 1, 1, none⟩ = some (.int .u8 0) := hQ.cell 1
        have q2 : Y2.cell? ⟨w.heap.size + 1 + 1, 2, none⟩ = some (.int .u8 0) := hQ.cell 2
        have s0 := hP.free 0
        have t0 := hQ.free 0
        have s1 := hP.free 1
        have t1 := hQ.free 1
        have s2 := hP.free 2
        have t2 := hQ.free 2
        clear hA hF hB hP hQ oX
        go_region
        go_wp2_with fail
        obtain ⟨hA, hF, hB, hP, hQ, oX⟩ := HY.out
        exact bodyPost_ret (results_row_row Tryd.results14 _ _ (w.heap.size + 1) (w.heap.size + 1 + 1) 29 _ _ _ rfl ((hP.set3 (.int .u8 br) (.int .u8 bg) (.int .u8 bb)).other3 (by omega) (.int .u8 (fr / 2)) (.int .u8 (fg / 2)) (.int .u8 (fb / 2))).drew rfl ((hQ.other3 (by omega) (.int .u8 br) (.int .u8 bg) (.int .u8 bb)).set3 (.int .u8 (fr / 2)) (.int .u8 (fg / 2)) (.int .u8 (fb / 2))).drew Tryd.underlying29 rfl (by kernel_rfl) (by kernel_rfl)) rfl ⟨rfl, ((oX.set3 (by omega) (.int .u8 br) (.int .u8 bg) (.int .u8 bb)).set3 (by omega) (.int .u8 (fr / 2)) (.int .u8 (fg / 2)) (.int .u8 (fb / 2))).drew⟩
    | false =>
      go_upto_region 7 with fail
      clear h32
      cases k64 with
      | true =>
        go_upto_region 9 with fail
        obtain ⟨hA, hF, hB, hP, hQ, oX⟩ := HY.out
        clear c0 c1 c2 c3 c4 c5 f0 f1 f2 f3 f4 f5 m2 HY
        have hA := hA.other3 (p := w1.heap.size) (by omega) (.int .u8 br) (.int .u8 bg) (.int .u8 bb)
        have hP := hP.other3 (p := w1.heap.size) (by omega) (.int .u8 br) (.int .u8 bg) (.int .u8 bb)
        have hQ := hQ.other3 (p := w1.heap.size) (by omega) (.int .u8 br) (.int .u8 bg) (.int .u8 bb)
        have hF := hF.set3 (.int .u8 br) (.int .u8 bg) (.int .u8 bb)
        have hB := hB.other3 (p := w1.heap.size) (by omega) (.int .u8 br) (.int .u8 bg) (.int .u8 bb)
        have oX := oX.set3 (g := w1.heap.size) (by omega) (.int .u8 br) (.int .u8 bg) (.int .u8 bb)
        generalize (((Y1.setCell ⟨w1.heap.size, 0, none⟩ (.int .u8 br)).setCell ⟨w1.heap.size, 1, none⟩ (.int .u8 bg)).setCell ⟨w1.heap.size, 2, none⟩ (.int .u8 bb)) = Y4 at *
        have m2 : Y4.cell? ⟨w.heap.size, 2, none⟩ = some (.int .i64 a.fl) := hA.cell 2
        have c0 : Y4.cell? ⟨w1.heap.size, 0, none⟩ = some (.int .u8 br) := hF.cell 0
        have c1 : Y4.cell? ⟨w1.heap.size, 1, none⟩ = some (.int .u8 bg) := hF.cell 1
        have c2 : Y4.cell? ⟨w1.heap.size, 2, none⟩ = some (.int .u8 bb) := hF.cell 2
        have c3 : Y4.cell? ⟨w2.heap.size, 0, none⟩ = some (.int .u8 br) := hB.cell 0
        have c4 : Y4.cell? ⟨w2.heap.size, 1, none⟩ = some (.int .u8 bg) := hB.cell 1
        have c5 : Y4.cell? ⟨w2.heap.size, 2, none⟩ = some (.int .u8 bb) := hB.cell 2
        have f0 := hF.free 0
        have f1 := hF.free 1
        have f2 := hF.free 2
        have f3 := hB.free 0
        have f4 := hB.free 1
        have f5 := hB.free 2
        have HY := hide (And.intro hA (And.intro hF (And.intro hB (And.intro hP (And.intro hQ oX)))))
        clear hA hF hB hP hQ oX
        clear h64
        obtain ⟨hA, hF, hB, hP, hQ, oX⟩ := HY.out
        have p0 : Y4.cell? ⟨w.heap.size + 1, 0, none⟩ = some (.int .u8 0) := hP.cell 0
        have p1 : Y4.cell? ⟨w.heap.size + 1, 1, none⟩ = some (.int .u8 0) := hP.cell 1
        have p2 : Y4.cell? ⟨w.heap.size + 1, 2, none⟩ = some (.int .u8 0) := hP.cell 2
        have q0 : Y4.cell? ⟨w.heap.size + 1 + 1, 0, none⟩ = some (.int .u8 0) := hQ.cell 0
        have q1 : Y4.cell? ⟨w.heap.size + 1 + 1, 1, none⟩ = some (.int .u8 0) := hQ.cell 1
        have q2 : Y4.cell? ⟨w.heap.size + 1 + 1, 2, none⟩ = some (.int .u8 0) := hQ.cell 2
        have s0 := hP.free 0
        have t0 := hQ.free 0
        have s1 := hP.free 1
        have t1 := hQ.free 1
        have s2 := hP.free 2
        have t2 := hQ.free 2
        clear hA hF hB hP hQ oX
        go_region
        go_wp2_with fail
        obtain ⟨hA, hF, hB, hP, hQ, oX⟩ := HY.out
        exact bodyPost_ret (results_row_row Tryd.results14 _ _ (w.heap.size + 1) (w.heap.size + 1 + 1) 29 _ _ _ rfl ((hP.set3 (.int .u8 br) (.int .u8 bg) (.int .u8 bb)).other3 (by omega) (.int .u8 br) (.int .u8 bg) (.int .u8 bb)).drew rfl ((hQ.other3 (by omega) (.int .u8 br) (.int .u8 bg) (.int .u8 bb)).set3 (.int .u8 br) (.int .u8 bg) (.int .u8 bb)).drew Tryd.underlying29 rfl (by kernel_rfl) (by kernel_rfl)) rfl ⟨rfl, ((oX.set3 (by omega) (.int .u8 br) (.int .u8 bg) (.int .u8 bb)).set3 (by omega) (.int .u8 br) (.int .u8 bg) (.int .u8 bb)).drew⟩
      | false =>
        go_upto_region 9 with fail
        clear h64
        obtain ⟨hA, hF, hB, hP, hQ, oX⟩ := HY.out
        have p0 : Y1.cell? ⟨w.heap.size + 1, 0, none⟩ = some (.int .u8 0) := hP.cell 0
        have p1 : Y1.cell? ⟨w.heap.size + 1, 1, none⟩ = some (.int .u8 0) := hP.cell 1
        have p2 : Y1.cell? ⟨w.heap.size + 1, 2, none⟩ = some (.int .u8 0) := hP.cell 2
        have q0 : Y1.cell? ⟨w.heap.size + 1 + 1, 0, none⟩ = some (.int .u8 0) := hQ.cell 0
        have q1 : Y1.cell? ⟨w.heap.size + 1 + 1, 1, none⟩ = some (.int .u8 0) := hQ.cell 1
        have q2 : Y1.cell? ⟨w.heap.size + 1 + 1, 2, none⟩ = some (.int .u8 0) := hQ.cell 2
        have s0 := hP.free 0
        have t0 := hQ.free 0
        have s1 := hP.free 1
        have t1 := hQ.free 1
        have s2 := hP.free 2
        have t2 := hQ.free 2
        clear hA hF hB hP hQ oX
        go_region
        go_wp2_with fail
        obtain ⟨hA, hF, hB, hP, hQ, oX⟩ := HY.out
        exact bodyPost_ret (results_row_row Tryd.results14 _ _ (w.heap.size + 1) (w.heap.size + 1 + 1) 29 _ _ _ rfl ((hP.set3 (.int .u8 (fr / 2)) (.int .u8 (fg / 2)) (.int .u8 (fb / 2))).other3 (by omega) (.int .u8 br) (.int .u8 bg) (.int .u8 bb)).drew rfl ((hQ.other3 (by omega) (.int .u8 (fr / 2)) (.int .u8 (fg / 2)) (.int .u8 (fb / 2))).set3 (.int .u8 br) (.int .u8 bg) (.int .u8 bb)).drew Tryd.underlying29 rfl (by kernel_rfl) (by kernel_rfl)) rfl ⟨rfl, ((oX.set3 (by omega) (.int .u8 (fr / 2)) (.int .u8 (fg / 2)) (.int .u8 (fb / 2))).set3 (by omega) (.int .u8 br) (.int .u8 bg) (.int .u8 bb)).drew⟩
  | false =>
    go_upto_region 5 with fail
    clear h2
    cases k32 with
    | true =>
      go_upto_region 7 with fail
      obtain ⟨hA, hF, hB, hP, hQ, oX⟩ := HY.out
      clear c0 c1 c2 c3 c4 c5 f0 f1 f2 f3 f4 f5 m2 HY
      have hA := hA.other3 (p := w1.heap.size) (by omega) (.int .u8 br) (.int .u8 bg) (.int .u8 bb)
      have hP := hP.other3 (p := w1.heap.size) (by omega) (.int .u8 br) (.int .u8 bg) (.int .u8 bb)
      have hQ := hQ.other3 (p := w1.heap.size) (by omega) (.int .u8 br) (.int .u8 bg) (.int .u8 bb)
      have hF := hF.set3 (.int .u8 br) (.int .u8 bg) (.int .u8 bb)
      have hB := hB.other3 (p := w1.heap.size) (by omega) (.int .u8 br) (.int .u8 bg) (.int .u8 bb)
      have oX := oX.set3 (g := w1.heap.size) (by omega) (.int .u8 br) (.int .u8 bg) (.int .u8 bb)
      have hA := hA.other3 (p := w2.heap.size) (by omega) (.int .u8 fr) (.int .u8 fg) (.int .u8 fb)
      have hP := hP.other3 (p := w2.heap.size) (by omega) (.int .u8 fr) (.int .u8 fg) (.int .u8 fb)
      have hQ := hQ.other3 (p := w2.heap.size) (by omega) (.int .u8 fr) (.int .u8 fg) (.int .u8 fb)
      have hF := hF.other3 (p := w2.heap.size) (by omega) (.int .u8 fr) (.int .u8 fg) (.int .u8 fb)
      have hB := hB.set3 (.int .u8 fr) (.int .u8 fg) (.int .u8 fb)
      have oX := oX.set3 (g := w2.heap.size) (by omega) (.int .u8 fr) (.int .u8 fg) (.int .u8 fb)
      generalize ((((((Y.setCell ⟨w1.heap.size, 0, none⟩ (.int .u8 br)).setCell ⟨w1.heap.size, 1, none⟩ (.int .u8 bg)).setCell ⟨w1.heap.size, 2, none⟩ (.int .u8 bb)).setCell ⟨w2.heap.size, 0, none⟩ (.int .u8 fr)).setCell ⟨w2.heap.size, 1, none⟩ (.int .u8 fg)).setCell ⟨w2.heap.size, 2, none⟩ (.int .u8 fb)) = Y5 at *
      have m2 : Y5.cell? ⟨w.heap.size, 2, none⟩ = some (.int .i64 a.fl) := hA.cell 2
      have c0 : Y5.cell? ⟨w1.heap.size, 0, none⟩ = some (.int .u8 br) := hF.cell 0
      have c1 : Y5.cell? ⟨w1.heap.size, 1, none⟩ = some (.int .u8 bg) := hF.cell 1
      have c2 : Y5.cell? ⟨w1.heap.size, 2, none⟩ = some (.int .u8 bb) := hF.cell 2
      have c3 : Y5.cell? ⟨w2.heap.size, 0, none⟩ = some (.int .u8 fr) := hB.cell 0
      have c4 : Y5.cell? ⟨w2.heap.size, 1, none⟩ = some (.int .u8 fg) := hB.cell 1
      have c5 : Y5.cell? ⟨w2.heap.size, 2, none⟩ = some (.int .u8 fb) := hB.cell 2
      have f0 := hF.free 0
      have f1 := hF.free 1
      have f2 := hF.free 2
      have f3 := hB.free 0
      have f4 := hB.free 1
      have f5 := hB.free 2
      have HY := hide (And.intro hA (And.intro hF (And.intro hB (And.intro hP (And.intro hQ oX)))))
      clear hA hF hB hP hQ oX
      clear h32
      cases k64 with
      | true =>
        go_upto_region 9 with fail
        obtain ⟨hA, hF, hB, hP, hQ, oX⟩ := HY.out
        clear c0 c1 c2 c3 c4 c5 f0 f1 f2 f3 f4 f5 m2 HY
        have hA := hA.other3 (p := w1.heap.size) (by omega) (.int .u8 fr) (.int .u8 fg) (.int .u8 fb)
        have hP := hP.other3 (p := w1.heap.size) (by omega) (.int .u8 fr) (.int .u8 fg) (.int .u8 fb)
        have hQ := hQ.other3 (p := w1.heap.size) (by omega) (.int .u8 fr) (.int .u8 fg) (.int .u8 fb)
        have hF := hF.set3 (.int .u8 fr) (.int .u8 fg) (.int .u8 fb)
        have hB := hB.other3 (p := w1.heap.size) (by omega) (.int .u8 fr) (.int .u8 fg) (.int .u8 fb)
        have oX := oX.set3 (g := w1.heap.size) (by omega) (.int .u8 fr) (.int .u8 fg) (.int .u8 fb)
        generalize (((Y5.setCell ⟨w1.heap.size, 0, none⟩ (.int .u8 fr)).setCell ⟨w1.heap.size, 1, none⟩ (.int .u8 fg)).setCell ⟨w1.heap.size, 2, none⟩ (.int .u8 fb)) = Y6 at *
        have m2 : Y6.cell? ⟨w.heap.size, 2, none⟩ = some (.int .i64 a.fl) := hA.cell 2
        have c0 : Y6.cell? ⟨w1.heap.size, 0, none⟩ = some (.int .u8 fr) := hF.cell 0
        have c1 : Y6.cell? ⟨w1.heap.size, 1, none⟩ = some (.int .u8 fg) := hF.cell 1
        have c2 : Y6.cell? ⟨w1.heap.size, 2, none⟩ = some (.int .u8 fb) := hF.cell 2
        have c3 : Y6.cell? ⟨w2.heap.size, 0, none⟩ = some (.int .u8 fr) := hB.cell 0
        have c4 : Y6.cell? ⟨w2.heap.size, 1, none⟩ = some (.int .u8 fg) := hB.cell 1
        have c5 : Y6.cell? ⟨w2.heap.size, 2, none⟩ = some (.int .u8 fb) := hB.cell 2
        have f0 := hF.free 0
        have f1 := hF.free 1
        have f2 := hF.free 2
        have f3 := hB.free 0
        have f4 := hB.free 1
        have f5 := hB.free 2
        have HY := hide (And.intro hA (And.intro hF (And.intro hB (And.intro hP (And.intro hQ oX)))))
        clear hA hF hB hP hQ oX
        clear h64
        obtain ⟨hA, hF, hB, hP, hQ, oX⟩ := HY.out
        have p0 : Y6.cell? ⟨w.heap.size + 1, 0, none⟩ = some (.int .u8 0) := hP.cell 0
        have p1 : Y6.cell? ⟨w.heap.size + 1, 1, none⟩ = some (.int .u8 0) := hP.cell 1
        have p2 : Y6.cell? ⟨w.heap.size + 1, 2, none⟩ = some (.int .u8 0) := hP.cell 2
        have q0 : Y6.cell? ⟨w.heap.size + 1 + 1, 0, none⟩ = some (.int .u8 0) := hQ.cell 0
        have q1 : Y6.cell? ⟨w.heap.size + 1 + 1, 1, none⟩ = some (.int .u8 0) := hQ.cell 1
        have q2 : Y6.cell? ⟨w.heap.size + 1 + 1, 2, none⟩ = some (.int .u8 0) := hQ.cell 2
        have s0 := hP.free 0
        have t0 := hQ.free 0
        have s1 := hP.free 1
        have t1 := hQ.free 1
        have s2 := hP.free 2
        have t2 := hQ.free 2
        clear hA hF hB hP hQ oX
        go_region
        go_wp2_with fail
        obtain ⟨hA, hF, hB, hP, hQ, oX⟩ := HY.out
        exact bodyPost_ret (results_row_row Tryd.results14 _ _ (w.heap.size + 1) (w.heap.size + 1 + 1) 29 _ _ _ rfl ((hP.set3 (.int .u8 fr) (.int .u8 fg) (.int .u8 fb)).other3 (by omega) (.int .u8 fr) (.int .u8 fg) (.int .u8 fb)).drew rfl ((hQ.other3 (by omega) (.int .u8 fr) (.int .u8 fg) (.int .u8 fb)).set3 (.int .u8 fr) (.int .u8 fg) (.int .u8 fb)).drew Tryd.underlying29 rfl (by kernel_rfl) (by kernel_rfl)) rfl ⟨rfl, ((oX.set3 (by omega) (.int .u8 fr) (.int .u8 fg) (.int .u8 fb)).set3 (by omega) (.int .u8 fr) (.int .u8 fg) (.int .u8 fb)).drew⟩
      | false =>
        go_upto_region 9 with fail
        clear h64
        obtain ⟨hA, hF, hB, hP, hQ, oX⟩ := HY.out
        have p0 : Y5.cell? ⟨w.heap.size + 1, 0, none⟩ = some (.int .u8 0) := hP.cell 0
        have p1 : Y5.cell? ⟨w.heap.size + 1, 1, none⟩ = some (.int .u8 0) := hP.cell 1
        have p2 : Y5.cell? ⟨w.heap.size + 1, 2, none⟩ = some (.int .u8 0) := hP.cell 2
        have q0 : Y5.cell? ⟨w.heap.size + 1 + 1, 0, none⟩ = some (.int .u8 0) := hQ.cell 0
        have q1 : Y5.cell? ⟨w.heap.size + 1 + 1, 1, none⟩ = some (.int .u8 0) := hQ.cell 1
        have q2 : Y5.cell? ⟨w.heap.size + 1 + 1, 2, none⟩ = some (.int .u8 0) := hQ.cell 2
        have s0 := hP.free 0
        have t0 := hQ.free 0
        have s1 := hP.free 1
        have t1 := hQ.free 1
        have s2 := hP.free 2
        have t2 := hQ.free 2
        clear hA hF hB hP hQ oX
        go_region
        go_wp2_with fail
        obtain ⟨hA, hF, hB, hP, hQ, oX⟩ := HY.out
        exact bodyPost_ret (results_row_row Tryd.results14 _ _ (w.heap.size + 1) (w.heap.size + 1 + 1) 29 _ _ _ rfl ((hP.set3 (.int .u8 br) (.int .u8 bg) (.int .u8 bb)).other3 (by omega) (.int .u8 fr) (.int .u8 fg) (.int .u8 fb)).drew rfl ((hQ.other3 (by omega) (.int .u8 br) (.int .u8 bg) (.int .u8 bb)).set3 (.int .u8 fr) (.int .u8 fg) (.int .u8 fb)).drew Tryd.underlying29 rfl (by kernel_rfl) (by kernel_rfl)) rfl ⟨rfl, ((oX.set3 (by omega) (.int .u8 br) (.int .u8 bg) (.int .u8 bb)).set3 (by omega) (.int .u8 fr) (.int .u8 fg) (.int .u8 fb)).drew⟩
    | false =>
      go_upto_region 7 with fail
      clear h32
      cases k64 with
      | true =>
        go_upto_region 9 with fail
        obtain ⟨hA, hF, hB, hP, hQ, oX⟩ := HY.out
        clear c0 c1 c2 c3 c4 c5 f0 f1 f2 f3 f4 f5 m2 HY
        have hA := hA.other3 (p := w1.heap.size) (by omega) (.int .u8 br) (.int .u8 bg) (.int .u8 bb)
        have hP := hP.other3 (p := w1.heap.size) (by omega) (.int .u8 br) (.int .u8 bg) (.int .u8 bb)
        have hQ := hQ.other3 (p := w1.heap.size) (by omega) (.int .u8 br) (.int .u8 bg) (.int .u8 bb)
        have hF := hF.set3 (.int .u8 br) (.int .u8 bg) (.int .u8 bb)
        have hB := hB.other3 (p := w1.heap.size) (by omega) (.int .u8 br) (.int .u8 bg) (.int .u8 bb)
        have oX := oX.set3 (g := w1.heap.size) (by omega) (.int .u8 br) (.int .u8 bg) (.int .u8 bb)
        generalize (((Y.setCell ⟨w1.heap.size, 0, none⟩ (.int .u8 br)).setCell ⟨w1.heap.size, 1, none⟩ (.int .u8 bg)).setCell ⟨w1.heap.size, 2, none⟩ (.int .u8 bb)) = Y7 at *
        have m2 : Y7.cell? ⟨w.heap.size, 2, none⟩ = some (.int .i64 a.fl) := hA.cell 2
        have c0 : Y7.cell? ⟨w1.heap.size, 0, none⟩ = some (.int .u8 br) := hF.cell 0
        have c1 : Y7.cell? ⟨w1.heap.size, 1, none⟩ = some (.int .u8 bg) := hF.cell 1
        have c2 : Y7.cell? ⟨w1.heap.size, 2, none⟩ = some (.int .u8 bb) := hF.cell 2
        have c3 : Y7.cell? ⟨w2.heap.size, 0, none⟩ = some (.int .u8 br) := hB.cell 0
        have c4 : Y7.cell? ⟨w2.heap.size, 1, none⟩ = some (.int .u8 bg) := hB.cell 1
        have c5 : Y7.cell? ⟨w2.heap.size, 2, none⟩ = some (.int .u8 bb) := hB.cell 2
        have f0 := hF.free 0
        have f1 := hF.free 1
        have f2 := hF.free 2
        have f3 := hB.free 0
        have f4 := hB.free 1
        have f5 := hB.free 2
        have HY := hide (And.intro hA (And.intro hF (And.intro hB (And.intro hP (And.intro hQ oX)))))
        clear hA hF hB hP hQ oX
        clear h64
        obtain ⟨hA, hF, hB, hP, hQ, oX⟩ := HY.out
        have p0 : Y7.cell? ⟨w.heap.size + 1, 0, none⟩ = some (.int .u8 0) := hP.cell 0
        have p1 : Y7.cell? ⟨w.heap.size + 1, 1, none⟩ = some (.int .u8 0) := hP.cell 1
        have p2 : Y7.cell? ⟨w.heap.size + 1, 2, none⟩ = some (.int .u8 0) := hP.cell 2
        have q0 : Y7.cell? ⟨w.heap.size + 1 + 1, 0, none⟩ = some (.int .u8 0) := hQ.cell 0
        have q1 : Y7.cell? ⟨w.heap.size + 1 + 1, 1, none⟩ = some (.int .u8 0) := hQ.cell 1
        have q2 : Y7.cell? ⟨w.heap.size + 1 + 1, 2, none⟩ = some (.int .u8 0) := hQ.cell 2
        have s0 := hP.free 0
        have t0 := hQ.free 0
        have s1 := hP.free 1
        have t1 := hQ.free 1
        have s2 := hP.free 2
        have t2 := hQ.free 2
        clear hA hF hB hP hQ oX
        go_region
        go_wp2_with fail
        obtain ⟨hA, hF, hB, hP, hQ, oX⟩ := HY.out
        exact bodyPost_ret (results_row_row Tryd.results14 _ _ (w.heap.size + 1) (w.heap.size + 1 + 1) 29 _ _ _ rfl ((hP.set3 (.int .u8 br) (.int .u8 bg) (.int .u8 bb)).other3 (by omega) (.int .u8 br) (.int .u8 bg) (.int .u8 bb)).drew rfl ((hQ.other3 (by omega) (.int .u8 br) (.int .u8 bg) (.int .u8 bb)).set3 (.int .u8 br) (.int .u8 bg) (.int .u8 bb)).drew Tryd.underlying29 rfl (by kernel_rfl) (by kernel_rfl)) rfl ⟨rfl, ((oX.set3 (by omega) (.int .u8 br) (.int .u8 bg) (.int .u8 bb)).set3 (by omega) (.int .u8 br) (.int .u8 bg) (.int .u8 bb)).drew⟩
      | false =>
        go_upto_region 9 with fail
        clear h64
        obtain ⟨hA, hF, hB, hP, hQ, oX⟩ := HY.out
        have p0 : Y.cell? ⟨w.heap.size + 1, 0, none⟩ = some (.int .u8 0) := hP.cell 0
        have p1 : Y.cell? ⟨w.heap.size + 1, 1, none⟩ = some (.int .u8 0) := hP.cell 1
        have p2 : Y.cell? ⟨w.heap.size + 1, 2, none⟩ = some (.int .u8 0) := hP.cell 2
        have q0 : Y.cell? ⟨w.heap.size + 1 + 1, 0, none⟩ = some (.int .u8 0) := hQ.cell 0
        have q1 : Y.cell? ⟨w.heap.size + 1 + 1, 1, none⟩ = some (.int .u8 0) := hQ.cell 1
        have q2 : Y.cell? ⟨w.heap.size + 1 + 1, 2, none⟩ = some (.int .u8 0) := hQ.cell 2
        have s0 := hP.free 0
        have t0 := hQ.free 0
        have s1 := hP.free 1
        have t1 := hQ.free 1
        have s2 := hP.free 2
        have t2 := hQ.free 2
        clear hA hF hB hP hQ oX
        go_region
        go_wp2_with fail
        obtain ⟨hA, hF, hB, hP, hQ, oX⟩ := HY.out
        exact bodyPost_ret (results_row_row Tryd.results14 _ _ (w.heap.size + 1) (w.heap.size + 1 + 1) 29 _ _ _ rfl ((hP.set3 (.int .u8 fr) (.int .u8 fg) (.int .u8 fb)).other3 (by omega) (.int .u8 br) (.int .u8 bg) (.int .u8 bb)).drew rfl ((hQ.other3 (by omega) (.int .u8 fr) (.int .u8 fg) (.int .u8 fb)).set3 (.int .u8 br) (.int .u8 bg) (.int .u8 bb)).drew Tryd.underlying29 rfl (by kernel_rfl) (by kernel_rfl)) rfl ⟨rfl, ((oX.set3 (by omega) (.int .u8 fr) (.int .u8 fg) (.int .u8 fb)).set3 (by omega) (.int .u8 br) (.int .u8 bg) (.int .u8 bb)).drew⟩
end Go.Proofs.YtjfmebjjdiodbaaDoor
