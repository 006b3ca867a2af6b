/-
  Package line: blanks, kinds, what a cell has to be; cells compared.
-/
import Derived.Test.YtilpegmjkbmldaaDoorProg
import Derived.Test.YtilpegmjkbmldaaDoorLnM
import Derived.Test.YtilpegmjkbmldaaDoorLater
import Derived.StillTailTactics
import Derived.Laws.StructEq
import Derived.Laws.ResultCell
namespace Go.Proofs.YtilpegmjkbmldaaDoor
open Go Go.RowKit

theorem ce_eq (c d : Ce) (w : World) : (binOp .eql 37 c.val d.val).run Tryd.prog w = .ok (.bool (c.eqB d)) w := by
  unfold Ce.val Ce.eqB Lk.eqB
  generalize c.r = x0
  generalize c.k = x1
  generalize c.a.fg = x2
  generalize c.a.bg = x3
  generalize c.a.fl = x4
  generalize d.r = y0
  generalize d.k = y1
  generalize d.a.fg = y2
  generalize d.a.bg = y3
  generalize d.a.fl = y4
  simp [go_sem, Tryd.underlying37, Tryd.underlying23, Tryd.underlying3, Tryd.underlying21]
  by_cases h0 : x0 = y0 <;> by_cases h1 : x1 = y1 <;> by_cases h2 : x2 = y2 <;> by_cases h3 : x3 = y3 <;> by_cases h4 : x4 = y4 <;> simp [h0, h1, h2, h3, h4]

set_option maxRecDepth 100000 in
theorem blank_any (a : Lk) (w : World) : Calls Tryd.prog 33 #[a.val] w fun e w' => e = .returned (blankC a).val ∧ Only [] w w' := by
  show Calls Tryd.prog 33 #[.agg #[.int .i64 a.fg, .int .i64 a.bg, .int .i64 a.fl]] w _
  go_enter Tryd.func33, Tryd.ntmps33
  go_wp2_with fail
  exact bodyPost_ret (results_cell_row Tryd.results33 _ _ (w.heap.size + 1) 37 _ (0, 0) _ rfl (by have := Has.new (w.alloc (.cells a.cells 23)) 37 (blankC a).cells.toArray; rwa [World.size_alloc] at this) Tryd.underlying37 rfl (by kernel_rfl)) rfl ⟨rfl, ((Only.refl [] w).alloc _).alloc _⟩
set_option maxRecDepth 100000 in
theorem rblank_any (a : Lk) (w : World) : Calls Tryd.prog 25 #[a.val] w fun e w' => e = .returned (blankC a).val ∧ Only [] w w' := by
  show Calls Tryd.prog 25 #[.agg #[.int .i64 a.fg, .int .i64 a.bg, .int .i64 a.fl]] w _
  go_enter Tryd.func25, Tryd.ntmps25
  go_wp2_with fail
  exact bodyPost_ret (results_cell_row Tryd.results25 _ _ (w.heap.size + 1) 37 _ (0, 0) _ rfl (by have := Has.new (w.alloc (.cells a.cells 23)) 37 (blankC a).cells.toArray; rwa [World.size_alloc] at this) Tryd.underlying37 rfl (by kernel_rfl)) rfl ⟨rfl, ((Only.refl [] w).alloc _).alloc _⟩

/-- A line's cell i lies at its place. -/
theorem Holds.ce {w : World} {A : Option Addr} {n : Nat} {L : List Ce} (h : Holds w 5 A n (cvals L)) (i : Nat) (hi : i < L.length) :
    ∃ b o, A = some ⟨b, o, none⟩ ∧ b < w.heap.size ∧ w.cell? ⟨b, o + i * 5, none⟩ = some (.int .i32 L[i].r) ∧ w.cell? ⟨b, o + i * 5 + 1, none⟩ = some (.int .i64 L[i].k) ∧ w.cell? ⟨b, o + i * 5 + 2, none⟩ = some (.int .i64 L[i].a.fg) ∧ w.cell? ⟨b, o + i * 5 + 3, none⟩ = some (.int .i64 L[i].a.bg) ∧ w.cell? ⟨b, o + i * 5 + 4, none⟩ = some (.int .i64 L[i].a.fl) := by
  obtain ⟨b, o, rfl, hc⟩ := h.addr (by rw [cvals_len]; omega)
  have h0 := hc (i * 5 + 0) _ (cvals_at L i hi 0 (by omega))
  have h1 := hc (i * 5 + 1) _ (cvals_at L i hi 1 (by omega))
  have h2 := hc (i * 5 + 2) _ (cvals_at L i hi 2 (by omega))
  have h3 := hc (i * 5 + 3) _ (cvals_at L i hi 3 (by omega))
  have h4 := hc (i * 5 + 4) _ (cvals_at L i hi 4 (by omega))
  refine ⟨b, o, rfl, World.block_lt_of_cell? w _ h0, h0, ?_, ?_, ?_, ?_⟩ <;> (rw [Nat.add_assoc]; assumption)
theorem Holds.clen {w : World} {A : Option Addr} {n : Nat} {L : List Ce} (h : Holds w 5 A n (cvals L)) : L.length = n := by
  have := h.1
  rw [cvals_len] at this
  omega

set_option maxRecDepth 100000 in
theorem kind_any (A : Option Addr) (n c : Nat) (L : List Ce) (i : Int) (w : World) (h : Holds w 5 A n (cvals L)) :
    Calls Tryd.prog 27 #[.slice A n c, .int .i64 i] w fun e w' => e = .returned (.int .i64 (kindL L i)) ∧ w' = w := by
  have hn := h.clen
  subst hn
  by_cases hi : i < 0 ∨ (L.length : Int) ≤ i
  · rw [kindL_out hi]
    clear h
    rcases Classical.em (i < 0) with h0 | h0
    · clear hi
      go_enter Tryd.func27, Tryd.ntmps27
      go_wp2_with fail
      go_ret
      exact ⟨rfl, rfl⟩
    · have h1 : (L.length : Int) ≤ i := by omega
      clear hi
      go_enter Tryd.func27, Tryd.ntmps27
      go_wp2_with fail
      go_ret
      exact ⟨rfl, rfl⟩
  · obtain ⟨k, rfl⟩ : ∃ k : Nat, i = k := ⟨i.toNat, by omega⟩
    have hk : k < L.length := by omega
    obtain ⟨b, o, rfl, q0, q1, h1, q2⟩ := h.ce k hk
    clear q0 q1 q2
    have e : kindL L (k : Int) = L[k].k := by
      rw [kindL_nat]; unfold kindN; rw [List.getD_eq_getElem?_getD, List.getElem?_eq_getElem hk]; rfl
    rw [e]
    clear e h hi
    generalize L[k].k = z at *
    generalize L.length = n at *
    go_enter Tryd.func27, Tryd.ntmps27
    go_wp2_with fail
    go_ret
    exact ⟨rfl, rfl⟩

theorem Has.set5 {w : World} {g : Nat} {t : TypeId} {x0 x1 x2 x3 x4 : Value} (h : Has w g t #[x0, x1, x2, x3, x4]) (y0 y1 y2 y3 y4 : Value) :
    Has (((((w.setCell ⟨g, 0, none⟩ y0).setCell ⟨g, 1, none⟩ y1).setCell ⟨g, 2, none⟩ y2).setCell ⟨g, 3, none⟩ y3).setCell ⟨g, 4, none⟩ y4) g t #[y0, y1, y2, y3, y4] := ((((h.set 0 y0).set 1 y1).set 2 y2).set 3 y3).set 4 y4
theorem Only.set5 {S : List Nat} {a w : World} {g : Nat} (h : Only S a w) (hg : g < a.heap.size → g ∈ S) {i0 i1 i2 i3 i4 : Nat} (y0 y1 y2 y3 y4 : Value) :
    Only S a (((((w.setCell ⟨g, i0, none⟩ y0).setCell ⟨g, i1, none⟩ y1).setCell ⟨g, i2, none⟩ y2).setCell ⟨g, i3, none⟩ y3).setCell ⟨g, i4, none⟩ y4) := ((((h.setCell hg y0).setCell hg y1).setCell hg y2).setCell hg y3).setCell hg y4

set_option maxRecDepth 100000 in
theorem mended_any (p : Int) (c : Ce) (q : Int) (w : World) :
    Calls Tryd.prog 26 #[.int .i64 p, c.val, .int .i64 q] w fun e w' => e = .returned (mendC p c q).val ∧ Only [] w w' := by
  have HB := hide (blank_any c.a)
  have hA : mendC p c q = if c.k = 1 ∧ q = 2 then c else if c.k = 2 ∧ p = 1 then ⟨0, 2, c.a⟩ else if c.k = 1 ∨ c.k = 2 then blankC c.a else ⟨c.r, 0, c.a⟩ := rfl
  generalize mendC p c q = R at *
  obtain ⟨r, k, a⟩ := c
  obtain ⟨fg, bg, fl⟩ := a
  simp only at hA
  show Calls Tryd.prog 26 #[.int .i64 p, .agg #[.int .i32 r, .int .i64 k, .int .i64 fg, .int .i64 bg, .int .i64 fl], .int .i64 q] w _
  have H2 : Has ((w.alloc (.cells #[.int .i32 r, .int .i64 k, .int .i64 fg, .int .i64 bg, .int .i64 fl] 37)).alloc (.cells R.cells.toArray 37)) (w.heap.size + 1) 37 R.cells.toArray := by
    have := Has.new (w.alloc (.cells #[.int .i32 r, .int .i64 k, .int .i64 fg, .int .i64 bg, .int .i64 fl] 37)) 37 R.cells.toArray
    rwa [World.size_alloc] at this
  have O2 : Only [] w ((w.alloc (.cells #[.int .i32 r, .int .i64 k, .int .i64 fg, .int .i64 bg, .int .i64 fl] 37)).alloc (.cells R.cells.toArray 37)) := ((Only.refl [] w).alloc _).alloc _
  by_cases k1 : k = 1
  · subst k1
    by_cases q2 : q = 2
    · subst q2
      rw [if_pos ⟨rfl, rfl⟩] at hA
      subst hA
      go_enter Tryd.func26, Tryd.ntmps26
      go_wp2_with fail
      exact bodyPost_ret (results_cell_row Tryd.results26 _ _ (w.heap.size + 1) 37 _ (0, 0) _ rfl H2 Tryd.underlying37 rfl (by kernel_rfl)) rfl ⟨rfl, O2⟩
    · rw [if_neg (fun h => q2 h.2), if_neg (fun h => by have := h.1; omega), if_pos (.inl rfl)] at hA
      subst hA
      clear H2 O2
      go_enter Tryd.func26, Tryd.ntmps26
      go_wp2_with fail
      refine (HB.out _).mono ?_
      rintro e w1 ⟨rfl, ho⟩
      unfold blankC Ce.val
      simp only
      have S := (Has.new (w.alloc (.cells #[.int .i32 r, .int .i64 1, .int .i64 fg, .int .i64 bg, .int .i64 fl] 37)) 37 noCe.cells.toArray).only ho (by simp)
      rw [World.size_alloc] at S
      have d0 : w1.cell? ⟨w.heap.size + 1, 0, none⟩ = some (.int .i32 0) := S.cell 0
      have d1 : w1.cell? ⟨w.heap.size + 1, 1, none⟩ = some (.int .i64 0) := S.cell 1
      have d2 : w1.cell? ⟨w.heap.size + 1, 2, none⟩ = some (.int .i64 0) := S.cell 2
      have d3 : w1.cell? ⟨w.heap.size + 1, 3, none⟩ = some (.int .i64 0) := S.cell 3
      have d4 : w1.cell? ⟨w.heap.size + 1, 4, none⟩ = some (.int .i64 0) := S.cell 4
      have f0 := S.free 0
      have f1 := S.free 1
      have f2 := S.free 2
      have f3 := S.free 3
      have f4 := S.free 4
      have HS := hide (And.intro S ((((Only.refl [] w).alloc _).alloc _).trans ho (S := []) (by simp)))
      clear S ho HB
      go_wp2_with fail
      exact bodyPost_ret (results_cell_row Tryd.results26 _ _ (w.heap.size + 1) 37 _ (0, 0) _ rfl (HS.out.1.set5 _ _ _ _ _) Tryd.underlying37 rfl (by kernel_rfl)) rfl ⟨rfl, HS.out.2.set5 (by omega) _ _ _ _ _⟩
  · by_cases k2 : k = 2
    · subst k2
      by_cases p1 : p = 1
      · subst p1
        rw [if_neg (fun h => k1 h.1), if_pos ⟨rfl, rfl⟩] at hA
        subst hA
        go_enter Tryd.func26, Tryd.ntmps26
        go_wp2_with fail
        exact bodyPost_ret (results_cell_row Tryd.results26 _ _ (w.heap.size + 1) 37 _ (0, 0) _ rfl H2 Tryd.underlying37 rfl (by kernel_rfl)) rfl ⟨rfl, O2⟩
      · rw [if_neg (fun h => k1 h.1), if_neg (fun h => p1 h.2), if_pos (.inr rfl)] at hA
        subst hA
        clear H2 O2
        go_enter Tryd.func26, Tryd.ntmps26
        go_wp2_with fail
        refine (HB.out _).mono ?_
        rintro e w1 ⟨rfl, ho⟩
        unfold blankC Ce.val
        simp only
        have S := (Has.new (w.alloc (.cells #[.int .i32 r, .int .i64 2, .int .i64 fg, .int .i64 bg, .int .i64 fl] 37)) 37 noCe.cells.toArray).only ho (by simp)
        rw [World.size_alloc] at S
        have d0 : w1.cell? ⟨w.heap.size + 1, 0, none⟩ = some (.int .i32 0) := S.cell 0
        have d1 : w1.cell? ⟨w.heap.size + 1, 1, none⟩ = some (.int .i64 0) := S.cell 1
        have d2 : w1.cell? ⟨w.heap.size + 1, 2, none⟩ = some (.int .i64 0) := S.cell 2
        have d3 : w1.cell? ⟨w.heap.size + 1, 3, none⟩ = some (.int .i64 0) := S.cell 3
        have d4 : w1.cell? ⟨w.heap.size + 1, 4, none⟩ = some (.int .i64 0) := S.cell 4
        have f0 := S.free 0
        have f1 := S.free 1
        have f2 := S.free 2
        have f3 := S.free 3
        have f4 := S.free 4
        have HS := hide (And.intro S ((((Only.refl [] w).alloc _).alloc _).trans ho (S := []) (by simp)))
        clear S ho HB
        go_wp2_with fail
        exact bodyPost_ret (results_cell_row Tryd.results26 _ _ (w.heap.size + 1) 37 _ (0, 0) _ rfl (HS.out.1.set5 _ _ _ _ _) Tryd.underlying37 rfl (by kernel_rfl)) rfl ⟨rfl, HS.out.2.set5 (by omega) _ _ _ _ _⟩
    · rw [if_neg (fun h => k1 h.1), if_neg (fun h => k2 h.1), if_neg (by omega)] at hA
      subst hA
      have e1 : (k == 1) = false := by rw [beq_eq_false_iff_ne]; exact k1
      have e2 : (k == 2) = false := by rw [beq_eq_false_iff_ne]; exact k2
      go_enter Tryd.func26, Tryd.ntmps26
      go_wp2_with fail
      exact bodyPost_ret (results_cell_row Tryd.results26 _ _ (w.heap.size + 1) 37 _ (0, 0) _ rfl H2 Tryd.underlying37 rfl (by kernel_rfl)) rfl ⟨rfl, O2⟩
end Go.Proofs.YtilpegmjkbmldaaDoor
