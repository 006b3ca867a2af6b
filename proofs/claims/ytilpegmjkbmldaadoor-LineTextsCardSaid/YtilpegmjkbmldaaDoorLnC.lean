/-
  Package line: blanks laid; makers and copies of rows of cells; New, Mend.
-/
import Derived.Test.YtilpegmjkbmldaaDoorLnB
import Derived.Deep.OwnRows
import Derived.Laws.CopyRow
namespace Go.Proofs.YtilpegmjkbmldaaDoor
open Go Go.RowKit

theorem fillL_get (L : List Ce) (p m : Nat) (a : Lk) (h : p + m < L.length) : (fillL L p m a)[p + m]? = L[p + m]? := by
  unfold fillL
  rw [List.getElem?_append_right (by simp; omega)]
  simp only [List.length_append, List.length_take, List.length_replicate, List.getElem?_drop]
  congr 1; omega

set_option maxRecDepth 100000 in
set_option maxHeartbeats 4000000 in
theorem fill_any (g o p m c : Nat) (L : List Ce) (a : Lk) (w : World) (h : Has w g 37 (cvals L).toArray) (ho : o = p * 5) (hp : p + m ≤ L.length) (hn : L.length ≤ 1000000000) :
    Calls Tryd.prog 23 #[.slice (some ⟨g, o, none⟩) m c, a.val] w fun e w' => e = .returned undef ∧
      Has w' g 37 (cvals (fillL L p m a)).toArray ∧ Only [g] w w' := by
  subst ho
  have H0 := hide (And.intro h (And.intro hp hn))
  have hg := h.lt
  clear h hp hn
  have HB := hide (blank_any a)
  show Calls Tryd.prog 23 #[.slice (some ⟨g, p * 5, none⟩) m c, .agg #[.int .i64 a.fg, .int .i64 a.bg, .int .i64 a.fl]] w _
  go_enter Tryd.func23, Tryd.ntmps23
  go_wp2_with fail
  go_loopw [7] (fun i wr => ∃ k : Nat, k ≤ m ∧ i = .int .i64 k ∧ Has wr g 37 (cvals (fillL L p k a)).toArray ∧ Has wr w.heap.size 23 a.cells ∧ Only [g] w wr) (fun i _ => m - (intOf i).toNat)
  case atStart => exact ⟨0, Nat.zero_le _, rfl, by rw [fillL_zero]; exact H0.out.1.alloc _, Has.new w _ _, (Only.refl _ _).alloc _⟩
  case round =>
    obtain ⟨k, hk, rfl, hR, hA, ho⟩ := hrel
    have HF := hide (And.intro hR (And.intro hA ho))
    by_cases hlt : k < m
    · have hw1 : IntKind.i64.wrap ((k : Int) + 1) = (k : Int) + 1 := IntWalk.i64_in _ ⟨by omega, by have := H0.out; omega⟩
      have d0 : wr.cell? ⟨w.heap.size, 0, none⟩ = some (.int .i64 a.fg) := hA.cell 0
      have d1 : wr.cell? ⟨w.heap.size, 1, none⟩ = some (.int .i64 a.bg) := hA.cell 1
      have d2 : wr.cell? ⟨w.heap.size, 2, none⟩ = some (.int .i64 a.fl) := hA.cell 2
      clear hR hA ho
      unfold Lk.val Lk.cells at HB
      go_wp2_with fail
      refine (HB.out _).mono ?_
      rintro e w1 ⟨rfl, ho1⟩
      have hL : p + k < L.length := by have := H0.out; omega
      obtain ⟨hR, hA, ho⟩ := HF.out
      have hR := hR.only ho1 (by simp)
      have hA := hA.only ho1 (by simp)
      have ho := ho.trans ho1 (S := [g]) (by simp)
      obtain ⟨⟨c0, c1, c2, c3, c4⟩, ⟨f0, f1, f2, f3, f4⟩⟩ := hR.ce (p + k) L[p + k] (by rw [fillL_get L p k a hL, List.getElem?_eq_getElem hL])
      have hS := hR.setCe (p + k) (by rw [fillL_len L p k a (by omega)]; exact hL) (blankC a)
      rw [fillL_succ L p k a hL] at hS
      generalize L[p + k] = C at *
      have hA2 := hA.other5 (i0 := (p + k) * 5) (i1 := (p + k) * 5 + 1) (i2 := (p + k) * 5 + 2) (i3 := (p + k) * 5 + 3) (i4 := (p + k) * 5 + 4) (Ne.symm (Nat.ne_of_lt hg)) (.int .i32 (blankC a).r) (.int .i64 (blankC a).k) (.int .i64 (blankC a).a.fg) (.int .i64 (blankC a).a.bg) (.int .i64 (blankC a).a.fl)
      have hO2 := ho.set5 (g := g) (by simp) (i0 := (p + k) * 5) (i1 := (p + k) * 5 + 1) (i2 := (p + k) * 5 + 2) (i3 := (p + k) * 5 + 3) (i4 := (p + k) * 5 + 4) (.int .i32 (blankC a).r) (.int .i64 (blankC a).k) (.int .i64 (blankC a).a.fg) (.int .i64 (blankC a).a.bg) (.int .i64 (blankC a).a.fl)
      have e5 : (p + k) * 5 = p * 5 + k * 5 := Nat.add_mul _ _ _
      rw [e5] at hS hA2 hO2 c0 c1 c2 c3 c4 f0 f1 f2 f3 f4
      have HS := hide (And.intro hS (And.intro hA2 hO2))
      clear hR hA ho hS hA2 hO2 ho1 e5 HF d0 d1 d2
      unfold Ce.val
      unfold blankC
      simp only
      go_wp2_with fail
      go_roundw
      case rel => exact ⟨k + 1, by omega, by go_num, HS.out.1, HS.out.2.1, HS.out.2.2⟩
      case measure => simp [intOf]; omega
    · obtain rfl : k = m := by omega
      clear hR hA ho
      go_wp2_with fail
      go_end0
      exact ⟨rfl, HF.out.1, HF.out.2.2⟩

theorem cell_info : (Tryd.prog.info? 37).map (fun i => (i.zero, i.size, i.bytes)) = some (some noCe.val, 5, 40) := by kernel_rfl

theorem made_cells (n : Nat) : madeCells noCe.val.cells (n * 5) = (cvals (List.replicate n noCe)).toArray := by
  apply Array.ext'
  refine List.ext_getElem? fun i => ?_
  show (madeCells #[.int .i32 0, .int .i64 0, .int .i64 0, .int .i64 0, .int .i64 0] (n * 5)).toList[i]? = (cvals (List.replicate n noCe))[i]?
  by_cases h : i < n * 5
  · have h1 := cvals_at (List.replicate n noCe) (i / 5) (by rw [List.length_replicate]; omega) (i % 5) (by omega)
    rw [show i / 5 * 5 + i % 5 = i by omega, List.getElem_replicate] at h1
    rw [h1]
    unfold madeCells
    simp only [Array.toList_map, Array.toList_range, List.getElem?_map, List.getElem?_range h, Option.map_some]
    have h5 : i % 5 = 0 ∨ i % 5 = 1 ∨ i % 5 = 2 ∨ i % 5 = 3 ∨ i % 5 = 4 := by omega
    show some ((#[.int .i32 0, .int .i64 0, .int .i64 0, .int .i64 0, .int .i64 0] : Array Value)[i % 5]!) = _
    rcases h5 with h | h | h | h | h <;> rw [h] <;> rfl
  · rw [List.getElem?_eq_none (by simp [size_madeCells]; omega), List.getElem?_eq_none (by rw [cvals_len, List.length_replicate]; omega)]

theorem run_make_line (n : Nat) (hn : n ≤ 1000000000) (w : World) :
    (Instr.makeSlice 25 (.int .i64 (n : Int)) (.int .i64 (n : Int))).run Tryd.prog w = .ok (.slice (some ⟨w.heap.size, 0, none⟩) n n) (w.alloc (.cells (cvals (List.replicate n noCe)).toArray 37)) := by
  obtain ⟨i, hi, hz, hs, hb⟩ := info_of cell_info
  have h := run_make (P := Tryd.prog) w 25 37 i noCe.val Tryd.underlying25 hi hz .i64 .i64 n n (by omega) (Int.le_refl _) (by rw [hb]; omega) (by omega)
  rw [hs] at h
  simp only [Int.toNat_natCast] at h
  rw [made_cells] at h
  exact h

/-- copy of cells into a row known whole, the source wherever it lies (or nothing). -/
theorem run_copy_ce (w : World) (g p q dLen dCap sLen sCap m : Nat) (A : Option Addr) (L M : List Ce) (hg : Has w g 37 (cvals L).toArray) (hq : q = p * 5) (hm : m = Nat.min sLen dLen) (hM : M.length = m)
    (hsrc : Holds w 5 A m (cvals M)) (hfit : p + m ≤ L.length) (h0 : m = 0 → A = none → sCap = 0 ∧ sLen = 0) (sT dT : TypeId) (hu : Tryd.prog.underlying dT = some (.slice 37)) (ty : TypeId) :
    ∃ w', (Builtin.copy_ #[dT, sT] ty #[.slice (some ⟨g, q, none⟩) dLen dCap, .slice A sLen sCap]).run Tryd.prog w = .ok (.int .i64 (m : Int)) w' ∧ Has w' g 37 (cvals (L.take p ++ M ++ L.drop (p + m))).toArray ∧ Only [g] w w' := by
  subst hq
  obtain ⟨i, hi, hz, hs, hb⟩ := info_of cell_info
  have hl5 : (cvals M).length = m * 5 := by rw [cvals_len, hM]
  have hst := run_storeCells_at Tryd.prog g (p * 5) 37 (cvals M) 0 (cvals L).toArray w hg (by rw [Nat.add_zero, hl5]; simp [cvals_len]; omega) (cvals_one M)
  have e : ((cvals L).toArray.toList.take (p * 5 + 0) ++ cvals M ++ (cvals L).toArray.toList.drop (p * 5 + 0 + (cvals M).length)).toArray = (cvals (L.take p ++ M ++ L.drop (p + m))).toArray := by
    show ((cvals L).take (p * 5) ++ cvals M ++ (cvals L).drop (p * 5 + (cvals M).length)).toArray = _
    rw [hl5, ← Nat.add_mul, cvals_take, cvals_drop, ← cvals_app, ← cvals_app]
  rw [e] at hst
  refine ⟨w.setRow g (cvals (L.take p ++ M ++ L.drop (p + m))).toArray, ?_, hg.setRow _, (Only.refl _ w).setRow (by simp) _⟩
  cases A with
  | some a =>
    have hl := run_loadCells_list (P := Tryd.prog) w a (cvals M) (hsrc.at_ a rfl)
    rw [hl5] at hl
    simp [Builtin.copy_, run_underlying hu, Builtin.lenOf, Builtin.firstCells, sizeOf, typeInfo, hi, hs, ← hm, hl, hst, goInt]
  | none =>
    have hm0 : m = 0 := by
      rcases Nat.eq_zero_or_pos m with h | h
      · exact h
      · obtain ⟨ad, he, _⟩ := hsrc.2 h; cases he
    obtain ⟨rfl, rfl⟩ := h0 hm0 rfl
    subst hm0
    obtain rfl : M = [] := List.eq_nil_of_length_eq_zero hM
    have hst' : (storeCells ⟨g, p * 5, none⟩ [] 0).run Tryd.prog w = _ := hst
    simp [Builtin.copy_, run_underlying hu, Builtin.lenOf, Builtin.firstCells, sizeOf, typeInfo, hi, goInt, hst']
end Go.Proofs.YtilpegmjkbmldaaDoor
