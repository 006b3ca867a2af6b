/-
  Package line: a line mended in its own memory; blanks laid there.
-/
import Derived.Test.YtilpegmjkbmldaaDoorLnA
import Derived.Test.YtilpegmjkbmldaaDoorTail
import Derived.Deep.DeepCutAuto
namespace Go.Proofs.YtilpegmjkbmldaaDoor
open Go Go.RowKit

/-- Cell i of a row of cells known whole. -/
theorem Has.ce {w : World} {g : Nat} {t : TypeId} {L : List Ce} (h : Has w g t (cvals L).toArray) (i : Nat) (c : Ce) (hc : L[i]? = some c) :
    (w.cell? ⟨g, i * 5, none⟩ = some (.int .i32 c.r) ∧ w.cell? ⟨g, i * 5 + 1, none⟩ = some (.int .i64 c.k) ∧ w.cell? ⟨g, i * 5 + 2, none⟩ = some (.int .i64 c.a.fg) ∧ w.cell? ⟨g, i * 5 + 3, none⟩ = some (.int .i64 c.a.bg) ∧ w.cell? ⟨g, i * 5 + 4, none⟩ = some (.int .i64 c.a.fl)) ∧
    (w.frozen? ⟨g, i * 5, none⟩ = false ∧ w.frozen? ⟨g, i * 5 + 1, none⟩ = false ∧ w.frozen? ⟨g, i * 5 + 2, none⟩ = false ∧ w.frozen? ⟨g, i * 5 + 3, none⟩ = false ∧ w.frozen? ⟨g, i * 5 + 4, none⟩ = false) := by
  obtain ⟨hi, rfl⟩ := List.getElem?_eq_some_iff.1 hc
  refine ⟨⟨(h.cell _).trans ?_, (h.cell _).trans ?_, (h.cell _).trans ?_, (h.cell _).trans ?_, (h.cell _).trans ?_⟩, h.free _, h.free _, h.free _, h.free _, h.free _⟩
  · exact (List.getElem?_toArray).trans (cvals_at L i hi 0 (by omega))
  · exact (List.getElem?_toArray).trans (cvals_at L i hi 1 (by omega))
  · exact (List.getElem?_toArray).trans (cvals_at L i hi 2 (by omega))
  · exact (List.getElem?_toArray).trans (cvals_at L i hi 3 (by omega))
  · exact (List.getElem?_toArray).trans (cvals_at L i hi 4 (by omega))
theorem Has.setCe {w : World} {g : Nat} {t : TypeId} {L : List Ce} (h : Has w g t (cvals L).toArray) (i : Nat) (hi : i < L.length) (c : Ce) :
    Has (((((w.setCell ⟨g, i * 5, none⟩ (.int .i32 c.r)).setCell ⟨g, i * 5 + 1, none⟩ (.int .i64 c.k)).setCell ⟨g, i * 5 + 2, none⟩ (.int .i64 c.a.fg)).setCell ⟨g, i * 5 + 3, none⟩ (.int .i64 c.a.bg)).setCell ⟨g, i * 5 + 4, none⟩ (.int .i64 c.a.fl)) g t (cvals (L.set i c)).toArray := by
  have := ((((h.set (i * 5) (.int .i32 c.r)).set (i * 5 + 1) (.int .i64 c.k)).set (i * 5 + 2) (.int .i64 c.a.fg)).set (i * 5 + 3) (.int .i64 c.a.bg)).set (i * 5 + 4) (.int .i64 c.a.fl)
  simp only [List.setIfInBounds_toArray] at this
  rw [cvals_set L i hi c] at this
  exact this
theorem Has.holds {w : World} {g : Nat} {t : TypeId} {L : List Ce} (h : Has w g t (cvals L).toArray) : Holds w 5 (some ⟨g, 0, none⟩) L.length (cvals L) :=
  ⟨cvals_len L, fun _ => ⟨_, rfl, h.lt, fun j u hu => by rw [add_zero_of, h.cell, List.getElem?_toArray]; exact hu⟩⟩

theorem Has.other5 {w : World} {g h : Nat} {t : TypeId} {cs : Array Value} (hh : Has w h t cs) (hne : h ≠ g) {i0 i1 i2 i3 i4 : Nat} (y0 y1 y2 y3 y4 : Value) :
    Has (((((w.setCell ⟨g, i0, none⟩ y0).setCell ⟨g, i1, none⟩ y1).setCell ⟨g, i2, none⟩ y2).setCell ⟨g, i3, none⟩ y3).setCell ⟨g, i4, none⟩ y4) h t cs := ((((hh.other hne y0).other hne y1).other hne y2).other hne y3).other hne y4

set_option maxRecDepth 100000 in
set_option maxHeartbeats 4000000 in
theorem mendSelf_any (g c : Nat) (L : List Ce) (w : World) (h : Has w g 37 (cvals L).toArray) (hn : L.length ≤ 1000000000) :
    Calls Tryd.prog 24 #[.slice (some ⟨g, 0, none⟩) L.length c] w fun e w' =>
      e = .returned (.slice (some ⟨g, 0, none⟩) L.length c) ∧ Has w' g 37 (cvals (mendL L)).toArray ∧ Only [g] w w' := by
  obtain ⟨n, hnn⟩ : ∃ n, n = L.length := ⟨_, rfl⟩
  rw [← hnn]
  have H0 := hide (And.intro h (And.intro hn hnn))
  clear h hn hnn
  go_enter Tryd.func24, Tryd.ntmps24
  go_wp2_with fail
  go_loopw [3, 8] (fun p i wr => ∃ k : Nat, k ≤ n ∧ p = .int .i64 (aheadN L k) ∧ i = .int .i64 k ∧ Has wr g 37 (cvals (partM L k)).toArray ∧ Only [g] w wr) (fun _ i _ => n - (intOf i).toNat)
  case atStart => exact ⟨0, Nat.zero_le _, rfl, rfl, by rw [partM_zero]; exact H0.out.1, Only.refl _ _⟩
  case round =>
    obtain ⟨k, hk, rfl, rfl, hR, ho⟩ := hrel
    by_cases hlt : k < n
    · have hL : k < L.length := by have := H0.out; omega
      have hkk : (k : Int) < (n : Int) := by omega
      obtain ⟨⟨c0, c1, c2, c3, c4⟩, _⟩ := hR.ce k L[k] (by rw [partM_get L k k (Nat.le_refl _), List.getElem?_eq_getElem hL])
      have hm : mendAt L k = mendC (aheadN L k) L[k] (kindN L (k + 1)) := by unfold mendAt; rw [List.getD_eq_getElem?_getD, List.getElem?_eq_getElem hL]; rfl
      have ha : aheadN L (k + 1) = L[k].k := by unfold aheadN; rw [if_neg (by omega), Nat.add_sub_cancel]; unfold kindN; rw [List.getD_eq_getElem?_getD, List.getElem?_eq_getElem hL]; rfl
      have hkn : kindL (partM L k) ((k : Int) + 1) = kindN L (k + 1) := by
        rw [show ((k : Int) + 1) = ((k + 1 : Nat) : Int) by omega, kindL_nat]; unfold kindN; rw [List.getD_eq_getElem?_getD, List.getD_eq_getElem?_getD, partM_get L k (k + 1) (by omega)]
      have hC : (partM L k)[k]? = some L[k] := by rw [partM_get L k k (Nat.le_refl _), List.getElem?_eq_getElem hL]
      have hst := partM_set L k hL
      generalize L[k] = C at *
      have hB : Has (wr.alloc (.cells #[.int .i32 C.r, .int .i64 C.k, .int .i64 C.a.fg, .int .i64 C.a.bg, .int .i64 C.a.fl] 37)) wr.heap.size 37 (cvals [C]).toArray := Has.new wr _ _
      have hR1 := hR.alloc (.cells #[.int .i32 C.r, .int .i64 C.k, .int .i64 C.a.fg, .int .i64 C.a.bg, .int .i64 C.a.fl] 37)
      have hne : g ≠ wr.heap.size := Nat.ne_of_lt hR.lt
      have ho1 := ho.alloc (.cells #[.int .i32 C.r, .int .i64 C.k, .int .i64 C.a.fg, .int .i64 C.a.bg, .int .i64 C.a.fl] 37)
      have hlb : w.heap.size ≤ wr.heap.size := ho.size
      have hw1 : IntKind.i64.wrap ((k : Int) + 1) = (k : Int) + 1 := IntWalk.i64_in _ ⟨by omega, by have := H0.out; omega⟩
      have HH := hide (And.intro hB (And.intro hR1 (And.intro hne (And.intro ho1 (And.intro hm (And.intro ha (And.intro hkn (And.intro hw1 (And.intro hlb (And.intro hC hst))))))))))
      clear hB hR1 hne ho1 hR ho hm ha hkn hw1 hlb hC hst
      go_upto_region 5 with fail
      obtain ⟨hB, hR1, hne, ho1, hm, ha, hkn, hw1, hlb, hC, hst⟩ := HH.out
      clear HH c0 c1 c2 c3 c4
      generalize wr.alloc (.cells #[.int .i32 C.r, .int .i64 C.k, .int .i64 C.a.fg, .int .i64 C.a.bg, .int .i64 C.a.fl] 37) = W1 at *
      obtain ⟨⟨b0, b1, b2, b3, b4⟩, _⟩ := hB.ce 0 C rfl
      simp only [Nat.zero_mul, Nat.zero_add] at b0 b1 b2 b3 b4
      have b0 := later_cell b0
      have b1 := later_cell b1
      have b2 := later_cell b2
      have b3 := later_cell b3
      have b4 := later_cell b4
      have hpl : (partM L k).length = n := by rw [partM_len L k (by omega)]; exact H0.out.2.2.symm
      have HK := hide (fun x : Later W1 => (kind_any (some ⟨g, 0, none⟩) n c (partM L k) ((k : Int) + 1) x.val (by have := (hR1.only x.only (by simp)).holds; rw [hpl] at this; exact this)).mono (R' := fun e w' => e = .returned (.int .i64 (kindN L (k + 1))) ∧ Only [] x.val w') (fun e w' ⟨h1, h2⟩ => ⟨by rw [h1, hkn], by rw [h2]; exact Only.refl _ _⟩))
      have HM := hide (fun x : Later W1 => mended_any (aheadN L k) C (kindN L (k + 1)) x.val)
      rw [← hm] at HM
      have HX := hide (fun (X : World) (h : Only [] W1 X) => And.intro (hR1.only h (by simp)) (And.intro (hB.only h (by simp)) (ho1.trans h (S := [g]) (by simp))))
      have HH := hide (And.intro hne (And.intro ha (And.intro hpl (And.intro hlb (And.intro hC hst)))))
      unfold Ce.val at HM
      generalize mendAt L k = M at *
      generalize kindN L (k + 1) = q at *
      generalize aheadN L k = p at *
      clear hne ha hpl hlb hC hst hR1 hB ho1 hkn hm
      refine region_later_tail 10 (by kernel_rfl) (by kernel_rfl) ?_
      simp only [List.take_succ_cons, List.take_zero, List.drop_succ_cons, List.drop_zero]
      iterate 7 (go_big_quiet_step (fail))
      go_big_quiet_step ((go_at_call 27; refine later_of (HK.out _)))
      go_big_quiet_step ((go_at_call 26; refine later_of (HM.out _)))
      iterate 1 (go_big_quiet_step (fail))
      refine wpQuiet_nil ?_
      rintro _ ⟨X, rfl⟩
      change wpList _ _ _ _ _ X.val
      obtain ⟨hR, hB, hO⟩ := HX.out X.val X.only
      obtain ⟨hne, ha, hpl, hlb, hC, hst⟩ := HH.out
      obtain ⟨⟨c0, c1, c2, c3, c4⟩, ⟨f0, f1, f2, f3, f4⟩⟩ := hR.ce k C hC
      have hS := hR.setCe k (by rw [hpl]; exact hlt) M
      rw [hst] at hS
      have hB2 := hB.other5 (i0 := k * 5) (i1 := k * 5 + 1) (i2 := k * 5 + 2) (i3 := k * 5 + 3) (i4 := k * 5 + 4) (Ne.symm hne) (.int .i32 M.r) (.int .i64 M.k) (.int .i64 M.a.fg) (.int .i64 M.a.bg) (.int .i64 M.a.fl)
      have hO2 := hO.set5 (g := g) (by simp) (i0 := k * 5) (i1 := k * 5 + 1) (i2 := k * 5 + 2) (i3 := k * 5 + 3) (i4 := k * 5 + 4) (.int .i32 M.r) (.int .i64 M.k) (.int .i64 M.a.fg) (.int .i64 M.a.bg) (.int .i64 M.a.fl)
      have HF := hide (And.intro hS (And.intro hB2 (And.intro hO2 ha)))
      clear hR hB hO hne ha hpl hlb hC hst hS hB2 hO2 HH HX HM HK b0 b1 b2 b3 b4
      go_upto_region 6 with fail
      obtain ⟨hS, hB2, hO2, ha⟩ := HF.out
      clear c0 c1 c2 c3 c4 f0 f1 f2 f3 f4
      generalize ((((X.val.setCell ⟨g, k * 5, none⟩ (.int .i32 M.r)).setCell ⟨g, k * 5 + 1, none⟩ (.int .i64 M.k)).setCell ⟨g, k * 5 + 2, none⟩ (.int .i64 M.a.fg)).setCell ⟨g, k * 5 + 3, none⟩ (.int .i64 M.a.bg)).setCell ⟨g, k * 5 + 4, none⟩ (.int .i64 M.a.fl) = W2 at *
      obtain ⟨⟨_, b1, _⟩, _⟩ := hB2.ce 0 C rfl
      simp only [Nat.zero_mul, Nat.zero_add] at b1
      have HF := hide (And.intro hS (And.intro hO2 ha))
      clear hS hB2 hO2 ha
      go_wp2_with fail
      go_roundw
      case rel => exact ⟨k + 1, by omega, by rw [HF.out.2.2], by go_num, HF.out.1, HF.out.2.1⟩
      case measure => simp [intOf]; omega
    · obtain rfl : k = n := by omega
      have HF := hide (And.intro hR ho)
      clear hR ho
      go_wp2_with fail
      go_ret
      refine ⟨rfl, ?_, HF.out.2⟩
      have h := HF.out.1
      rw [H0.out.2.2, partM_all] at h
      exact h
end Go.Proofs.YtilpegmjkbmldaaDoor
