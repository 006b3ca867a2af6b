/-
  Package line: Put, where there is room.
-/
import Derived.Test.YtilpegmjkbmldaaDoorLnD
namespace Go.Proofs.YtilpegmjkbmldaaDoor
open Go Go.RowKit

/-- r put at k. -/
def putL (L : List Ce) (k : Nat) (r : Int) (wide : Bool) (a : Lk) : List Ce :=
  mendL (if wide then ((mendL L).set k ⟨r, 1, a⟩).set (k + 1) ⟨0, 2, a⟩ else (mendL L).set k ⟨r, 0, a⟩)
@[simp] theorem putL_len (L : List Ce) (k : Nat) (r : Int) (wide : Bool) (a : Lk) : (putL L k r wide a).length = L.length := by
  unfold putL; rw [mendL_len]; cases wide <;> simp
theorem List.get_some {L : List Ce} {k : Nat} (h : k < L.length) : ∃ c, L[k]? = some c := ⟨L[k], List.getElem?_eq_getElem h⟩

set_option maxRecDepth 100000 in
set_option maxHeartbeats 4000000 in
theorem put_one (A : Option Addr) (n c : Nat) (L : List Ce) (k : Nat) (r : Int) (a : Lk) (w : World) (h : LineAt w A n c L) (hn : n ≤ 1000000000) (hk : k < n) :
    Calls Tryd.prog 19 #[.slice A n c, .int .i64 k, .int .i32 r, .int .i64 1, a.val] w fun e w' => ∃ g, e = .returned (.tuple #[.slice (some ⟨g, 0, none⟩) n n, .bool true]) ∧ NewLine w w' g (putL L k r false a) := by
  show Calls Tryd.prog 19 #[.slice A n c, .int .i64 k, .int .i32 r, .int .i64 1, .agg #[.int .i64 a.fg, .int .i64 a.bg, .int .i64 a.fl]] w _
  have o0 := (Only.refl [] w).alloc (.cells #[.int .i64 a.fg, .int .i64 a.bg, .int .i64 a.fl] 23)
  have hb := Has.new w 23 #[.int .i64 a.fg, .int .i64 a.bg, .int .i64 a.fl]
  have HM := hide (mend_any A n c L _ (h.keep o0) hn)
  have hl := h.len
  have HO := hide (And.intro o0 (And.intro hb hl))
  clear h o0 hb hl
  have k1 : ¬ (k : Int) < 0 := by omega
  have k2 : IntKind.i64.wrap ((n : Int) - 1) = (n : Int) - 1 := IntWalk.i64_in _ ⟨by omega, by omega⟩
  have k3 : ¬ ((n : Int) - 1 < (k : Int)) := by omega
  have k4 : (k : Int) < (n : Int) := by omega
  go_enter Tryd.func19, Tryd.ntmps19
  go_wp2_with fail
  refine (HM.out).mono ?_
  rintro e w1 ⟨g, rfl, N⟩
  obtain ⟨o0, hb, hl⟩ := HO.out
  have hb1 := hb.only N.only (by simp)
  have b0 : w1.cell? ⟨w.heap.size, 0, none⟩ = some (.int .i64 a.fg) := hb1.cell 0
  have b1 : w1.cell? ⟨w.heap.size, 1, none⟩ = some (.int .i64 a.bg) := hb1.cell 1
  have b2 : w1.cell? ⟨w.heap.size, 2, none⟩ = some (.int .i64 a.fl) := hb1.cell 2
  have hkl : k < (mendL L).length := by rw [mendL_len, hl]; exact hk
  obtain ⟨C, hC⟩ := List.get_some hkl
  obtain ⟨⟨c0, c1, c2, c3, c4⟩, ⟨f0, f1, f2, f3, f4⟩⟩ := N.has.ce k C hC
  have hS := N.has.setCe k hkl ⟨r, 0, a⟩
  have hO := ((o0.of_nil (T := [g])).trans N.only (by simp)).set5 (g := g) (by simp) (i0 := k * 5) (i1 := k * 5 + 1) (i2 := k * 5 + 2) (i3 := k * 5 + 3) (i4 := k * 5 + 4) (.int .i32 r) (.int .i64 0) (.int .i64 a.fg) (.int .i64 a.bg) (.int .i64 a.fl)
  have hS2 := mendSelf_any g n _ _ hS (by simp; omega)
  rw [List.length_set, mendL_len, hl] at hS2
  have hgn : w.heap.size ≤ g := by have := N.new; rw [World.size_alloc] at this; omega
  have HS := hide hS2
  have HN := hide (And.intro hO hgn)
  clear N hb1 hb o0 hS hS2 hO HM hC hkl hgn HO
  go_wp2_with fail
  refine (HS.out).mono ?_
  rintro e w2 ⟨rfl, h2, ho2⟩
  have HF := hide (And.intro h2 ho2)
  clear h2 ho2 HS
  go_wp2_with fail
  go_ret2
  exact ⟨g, rfl, HN.out.2, HF.out.1, (HN.out.1.trans HF.out.2 (S := [g]) (by simp)).weak (by intro j hj hlt; simp at hj; have := HN.out.2; omega)⟩

/-- A cell's kind stored anew. -/
theorem Has.setK {w : World} {g : Nat} {t : TypeId} {L : List Ce} (h : Has w g t (cvals L).toArray) (i : Nat) (c : Ce) (hc : L[i]? = some c) (z : Int) :
    Has (w.setCell ⟨g, i * 5 + 1, none⟩ (.int .i64 z)) g t (cvals (L.set i ⟨c.r, z, c.a⟩)).toArray := by
  obtain ⟨hi, he⟩ := List.getElem?_eq_some_iff.1 hc
  have h1 := h.set (i * 5 + 1) (.int .i64 z)
  have e : (cvals L).set (i * 5 + 1) (.int .i64 z) = cvals (L.set i ⟨c.r, z, c.a⟩) := by
    rw [← cvals_set L i hi]
    have hv := fun j hj => (cvals_at L i hi j hj)
    rw [he] at hv
    refine List.ext_getElem? fun j => ?_
    simp only [List.getElem?_set, List.length_set]
    have l5 := cvals_len L
    have i5 : i * 5 + 5 ≤ L.length * 5 := by omega
    have h0 := hv 0 (by omega)
    have h2 := hv 2 (by omega)
    have h3 := hv 3 (by omega)
    have h4 := hv 4 (by omega)
    by_cases j4 : i * 5 + 4 = j
    · subst j4; rw [if_neg (by omega), if_pos rfl, if_pos (by omega)]; exact h4
    · by_cases j3 : i * 5 + 3 = j
      · subst j3; rw [if_neg (by omega), if_neg (by omega), if_pos rfl, if_pos (by omega)]; exact h3
      · by_cases j2 : i * 5 + 2 = j
        · subst j2; rw [if_neg (by omega), if_neg (by omega), if_neg (by omega), if_pos rfl, if_pos (by omega)]; exact h2
        · by_cases j1 : i * 5 + 1 = j
          · subst j1; rw [if_neg j4, if_neg j3, if_neg j2, if_pos rfl, if_pos rfl]
          · by_cases j0 : i * 5 = j
            · subst j0; rw [if_neg (by omega), if_neg (by omega), if_neg (by omega), if_neg (by omega), if_neg (by omega), if_pos rfl, if_pos (by omega)]; exact h0
            · rw [if_neg j1, if_neg j4, if_neg j3, if_neg j2, if_neg j1, if_neg j0]
  rw [List.setIfInBounds_toArray, e] at h1
  exact h1

set_option maxRecDepth 100000 in
set_option maxHeartbeats 4000000 in
theorem put_two (A : Option Addr) (n c : Nat) (L : List Ce) (k : Nat) (r : Int) (a : Lk) (w : World) (h : LineAt w A n c L) (hn : n ≤ 1000000000) (hk : k + 1 < n) :
    Calls Tryd.prog 19 #[.slice A n c, .int .i64 k, .int .i32 r, .int .i64 2, a.val] w fun e w' => ∃ g, e = .returned (.tuple #[.slice (some ⟨g, 0, none⟩) n n, .bool true]) ∧ NewLine w w' g (putL L k r true a) := by
  show Calls Tryd.prog 19 #[.slice A n c, .int .i64 k, .int .i32 r, .int .i64 2, .agg #[.int .i64 a.fg, .int .i64 a.bg, .int .i64 a.fl]] w _
  have o0 := (Only.refl [] w).alloc (.cells #[.int .i64 a.fg, .int .i64 a.bg, .int .i64 a.fl] 23)
  have hb := Has.new w 23 #[.int .i64 a.fg, .int .i64 a.bg, .int .i64 a.fl]
  have HM := hide (mend_any A n c L _ (h.keep o0) hn)
  have hl := h.len
  have HO := hide (And.intro o0 (And.intro hb hl))
  clear h o0 hb hl
  have k1 : ¬ (k : Int) < 0 := by omega
  have k2 : IntKind.i64.wrap ((n : Int) - 2) = (n : Int) - 2 := IntWalk.i64_in _ ⟨by omega, by omega⟩
  have k3 : ¬ ((n : Int) - 2 < (k : Int)) := by omega
  have k4 : (k : Int) < (n : Int) := by omega
  go_enter Tryd.func19, Tryd.ntmps19
  go_wp2_with fail
  refine (HM.out).mono ?_
  rintro e w1 ⟨g, rfl, N⟩
  obtain ⟨o0, hb, hl⟩ := HO.out
  have hb1 := hb.only N.only (by simp)
  have b0 : w1.cell? ⟨w.heap.size, 0, none⟩ = some (.int .i64 a.fg) := hb1.cell 0
  have b1 : w1.cell? ⟨w.heap.size, 1, none⟩ = some (.int .i64 a.bg) := hb1.cell 1
  have b2 : w1.cell? ⟨w.heap.size, 2, none⟩ = some (.int .i64 a.fl) := hb1.cell 2
  have hkl : k < (mendL L).length := by rw [mendL_len, hl]; omega
  obtain ⟨C, hC⟩ := List.get_some hkl
  obtain ⟨⟨c0, c1, c2, c3, c4⟩, ⟨f0, f1, f2, f3, f4⟩⟩ := N.has.ce k C hC
  have hgn : w.heap.size + 1 ≤ g := by have := N.new; rw [World.size_alloc] at this; exact this
  have hS := N.has.setCe k hkl ⟨r, 0, a⟩
  have hO := ((o0.of_nil (T := [g])).trans N.only (by simp)).set5 (g := g) (by simp) (i0 := k * 5) (i1 := k * 5 + 1) (i2 := k * 5 + 2) (i3 := k * 5 + 3) (i4 := k * 5 + 4) (.int .i32 r) (.int .i64 0) (.int .i64 a.fg) (.int .i64 a.bg) (.int .i64 a.fl)
  have hB := hb1.other5 (g := g) (by omega) (i0 := k * 5) (i1 := k * 5 + 1) (i2 := k * 5 + 2) (i3 := k * 5 + 3) (i4 := k * 5 + 4) (.int .i32 r) (.int .i64 0) (.int .i64 a.fg) (.int .i64 a.bg) (.int .i64 a.fl)
  have HN := hide (And.intro hO (And.intro hgn (And.intro hS hB)))
  clear N hb1 hb o0 hS hB hO HM hC hgn HO
  go_upto_region 6 with fail
  clear c0 c1 c2 c3 c4 f0 f1 f2 f3 f4 b0 b1 b2
  obtain ⟨hO, hgn, hS, hB⟩ := HN.out
  clear HN
  generalize ((((w1.setCell ⟨g, k * 5, none⟩ (.int .i32 r)).setCell ⟨g, k * 5 + 1, none⟩ (.int .i64 0)).setCell ⟨g, k * 5 + 2, none⟩ (.int .i64 a.fg)).setCell ⟨g, k * 5 + 3, none⟩ (.int .i64 a.bg)).setCell ⟨g, k * 5 + 4, none⟩ (.int .i64 a.fl) = W2 at *
  have hC1 : ((mendL L).set k ⟨r, 0, a⟩)[k]? = some ⟨r, 0, a⟩ := by rw [List.getElem?_set_self hkl]
  obtain ⟨⟨_, c1, _⟩, ⟨_, f1, _⟩⟩ := hS.ce k _ hC1
  have hS1 := hS.setK k _ hC1 1
  have hO1 := hO.setCell (p := ⟨g, k * 5 + 1, none⟩) (by simp) (.int .i64 1)
  have hB1 := hB.other (p := ⟨g, k * 5 + 1, none⟩) (by show w.heap.size ≠ g; omega) (.int .i64 1)
  rw [List.set_set] at hS1
  simp only at hS1
  have HN := hide (And.intro hO1 (And.intro hgn (And.intro hS1 hB1)))
  clear hO hgn hS hB hC1 hS1 hO1 hB1
  go_upto_region 7 with fail
  obtain ⟨hO, hgn, hS, hB⟩ := HN.out
  clear HN c1 f1
  generalize W2.setCell ⟨g, k * 5 + 1, none⟩ (.int .i64 1) = W3 at *
  have b0 : W3.cell? ⟨w.heap.size, 0, none⟩ = some (.int .i64 a.fg) := hB.cell 0
  have b1 : W3.cell? ⟨w.heap.size, 1, none⟩ = some (.int .i64 a.bg) := hB.cell 1
  have b2 : W3.cell? ⟨w.heap.size, 2, none⟩ = some (.int .i64 a.fl) := hB.cell 2
  have hk2 : k + 1 < ((mendL L).set k ⟨r, 1, a⟩).length := by rw [List.length_set, mendL_len, hl]; exact hk
  obtain ⟨D, hD⟩ := List.get_some hk2
  obtain ⟨⟨c0, c1, c2, c3, c4⟩, ⟨f0, f1, f2, f3, f4⟩⟩ := hS.ce (k + 1) D hD
  have k5 : IntKind.i64.wrap ((k : Int) + 1) = (k : Int) + 1 := IntWalk.i64_in _ ⟨by omega, by omega⟩
  have k6 : (k : Int) + 1 < (n : Int) := by omega
  have hS1 := hS.setCe (k + 1) hk2 ⟨0, 2, a⟩
  have hO1 := hO.set5 (g := g) (by simp) (i0 := (k + 1) * 5) (i1 := (k + 1) * 5 + 1) (i2 := (k + 1) * 5 + 2) (i3 := (k + 1) * 5 + 3) (i4 := (k + 1) * 5 + 4) (.int .i32 0) (.int .i64 2) (.int .i64 a.fg) (.int .i64 a.bg) (.int .i64 a.fl)
  have hS2 := mendSelf_any g n _ _ hS1 (by simp; omega)
  rw [List.length_set, List.length_set, mendL_len, hl] at hS2
  have HS := hide hS2
  have HN := hide (And.intro hO1 hgn)
  clear hO hgn hS hB hS1 hS2 hO1 hD hk2 hkl
  go_wp2_with fail
  refine (HS.out).mono ?_
  rintro e w2 ⟨rfl, h2, ho2⟩
  have HF := hide (And.intro h2 ho2)
  clear h2 ho2 HS
  go_wp2_with fail
  go_ret2
  exact ⟨g, rfl, by have := HN.out.2; omega, HF.out.1, (HN.out.1.trans HF.out.2 (S := [g]) (by simp)).weak (by intro j hj hlt; simp at hj; have := HN.out.2; omega)⟩
end Go.Proofs.YtilpegmjkbmldaaDoor
