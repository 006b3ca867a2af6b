/-
  Package attr: the numbers behind 38, 48.
-/
import Derived.Test.YtjfmebjjdiodbaaDoorAtA
namespace Go.Proofs.YtjfmebjjdiodbaaDoor
open Go Go.RowKit

theorem ivals_get (l : List Int) (i : Nat) (h : i < l.length) : (ivals l)[i]? = some (.int .i64 (l.getD i 0)) := by simp [ivals, h]
theorem isB_iff {n : Int} : isB n = true ↔ 0 ≤ n ∧ n ≤ 255 := by simp only [isB, Bool.and_eq_true, decide_eq_true_iff]
theorem At.set_cells (a : At) (fore : Bool) (c : Int) : (a.set fore c).cells = a.cells.setIfInBounds (if fore then 0 else 1) (.int .i64 c) := by
  unfold At.set At.cells; cases fore <;> rfl
theorem At.old (a : At) (fore : Bool) : ∃ x, a.cells[if fore then 0 else 1]? = some (.int .i64 x) := by
  cases fore <;> exact ⟨_, rfl⟩

set_option maxHeartbeats 1000000 in
theorem numbered_any (g : Nat) (a : At) (fore : Bool) (b o c : Nat) (l : List Int) (w : World) (hg : Has w g 23 a.cells) (hl : ∀ j u, (ivals l)[j]? = some u → w.cell? ⟨b, o + j, none⟩ = some u) (h0 : 0 < l.length) :
    Calls Tryd.prog 30 #[.pointer (some ⟨g, if fore then 0 else 1, none⟩), .slice (some ⟨b, o, none⟩) l.length c] w fun e w' => e = .returned (.int .i64 (usedL l : Nat)) ∧ Has w' g 23 (longA a fore l).cells ∧ Only [g] w w' := by
  have c1 := fun h => hl 1 _ (ivals_get l 1 h)
  have c2 := fun h => hl 2 _ (ivals_get l 2 h)
  have c3 := fun h => hl 3 _ (ivals_get l 3 h)
  have c4 := fun h => hl 4 _ (ivals_get l 4 h)
  have hN : longN l = if 2 < l.length ∧ l.getD 1 0 = 5 then 3 else if 4 < l.length ∧ l.getD 1 0 = 2 then 5 else 0 := rfl
  have hA : longA a fore l = if 2 < l.length ∧ l.getD 1 0 = 5 then (if isB (l.getD 2 0) then a.set fore (palA (l.getD 2 0)) else a) else if 4 < l.length ∧ l.getD 1 0 = 2 then (if isB (l.getD 2 0) && (isB (l.getD 3 0) && isB (l.getD 4 0)) then a.set fore (dirA (l.getD 2 0) (l.getD 3 0) (l.getD 4 0)) else a) else a := rfl
  have hU : usedL l = if longN l = 0 then l.length else longN l := rfl
  generalize longN l = N at *
  generalize longA a fore l = A at *
  generalize usedL l = U at *
  generalize l.getD 1 0 = x1 at *
  generalize l.getD 2 0 = x2 at *
  generalize l.getD 3 0 = x3 at *
  generalize l.getD 4 0 = x4 at *
  generalize l.length = n at *
  obtain ⟨p, hp⟩ : ∃ p : Nat, p = if fore then 0 else 1 := ⟨_, rfl⟩
  obtain ⟨old, hold⟩ := a.old fore
  have hset := fun c => a.set_cells fore c
  rw [← hp] at hold hset ⊢
  have hc0 : w.cell? ⟨g, p, none⟩ = some (.int .i64 old) := (hg.cell p).trans hold
  have hf0 : w.frozen? ⟨g, p, none⟩ = false := hg.free p
  have hsto : ∀ c, Has (w.setCell ⟨g, p, none⟩ (.int .i64 c)) g 23 (a.set fore c).cells ∧ Only [g] w (w.setCell ⟨g, p, none⟩ (.int .i64 c)) := fun c => ⟨by rw [hset]; exact hg.set p _, (Only.refl _ w).setCell (by simp) _⟩
  have hnon : Has w g 23 a.cells ∧ Only [g] w w := ⟨hg, Only.refl _ w⟩
  have HS := hide (And.intro hsto hnon)
  clear hsto hnon hset hold hp hl hg
  by_cases k1 : 2 < n ∧ x1 = 5
  · rw [if_pos k1] at hN hA
    subst hN
    rw [if_neg (by decide)] at hU
    subst hU
    obtain ⟨k1, rfl⟩ := k1
    have d1 := c1 (by omega)
    have d2 := c2 (by omega)
    clear c1 c2 c3 c4
    cases hb : isB x2 with
    | true =>
      rw [hb, if_pos rfl] at hA
      have HA := hide hA
      have HB := hide (isByte_any x2)
      rw [hb] at HB
      obtain ⟨b1, b2⟩ := isB_iff.1 hb
      clear hA hb
      go_enter Tryd.func30, Tryd.ntmps30
      go_wp2_with fail
      refine (HB.out _).mono ?_
      rintro e w1 ⟨rfl, rfl⟩
      go_wp2_with fail
      go_ret
      rw [HA.out]
      exact ⟨rfl, HS.out.1 _⟩
    | false =>
      rw [hb, if_neg (by decide)] at hA
      have HA := hide hA
      have HB := hide (isByte_any x2)
      rw [hb] at HB
      clear hA hb
      go_enter Tryd.func30, Tryd.ntmps30
      go_wp2_with fail
      refine (HB.out _).mono ?_
      rintro e w1 ⟨rfl, rfl⟩
      go_wp2_with fail
      go_ret
      rw [HA.out]
      exact ⟨rfl, HS.out.2⟩
  rw [if_neg k1] at hN hA
  have z2 : N = 5 → 4 < n ∧ x1 = 2 := fun h => by
    by_cases k : 4 < n ∧ x1 = 2
    · exact k
    · rw [if_neg k] at hN; omega
  by_cases k2 : 4 < n ∧ x1 = 2
  · rw [if_pos k2] at hN hA
    subst hN
    rw [if_neg (by decide)] at hU
    subst hU
    obtain ⟨k2, rfl⟩ := k2
    have d1 := c1 (by omega)
    have d2 := c2 (by omega)
    have d3 := c3 (by omega)
    have d4 := c4 (by omega)
    clear c1 c2 c3 c4 k1 z2
    have HB2 := hide (isByte_any x2)
    have HB3 := hide (isByte_any x3)
    have HB4 := hide (isByte_any x4)
    have hf : (isB x2 && (isB x3 && isB x4)) = false → A = a := fun h => by rw [h, if_neg (by decide)] at hA; exact hA
    have ht : isB x2 = true → isB x3 = true → isB x4 = true → A = a.set fore (dirA x2 x3 x4) := fun h1 h2 h3 => by rw [h1, h2, h3, if_pos (by decide)] at hA; exact hA
    have HF := hide hf
    have HT := hide ht
    clear hA hf ht
    cases hb2 : isB x2 with
    | false =>
      have HA := hide (HF.out (by rw [hb2]; rfl))
      rw [hb2] at HB2
      clear hb2 HF HT
      go_enter Tryd.func30, Tryd.ntmps30
      go_wp2_with fail
      refine (HB2.out _).mono ?_
      rintro e w1 ⟨rfl, rfl⟩
      go_wp2_with fail
      go_ret
      rw [HA.out]
      exact ⟨rfl, HS.out.2⟩
    | true =>
      rw [hb2] at HB2
      cases hb3 : isB x3 with
      | false =>
        have HA := hide (HF.out (by rw [hb2, hb3]; rfl))
        rw [hb3] at HB3
        clear hb2 hb3 HF HT
        go_enter Tryd.func30, Tryd.ntmps30
        go_wp2_with fail
        refine (HB2.out _).mono ?_
        rintro e w1 ⟨rfl, rfl⟩
        go_wp2_with fail
        refine (HB3.out _).mono ?_
        rintro e w1 ⟨rfl, rfl⟩
        go_wp2_with fail
        go_ret
        rw [HA.out]
        exact ⟨rfl, HS.out.2⟩
      | true =>
        rw [hb3] at HB3
        cases hb4 : isB x4 with
        | false =>
          have HA := hide (HF.out (by rw [hb2, hb3, hb4]; rfl))
          rw [hb4] at HB4
          clear hb2 hb3 hb4 HF HT
          go_enter Tryd.func30, Tryd.ntmps30
          go_wp2_with fail
          refine (HB2.out _).mono ?_
          rintro e w1 ⟨rfl, rfl⟩
          go_wp2_with fail
          refine (HB3.out _).mono ?_
          rintro e w1 ⟨rfl, rfl⟩
          go_wp2_with fail
          refine (HB4.out _).mono ?_
          rintro e w1 ⟨rfl, rfl⟩
          go_wp2_with fail
          go_ret
          rw [HA.out]
          exact ⟨rfl, HS.out.2⟩
        | true =>
          have HA := hide (HT.out hb2 hb3 hb4)
          rw [hb4] at HB4
          obtain ⟨p1, p2⟩ := isB_iff.1 hb2
          obtain ⟨p3, p4⟩ := isB_iff.1 hb3
          obtain ⟨p5, p6⟩ := isB_iff.1 hb4
          clear hb2 hb3 hb4 HF HT
          go_enter Tryd.func30, Tryd.ntmps30
          go_wp2_with fail
          refine (HB2.out _).mono ?_
          rintro e w1 ⟨rfl, rfl⟩
          go_wp2_with fail
          refine (HB3.out _).mono ?_
          rintro e w1 ⟨rfl, rfl⟩
          go_wp2_with fail
          refine (HB4.out _).mono ?_
          rintro e w1 ⟨rfl, rfl⟩
          go_wp2_with fail
          have q2 : (2 : Int) < (n : Int) := by omega
          have q3 : (3 : Int) < (n : Int) := by omega
          have q4 : (4 : Int) < (n : Int) := by omega
          have r2 : IntKind.i64.wrap (x2 * 65536) = x2 * 65536 := by rw [IntKind.wrap_i64]; omega
          have r3 : IntKind.i64.wrap (x3 * 256) = x3 * 256 := by rw [IntKind.wrap_i64]; omega
          have r4 : IntKind.i64.wrap (33554432 + x2 * 65536) = 33554432 + x2 * 65536 := by rw [IntKind.wrap_i64]; omega
          have r5 : IntKind.i64.wrap (33554432 + x2 * 65536 + x3 * 256) = 33554432 + x2 * 65536 + x3 * 256 := by rw [IntKind.wrap_i64]; omega
          have r6 : IntKind.i64.wrap (33554432 + x2 * 65536 + x3 * 256 + x4) = 33554432 + x2 * 65536 + x3 * 256 + x4 := by rw [IntKind.wrap_i64]; omega
          go_still_tail 16, (by kernel_rfl)
          change wpList _ _ _ _ _ w1.drew
          go_wp2_with fail
          go_ret
          rw [HA.out]
          exact ⟨rfl, (HS.out.1 _).1.drew, (HS.out.1 _).2.drew⟩
  rw [if_neg k2] at hN hA
  subst hN
  rw [if_pos rfl] at hU
  subst hU
  subst hA
  clear z2 c2 c3 c4
  by_cases k3 : 2 < U
  · have d1 := c1 (by omega)
    have n5 : ¬ x1 = 5 := fun h => k1 ⟨k3, h⟩
    by_cases k4 : 4 < U
    · have n2 : ¬ x1 = 2 := fun h => k2 ⟨k4, h⟩
      clear k1 k2 c1
      go_enter Tryd.func30, Tryd.ntmps30
      go_wp2_with fail
      go_ret
      exact ⟨rfl, HS.out.2⟩
    · clear k1 k2 c1
      go_enter Tryd.func30, Tryd.ntmps30
      go_wp2_with fail
      go_ret
      exact ⟨rfl, HS.out.2⟩
  · have k4 : ¬ 4 < U := by omega
    clear k1 k2 c1
    go_enter Tryd.func30, Tryd.ntmps30
    go_wp2_with fail
    go_ret
    exact ⟨rfl, HS.out.2⟩
end Go.Proofs.YtjfmebjjdiodbaaDoor
