/-
  Attributes that are right stay right.
-/
import Derived.Test.YtjfmebjjdiodbaaDoorArA
namespace Go.Proofs.YtjfmebjjdiodbaaDoor
open Go Go.RowKit

theorem rightA_iff {a : At} : rightA a = true ↔ rightI a.fg = true ∧ rightI a.bg = true ∧ 0 ≤ a.fl ∧ a.fl ≤ 255 := by
  unfold rightA
  simp only [Bool.and_eq_true, decide_eq_true_iff]
theorem rightI_pal {n : Int} (h0 : 0 ≤ n) (h1 : n ≤ 255) : rightI (palA n) = true := by
  unfold rightI palA
  rw [decide_eq_true_iff]
  omega
theorem rightI_dir {r g b : Int} (r0 : 0 ≤ r) (r1 : r ≤ 255) (g0 : 0 ≤ g) (g1 : g ≤ 255) (b0 : 0 ≤ b) (b1 : b ≤ 255) : rightI (dirA r g b) = true := by
  unfold rightI dirA
  rw [decide_eq_true_iff]
  omega
theorem or_range {x f : Int} (h0 : 0 ≤ x) (h1 : x ≤ 255) (f0 : 0 ≤ f) (f1 : f ≤ 255) : 0 ≤ bits .or .i64 x f ∧ bits .or .i64 x f ≤ 255 := by
  obtain ⟨a, rfl⟩ : ∃ k : Nat, x = k := ⟨x.toNat, by omega⟩
  obtain ⟨b, rfl⟩ : ∃ k : Nat, f = k := ⟨f.toNat, by omega⟩
  rw [i64_or_nat a b (by omega) (by omega)]
  have := Nat.or_lt_two_pow (n := 8) (x := a) (y := b) (by omega) (by omega)
  omega
theorem not_range {x f : Int} (h0 : 0 ≤ x) (h1 : x ≤ 255) : 0 ≤ bits .andNot .i64 x f ∧ bits .andNot .i64 x f ≤ 255 := by
  obtain ⟨a, rfl⟩ : ∃ k : Nat, x = k := ⟨x.toNat, by omega⟩
  show 0 ≤ IntKind.i64.wrap ((BitVec.ofInt 64 (a : Int) &&& ~~~BitVec.ofInt 64 f).toNat : Int) ∧ IntKind.i64.wrap ((BitVec.ofInt 64 (a : Int) &&& ~~~BitVec.ofInt 64 f).toNat : Int) ≤ 255
  rw [BitVec.toNat_and, ofInt_u64 a (by omega), IntKind.wrap_i64]
  have := Nat.and_le_left (n := a) (m := (~~~BitVec.ofInt 64 f).toNat)
  omega
theorem flagL_range (k : Nat) : 0 ≤ flagL.getD k 0 ∧ flagL.getD k 0 ≤ 255 := by
  by_cases h : k < 10
  · revert k; decide
  · rw [List.getD_eq_getElem?_getD, List.getElem?_eq_none (by show 10 ≤ k; omega)]; decide
theorem set_right {a : At} (h : rightA a = true) (fore : Bool) {c : Int} (hc : rightI c = true) : rightA (a.set fore c) = true := by
  rw [rightA_iff] at h ⊢
  unfold At.set
  split
  · exact ⟨hc, h.2.1, h.2.2⟩
  · exact ⟨h.1, hc, h.2.2⟩
theorem longA_right {a : At} (h : rightA a = true) (fore : Bool) (l : List Int) : rightA (longA a fore l) = true := by
  unfold longA
  split
  · split
    · rename_i hb
      obtain ⟨h0, h1⟩ := isB_iff.1 hb
      exact set_right h _ (rightI_pal h0 h1)
    · exact h
  · split
    · split
      · rename_i hb
        rw [Bool.and_eq_true, Bool.and_eq_true] at hb
        obtain ⟨p0, p1⟩ := isB_iff.1 hb.1
        obtain ⟨p2, p3⟩ := isB_iff.1 hb.2.1
        obtain ⟨p4, p5⟩ := isB_iff.1 hb.2.2
        exact set_right h _ (rightI_dir p0 p1 p2 p3 p4 p5)
      · exact h
    · exact h
theorem oneA_right {a : At} (h : rightA a = true) (n : Int) : rightA (oneA a n) = true := by
  have hz : rightI 0 = true := by decide
  have h' := rightA_iff.1 h
  unfold oneA
  split
  · decide
  split
  · exact rightA_iff.2 ⟨h'.1, h'.2.1, or_range h'.2.2.1 h'.2.2.2 (flagL_range _).1 (flagL_range _).2⟩
  split
  · exact rightA_iff.2 ⟨h'.1, h'.2.1, not_range h'.2.2.1 h'.2.2.2⟩
  split
  · exact rightA_iff.2 ⟨h'.1, h'.2.1, not_range h'.2.2.1 h'.2.2.2⟩
  split
  · exact rightA_iff.2 ⟨rightI_pal (by omega) (by omega), h'.2.1, h'.2.2⟩
  split
  · exact rightA_iff.2 ⟨hz, h'.2.1, h'.2.2⟩
  split
  · exact rightA_iff.2 ⟨h'.1, rightI_pal (by omega) (by omega), h'.2.2⟩
  split
  · exact rightA_iff.2 ⟨h'.1, hz, h'.2.2⟩
  split
  · exact rightA_iff.2 ⟨rightI_pal (by omega) (by omega), h'.2.1, h'.2.2⟩
  split
  · exact rightA_iff.2 ⟨h'.1, rightI_pal (by omega) (by omega), h'.2.2⟩
  exact h
theorem stepA_right {a : At} (h : rightA a = true) (l : List Int) : rightA (stepA a l) = true := by
  unfold stepA
  split
  · exact longA_right h _ _
  split
  · exact longA_right h _ _
  · exact oneA_right h _
theorem runA_right (k : Nat) {a : At} (h : rightA a = true) (l : List Int) : rightA (runA k a l) = true := by
  induction k generalizing a l with
  | zero => exact h
  | succ k ih =>
    unfold runA
    split
    · exact h
    · exact ih (stepA_right h _) _
theorem applyA_right {a : At} (h : rightA a = true) (l : List Int) : rightA (applyA a l) = true := by
  unfold applyA
  split
  · decide
  · exact runA_right _ h _
theorem applyA_wf {a : At} (ha : a.Wf) (l : List Int) : (applyA a l).Wf := by
  unfold applyA
  split
  · exact At.zero_wf
  · exact runA_wf _ ha _
end Go.Proofs.YtjfmebjjdiodbaaDoor
