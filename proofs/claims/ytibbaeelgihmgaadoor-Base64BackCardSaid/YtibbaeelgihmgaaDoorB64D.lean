/-
  Contracts of package base64: bytes that go out.
-/
import Derived.Test.YtibbaeelgihmgaaDoorB64C
import Derived.Test.YtibbaeelgihmgaaDoorGrow
namespace Go.Proofs.YtibbaeelgihmgaaDoor
open Go Go.RowKit

theorem outN_take (v n j : Nat) (hj : j < 6 * n / 8) : (outN v n).take (j + 1) = (outN v n).take j ++ [UInt8.ofNat (v / 2 ^ (6 * n - 8 * (j + 1)))] := by
  have hl : j < (outN v n).length := by rw [outN_length]; exact hj
  rw [List.take_succ_eq_append_getElem hl]
  simp [outN]

theorem three_only (w : World) (g : Nat) (a b c : Value) : Only [g] w (((w.setCell ⟨g, 0, none⟩ a).setCell ⟨g, 1, none⟩ b).setCell ⟨g, 2, none⟩ c) :=
  (((Only.refl [g] w).setCell (by simp) _).setCell (by simp) _).setCell (by simp) _

set_option maxHeartbeats 1000000 in
theorem pour_any (g : Nat) (s : St) (v : Value) (l : List UInt8) (w : World) (h : De w g s) (h6 : ∀ c ∈ s.cs, six c.toNat < 64) (hl : s.cs.length ≤ 4) (B : Nat) (hB : B ≤ w.heap.size) (hown : w.ownsRow B 5 1 v l.length (bvals l)) (hroom : l.length ≤ 140737488355300) :
    Calls Tryd.prog 23 #[.pointer (some ⟨g, 0, none⟩), v] w fun e w' =>
      ∃ v', e = .returned v' ∧ w'.ownsRow B 5 1 v' (l ++ outOf s.cs).length (bvals (l ++ outOf s.cs)) ∧ De w' g ⟨[], 0, s.shut, s.bad⟩ ∧ Since [g] w v w' v' := by
  obtain ⟨⟨c0, c1, c2, c3, c4⟩, f0, f1, f2, f3, f4⟩ := h.facts
  have hv := V_lt4 h6 hl
  have H := hide (And.intro h hown)
  obtain ⟨A0, cap0, rfl, _, _⟩ := own_shape hown
  clear h hown h6 c2 c3 c4 f0 f1 f2 f3 f4
  unfold outOf
  have hst : ∀ w, De w g s → De (((w.setCell ⟨g, 0, none⟩ (.int .u32 0)).setCell ⟨g, 1, none⟩ (.int .i64 0)).setCell ⟨g, 2, none⟩ (.int .i64 0)) g ⟨[], 0, s.shut, s.bad⟩ := fun w h => ((Has.set h 0 _).set 1 _).set 2 _
  have HS := hide hst
  have hfa := hide (fun w (h : De w g s) => h.facts)
  clear hst
  generalize V s.cs = x at *
  generalize s.cs.length = n at *
  obtain ⟨i0, hi0, hz0, hz1, hz2⟩ := info_of u8_info
  go_enter Tryd.func23, Tryd.ntmps23
  go_wp2_with fail
  go_loopw [1, 5] (fun o t wr => ∃ (j : Nat) (vr : Value), j ≤ 6 * n / 8 ∧ t = .int .i64 (6 * n - 8 * j : Nat) ∧ o = vr ∧ wr.ownsRow B 5 1 vr (l ++ (outN x n).take j).length (bvals (l ++ (outN x n).take j)) ∧ De wr g s ∧ Since [g] w (.slice A0 l.length cap0) wr vr) (fun _ t _ => (intOf t).toNat)
  case atStart => exact ⟨0, _, Nat.zero_le _, by go_num, rfl, by simpa using H.out.2, H.out.1, Since.refl _ _ _⟩
  case round =>
    obtain ⟨j, vr, hj, rfl, rfl, hownr, hde, hsi⟩ := hrel
    obtain ⟨⟨c0, c1, c2, c3, c4⟩, f0, f1, f2, f3, f4⟩ := hfa.out wr hde
    clear c1 c3 c4 f3 f4
    by_cases hlt : j < 6 * n / 8
    · obtain ⟨q, hq⟩ : ∃ q, 6 * n - 8 * j = q + 8 := ⟨6 * n - 8 * j - 8, by omega⟩
      have hq2 : 6 * n - 8 * (j + 1) = q := by omega
      have hq24 : q ≤ 16 := by omega
      have htk := outN_take x n j hlt
      have hlen : (l ++ (outN x n).take j).length = l.length + j := by rw [List.length_append, List.length_take, outN_length]; omega
      rw [hq2] at htk
      rw [hq]
      rw [hlen] at hownr
      obtain ⟨A1, cc1, rfl, _, _⟩ := own_shape hownr
      obtain ⟨y, hy⟩ : ∃ y, y = x / 2 ^ q := ⟨_, rfl⟩
      have hylt : y < 16777216 := by rw [hy]; exact Nat.lt_of_le_of_lt (Nat.div_le_self _ _) hv
      rw [← hy] at htk
      have hyI : (x : Int) / 2 ^ q = (y : Int) := by rw [hy, ← two_pow_cast]; rfl
      obtain ⟨bt, hbt⟩ : ∃ b : UInt8, b = UInt8.ofNat y := ⟨_, rfl⟩
      have e8 : IntKind.u8.wrap (y : Int) = (bt.toNat : Int) := by rw [IntKind.wrap_u8, hbt, UInt8.toNat_ofNat']; omega
      have e8' : (y : Int) % 256 = (bt.toNat : Int) := by rw [hbt, UInt8.toNat_ofNat']; omega
      rw [← hbt] at htk
      have HT := hide (And.intro htk (And.intro hlen (And.intro hq hq2)))
      have hone : ∀ u ∈ [Value.int .u8 (bt.toNat : Int)], u.oneCell' = true := by simp [Value.oneCell']
      have hrm : (l.length + j + 1) * 1 ≤ 140737488355328 := by omega
      have hnew : Holds (wr.alloc (.cells #[.int .u8 (bt.toNat : Int)] 5)) 1 (some ⟨wr.heap.size, 0, none⟩) 1 [.int .u8 (bt.toNat : Int)] := Holds.lit wr #[.int .u8 (bt.toNat : Int)] 5
      have hold : (wr.alloc (.cells #[.int .u8 (bt.toNat : Int)] 5)).ownsRow B 5 1 (.slice A1 (l.length + j) cc1) (l.length + j) (bvals (l ++ (outN x n).take j)) := hownr.alloc _
      have hne := own_ne hownr hde (by decide)
      have HE := hide (And.intro hde (And.intro hsi (And.intro hne hrm)))
      have hBr : B ≤ (wr.alloc (.cells #[.int .u8 (bt.toNat : Int)] 5)).heap.size := by have := hsi.only.size; simp; omega
      have HB := hide hBr
      clear hBr
      have HN := hide (And.intro hnew (And.intro hold hone))
      clear htk hlen hy hbt hq hq2 c2 f0 f1 f2 hownr hde hsi hnew hold hone hrm hne
      go_wp2_with (at_builtin; refine list_append _ rfl (.tmp 15) (.tmp 23) 28 rfl B 1 1 Tryd.underlying28 hi0 hz0 hz1 hz2 rfl (Nat.zero_lt_one) HN.out.2.1 rfl HN.out.1 rfl HN.out.2.2 HE.out.2.2.2 (Nat.zero_lt_one) HB.out ?_; intro A2 cc2 w1 hown1 hgrow hat; have H1 := hide (And.intro hown1 (And.intro hgrow hat)); clear hown1 hgrow hat)
      go_roundw
      case rel =>
        obtain ⟨hown1, hgrow, hat⟩ := H1.out
        refine ⟨j + 1, _, hlt, ?_, rfl, ?_, ?_, ?_⟩
        · rw [HT.out.2.2.2]
        · rw [HT.out.1, ← List.append_assoc, bvals_append, List.length_append, HT.out.2.1]
          exact hown1
        · exact (Has.alloc HE.out.1 _).grown hgrow HE.out.2.2.1
        · exact HE.out.2.1.grown hgrow hat
      case measure => simp [intOf]; omega
    · obtain rfl : j = 6 * n / 8 := by omega
      have h8 : ¬ (8 : Int) ≤ ((6 * n - 8 * (6 * n / 8) : Nat) : Int) := by omega
      obtain ⟨q, hq⟩ : ∃ q, 6 * n - 8 * (6 * n / 8) = q := ⟨_, rfl⟩
      rw [hq] at h8 ⊢
      have htk : (outN x n).take (6 * n / 8) = outN x n := List.take_of_length_le (by rw [outN_length]; omega)
      rw [htk, List.length_append] at hownr
      obtain ⟨A1, cc1, rfl, _, _⟩ := own_shape hownr
      have hne := own_ne hownr hde (by decide)
      have c1 : wr.cell? ⟨g, 1, none⟩ = some (.int .i64 n) := by have := (hfa.out wr hde).1.2.1; exact this
      have HE := hide (And.intro hde (And.intro hsi (And.intro hne hownr)))
      clear hde hsi hne hownr htk hlt hq
      go_wp2_with fail
      go_ret
      refine ⟨_, rfl, ?_, HS.out wr HE.out.1, HE.out.2.1.step (three_only wr g _ _ _)⟩
      have hb := HE.out.2.2.1
      exact ownsRow_setCell_other (ownsRow_setCell_other (ownsRow_setCell_other HE.out.2.2.2 (a := ⟨g, 0, none⟩) (fun h => hb h.symm) _) (a := ⟨g, 1, none⟩) (fun h => hb h.symm) _) (a := ⟨g, 2, none⟩) (fun h => hb h.symm) _
end Go.Proofs.YtibbaeelgihmgaaDoor
