/-
  The fixed codes' lengths, by both.
-/
import Derived.Test.YtglkfgpefpebmaaDoorHufY
namespace Go.Proofs.YtglkfgpefpebmaaDoor
open Go Go.RowKit

def fixedL : List UInt8 := List.replicate 144 8 ++ (List.replicate 112 9 ++ (List.replicate 24 7 ++ List.replicate 8 8))
def fixedD : List UInt8 := List.replicate 30 5
theorem fixedL_len : fixedL.length = 288 := by decide +kernel
theorem fixedD_len : fixedD.length = 30 := by decide +kernel

/-- The first i of a list, and zeros behind. -/
def upTo (L : List UInt8) (i : Nat) : List UInt8 := L.take i ++ List.replicate (L.length - i) 0
theorem upTo_length (L : List UInt8) (i : Nat) (h : i ≤ L.length) : (upTo L i).length = L.length := by unfold upTo; simp; omega
theorem upTo_zero (L : List UInt8) : upTo L 0 = List.replicate L.length 0 := by simp [upTo]
theorem upTo_all (L : List UInt8) : upTo L L.length = L := by simp [upTo]
theorem upTo_set (L : List UInt8) (i b : Nat) (h : i < L.length) (hb : L[i].toNat = b) : (bvals (upTo L i)).toArray.setIfInBounds i (.int .u8 (b : Int)) = (bvals (upTo L (i + 1))).toArray := by
  have hb2 : b < 256 := by rw [← hb]; exact L[i].toNat_lt
  rw [List.setIfInBounds_toArray, bvals_set _ _ _ hb2]
  congr 2
  unfold upTo
  have e : UInt8.ofNat b = L[i] := by rw [← hb]; simp
  rw [e, List.set_append_right _ _ (by rw [List.length_take]; omega), List.length_take, Nat.min_eq_left (by omega), Nat.sub_self]
  obtain ⟨q, hq⟩ : ∃ q, L.length - i = q + 1 := ⟨L.length - i - 1, by omega⟩
  rw [hq, List.replicate_succ, List.set_cons_zero, take_snoc h, List.append_assoc, show L.length - (i + 1) = q by omega]
  rfl

theorem fixedL_all : ((List.range 288).all fun i => (fixedL[i]?).map (·.toNat) == some (if i < 144 then 8 else if i < 256 then 9 else if i < 280 then 7 else 8)) = true := by decide +kernel
theorem fixedL_get {i : Nat} (h : i < 288) (h' : i < fixedL.length) : fixedL[i].toNat = if i < 144 then 8 else if i < 256 then 9 else if i < 280 then 7 else 8 := by
  have := List.all_eq_true.1 fixedL_all i (List.mem_range.2 h)
  rw [beq_iff_eq, List.getElem?_eq_getElem h'] at this
  simpa using this
theorem fixedD_all : ((List.range 30).all fun i => (fixedD[i]?).map (·.toNat) == some 5) = true := by decide +kernel
theorem fixedD_get {i : Nat} (h : i < 30) (h' : i < fixedD.length) : fixedD[i].toNat = 5 := by
  have := List.all_eq_true.1 fixedD_all i (List.mem_range.2 h)
  rw [beq_iff_eq, List.getElem?_eq_getElem h'] at this
  simpa using this

theorem Has.holds {w : World} {g n : Nat} {t : TypeId} {l : List UInt8} (h : Has w g t (bvals l).toArray) (hn : l.length = n) : Holds w 1 (some ⟨g, 0, none⟩) n (bvals l) :=
  ⟨by rw [bvals_length, hn, Nat.mul_one], fun _ => ⟨_, rfl, h.lt, fun j u hu => by rw [add_zero_of, h.cell, List.getElem?_toArray]; exact hu⟩⟩

set_option maxRecDepth 100000 in
set_option maxHeartbeats 8000000 in
theorem tFixed_any (w : World) : Calls Tryd.prog 24 #[] w fun e w' => ∃ g h, e = .returned (.tuple #[.slice (some ⟨g, 0, none⟩) 288 288, .slice (some ⟨h, 0, none⟩) 30 30]) ∧ Holds w' 1 (some ⟨g, 0, none⟩) 288 (bvals fixedL) ∧ Holds w' 1 (some ⟨h, 0, none⟩) 30 (bvals fixedD) ∧ Only [] w w' := by
  have hmk1 : ∀ W : World, (Instr.makeSlice 22 (.int .i64 288) (.int .i64 288)).run Tryd.prog W = .ok (.slice (some ⟨W.heap.size, 0, none⟩) 288 288) (W.alloc (.cells (bvals (upTo fixedL 0)).toArray 5)) := fun W => by
    have h := run_make_row' (P := Tryd.prog) 22 5 (.int .u8 0) 1 Tryd.underlying22 u8_info rfl .i64 .i64 288 (by omega) (by omega) W
    rw [zeros_eq] at h
    rw [upTo_zero, fixedL_len]
    exact h
  have hmk2 : ∀ W : World, (Instr.makeSlice 22 (.int .i64 30) (.int .i64 30)).run Tryd.prog W = .ok (.slice (some ⟨W.heap.size, 0, none⟩) 30 30) (W.alloc (.cells (bvals (upTo fixedD 0)).toArray 5)) := fun W => by
    have h := run_make_row' (P := Tryd.prog) 22 5 (.int .u8 0) 1 Tryd.underlying22 u8_info rfl .i64 .i64 30 (by omega) (by omega) W
    rw [zeros_eq] at h
    rw [upTo_zero, fixedD_len]
    exact h
  go_enter Tryd.func24, Tryd.ntmps24
  go_wp2_with fail
  go_loopw [3] (fun v wr => ∃ i : Nat, i ≤ 288 ∧ v = .int .i64 i ∧ Has wr w.heap.size 5 (bvals (upTo fixedL i)).toArray ∧ Only [] w wr) (fun v _ => 288 - (intOf v).toNat)
  case atStart => exact ⟨0, by omega, rfl, Has.new w _ _, (Only.refl [] w).alloc _⟩
  case round =>
    obtain ⟨i, hi, rfl, hH, ho⟩ := hrel
    by_cases hlt : i < 288
    · have hl := fixedL_len
      have hil : i < fixedL.length := by omega
      have hset := fun (b : Nat) (hb : (fixedL[i]'hil).toNat = b) => upTo_set fixedL i b hil hb
      have hg := fixedL_get hlt hil
      have hlt' : (i : Int) < 288 := by omega
      have hi0 : (0 : Int) ≤ (i : Int) := by omega
      have cu : wr.cell? ⟨w.heap.size, i, none⟩ = some (.int .u8 (((upTo fixedL i)[i]'(by rw [upTo_length _ _ (by omega)]; omega)).toNat : Int)) := by
        rw [hH.cell, List.getElem?_toArray, bvals_get _ _ (by rw [upTo_length _ _ (by omega)]; omega)]
      have fu : wr.frozen? ⟨w.heap.size, i, none⟩ = false := hH.free i
      generalize ((upTo fixedL i)[i]'(by rw [upTo_length _ _ (by omega)]; omega)).toNat = old at cu
      have hst : ∀ b : Nat, (fixedL[i]'hil).toNat = b → Has (wr.setCell ⟨w.heap.size, i, none⟩ (.int .u8 (b : Int))) w.heap.size 5 (bvals (upTo fixedL (i + 1))).toArray ∧ Only [] w (wr.setCell ⟨w.heap.size, i, none⟩ (.int .u8 (b : Int))) := fun b hb => by
        have := hH.set i (.int .u8 (b : Int))
        rw [hset b hb] at this
        exact ⟨this, ho.setCell (by simp) _⟩
      have hcase : (i < 144 ∧ (fixedL[i]'hil).toNat = 8) ∨ (144 ≤ i ∧ i < 256 ∧ (fixedL[i]'hil).toNat = 9) ∨ (256 ≤ i ∧ i < 280 ∧ (fixedL[i]'hil).toNat = 7) ∨ (280 ≤ i ∧ (fixedL[i]'hil).toNat = 8) := by
        rw [hg]
        by_cases h1 : i < 144
        · exact .inl ⟨h1, if_pos h1⟩
        · rw [if_neg h1]
          by_cases h2 : i < 256
          · exact .inr (.inl ⟨by omega, h2, if_pos h2⟩)
          · rw [if_neg h2]
            by_cases h3 : i < 280
            · exact .inr (.inr (.inl ⟨by omega, h3, if_pos h3⟩))
            · exact .inr (.inr (.inr ⟨by omega, if_neg h3⟩))
      have HS := hide hst
      clear hset hg hst hH ho hl hmk1 hmk2
      rcases hcase with ⟨h1, hv⟩ | ⟨h1, h2, hv⟩ | ⟨h1, h2, hv⟩ | ⟨h1, hv⟩
      · have a1 : (i : Int) < 144 := by omega
        have H2 := hide (HS.out 8 hv)
        clear hv HS h1
        go_wp2_with fail
        go_roundw
        case rel => exact ⟨i + 1, hlt, by go_num, H2.out.1, H2.out.2⟩
        case measure => simp [intOf]; omega
      · have a1 : ¬ (i : Int) < 144 := by omega
        have a2 : (i : Int) < 256 := by omega
        have H2 := hide (HS.out 9 hv)
        clear hv HS h1 h2
        go_wp2_with fail
        go_roundw
        case rel => exact ⟨i + 1, hlt, by go_num, H2.out.1, H2.out.2⟩
        case measure => simp [intOf]; omega
      · have a1 : ¬ (i : Int) < 144 := by omega
        have a2 : ¬ (i : Int) < 256 := by omega
        have a3 : (i : Int) < 280 := by omega
        have H2 := hide (HS.out 7 hv)
        clear hv HS h1 h2
        go_wp2_with fail
        go_roundw
        case rel => exact ⟨i + 1, hlt, by go_num, H2.out.1, H2.out.2⟩
        case measure => simp [intOf]; omega
      · have a1 : ¬ (i : Int) < 144 := by omega
        have a2 : ¬ (i : Int) < 256 := by omega
        have a3 : ¬ (i : Int) < 280 := by omega
        have H2 := hide (HS.out 8 hv)
        clear hv HS h1
        go_wp2_with fail
        go_roundw
        case rel => exact ⟨i + 1, hlt, by go_num, H2.out.1, H2.out.2⟩
        case measure => simp [intOf]; omega
    · obtain rfl : i = 288 := by omega
      have hfull : Has wr w.heap.size 5 (bvals fixedL).toArray := by
        have := hH
        rw [show (288 : Nat) = fixedL.length from fixedL_len.symm, upTo_all] at this
        exact this
      have HF := hide (And.intro hfull ho)
      clear hH ho hfull hmk1
      generalize wr = wq at *
      go_wp2_with fail
      go_loopw [5] (fun v w2 => ∃ i : Nat, i ≤ 30 ∧ v = .int .i64 i ∧ Has w2 wq.heap.size 5 (bvals (upTo fixedD i)).toArray ∧ Only [] wq w2) (fun v _ => 30 - (intOf v).toNat)
      case atStart => exact ⟨0, by omega, rfl, Has.new wq _ _, (Only.refl [] wq).alloc _⟩
      case round =>
        obtain ⟨i, hi, rfl, hH, ho⟩ := hrel
        by_cases hlt : i < 30
        · have hl := fixedD_len
          have hset := upTo_set fixedD i 5 (by omega) (fixedD_get hlt (by omega))
          have hlt' : (i : Int) < 30 := by omega
          have hi0 : (0 : Int) ≤ (i : Int) := by omega
          have cu := hH.cell i
          rw [List.getElem?_toArray, bvals_get _ _ (by rw [upTo_length _ _ (by omega)]; omega)] at cu
          have fu := hH.free i
          generalize ((upTo fixedD i)[i]'(by rw [upTo_length _ _ (by omega)]; omega)).toNat = old at cu
          have h5 := hH.set i (.int .u8 ((5 : Nat) : Int))
          rw [hset] at h5
          have H2 := hide (And.intro h5 (ho.setCell (p := ⟨wq.heap.size, i, none⟩) (by simp) (.int .u8 ((5 : Nat) : Int))))
          clear hset hH ho hl h5 hmk2
          go_wp2_with fail
          go_roundw
          case rel => exact ⟨i + 1, hlt, by go_num, H2.out.1, H2.out.2⟩
          case measure => simp [intOf]; omega
        · obtain rfl : i = 30 := by omega
          have hfull2 := hH
          rw [show (30 : Nat) = fixedD.length from fixedD_len.symm, upTo_all] at hfull2
          have H2 := hide (And.intro hfull2 ho)
          clear hH ho hfull2
          go_wp2_with fail
          go_ret2
          exact ⟨_, _, rfl, (Has.holds HF.out.1 fixedL_len).keep H2.out.2 (by simp), Has.holds H2.out.1 fixedD_len, HF.out.2.trans H2.out.2 (by simp)⟩
end Go.Proofs.YtglkfgpefpebmaaDoor
