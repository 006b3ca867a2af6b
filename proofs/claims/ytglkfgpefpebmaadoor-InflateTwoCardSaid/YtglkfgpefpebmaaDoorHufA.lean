/-
  Package huff: codes counted by their lengths, held against all that there is.
-/
import Derived.Test.YtglkfgpefpebmaaDoorProg
import Derived.Test.YtglkfgpefpebmaaDoorHBits
import Derived.Test.YtglkfgpefpebmaaDoorHufM
import Derived.Laws.Tables
import Derived.Laws.StructEq
namespace Go.Proofs.YtglkfgpefpebmaaDoor
open Go Go.RowKit

/-- A tally's cells. -/
def tcells (c : Nat → Nat) : Array Value := ((List.range 16).map fun i => Value.int .i64 (c i : Int)).toArray
theorem tcells_size (c : Nat → Nat) : (tcells c).size = 16 := by simp [tcells]
theorem tcells_get (c : Nat → Nat) {i : Nat} (hi : i < 16) : (tcells c)[i]? = some (.int .i64 (c i : Int)) := by simp [tcells, hi]
theorem tcells_congr {c d : Nat → Nat} (h : ∀ i, i < 16 → c i = d i) : tcells c = tcells d := by
  apply Array.ext_getElem?
  intro i
  by_cases hi : i < 16
  · rw [tcells_get c hi, tcells_get d hi, h i hi]
  · rw [Array.getElem?_eq_none (by rw [tcells_size]; omega), Array.getElem?_eq_none (by rw [tcells_size]; omega)]
theorem tcells_set (c d : Nat → Nat) (n x : Nat) (hn : n < 16) (h1 : d n = x) (h2 : ∀ i, i < 16 → i ≠ n → d i = c i) : (tcells c).setIfInBounds n (.int .i64 (x : Int)) = tcells d := by
  apply Array.ext_getElem?
  intro i
  rw [Array.getElem?_setIfInBounds, tcells_size]
  by_cases hi : i < 16
  · rw [tcells_get c hi, tcells_get d hi]
    by_cases h : n = i
    · subst h; rw [if_pos rfl, if_pos hi, h1]
    · rw [if_neg h, h2 i hi (fun e => h e.symm)]
  · rw [Array.getElem?_eq_none (by rw [tcells_size]; omega), Array.getElem?_eq_none (by rw [tcells_size]; omega)]
    rw [if_neg (by omega)]
theorem tcells_one (c : Nat → Nat) : (tcells c).all (·.oneCell') = true := by
  rw [Array.all_eq_true_iff_forall_mem]
  intro v hv
  simp [tcells] at hv
  obtain ⟨a, _, rfl⟩ := hv
  rfl

theorem tooLong_any (b : Nat) (w : World) : Calls Tryd.prog 56 #[.int .u8 (b : Int)] w fun e w' => e = .returned (.bool (decide (15 < b))) ∧ w = w' := by
  go_enter Tryd.func56, Tryd.ntmps56
  go_wp2
  go_ret
  exact ⟨ret_bool (by simp; omega), rfl⟩

set_option maxHeartbeats 1000000 in
theorem count_any (A : Option Addr) (n c : Nat) (l : List UInt8) (w : World) (hb : Holds w 1 A n (bvals l)) (hl : l.length = n) (hn : n ≤ 140737488355328) :
    Calls Tryd.prog 57 #[.slice A n c] w fun e w' => e = .returned (.agg (tcells (cn l))) ∧ Only [] w w' := by
  subst hl
  have HT := hide tooLong_any
  have HB := hide hb
  clear hb
  go_enter Tryd.func57, Tryd.ntmps57
  go_wp2
  go_loopw [8] (fun i wr => ∃ (j : Nat) (old : Array Value), j ≤ l.length ∧ i = .int .i64 j ∧ old.size = 16 ∧ Has wr w.heap.size 99 old ∧ Has wr (w.heap.size + 1) 99 (tcells (rk l j)) ∧ Only [] w wr) (fun i _ => l.length - (intOf i).toNat)
  case atStart =>
    refine ⟨0, _, Nat.zero_le _, rfl, ?_, (Has.new w _ _).alloc _, ?_, ((Only.refl [] w).alloc _).alloc _⟩
    · rfl
    · have := Has.new (w.alloc (.cells #[.int .i64 0, .int .i64 0, .int .i64 0, .int .i64 0, .int .i64 0, .int .i64 0, .int .i64 0, .int .i64 0, .int .i64 0, .int .i64 0, .int .i64 0, .int .i64 0, .int .i64 0, .int .i64 0, .int .i64 0, .int .i64 0] 99)) 99 (tcells fun _ => 0)
      rw [World.size_alloc] at this
      rw [tcells_congr (c := rk l 0) (d := fun _ => 0) (fun i _ => rk_zero l i)]
      exact this
  case round =>
    obtain ⟨j, old, hj, rfl, hos, h0, h1, ho⟩ := hrel
    by_cases hlt : j < l.length
    · obtain ⟨b, o, rfl, hc2⟩ := (HB.out.keep ho (by simp)).addr (by simpa using (show 0 < l.length by omega))
      have hcell : wr.cell? ⟨b, o + j, none⟩ = some (.int .u8 (l[j].toNat : Int)) := hc2 j _ (bvals_get l j hlt)
      have hx := l[j].toNat_lt
      have hR := fun m => rk_succ (l := l) hlt m
      rw [ln_get hlt] at hR
      clear hc2
      generalize l[j].toNat = x at *
      have HR := hide hR
      clear hR
      by_cases hx0 : x = 0
      · subst hx0
        have e : tcells (rk l (j + 1)) = tcells (rk l j) := tcells_congr (fun i _ => by rw [HR.out, if_neg (by omega)]; rfl)
        have H1 := hide (And.intro h0 (And.intro h1 ho))
        have HE := hide e
        clear h0 h1 ho e HR
        go_wp2_with fail
        go_roundw
        case rel => exact ⟨j + 1, old, hlt, by go_num, hos, H1.out.1, by rw [HE.out]; exact H1.out.2.1, H1.out.2.2⟩
        case measure => simp [intOf]; omega
      · have hx1 : 0 < x := by omega
        by_cases hx15 : 15 < x
        · have e : tcells (rk l (j + 1)) = tcells (rk l j) := tcells_congr (fun i _ => by rw [HR.out, if_neg (by omega)]; rfl)
          have H1 := hide (And.intro h0 (And.intro h1 ho))
          have HE := hide e
          have hd : decide (15 < x) = true := by simpa using hx15
          clear h0 h1 ho e HR
          go_wp2_with fail
          refine (HT.out x wr).mono ?_
          rintro e w1 ⟨rfl, rfl⟩
          rw [hd]
          go_wp2_with fail
          go_roundw
          case rel => exact ⟨j + 1, old, hlt, by go_num, hos, H1.out.1, by rw [HE.out]; exact H1.out.2.1, H1.out.2.2⟩
          case measure => simp [intOf]; omega
        · have hx16 : x < 16 := by omega
          have hd : decide (15 < x) = false := by simpa using hx15
          have c1 : wr.cell? ⟨w.heap.size + 1, x, none⟩ = some (.int .i64 (rk l j x : Nat)) := by rw [h1.cell, tcells_get _ hx16]
          have f1 : wr.frozen? ⟨w.heap.size + 1, x, none⟩ = false := h1.free x
          have hr1 : rk l j x ≤ l.length := by
            have h2 := rk_mono (l := l) hj x
            rw [rk_all (Nat.le_refl _)] at h2
            have h3 : cn l x ≤ l.length := by unfold cn; split; exact Nat.zero_le _; exact List.countP_le_length
            omega
          have e : (tcells (rk l j)).setIfInBounds x (.int .i64 ((rk l j x + 1 : Nat) : Int)) = tcells (rk l (j + 1)) :=
            tcells_set _ _ x _ hx16 (by rw [HR.out, if_pos ⟨rfl, hx0⟩]) (fun i _ hne => by rw [HR.out, if_neg (by omega)]; rfl)
          have a := h1.set x (.int .i64 ((rk l j x + 1 : Nat) : Int))
          rw [e] at a
          have a0 := h0.other (p := ⟨w.heap.size + 1, x, none⟩) (by simp) (.int .i64 ((rk l j x + 1 : Nat) : Int))
          have ao := ho.setCell (p := ⟨w.heap.size + 1, x, none⟩) (by simp) (.int .i64 ((rk l j x + 1 : Nat) : Int))
          have H1 := hide (And.intro a0 (And.intro a ao))
          clear h0 h1 ho e HR a a0 ao
          generalize rk l j x = y at *
          go_wp2_with fail
          refine (HT.out x wr).mono ?_
          rintro e w1 ⟨rfl, rfl⟩
          rw [hd]
          go_wp2_with fail
          go_roundw
          case rel => exact ⟨j + 1, old, hlt, by go_num, hos, H1.out.1, H1.out.2.1, H1.out.2.2⟩
          case measure => simp [intOf]; omega
    · obtain rfl : j = l.length := by omega
      rw [tcells_congr (c := rk l l.length) (d := cn l) (fun i _ => rk_all (Nat.le_refl _) i)] at h1
      have H1 := hide h1
      have H0 := hide h0
      have HO := hide ho
      clear h0 h1 ho hlt
      go_wp2_with (first
        | (refine wpList_load_row rfl 99 (.tmp 3) rfl (w.heap.size + 1) rfl 99 (tcells (cn l)) (0, 0) _ H1.out Tryd.underlying99 rfl (by kernel_rfl) ?_)
        | (refine list_store_row rfl 99 (.tmp 2) (.tmp 25) rfl w.heap.size (tcells (cn l)) rfl rfl 99 old H0.out (by kernel_rfl) (by rw [tcells_size]; exact hos) (tcells_one _) ?_))
      have hr := H0.out.setRow (tcells (cn l))
      refine bodyPost_ret (results_cell_row Tryd.results57 _ _ w.heap.size 99 (tcells (cn l)) (0, 0) _ rfl hr Tryd.underlying99 rfl (by kernel_rfl)) rfl ⟨rfl, HO.out.setRow (by simp) _⟩
end Go.Proofs.YtglkfgpefpebmaaDoor
