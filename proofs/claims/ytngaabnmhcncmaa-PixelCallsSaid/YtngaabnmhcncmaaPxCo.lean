/-
  Package pixel: columns.
-/
import Derived.Test.YtngaabnmhcncmaaPxCt
namespace Go.Proofs.Ytngaabnmhcncmaa
open Go Go.RowKit

/-- Where in a row of P pixels those of a row of w stand. -/
def colN (P w x : Nat) : Nat := 4 * (x * P / w)
theorem div_scale {x P w : Nat} (h : x < w) (hP : 0 < P) : x * P / w < P := by
  refine Nat.div_lt_of_lt_mul ?_
  exact Nat.mul_lt_mul_of_pos_right h hP
theorem i64_info : (Try.prog.info? 3).map (fun i => (i.zero, i.size, i.bytes)) = some (some (.int .i64 0), 1, 8) := by kernel_rfl
theorem izeros_eq (m : Nat) : madeCells #[.int .i64 0] m = (ivals (List.replicate m 0)).toArray := by
  apply Array.ext'
  rw [toList_madeCells_one]
  simp [ivals]

set_option maxRecDepth 100000 in
set_option maxHeartbeats 4000000 in
theorem columns_any (P n : Nat) (w : World) (hP : P ≤ 16384) (hn : n ≤ 16384) :
    Calls Try.prog 56 #[.int .i64 (P : Int), .int .i64 (n : Int)] w fun e w' => ∃ g zs, e = .returned (.slice (some ⟨g, 0, none⟩) n n) ∧ w.heap.size ≤ g ∧ zs.length = n ∧ (∀ x, x < n → zs[x]? = some (colN P n x : Int)) ∧
      w'.ownsRow w.heap.size 3 1 (.slice (some ⟨g, 0, none⟩) n n) n (ivals zs) ∧ Only [] w w' := by
  have hmk : ∀ W : World, (Instr.makeSlice 84 (.int .i64 (n : Int)) (.int .i64 (n : Int))).run Try.prog W = .ok (.slice (some ⟨W.heap.size, 0, none⟩) n n) (W.alloc (.cells (ivals (List.replicate n 0)).toArray 3)) := by
    intro W
    have h := run_make_row' (P := Try.prog) 84 3 (.int .i64 0) 8 Try.underlying84 i64_info rfl .i64 .i64 n (by omega) (by omega) W
    rw [h, izeros_eq]
  go_enter Try.func56, Try.ntmps56
  go_wp2_with fail
  have hown : (w.alloc (.cells (ivals (List.replicate n 0)).toArray 3)).ownsRow w.heap.size 3 1 (.slice (some ⟨w.heap.size, 0, none⟩) n n) n (ivals (List.replicate n 0)) :=
    ⟨by simp [ivals], .inr ⟨w.heap.size, n, (ivals (List.replicate n 0)).toArray, rfl, Nat.le_refl _, Has.new w _ _, Nat.le_refl _, by unfold maxLen; omega, by simp [ivals], List.take_of_length_le (by simp [ivals])⟩⟩
  have HO := hide hown
  clear hown hmk
  go_loopw [11] (fun i wr => ∃ (k : Nat) (zs : List Int), k ≤ n ∧ i = .int .i64 k ∧ zs.length = n ∧ (∀ x, x < k → zs[x]? = some (colN P n x : Int)) ∧ wr.ownsRow w.heap.size 3 1 (.slice (some ⟨w.heap.size, 0, none⟩) n n) n (ivals zs) ∧ Only [] w wr) (fun i _ => n - (intOf i).toNat)
  case atStart => exact ⟨0, List.replicate n 0, Nat.zero_le _, rfl, by simp, fun x hx => absurd hx (Nat.not_lt_zero _), HO.out, (Only.refl [] w).alloc _⟩
  case round =>
    obtain ⟨k, zs, hk, rfl, hzl, hzs, how, ho⟩ := hrel
    by_cases hlt : k < n
    · obtain ⟨g', hg', _, hgl, hfr, hcell⟩ := own_open how (by omega)
      obtain rfl : w.heap.size = g' := by injection hg' with h; injection h
      obtain ⟨D, hD⟩ : ∃ D, D = k * P := ⟨_, rfl⟩
      have m1 : (k : Int) * (P : Int) = (D : Int) := by rw [hD]; exact (Int.natCast_mul k P).symm
      have hDle : D ≤ 16384 * 16384 := by rw [hD]; exact Nat.mul_le_mul (by omega) hP
      obtain ⟨q, hq⟩ : ∃ q, q = D / n := ⟨_, rfl⟩
      have m2 : (D : Int) / (n : Int) = (q : Int) := by rw [hq]; exact (Int.natCast_ediv D n).symm
      have hqle : q ≤ D := by rw [hq]; exact Nat.div_le_self _ _
      have V1 := hide (wr_nat (z := (D : Int)) (n := D) rfl (by omega))
      have V2 := hide (wr_nat (z := (q : Int) * 4) (n := 4 * q) (by omega) (by omega))
      have V3 := hide (wr_nat (z := (q : Int)) (n := q) rfl (by omega))
      have hzk : ∃ z : Int, zs[k]? = some z := ⟨zs[k]'(by omega), by simp [hzl, hlt]⟩
      obtain ⟨z, hz⟩ := hzk
      have k2 := hcell k (.int .i64 z) (by unfold ivals; rw [List.getElem?_map, hz]; rfl)
      have f2 := hfr k
      have hset := own_set how k (.int .i64 ((4 * q : Nat) : Int))
      rw [show (ivals zs).set k (.int .i64 ((4 * q : Nat) : Int)) = ivals (zs.set k ((4 * q : Nat) : Int)) by unfold ivals; rw [List.map_set]] at hset
      have hnew : ∀ x, x < k + 1 → (zs.set k ((4 * q : Nat) : Int))[x]? = some (colN P n x : Int) := fun x hx => by
        by_cases e : x = k
        · subst e
          rw [List.getElem?_set_self (by omega)]
          unfold colN
          rw [hq, hD]
        · rw [List.getElem?_set_ne (Ne.symm e)]; exact hzs x (by omega)
      have HS := hide (And.intro hset (And.intro hnew (And.intro ho hzl)))
      have i1 : (k : Int) < (n : Int) := by omega
      have i0 : ¬ (n : Int) = 0 := by omega
      have hkn : k ≤ 16384 := by omega
      obtain ⟨v1, y1⟩ := V1.out
      obtain ⟨v2, y2⟩ := V2.out
      obtain ⟨v3, y3⟩ := V3.out
      clear hset hnew ho hzl hzs how hfr hcell hz hq hD hDle hqle V1 V2 V3 hgl
      go_wp2_with fail
      go_roundw
      case rel => exact ⟨k + 1, _, hlt, by go_num, by rw [List.length_set]; exact HS.out.2.2.2, HS.out.2.1, HS.out.1, HS.out.2.2.1.setCell (by simp) _⟩
      case measure => simp [intOf]; omega
    · obtain rfl : k = n := by omega
      have HS := hide (And.intro hzl (And.intro hzs (And.intro how ho)))
      clear hzl hzs how ho hlt
      go_wp2_with fail
      go_ret
      exact ⟨w.heap.size, zs, rfl, Nat.le_refl _, HS.out.1, HS.out.2.1, HS.out.2.2.1, HS.out.2.2.2⟩
end Go.Proofs.Ytngaabnmhcncmaa
