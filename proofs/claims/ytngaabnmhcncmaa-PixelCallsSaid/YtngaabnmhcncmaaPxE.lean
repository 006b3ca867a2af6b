/-
  Package pixel: blank matrices, spots, faults.
-/
import Derived.Test.YtngaabnmhcncmaaPxD
namespace Go.Proofs.Ytngaabnmhcncmaa
open Go Go.RowKit

theorem zeros_eq (m : Nat) : madeCells #[.int .u8 0] m = (bvals (List.replicate m 0)).toArray := by
  apply Array.ext'
  rw [toList_madeCells_one]
  simp [bvals]

theorem own_made (w : World) (t : TypeId) (l : List UInt8) (n : Nat) (hl : l.length = n) (hn : n ≤ 140737488355328) : (w.alloc (.cells (bvals l).toArray t)).ownsRow w.heap.size t 1 (.slice (some ⟨w.heap.size, 0, none⟩) n n) n (bvals l) := by
  subst hl
  refine ⟨by simp, .inr ⟨w.heap.size, l.length, (bvals l).toArray, rfl, Nat.le_refl _, Has.new w t _, Nat.le_refl _, by unfold maxLen; omega, by simp, ?_⟩⟩
  exact List.take_of_length_le (by simp)

set_option maxRecDepth 100000 in
set_option maxHeartbeats 4000000 in
theorem blank_any (W H N : Nat) (w : World) (hN : N = 4 * (W * H)) (hn : N ≤ 140737488355328) :
    Calls Try.prog 43 #[.int .i64 (W : Int), .int .i64 (H : Int)] w fun e w' => ∃ g, e = .returned (mval W H (some ⟨g, 0, none⟩) N N) ∧ w.heap.size ≤ g ∧ w'.ownsRow w.heap.size 5 1 (.slice (some ⟨g, 0, none⟩) N N) N (bvals (List.replicate N 0)) ∧ Only [] w w' := by
  obtain ⟨D, hD⟩ : ∃ D, D = W * H := ⟨_, rfl⟩
  have m1 : (W : Int) * (H : Int) = (D : Int) := by rw [hD]; exact (Int.natCast_mul W H).symm
  rw [← hD] at hN
  have W1 := hide (wr_nat (z := (D : Int)) (n := D) rfl (by omega))
  have W2 := hide (wr_nat (z := (D : Int) * 4) (n := N) (by omega) (by omega))
  have hmk : ∀ W : World, (Instr.makeSlice 22 (.int .i64 (N : Int)) (.int .i64 (N : Int))).run Try.prog W = .ok (.slice (some ⟨W.heap.size, 0, none⟩) N N) (W.alloc (.cells (bvals (List.replicate N 0)).toArray 5)) := by
    intro W
    have h := run_make_row' (P := Try.prog) 22 5 (.int .u8 0) 1 Try.underlying22 u8_info rfl .i64 .i64 N (by omega) (by omega) W
    rw [h, zeros_eq]
  clear hD hN
  obtain ⟨w1, x1⟩ := W1.out
  obtain ⟨w2, x2⟩ := W2.out
  clear W1 W2
  go_enter Try.func43, Try.ntmps43
  go_wp2_with fail
  have hr : Has ((w.alloc (.cells #[.int .i64 (W : Int), .int .i64 (H : Int), .slice (some ⟨w.heap.size + 1, 0, none⟩) N N] 24)).alloc (.cells (bvals (List.replicate N 0)).toArray 5)) w.heap.size 24 #[.int .i64 (W : Int), .int .i64 (H : Int), .slice (some ⟨w.heap.size + 1, 0, none⟩) N N] := (Has.new w _ _).alloc _
  refine bodyPost_ret (results_cell_row Try.results43 _ _ w.heap.size 24 _ (0, 0) _ rfl hr Try.underlying24 rfl (by kernel_rfl)) rfl ⟨w.heap.size + 1, rfl, by omega, ?_, ((Only.refl [] w).alloc _).alloc _⟩
  have h := own_made (w.alloc (.cells #[.int .i64 (W : Int), .int .i64 (H : Int), .slice (some ⟨w.heap.size + 1, 0, none⟩) N N] 24)) 5 (List.replicate N 0) N (by simp) hn
  have e : (w.alloc (.cells #[.int .i64 (W : Int), .int .i64 (H : Int), .slice (some ⟨w.heap.size + 1, 0, none⟩) N N] 24)).heap.size = w.heap.size + 1 := by simp
  rw [e] at h
  exact own_mono h (by omega)

/-- What is wrong with n bytes for these sides, s bytes a pixel. -/
def faultE (W H : Int) (s n : Nat) : Nat := if mayI W H = false then 1 else if (n : Int) < W * H * s then 2 else if W * H * s < (n : Int) then 5 else 0
theorem faultE_ok {W H : Int} {s n : Nat} (h : faultE W H s n = 0) : ∃ x y : Nat, W = x ∧ H = y ∧ mayI W H = true ∧ n = x * y * s := by
  unfold faultE at h
  split at h
  · cases h
  · rename_i hm
    split at h
    · cases h
    · split at h
      · cases h
      · have hm' : mayI W H = true := by cases hx : mayI W H with
          | true => rfl
          | false => exact absurd hx hm
        have hm2 := hm'
        unfold mayI at hm2
        rw [decide_eq_true_iff] at hm2
        obtain ⟨x, rfl⟩ := Int.eq_ofNat_of_zero_le (show 0 ≤ W by omega)
        obtain ⟨y, rfl⟩ := Int.eq_ofNat_of_zero_le (show 0 ≤ H by omega)
        refine ⟨x, y, rfl, rfl, hm', ?_⟩
        have e : ((x * y * s : Nat) : Int) = (x : Int) * (y : Int) * (s : Int) := by rw [Int.natCast_mul, Int.natCast_mul]
        omega

set_option maxRecDepth 100000 in
set_option maxHeartbeats 4000000 in
theorem fault_any (W H : Int) (s : Nat) (A : Option Addr) (n c : Nat) (w : World) (hs : s ≤ 4) :
    Calls Try.prog 45 #[.int .i64 W, .int .i64 H, .int .i64 (s : Int), .slice A n c] w fun e w' => e = .returned (.int .i64 (faultE W H s n : Nat)) ∧ w' = w := by
  have HM := hide (mayBe_any W H)
  have hf : faultE W H s n = if mayI W H = false then 1 else if (n : Int) < W * H * s then 2 else if W * H * s < (n : Int) then 5 else 0 := rfl
  cases hm : mayI W H with
  | false =>
    rw [hm] at HM
    rw [if_pos hm] at hf
    rw [hf]
    clear hm hf
    go_enter Try.func45, Try.ntmps45
    go_wp2_with fail
    refine (HM.out _).mono ?_
    rintro e w1 ⟨rfl, rfl⟩
    go_wp2_with fail
    go_ret
    exact ⟨rfl, rfl⟩
  | true =>
    rw [hm] at HM
    rw [if_neg (by simp [hm])] at hf
    have hm2 := hm
    unfold mayI at hm2
    rw [decide_eq_true_iff] at hm2
    have hmul : 0 ≤ W * H ∧ W * H ≤ 67108864 := by
      rcases hm2 with ⟨rfl, rfl⟩ | h
      · omega
      · exact ⟨Int.mul_nonneg (by omega) (by omega), h.2.2⟩
    obtain ⟨M, hM⟩ : ∃ M, M = W * H := ⟨_, rfl⟩
    rw [← hM] at hmul hf
    have hsM : 0 ≤ M * (s : Int) ∧ M * (s : Int) ≤ 67108864 * 4 := ⟨Int.mul_nonneg (by omega) (by omega), Int.mul_le_mul hmul.2 (by omega) (by omega) (by omega)⟩
    have e0 : wrap64 (W * H) = M := by rw [← hM]; exact IntWalk.wrap64_in _ ⟨by omega, by omega⟩
    have e1 : wrap64 (M * (s : Int)) = M * (s : Int) := IntWalk.wrap64_in _ ⟨by omega, by omega⟩
    by_cases h1 : (n : Int) < M * (s : Int)
    · rw [if_pos h1] at hf
      rw [hf]
      clear hm hm2 hf hM
      go_enter Try.func45, Try.ntmps45
      go_wp2_with fail
      refine (HM.out _).mono ?_
      rintro e w1 ⟨rfl, rfl⟩
      go_wp2_with fail
      go_ret
      exact ⟨rfl, rfl⟩
    · rw [if_neg h1] at hf
      by_cases h2 : M * (s : Int) < (n : Int)
      · rw [if_pos h2] at hf
        rw [hf]
        clear hm hm2 hf hM
        go_enter Try.func45, Try.ntmps45
        go_wp2_with fail
        refine (HM.out _).mono ?_
        rintro e w1 ⟨rfl, rfl⟩
        go_wp2_with fail
        go_ret
        exact ⟨rfl, rfl⟩
      · rw [if_neg h2] at hf
        rw [hf]
        clear hm hm2 hf hM
        go_enter Try.func45, Try.ntmps45
        go_wp2_with fail
        refine (HM.out _).mono ?_
        rintro e w1 ⟨rfl, rfl⟩
        go_wp2_with fail
        go_ret
        exact ⟨rfl, rfl⟩

/-- Where a pixel lies. -/
theorem sp_in (x W : Nat) (h : x < W) : spL (x : Int) 1 W = x ∧ spR (x : Int) 1 W = x + 1 := by
  unfold spL spR
  rw [if_neg (by omega), if_neg (by omega)]
  omega
theorem sp_out (x : Int) (W : Nat) (h : ¬ (0 ≤ x ∧ x < (W : Int))) : spL x 1 W = spR x 1 W := by
  unfold spL spR
  split
  · rfl
  · omega

set_option maxRecDepth 100000 in
set_option maxHeartbeats 4000000 in
theorem spot_gen (W H : Nat) (A : Option Addr) (n c : Nat) (x y : Int) (w : World) (hok : okM W H n) (hn : n ≤ c)
    (hx : -9223372036854775808 ≤ x ∧ x ≤ 9223372036854775807) (hy : -9223372036854775808 ≤ y ∧ y ≤ 9223372036854775807) (l k t u : Nat) (hl : l = wiL W H x y 1 1) (hr : l + k = wiR W H x y 1 1) (ht : t = wiT W H x y 1 1) (hu : u = wiB W H x y 1 1)
    (hfit : 4 * (t * W + l) + 4 * k ≤ n) (hs : t ≤ 100000 ∧ l + k ≤ 100000) :
    Calls Try.prog 48 #[mval W H A n c, .int .i64 x, .int .i64 y] w fun e w' => e = .returned (rowV A (4 * (t * W + l)) (4 * k)) ∧ Only [] w w' := by
  have hW : W ≤ 100000 := by have := hok.1; omega
  have HI := hide (fun w => within_any W H A n c x y 1 1 w hok hx hy (by omega) (by omega))
  have HR := hide (fun w => row_any W H A n c t l k w hW hs.1 hs.2 (by omega))
  rw [← hl, ← hr, ← ht, ← hu] at HI
  generalize rowV A (4 * (t * W + l)) (4 * k) = v at *
  obtain ⟨r, hrr⟩ : ∃ r, r = l + k := ⟨_, rfl⟩
  rw [← hrr] at HI HR
  clear hl hr ht hu hfit hs hok hx hy hn hW hrr
  have hbx : Has (w.alloc (.cells #[.int .i64 (W : Int), .int .i64 (H : Int), .slice A n c] 24)) w.heap.size 24 #[.int .i64 (W : Int), .int .i64 (H : Int), .slice A n c] := Has.new w _ _
  have o0 : Only [] w (w.alloc (.cells #[.int .i64 (W : Int), .int .i64 (H : Int), .slice A n c] 24)) := (Only.refl [] w).alloc _
  show Calls Try.prog 48 #[.agg #[.int .i64 W, .int .i64 H, .slice A n c], .int .i64 x, .int .i64 y] w _
  go_enter Try.func48, Try.ntmps48
  go_wp2_with fail
  refine (HI.out _).mono ?_
  rintro e w1 ⟨rfl, ho1⟩
  have hb1 := hbx.only ho1 (by simp)
  have o1 := o0.trans ho1 (S := []) (by simp)
  have hb2 := hb1.alloc (.cells #[.int .i64 (l : Int), .int .i64 (r : Int), .int .i64 (t : Int), .int .i64 (u : Int)] 79)
  have b0 := hb2.cell 0
  have b1 := hb2.cell 1
  have b2 := hb2.cell 2
  simp only [List.getElem?_toArray, List.getElem?_cons_zero, List.getElem?_cons_succ] at b0 b1 b2
  have HB := hide (And.intro o1 hb1)
  clear hbx o0 ho1 hb1 o1 hb2
  unfold aval
  go_wp2_with fail
  refine (HR.out _).mono ?_
  rintro e w2 ⟨rfl, ho2⟩
  have HO2 := hide ho2
  clear ho2 b0 b1 b2
  go_wp2_with fail
  go_ret
  exact ⟨rfl, (HB.out.1.alloc _).trans HO2.out (by simp)⟩

/-- A pixel that is there. -/
theorem spot_in (W H : Nat) (A : Option Addr) (n c : Nat) (x y : Nat) (w : World) (hok : okM W H n) (hn : n ≤ c) (hx : x < W) (hy : y < H) :
    Calls Try.prog 48 #[mval W H A n c, .int .i64 (x : Int), .int .i64 (y : Int)] w fun e w' => e = .returned (rowV A (4 * (y * W + x)) 4) ∧ Only [] w w' := by
  obtain ⟨a1, a2⟩ := sp_in x W hx
  obtain ⟨b1, b2⟩ := sp_in y H hy
  have hne : ¬ (spL (x : Int) 1 W = spR (x : Int) 1 W ∨ spL (y : Int) 1 H = spR (y : Int) 1 H) := by omega
  have hfit : 4 * (y * W + x) + 4 * 1 ≤ n := by
    have h1 : (y + 1) * W ≤ H * W := Nat.mul_le_mul_right _ hy
    rw [Nat.succ_mul, Nat.mul_comm H] at h1
    have := hok.2
    omega
  have hb := hok.1
  exact spot_gen W H A n c x y w hok hn (by omega) (by omega) x 1 y (y + 1) (by unfold wiL; rw [if_neg hne, a1]) (by unfold wiR; rw [if_neg hne, a2]) (by unfold wiT; rw [if_neg hne, b1]) (by unfold wiB; rw [if_neg hne, b2]) hfit (by omega)
/-- One that is not. -/
theorem spot_out (W H : Nat) (A : Option Addr) (n c : Nat) (x y : Int) (w : World) (hok : okM W H n) (hn : n ≤ c)
    (hx : -9223372036854775808 ≤ x ∧ x ≤ 9223372036854775807) (hy : -9223372036854775808 ≤ y ∧ y ≤ 9223372036854775807) (h : ¬ ((0 ≤ x ∧ x < (W : Int)) ∧ (0 ≤ y ∧ y < (H : Int)))) :
    Calls Try.prog 48 #[mval W H A n c, .int .i64 x, .int .i64 y] w fun e w' => e = .returned (.slice A 0 0) ∧ Only [] w w' := by
  have he : spL x 1 W = spR x 1 W ∨ spL y 1 H = spR y 1 H := by
    by_cases h1 : 0 ≤ x ∧ x < (W : Int)
    · exact .inr (sp_out y H (fun h2 => h ⟨h1, h2⟩))
    · exact .inl (sp_out x W h1)
  have := spot_gen W H A n c x y w hok hn hx hy 0 0 0 0 (by unfold wiL; rw [if_pos he]) (by unfold wiR; rw [if_pos he]) (by unfold wiT; rw [if_pos he]) (by unfold wiB; rw [if_pos he]) (by omega) (by omega)
  exact this
end Go.Proofs.Ytngaabnmhcncmaa
