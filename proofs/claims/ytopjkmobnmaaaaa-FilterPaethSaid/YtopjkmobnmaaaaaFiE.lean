/-
  Package filter: sides, depths, how long rows are.
-/
import Derived.Test.YtopjkmobnmaaaaaFiA
namespace Go.Proofs.Ytopjkmobnmaaaaa
open Go Go.RowKit

def isSd (n : Int) : Bool := decide (1 ≤ n ∧ n ≤ 16384)

set_option maxRecDepth 100000 in
theorem isSide_any (n : Int) (w : World) : Calls Try.prog 30 #[.int .i64 n] w fun e w' => e = .returned (.bool (isSd n)) ∧ w' = w := by
  have hyes : 1 ≤ n ∧ n ≤ 16384 → isSd n = true := fun h => decide_eq_true h
  have hno : ¬ (1 ≤ n ∧ n ≤ 16384) → isSd n = false := fun h => decide_eq_false h
  generalize isSd n = x at *
  by_cases h1 : 1 ≤ n
  · by_cases h2 : n ≤ 16384
    · obtain rfl := hyes ⟨h1, h2⟩
      clear hyes hno
      go_enter Try.func30, Try.ntmps30
      go_wp2_with fail
      go_ret
      exact ⟨rfl, rfl⟩
    · obtain rfl := hno (fun h => h2 h.2)
      clear hyes hno
      go_enter Try.func30, Try.ntmps30
      go_wp2_with fail
      go_ret
      exact ⟨rfl, rfl⟩
  · obtain rfl := hno (fun h => h1 h.1)
    clear hyes hno
    go_enter Try.func30, Try.ntmps30
    go_wp2_with fail
    go_ret
    exact ⟨rfl, rfl⟩

theorem isDep_iff (d : Int) : isDep d = true ↔ d = 1 ∨ d = 2 ∨ d = 4 ∨ d = 8 ∨ d = 16 := by
  unfold isDep; simp [or_assoc]

set_option maxRecDepth 100000 in
theorem isDepth_any (d : Int) (w : World) : Calls Try.prog 27 #[.int .i64 d] w fun e w' => e = .returned (.bool (isDep d)) ∧ w' = w := by
  by_cases h : d = 1 ∨ d = 2 ∨ d = 4 ∨ d = 8 ∨ d = 16
  · rw [(isDep_iff d).2 h]
    rcases h with rfl | rfl | rfl | rfl | rfl
    all_goals
      go_enter Try.func27, Try.ntmps27
      go_wp2_with fail
      go_ret
      exact ⟨rfl, rfl⟩
  · have e : isDep d = false := by
      cases hx : isDep d with
      | true => exact absurd ((isDep_iff d).1 hx) h
      | false => rfl
    rw [e]
    have h1 : ¬ d = 1 := by omega
    have h2 : ¬ d = 2 := by omega
    have h3 : ¬ d = 4 := by omega
    have h4 : ¬ d = 8 := by omega
    have h5 : ¬ d = 16 := by omega
    clear h e
    go_enter Try.func27, Try.ntmps27
    go_wp2_with fail
    go_ret
    exact ⟨rfl, rfl⟩

/-- n by d, upwards. -/
def upV (n d : Int) : Int := if n ≤ 0 then 0 else (n - 1) / d + 1
set_option maxRecDepth 100000 in
theorem upwards_any (n d : Int) (w : World) (hn : n ≤ 1000000000000) (hd : 1 ≤ d ∧ d ≤ 9223372036854775807) : Calls Try.prog 31 #[.int .i64 n, .int .i64 d] w fun e w' => e = .returned (.int .i64 (upV n d)) ∧ w' = w := by
  by_cases h : n ≤ 0
  · rw [show upV n d = 0 from if_pos h]
    go_enter Try.func31, Try.ntmps31
    go_wp2_with fail
    go_ret
    exact ⟨rfl, rfl⟩
  · rw [show upV n d = (n - 1) / d + 1 from if_neg h]
    obtain ⟨m, hm⟩ : ∃ m, m = n - 1 := ⟨_, rfl⟩
    rw [← hm]
    have hq1 : 0 ≤ m / d := Int.ediv_nonneg (by omega) (by omega)
    have hq2 : m / d ≤ m := Int.ediv_le_self d (by omega)
    have hq3 : m.tdiv d = m / d := Int.tdiv_eq_ediv_of_nonneg (by omega)
    generalize m / d = q at *
    obtain ⟨r, hr⟩ : ∃ r, r = q + 1 := ⟨_, rfl⟩
    rw [← hr]
    have v1 : wrap64 (n - 1) = m := by rw [hm]; exact IntWalk.wrap64_in _ ⟨by omega, by omega⟩
    have v2 : IntKind.i64.wrap (n - 1) = m := by rw [hm, IntKind.wrap_i64]; omega
    have v3 : wrap64 (q + 1) = r := by rw [hr]; exact IntWalk.wrap64_in _ ⟨by omega, by omega⟩
    have v4 : IntKind.i64.wrap (q + 1) = r := by rw [hr, IntKind.wrap_i64]; omega
    have v5 : IntKind.i64.wrap q = q := by rw [IntKind.wrap_i64]; omega
    have v6 : wrap64 q = q := IntWalk.wrap64_in _ ⟨by omega, by omega⟩
    have d0 : ¬ d = 0 := by omega
    have d1 : (d == 0) = false := beq_eq_false_iff_ne.2 d0
    clear hm hr hq1 hq2
    go_enter Try.func31, Try.ntmps31
    go_wp2_with fail
    go_ret
    exact ⟨rfl, rfl⟩

theorem rowI_up (w s d : Int) (h : (1 ≤ w ∧ w ≤ 16384) ∧ (1 ≤ s ∧ s ≤ 4) ∧ isDep d = true) : rowI w s d = upV (w * s * d) 8 ∧ 0 ≤ w * s ∧ w * s ≤ 65536 ∧ 0 ≤ w * s * d ∧ w * s * d ≤ 1048576 := by
  have e : rowI w s d = (w * s * d + 7) / 8 := if_pos h
  obtain ⟨h1, h2, h3⟩ := h
  rw [isDep_iff] at h3
  have hd : 1 ≤ d ∧ d ≤ 16 := by omega
  have a0 : 1 * 1 ≤ w * s := Int.mul_le_mul h1.1 h2.1 (by omega) (by omega)
  have a1 : w * s ≤ 16384 * 4 := Int.mul_le_mul h1.2 h2.2 (by omega) (by omega)
  have b0 : 1 * 1 ≤ w * s * d := Int.mul_le_mul (by omega) hd.1 (by omega) (by omega)
  have b1 : w * s * d ≤ 65536 * 16 := Int.mul_le_mul (by omega) hd.2 (by omega) (by omega)
  rw [e]
  generalize w * s * d = z at *
  have : upV z 8 = (z - 1) / 8 + 1 := if_neg (by omega)
  rw [this]
  omega

set_option maxRecDepth 100000 in
theorem row_len (w s d : Int) (W : World) : Calls Try.prog 16 #[.int .i64 w, .int .i64 s, .int .i64 d] W fun e W' => e = .returned (.int .i64 (rowI w s d)) ∧ W' = W := by
  have HS := hide (fun W => isSide_any w W)
  have HD := hide (fun W => isDepth_any d W)
  by_cases h1 : 1 ≤ w ∧ w ≤ 16384
  · rw [show isSd w = true from decide_eq_true h1] at HS
    by_cases h2 : 1 ≤ s
    · by_cases h3 : s ≤ 4
      · cases hd : isDep d with
        | true =>
          rw [hd] at HD
          obtain ⟨e, b0, b1, b2, b3⟩ := rowI_up w s d ⟨h1, ⟨h2, h3⟩, hd⟩
          rw [e]
          obtain ⟨p, hp⟩ : ∃ p, p = w * s := ⟨_, rfl⟩
          rw [← hp] at b0 b1 b2 b3 ⊢
          obtain ⟨q, hq⟩ : ∃ q, q = p * d := ⟨_, rfl⟩
          rw [← hq] at b2 b3 ⊢
          have HU := hide (fun W => upwards_any q 8 W (by omega) (by omega))
          have v1 : wrap64 (w * s) = p := by rw [← hp]; exact IntWalk.wrap64_in _ ⟨by omega, by omega⟩
          have v2 : IntKind.i64.wrap (w * s) = p := by rw [← hp, IntKind.wrap_i64]; omega
          have v3 : wrap64 (p * d) = q := by rw [← hq]; exact IntWalk.wrap64_in _ ⟨by omega, by omega⟩
          have v4 : IntKind.i64.wrap (p * d) = q := by rw [← hq, IntKind.wrap_i64]; omega
          clear hp hq h1 e b0 b1 b2 b3
          go_enter Try.func16, Try.ntmps16
          go_wp2_with fail
          refine (HS.out _).mono ?_
          rintro e w1 ⟨rfl, rfl⟩
          go_wp2_with fail
          refine (HD.out _).mono ?_
          rintro e w1 ⟨rfl, rfl⟩
          go_wp2_with fail
          refine (HU.out _).mono ?_
          rintro e w1 ⟨rfl, rfl⟩
          go_wp2_with fail
          go_ret
          exact ⟨rfl, rfl⟩
        | false =>
          rw [hd] at HD
          rw [show rowI w s d = 0 from if_neg (fun h => by rw [hd] at h; exact absurd h.2.2 (by simp))]
          clear h1
          go_enter Try.func16, Try.ntmps16
          go_wp2_with fail
          refine (HS.out _).mono ?_
          rintro e w1 ⟨rfl, rfl⟩
          go_wp2_with fail
          refine (HD.out _).mono ?_
          rintro e w1 ⟨rfl, rfl⟩
          go_wp2_with fail
          go_ret
          exact ⟨rfl, rfl⟩
      · rw [show rowI w s d = 0 from if_neg (fun h => h3 h.2.1.2)]
        clear h1
        go_enter Try.func16, Try.ntmps16
        go_wp2_with fail
        refine (HS.out _).mono ?_
        rintro e w1 ⟨rfl, rfl⟩
        go_wp2_with fail
        go_ret
        exact ⟨rfl, rfl⟩
    · rw [show rowI w s d = 0 from if_neg (fun h => h2 h.2.1.1)]
      clear h1
      go_enter Try.func16, Try.ntmps16
      go_wp2_with fail
      refine (HS.out _).mono ?_
      rintro e w1 ⟨rfl, rfl⟩
      go_wp2_with fail
      go_ret
      exact ⟨rfl, rfl⟩
  · rw [show isSd w = false from decide_eq_false h1] at HS
    rw [show rowI w s d = 0 from if_neg (fun h => h1 h.1)]
    clear h1
    go_enter Try.func16, Try.ntmps16
    go_wp2_with fail
    refine (HS.out _).mono ?_
    rintro e w1 ⟨rfl, rfl⟩
    go_wp2_with fail
    go_ret
    exact ⟨rfl, rfl⟩
end Go.Proofs.Ytopjkmobnmaaaaa
