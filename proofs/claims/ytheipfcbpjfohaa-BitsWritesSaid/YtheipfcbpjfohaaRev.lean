import Derived.Test.YtheipfcbpjfohaaMul
namespace Go.Proofs.Ytheipfcbpjfohaa
open Go Go.RowKit

/-- Reverse, with its guard. -/
def revI (v : Nat) (n : Int) : Nat := if 0 ≤ n ∧ n ≤ 32 then rev v n.toNat else 0

set_option maxHeartbeats 1000000 in
theorem reverse_no (v : Nat) (n : Int) (w : World) (h : ¬ (0 ≤ n ∧ n ≤ 32)) :
    Calls Try.prog 36 #[.int .u32 v, .int .i64 n] w fun e w' => e = .returned (.int .u32 0) ∧ w = w' := by
  by_cases h1 : n < 0
  · clear h
    go_enter Try.func36, Try.ntmps36
    go_wp2
    go_ret
    exact ⟨rfl, rfl⟩
  · have h2 : 32 < n := by omega
    clear h
    go_enter Try.func36, Try.ntmps36
    go_wp2
    go_ret
    exact ⟨rfl, rfl⟩

set_option maxHeartbeats 1000000 in
theorem reverse_yes (v n : Nat) (w : World) (hv : v < 4294967296) (hn : n ≤ 32) :
    Calls Try.prog 36 #[.int .u32 v, .int .i64 n] w fun e w' => e = .returned (.int .u32 (rev v n : Nat)) ∧ w = w' := by
  go_enter Try.func36, Try.ntmps36
  go_wp2
  go_loop [0, 5, 13] (fun x b i => ∃ j : Nat, j ≤ n ∧ i = .int .i64 j ∧ b = .int .u32 (rev v j : Nat) ∧ x = .int .u32 ((v / 2 ^ j : Nat) : Int)) (fun _ _ i => n - (intOf i).toNat)
  case atStart => exact ⟨0, Nat.zero_le _, rfl, rfl, by simp⟩
  case round =>
    obtain ⟨j, hj, rfl, rfl, rfl⟩ := hrel
    by_cases hlt : j < n
    · have hr := rev_lt v j
      have hp : 2 ^ j ≤ 2147483648 := Nat.pow_le_pow_right (n := 2) (i := j) (j := 31) (by omega) (by omega)
      have hx : v / 2 ^ j ≤ v := Nat.div_le_self _ _
      obtain ⟨R, hR⟩ : ∃ R, R = rev v j := ⟨_, rfl⟩
      obtain ⟨X, hX⟩ : ∃ X, X = v / 2 ^ j := ⟨_, rfl⟩
      have hs : rev v (j + 1) = 2 * R + X % 2 := by rw [hR, hX]; rfl
      have hd : v / 2 ^ (j + 1) = X / 2 := by rw [hX, Nat.pow_succ, Nat.div_div_eq_div_mul]
      rw [← hR, ← hX]
      rw [← hR] at hr
      rw [← hX] at hx
      have H := hide (And.intro hs hd)
      have eA := u32_and1 X (by omega)
      have eO := u32_orbit R X (by omega)
      clear hs hd hR hX
      go_wp2
      go_round
      case rel => exact ⟨j + 1, hlt, by go_num, by rw [H.out.1]; rfl, by rw [H.out.2]; rfl⟩
      case measure => simp [intOf]; omega
    · obtain rfl : j = n := by omega
      clear hlt
      go_wp2
      go_ret
      exact ⟨rfl, rfl⟩

set_option maxHeartbeats 1000000 in
theorem refReverse_no (v : Nat) (n : Int) (w : World) (h : ¬ (0 ≤ n ∧ n ≤ 32)) :
    Calls Try.prog 37 #[.int .u32 v, .int .i64 n] w fun e w' => e = .returned (.int .u32 0) ∧ w = w' := by
  by_cases h1 : n < 0
  · clear h
    go_enter Try.func37, Try.ntmps37
    go_wp2
    go_ret
    exact ⟨rfl, rfl⟩
  · have h2 : 32 < n := by omega
    clear h
    go_enter Try.func37, Try.ntmps37
    go_wp2
    go_ret
    exact ⟨rfl, rfl⟩

set_option maxHeartbeats 1000000 in
theorem refReverse_yes (v n : Nat) (w : World) (hv : v < 4294967296) (hn : n ≤ 32) :
    Calls Try.prog 37 #[.int .u32 v, .int .i64 n] w fun e w' => e = .returned (.int .u32 (rev v n : Nat)) ∧ w = w' := by
  go_enter Try.func37, Try.ntmps37
  go_wp2
  go_loop [5, 6] (fun b i => ∃ j : Nat, j ≤ n ∧ i = .int .i64 j ∧ b = .int .u32 (rev v j : Nat)) (fun _ i => n - (intOf i).toNat)
  case atStart => exact ⟨0, Nat.zero_le _, rfl, rfl⟩
  case round =>
    obtain ⟨j, hj, rfl, rfl⟩ := hrel
    by_cases hlt : j < n
    · have hr := rev_lt v j
      have hp : 2 ^ j ≤ 2147483648 := Nat.pow_le_pow_right (n := 2) (i := j) (j := 31) (by omega) (by omega)
      have hx : v / 2 ^ j ≤ v := Nat.div_le_self _ _
      obtain ⟨R, hR⟩ : ∃ R, R = rev v j := ⟨_, rfl⟩
      obtain ⟨X, hX⟩ : ∃ X, X = v / 2 ^ j := ⟨_, rfl⟩
      have hs : rev v (j + 1) = 2 * R + X % 2 := by rw [hR, hX]; rfl
      rw [← hR]
      rw [← hR] at hr
      rw [← hX] at hx
      have H := hide hs
      have eD : (v : Int) / 2 ^ j = (X : Int) := by rw [hX]; simp
      have eA := u32_and1 X (by omega)
      have eO := u32_orbit R X (by omega)
      clear hs hR hX
      go_wp2
      go_round
      case rel => exact ⟨j + 1, hlt, by go_num, by rw [H.out]; rfl⟩
      case measure => simp [intOf]; omega
    · obtain rfl : j = n := by omega
      clear hlt
      go_wp2
      go_ret
      exact ⟨rfl, rfl⟩

theorem reverse_any (v : Nat) (n : Int) (w : World) (hv : v < 4294967296) :
    Calls Try.prog 36 #[.int .u32 v, .int .i64 n] w fun e w' => e = .returned (.int .u32 (revI v n : Nat)) ∧ w = w' := by
  unfold revI
  by_cases h : 0 ≤ n ∧ n ≤ 32
  · rw [if_pos h]
    obtain ⟨k, rfl⟩ := Int.eq_ofNat_of_zero_le h.1
    exact reverse_yes v k w hv (by omega)
  · rw [if_neg h]; exact reverse_no v n w h

theorem refReverse_any (v : Nat) (n : Int) (w : World) (hv : v < 4294967296) :
    Calls Try.prog 37 #[.int .u32 v, .int .i64 n] w fun e w' => e = .returned (.int .u32 (revI v n : Nat)) ∧ w = w' := by
  unfold revI
  by_cases h : 0 ≤ n ∧ n ≤ 32
  · rw [if_pos h]
    obtain ⟨k, rfl⟩ := Int.eq_ofNat_of_zero_le h.1
    exact refReverse_yes v k w hv (by omega)
  · rw [if_neg h]; exact refReverse_no v n w h

/-- The first four bytes as a number, the highest first. -/
def bigOf : List UInt8 → Nat
  | a :: b :: c :: d :: _ => a.toNat * 16777216 + b.toNat * 65536 + c.toNat * 256 + d.toNat
  | _ => 0
theorem bigOf_short {l : List UInt8} (h : l.length < 4) : bigOf l = 0 := by
  match l, h with
  | [], _ => rfl
  | [_], _ => rfl
  | [_, _], _ => rfl
  | [_, _, _], _ => rfl

theorem big_no (A : Option Addr) (n c : Nat) (w : World) (hn : n < 4) :
    Calls Try.prog 34 #[.slice A n c] w fun e w' => e = .returned (.int .u32 0) ∧ w = w' := by
  go_enter Try.func34, Try.ntmps34
  go_wp2
  go_ret
  exact ⟨rfl, rfl⟩
theorem refBig_no (A : Option Addr) (n c : Nat) (w : World) (hn : n < 4) :
    Calls Try.prog 35 #[.slice A n c] w fun e w' => e = .returned (.int .u32 0) ∧ w = w' := by
  go_enter Try.func35, Try.ntmps35
  go_wp2
  go_ret
  exact ⟨rfl, rfl⟩

set_option maxHeartbeats 1000000 in
theorem big_yes (b o n c : Nat) (x0 x1 x2 x3 : UInt8) (w : World) (hn : 4 ≤ n)
    (h0 : w.cell? ⟨b, o, none⟩ = some (.int .u8 (x0.toNat : Int))) (h1 : w.cell? ⟨b, o + 1, none⟩ = some (.int .u8 (x1.toNat : Int)))
    (h2 : w.cell? ⟨b, o + 2, none⟩ = some (.int .u8 (x2.toNat : Int))) (h3 : w.cell? ⟨b, o + 3, none⟩ = some (.int .u8 (x3.toNat : Int))) :
    Calls Try.prog 34 #[.slice (some ⟨b, o, none⟩) n c] w fun e w' => e = .returned (.int .u32 ((x0.toNat * 16777216 + x1.toNat * 65536 + x2.toNat * 256 + x3.toNat : Nat) : Int)) ∧ ∃ m, w' = w.drewN m := by
  have b0 := x0.toNat_lt
  have b1 := x1.toNat_lt
  have b2 := x2.toNat_lt
  have b3 := x3.toNat_lt
  go_enter Try.func34, Try.ntmps34
  go_wp2
  go_quiet (fail)
  go_wp2
  go_ret
  exact ⟨ret_int (u32_four _ _ _ _ b0 b1 b2 b3), _, rfl⟩

set_option maxHeartbeats 1000000 in
theorem refBig_yes (b o n c : Nat) (x0 x1 x2 x3 : UInt8) (w : World) (hn : 4 ≤ n)
    (h0 : w.cell? ⟨b, o, none⟩ = some (.int .u8 (x0.toNat : Int))) (h1 : w.cell? ⟨b, o + 1, none⟩ = some (.int .u8 (x1.toNat : Int)))
    (h2 : w.cell? ⟨b, o + 2, none⟩ = some (.int .u8 (x2.toNat : Int))) (h3 : w.cell? ⟨b, o + 3, none⟩ = some (.int .u8 (x3.toNat : Int))) :
    Calls Try.prog 35 #[.slice (some ⟨b, o, none⟩) n c] w fun e w' => e = .returned (.int .u32 ((x0.toNat * 16777216 + x1.toNat * 65536 + x2.toNat * 256 + x3.toNat : Nat) : Int)) ∧ ∃ m, w' = w.drewN m := by
  have b0 := x0.toNat_lt
  have b1 := x1.toNat_lt
  have b2 := x2.toNat_lt
  have b3 := x3.toNat_lt
  go_enter Try.func35, Try.ntmps35
  go_wp2
  go_quiet (fail)
  go_wp2
  go_ret
  exact ⟨ret_int (u32_four _ _ _ _ b0 b1 b2 b3), _, rfl⟩

theorem four_of {l : List UInt8} (h : 4 ≤ l.length) : ∃ a b c d r, l = a :: b :: c :: d :: r := by
  match l, h with
  | a :: b :: c :: d :: r, _ => exact ⟨a, b, c, d, r, rfl⟩

theorem big_any (A : Option Addr) (n c : Nat) (l : List UInt8) (w : World) (h : Holds w 1 A n (bvals l)) (hl : l.length = n) :
    Calls Try.prog 34 #[.slice A n c] w fun e w' => e = .returned (.int .u32 (bigOf l : Nat)) ∧ ∃ m, w' = w.drewN m := by
  by_cases hn : n < 4
  · refine (big_no A n c w hn).mono ?_
    rintro e w' ⟨rfl, rfl⟩
    exact ⟨by rw [bigOf_short (by omega)]; rfl, 0, rfl⟩
  · obtain ⟨x0, x1, x2, x3, r, rfl⟩ := four_of (show 4 ≤ l.length by omega)
    obtain ⟨b, o, rfl, hc⟩ := h.addr (by simp)
    exact big_yes b o n c x0 x1 x2 x3 w (by omega) (hc 0 _ rfl) (hc 1 _ rfl) (hc 2 _ rfl) (hc 3 _ rfl)

theorem refBig_any (A : Option Addr) (n c : Nat) (l : List UInt8) (w : World) (h : Holds w 1 A n (bvals l)) (hl : l.length = n) :
    Calls Try.prog 35 #[.slice A n c] w fun e w' => e = .returned (.int .u32 (bigOf l : Nat)) ∧ ∃ m, w' = w.drewN m := by
  by_cases hn : n < 4
  · refine (refBig_no A n c w hn).mono ?_
    rintro e w' ⟨rfl, rfl⟩
    exact ⟨by rw [bigOf_short (by omega)]; rfl, 0, rfl⟩
  · obtain ⟨x0, x1, x2, x3, r, rfl⟩ := four_of (show 4 ≤ l.length by omega)
    obtain ⟨b, o, rfl, hc⟩ := h.addr (by simp)
    exact refBig_yes b o n c x0 x1 x2 x3 w (by omega) (hc 0 _ rfl) (hc 1 _ rfl) (hc 2 _ rfl) (hc 3 _ rfl)
end Go.Proofs.Ytheipfcbpjfohaa
