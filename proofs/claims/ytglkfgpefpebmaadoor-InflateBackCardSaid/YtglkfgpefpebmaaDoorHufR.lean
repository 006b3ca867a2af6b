/-
  The codes said a second time: Complete.
-/
import Derived.Test.YtglkfgpefpebmaaDoorHufI
namespace Go.Proofs.YtglkfgpefpebmaaDoor
open Go Go.RowKit

/-- What one symbol takes of 1 << 15. -/
def takes (x : Nat) : Nat := if 1 ≤ x ∧ x ≤ 15 then 2 ^ (15 - x) else 0
theorem Sm_snoc (l : List UInt8) (b : UInt8) (n : Nat) (hn : n ≤ 16) : Sm (cn (l ++ [b])) n = Sm (cn l) n + if 1 ≤ b.toNat ∧ b.toNat < n then 2 ^ (15 - b.toNat) else 0 := by
  induction n with
  | zero => simp [Sm]
  | succ n ih =>
    show Sm (cn (l ++ [b])) n + cn (l ++ [b]) n * 2 ^ (15 - n) = Sm (cn l) n + cn l n * 2 ^ (15 - n) + _
    rw [ih (by omega), cn_snoc]
    by_cases h1 : b.toNat = n ∧ n ≠ 0
    · rw [if_pos h1, if_neg (by omega), if_pos (by omega), h1.1, Nat.add_mul]; omega
    · rw [if_neg h1]
      by_cases h2 : 1 ≤ b.toNat ∧ b.toNat < n
      · rw [if_pos h2, if_pos (by omega)]; simp only [Nat.add_zero]; omega
      · rw [if_neg h2, if_neg (by omega)]; simp only [Nat.add_zero]
theorem Sm_take {l : List UInt8} {j : Nat} (h : j < l.length) : Sm (cn (l.take (j + 1))) 16 = Sm (cn (l.take j)) 16 + takes (ln l j) := by
  rw [take_snoc h, Sm_snoc _ _ _ (Nat.le_refl _), ln_get h]
  unfold takes
  by_cases h2 : 1 ≤ l[j].toNat ∧ l[j].toNat ≤ 15
  · rw [if_pos h2, if_pos (by omega)]
  · rw [if_neg h2, if_neg (by omega)]
/-- The sum ahead of a symbol. -/
def sumTo (l : List UInt8) (j : Nat) : Nat := Sm (cn (l.take j)) 16
theorem sumTo_zero (l : List UInt8) : sumTo l 0 = 0 := by unfold sumTo; rw [List.take_zero]; decide +kernel
theorem sumTo_succ {l : List UInt8} {j : Nat} (h : j < l.length) : sumTo l (j + 1) = sumTo l j + takes (ln l j) := Sm_take h
theorem sumTo_all (l : List UInt8) : sumTo l l.length = Sm (cn l) 16 := by unfold sumTo; rw [List.take_length]
theorem takes_le (x : Nat) : takes x ≤ 16384 := by
  unfold takes
  split
  · exact Nat.pow_le_pow_right (n := 2) (j := 14) (by decide) (by omega)
  · omega
theorem sumTo_le (l : List UInt8) (j : Nat) (h : j ≤ l.length) : sumTo l j ≤ 16384 * j := by
  induction j with
  | zero => rw [sumTo_zero]; omega
  | succ j ih =>
    rw [sumTo_succ h]
    have := ih (by omega)
    have := takes_le (ln l j)
    omega

set_option maxRecDepth 100000 in
set_option maxHeartbeats 2000000 in
theorem tComplete_any (A : Option Addr) (n c : Nat) (l : List UInt8) (w : World) (hb : Holds w 1 A n (bvals l)) (hl : l.length = n) (hn : n ≤ 1000000) :
    Calls Tryd.prog 46 #[.slice A n c] w fun e w' => e = .returned (.int .i64 (cmpI (Sm (cn l) 16 : Nat) 32768)) ∧ w = w' := by
  subst hl
  have HB := hide hb
  clear hb
  go_enter Tryd.func46, Tryd.ntmps46
  go_wp2_with fail
  go_loop [3, 4] (fun v i => ∃ j : Nat, j ≤ l.length ∧ i = .int .i64 j ∧ v = .int .i64 (sumTo l j : Nat)) (fun _ i => l.length - (intOf i).toNat)
  case atStart => exact ⟨0, Nat.zero_le _, rfl, by rw [sumTo_zero]; rfl⟩
  case round =>
    obtain ⟨j, hj, rfl, rfl⟩ := hrel
    by_cases hlt : j < l.length
    · obtain ⟨b, o, rfl, hc2⟩ := HB.out.addr (by simpa using (show 0 < l.length by omega))
      have hcell : w.cell? ⟨b, o + j, none⟩ = some (.int .u8 (l[j].toNat : Int)) := hc2 j _ (bvals_get l j hlt)
      have hs := sumTo_succ hlt
      have hsl := sumTo_le l j hj
      rw [ln_get hlt] at hs
      have hx := l[j].toNat_lt
      clear hc2
      generalize l[j].toNat = x at *
      generalize sumTo l j = s at *
      by_cases h1 : 1 ≤ x ∧ x ≤ 15
      · have ht : takes x = 2 ^ (15 - x) := by unfold takes; rw [if_pos h1]
        have htl := takes_le x
        rw [ht] at hs htl
        obtain ⟨q, hq⟩ : ∃ q, q = 15 - x := ⟨_, rfl⟩
        rw [← hq] at hs htl
        have eq : (15 : Int) - (x : Int) = (q : Int) := by omega
        have ep : (2 : Int) ^ q = ((2 ^ q : Nat) : Int) := (two_pow_cast q).symm
        have HS := hide hs
        obtain ⟨h1, h2⟩ := h1
        have hq15 : q < 64 := by omega
        clear hs hq ht
        generalize 2 ^ q = p at *
        go_wp2_with fail
        go_round
        case rel => exact ⟨j + 1, hlt, by go_num, by rw [HS.out, Int.natCast_add]⟩
        case measure => simp [intOf]; omega
      · have ht : takes x = 0 := by unfold takes; rw [if_neg h1]
        rw [ht] at hs
        have HS := hide hs
        have h2 : x = 0 ∨ 15 < x := by omega
        clear hs ht h1
        rcases h2 with rfl | h2
        · go_wp2_with fail
          go_round
          case rel => exact ⟨j + 1, hlt, by go_num, by rw [HS.out]; rfl⟩
          case measure => simp [intOf]; omega
        · have h3 : 1 ≤ x := by omega
          go_wp2_with fail
          go_round
          case rel => exact ⟨j + 1, hlt, by go_num, by rw [HS.out]; rfl⟩
          case measure => simp [intOf]; omega
    · obtain rfl : j = l.length := by omega
      rw [sumTo_all]
      obtain ⟨s, hs⟩ : ∃ s, s = Sm (cn l) 16 := ⟨_, rfl⟩
      rw [← hs]
      have HS := hide hs
      clear hs
      rcases Nat.lt_trichotomy s 32768 with h | h | h
      · have hz : cmpI (s : Int) 32768 = -1 := by unfold cmpI; rw [if_pos (by omega)]
        rw [HS.out] at hz
        have HZ := hide hz
        have h' : (s : Int) < 32768 := by omega
        clear hz h
        go_wp2_with fail
        go_ret
        exact ⟨ret_int HZ.out.symm, rfl⟩
      · have hz : cmpI (s : Int) 32768 = 0 := by subst h; rfl
        rw [HS.out] at hz
        have HZ := hide hz
        clear hz
        subst h
        go_wp2_with fail
        go_ret
        exact ⟨ret_int HZ.out.symm, rfl⟩
      · have hz : cmpI (s : Int) 32768 = 1 := by unfold cmpI; rw [if_neg (by omega), if_pos (by omega)]
        rw [HS.out] at hz
        have HZ := hide hz
        have h' : (32768 : Int) < (s : Int) := by omega
        have h'' : ¬ (s : Int) < 32768 := by omega
        clear hz h
        go_wp2_with fail
        go_ret
        exact ⟨ret_int HZ.out.symm, rfl⟩
end Go.Proofs.YtglkfgpefpebmaaDoor
