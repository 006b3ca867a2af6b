/-
  Package filter: a byte that may be there, how far two are apart, Paeth, which filters may be.
-/
import Derived.Test.YtopjkmobnmaaaaaProg
import Derived.Test.YtopjkmobnmaaaaaFiP
import Derived.Test.YtopjkmobnmaaaaaMem
import Derived.Test.YtopjkmobnmaaaaaInt
import Derived.StillTailTactics
import Derived.Deep.QuietTactic
import Derived.BigQuiet
namespace Go.Proofs.Ytopjkmobnmaaaaa
open Go Go.RowKit

/-- The byte at a place, if there is one. -/
def atI (l : List UInt8) (i : Int) : UInt8 := if i < 0 then 0 else l.getD i.toNat 0
theorem atI_sub (l : List UInt8) (i s : Nat) : atI l ((i : Int) - (s : Int)) = lf l i s := by
  unfold atI lf
  by_cases h : s ≤ i
  · rw [if_neg (by omega), if_pos h]; congr 1; omega
  · rw [if_pos (by omega), if_neg h]
theorem atI_nat (l : List UInt8) (i : Nat) : atI l (i : Int) = l.getD i 0 := by unfold atI; rw [if_neg (by omega), Int.toNat_natCast]

set_option maxRecDepth 100000 in
set_option maxHeartbeats 4000000 in
theorem at_any (A : Option Addr) (n c : Nat) (l : List UInt8) (i : Int) (w : World) (hb : Holds w 1 A n (bvals l)) (hl : l.length = n) (hi : -9223372036854775808 ≤ i ∧ i ≤ 9223372036854775807) :
    Calls Try.prog 34 #[.slice A n c, .int .i64 i] w fun e w' => e = .returned (.int .u8 ((atI l i).toNat : Int)) ∧ w' = w := by
  subst hl
  by_cases h0 : i < 0
  · have e : atI l i = 0 := if_pos h0
    rw [e]
    clear e
    go_enter Try.func34, Try.ntmps34
    go_wp2_with fail
    go_ret
    exact ⟨rfl, rfl⟩
  · obtain ⟨k, rfl⟩ := Int.eq_ofNat_of_zero_le (show 0 ≤ i by omega)
    rw [atI_nat]
    by_cases hk : k < l.length
    · have hcell := (hb.2 (by omega))
      obtain ⟨ad, rfl, hlt, hc⟩ := hcell
      have hcell := hc k _ (bvals_get l k hk)
      have e : l.getD k 0 = l[k] := by rw [List.getD_eq_getElem?_getD, List.getElem?_eq_getElem hk]; rfl
      rw [e]
      have h1 : ¬ (l.length : Int) ≤ (k : Int) := by omega
      have h2 : ¬ (k : Int) < 0 := by omega
      clear hc e
      go_enter Try.func34, Try.ntmps34
      go_wp2_with fail
      go_ret
      exact ⟨rfl, rfl⟩
    · have e : l.getD k 0 = 0 := by rw [List.getD_eq_getElem?_getD, List.getElem?_eq_none (by omega)]; rfl
      rw [e]
      have h1 : (l.length : Int) ≤ (k : Int) := by omega
      have h2 : ¬ (k : Int) < 0 := by omega
      clear e
      go_enter Try.func34, Try.ntmps34
      go_wp2_with fail
      go_ret
      exact ⟨rfl, rfl⟩

set_option maxRecDepth 100000 in
theorem apart_any (x y : UInt8) (w : World) : Calls Try.prog 25 #[.int .u8 (x.toNat : Int), .int .u8 (y.toNat : Int)] w fun e w' => e = .returned (.int .i64 (dist x.toNat y.toNat)) ∧ w' = w := by
  have hx := x.toNat_lt
  have hy := y.toNat_lt
  generalize x.toNat = a at *
  generalize y.toNat = b at *
  have key : dist a b = if (a : Int) < b then (b : Int) - a else (a : Int) - b := rfl
  rw [key]
  rcases Nat.lt_trichotomy a b with h | h | h
  · rw [if_pos (by omega)]
    have h' : ¬ (b : Int) < (a : Int) := by omega
    have h1 : (a : Int) < (b : Int) := by omega
    clear key
    go_enter Try.func25, Try.ntmps25
    go_wp2_with fail
    go_ret
    exact ⟨rfl, rfl⟩
  · subst h
    rw [if_neg (by omega)]
    have h1 : ¬ (a : Int) < (a : Int) := by omega
    clear key
    go_enter Try.func25, Try.ntmps25
    go_wp2_with fail
    go_ret
    exact ⟨by simp, rfl⟩
  · rw [if_neg (by omega)]
    have h' : ¬ (a : Int) < (b : Int) := by omega
    have h1 : (b : Int) < (a : Int) := by omega
    clear key
    go_enter Try.func25, Try.ntmps25
    go_wp2_with fail
    go_ret
    exact ⟨rfl, rfl⟩
end Go.Proofs.Ytopjkmobnmaaaaa
