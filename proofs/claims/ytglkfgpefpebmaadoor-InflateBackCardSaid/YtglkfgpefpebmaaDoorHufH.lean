/-
  Package huff: Code, Symbols.
-/
import Derived.Test.YtglkfgpefpebmaaDoorHufG
import Derived.Deep.QuietTactic
namespace Go.Proofs.YtglkfgpefpebmaaDoor
open Go Go.RowKit

/-- A symbol's length, of any number. -/
def lnI (l : List UInt8) (i : Int) : Nat := if 0 ≤ i then ln l i.toNat else 0
/-- A symbol's code, as Bits would tell it. -/
def cvI (l : List UInt8) (i : Int) : Nat := if lnI l i ≠ 0 then rev (cd l i.toNat) (lnI l i) else 0

theorem lnI_nat (l : List UInt8) (i : Nat) : lnI l (i : Int) = ln l i := by
  unfold lnI; rw [if_pos (by omega), Int.toNat_natCast]
theorem cvI_lt {l : List UInt8} (_ : Sm (cn l) 16 ≤ 32768) (h15 : ∀ i, ln l i ≤ 15) (i : Int) : cvI l i < 32768 := by
  unfold cvI
  split
  · refine Nat.lt_of_lt_of_le (rev_lt _ _) ?_
    have : lnI l i ≤ 15 := by unfold lnI; split; exact h15 _; omega
    exact Nat.pow_le_pow_right (n := 2) (j := 15) (by decide) this
  · decide

set_option maxRecDepth 100000 in
theorem code_out (g : Nat) (i : Int) (w : World) (h : i < 0 ∨ 320 ≤ i) :
    Calls Tryd.prog 23 #[.pointer (some ⟨g, 0, none⟩), .int .i64 i] w fun e w' => e = .returned (.tuple #[.int .u32 0, .int .i64 0]) ∧ ∃ m, w' = w.drewN m := by
  by_cases h1 : i < 0
  · clear h
    go_enter Tryd.func23, Tryd.ntmps23
    go_wp2_with fail
    go_ret2
    exact ⟨rfl, 0, rfl⟩
  · have h2 : 320 ≤ i := by omega
    clear h
    go_enter Tryd.func23, Tryd.ntmps23
    go_wp2_with fail
    go_ret2
    exact ⟨rfl, 0, rfl⟩

set_option maxRecDepth 100000 in
theorem code_in (g X Y i : Nat) (w : World) (hi : i < 320) (hX : X < 65536) (hY : Y < 256) (c1 : w.cell? ⟨g, 320 + i, none⟩ = some (.int .u16 (X : Int))) (c0 : w.cell? ⟨g, i, none⟩ = some (.int .u8 (Y : Int))) :
    Calls Tryd.prog 23 #[.pointer (some ⟨g, 0, none⟩), .int .i64 i] w fun e w' => e = .returned (.tuple #[.int .u32 (X : Int), .int .i64 (Y : Int)]) ∧ ∃ m, w' = w.drewN m := by
  have k1 : IntKind.u32.wrap (X : Int) = (X : Int) := wrapU32 rfl (by omega)
  have k2 : IntKind.i64.wrap (Y : Int) = (Y : Int) := wrap64 rfl (by omega)
  have q0 : (0 : Int) ≤ (i : Int) := by omega
  have q1 : (i : Int) < 320 := by omega
  go_enter Tryd.func23, Tryd.ntmps23
  go_wp2_with fail
  go_quiet (fail)
  go_wp2_with fail
  go_ret2
  exact ⟨rfl, _, rfl⟩

theorem code_any (g : Nat) (l : List UInt8) (i : Int) (w : World) (h : Tb w g l) (hn : l.length ≤ 320) (h15 : ∀ i, ln l i ≤ 15) (hS : Sm (cn l) 16 ≤ 32768) :
    Calls Tryd.prog 23 #[.pointer (some ⟨g, 0, none⟩), .int .i64 i] w fun e w' => e = .returned (.tuple #[.int .u32 (cvI l i : Nat), .int .i64 (lnI l i : Nat)]) ∧ ∃ m, w' = w.drewN m := by
  have hlt := cvI_lt hS h15 i
  by_cases hi : 0 ≤ i ∧ i < 320
  · obtain ⟨k, rfl⟩ := Int.eq_ofNat_of_zero_le hi.1
    obtain ⟨S, _, hT⟩ := h
    refine code_in g (cvI l k) (lnI l k) k w (by omega) (by omega) (by rw [lnI_nat]; have := h15 k; omega) ?_ ?_
    · rw [hT.cell (by omega), TF.at_code _ (by omega)]
      show some (Value.int .u16 ((if k < l.length ∧ ln l k ≠ 0 then rev (cd l k) (ln l k) else 0 : Nat) : Int)) = _
      unfold cvI
      rw [lnI_nat, Int.toNat_natCast]
      by_cases h0 : ln l k ≠ 0
      · rw [if_pos ⟨ln_lt h0, h0⟩, if_pos h0]
      · rw [if_neg (fun h => h0 h.2), if_neg h0]
    · rw [hT.cell (by omega), TF.at_len _ (by omega)]
      show some (Value.int .u8 ((if k < l.length then ln l k else 0 : Nat) : Int)) = _
      rw [lnI_nat]
      by_cases h0 : k < l.length
      · rw [if_pos h0]
      · rw [if_neg h0, ln_out (by omega)]
  · have e : lnI l i = 0 := by
      unfold lnI
      by_cases h0 : 0 ≤ i
      · rw [if_pos h0, ln_out (by omega)]
      · rw [if_neg h0]
    have e2 : cvI l i = 0 := by unfold cvI; rw [e]; rfl
    rw [e, e2]
    exact code_out g i w (by omega)

end Go.Proofs.YtglkfgpefpebmaaDoor
