/-
  Contracts of package sums: new sums, and what they tell.
-/
import Derived.Test.YteimhpjhmpdmjaaProg
import Derived.Test.YteimhpjhmpdmjaaMem
import Derived.Test.YteimhpjhmpdmjaaInt
import Derived.Test.YteimhpjhmpdmjaaSumM
import Derived.Deep.QuietTactic
import Derived.BigQuiet
import Derived.StillTailTactics
namespace Go.Proofs.Yteimhpjhmpdmjaa
open Go Go.RowKit

theorem nat_not32 (n : Nat) (h : n < 4294967296) : 4294967295 ^^^ n = 4294967295 - n := by
  have h1 : (BitVec.allOnes 32 ^^^ BitVec.ofNat 32 n) = ~~~ BitVec.ofNat 32 n := BitVec.allOnes_xor
  have h2 := congrArg BitVec.toNat h1
  rw [BitVec.toNat_xor, BitVec.toNat_not, BitVec.toNat_allOnes, BitVec.toNat_ofNat, Nat.mod_eq_of_lt (by omega)] at h2
  exact h2
/-- All bits turned, as the walk spells it. -/
theorem u32_not (n : Nat) (h : n < 4294967296) : bits .xor .u32 IntKind.u32.max (n : Int) = ((4294967295 - n : Nat) : Int) := by
  have := u32_xor_nat 4294967295 n (by omega) h
  rw [nat_not32 n h] at this
  exact this
theorem u32_not_not (n : Nat) (h : n < 4294967296) : bits .xor .u32 IntKind.u32.max ((4294967295 - n : Nat) : Int) = (n : Int) := by
  rw [u32_not _ (by omega)]; congr 1; omega

/-- A Crc at block g of which l has been written. -/
def Crc (w : World) (g : Nat) (l : List UInt8) : Prop := Has w g 43 #[.int .u32 ((4294967295 - crcList 4294967295 l : Nat) : Int)]
/-- An Adler's two numbers. -/
def adOf (l : List UInt8) : Nat × Nat := adList (1, 0) l
/-- An Adler at block g of which l has been written: its low number is kept less one. -/
def Adl (w : World) (g : Nat) (l : List UInt8) : Prop := ∃ a : Nat, a < 65521 ∧ (a + 1) % 65521 = (adOf l).1 ∧ Has w g 45 #[.int .u32 (a : Int), .int .u32 ((adOf l).2 : Int)]

theorem newCrc_any (w : World) : Calls Try.prog 7 #[] w fun e w' => ∃ g, e = .returned (.pointer (some ⟨g, 0, none⟩)) ∧ w.heap.size ≤ g ∧ Crc w' g [] ∧ Only [] w w' := by
  go_enter Try.func7, Try.ntmps7
  go_wp2
  go_ret
  exact ⟨_, rfl, Nat.le_refl _, Has.new w _ _, (Only.refl [] w).alloc _⟩

theorem newAdler_any (w : World) : Calls Try.prog 8 #[] w fun e w' => ∃ g, e = .returned (.pointer (some ⟨g, 0, none⟩)) ∧ w.heap.size ≤ g ∧ Adl w' g [] ∧ Only [] w w' := by
  go_enter Try.func8, Try.ntmps8
  go_wp2
  go_ret
  exact ⟨_, rfl, Nat.le_refl _, ⟨0, by omega, rfl, Has.new w _ _⟩, (Only.refl [] w).alloc _⟩

theorem crcSum_any (g : Nat) (l : List UInt8) (w : World) (h : Crc w g l) :
    Calls Try.prog 11 #[.pointer (some ⟨g, 0, none⟩)] w fun e w' => e = .returned (.int .u32 ((4294967295 - crcList 4294967295 l : Nat) : Int)) ∧ w = w' := by
  have c0 : w.cell? ⟨g, 0, none⟩ = some (.int .u32 ((4294967295 - crcList 4294967295 l : Nat) : Int)) := h.cell 0
  clear h
  generalize ((4294967295 - crcList 4294967295 l : Nat) : Int) = s at *
  go_enter Try.func11, Try.ntmps11
  go_wp2
  go_ret
  exact ⟨rfl, rfl⟩

theorem adOf_lt (l : List UInt8) : (adOf l).1 < 65521 ∧ (adOf l).2 < 65521 := adList_lt (by decide) l

theorem adlerSum_any (g : Nat) (l : List UInt8) (w : World) (h : Adl w g l) :
    Calls Try.prog 13 #[.pointer (some ⟨g, 0, none⟩)] w fun e w' => e = .returned (.int .u32 ((adWord (adOf l) : Nat) : Int)) ∧ ∃ m, w' = w.drewN m := by
  obtain ⟨a, ha, ha2, h⟩ := h
  have c0 : w.cell? ⟨g, 0, none⟩ = some (.int .u32 (a : Int)) := h.cell 0
  have c1 : w.cell? ⟨g, 1, none⟩ = some (.int .u32 ((adOf l).2 : Int)) := h.cell 1
  have hl := adOf_lt l
  have hw : adWord (adOf l) = (adOf l).2 * 65536 + (adOf l).1 := rfl
  rw [hw, ← ha2]
  clear h hw ha2
  obtain ⟨_, hl⟩ := hl
  generalize (adOf l).2 = t at *
  go_enter Try.func13, Try.ntmps13
  go_wp2
  go_quiet (fail)
  go_wp2
  go_ret
  refine ⟨ret_int ?_, _, rfl⟩
  have h2 : (a + 1) % 65521 < 2 ^ 16 := by omega
  have e := u32_join ((a + 1) % 65521) t 16 h2 (by omega)
  rw [u32_or_nat _ _ (by omega) (by omega)] at e
  have e1 : ((t : Int) * 65536) = ((t * 2 ^ 16 : Nat) : Int) := by omega
  have e2 : ((a : Int) + 1) % 65521 = (((a + 1) % 65521 : Nat) : Int) := by omega
  rw [e1, e2, u32_or_nat _ _ (by omega) (by omega), Nat.or_comm, e]
  omega
end Go.Proofs.Yteimhpjhmpdmjaa
