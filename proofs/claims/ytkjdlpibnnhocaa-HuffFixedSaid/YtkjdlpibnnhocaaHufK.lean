/-
  What each law asks first: three codes.
-/
import Derived.Test.YtkjdlpibnnhocaaHufI
namespace Go.Proofs.Ytkjdlpibnnhocaa
open Go Go.RowKit

theorem known_far : far [2, 1, 2] = false := by decide +kernel
theorem known_may : mayBe (cn [2, 1, 2]) = true := by decide +kernel
theorem known_read1 : readM [2, 1, 2] (num [29]) 0 (8 * [(29 : UInt8)].length - 0) = (0, 0, 2) := by decide +kernel
theorem known_read2 : readM [2, 1, 2] (num [29]) 2 (8 * [(29 : UInt8)].length - 2) = (2, 0, 2) := by decide +kernel
theorem known_code : cvI [2, 1, 2] 0 = 1 ∧ lnI [2, 1, 2] 0 = 2 := by decide +kernel
theorem known_syms : Bf (cn [2, 1, 2]) 16 = 3 := by decide +kernel
theorem known_sum : cmpI (Sm (cn [2, 1, 2]) 16 : Nat) 32768 = 0 := by decide +kernel

theorem nilT (g : Nat) (w : World) : (binOp .eql 24 (.pointer (some ⟨g, 0, none⟩)) (.pointer none)).run Try.prog w = .ok (.bool false) w := by kernel_rfl
theorem nilR (g : Nat) (w : World) : (binOp .eql 35 (.pointer (some ⟨g, 0, none⟩)) (.pointer none)).run Try.prog w = .ok (.bool false) w := by kernel_rfl

set_option maxRecDepth 100000 in
set_option maxHeartbeats 4000000 in
theorem known_any (w : World) : Calls Try.prog 7 #[] w fun e w' => e = .returned (.bool true) ∧ Only [] w w' := by
  have hlit : ∀ w : World, Holds (w.alloc (.cells #[.int .u8 2, .int .u8 1, .int .u8 2] 5)) 1 (some ⟨w.heap.size, 0, none⟩) 3 (bvals [2, 1, 2]) := fun w => Holds.lit w #[.int .u8 2, .int .u8 1, .int .u8 2] 5
  have hli2 : ∀ w : World, Holds (w.alloc (.cells #[.int .u8 29] 5)) 1 (some ⟨w.heap.size, 0, none⟩) 1 (bvals [29]) := fun w => Holds.lit w #[.int .u8 29] 5
  have hn1 := nilT
  have hn2 := nilR
  have HN := hide (newT_any _ 3 3 [2, 1, 2] _ (hlit w) rfl (by decide) known_far known_may)
  have HL := hide (And.intro hlit hli2)
  clear hlit hli2
  have O0 := (Only.refl [] w).alloc (.cells #[.int .u8 2, .int .u8 1, .int .u8 2] 5)
  have HO0 := hide O0
  clear O0
  go_enter Try.func7, Try.ntmps7
  go_wp2_with fail
  refine (HN.out).mono ?_
  rintro e w1 ⟨g, rfl, hg, hT, ho1⟩
  have HT1 := hide (And.intro hg (And.intro hT ho1))
  clear hg hT ho1
  go_wp2_with fail
  refine (newReader_any _ 1 _ [29] _ (HL.out.2 w1) rfl (by decide) (by simp)).mono ?_
  rintro e w2 ⟨gr, v, rfl, hgr, hv, hR, ho2⟩
  have HT2 := hide (And.intro hgr (And.intro hv (And.intro hR ho2)))
  clear hgr hv hR ho2
  have hTb := HT1.out.2.1.only (((Only.refl [] w1).alloc (.cells #[.int .u8 29] 5)).trans HT2.out.2.2.2 (by simp)) (by simp)
  have hlt := hTb.lt
  go_wp2_with fail
  refine (read_any g gr v [2, 1, 2] [29] 0 w2 hTb HT2.out.2.2.1 (by decide) (ln_far known_far) (mayBe_le known_may) 0 0 2 known_read1).mono ?_
  rintro e w3 ⟨rfl, ho3, hR3⟩
  have hgne : g ≠ gr := by have := HT1.out.2.1.lt; have := HT2.out.1; simp at this; omega
  have hTb3 := hTb.only ho3 (by simpa using hgne)
  go_wp2_with fail
  refine (read_any g gr v [2, 1, 2] [29] 2 w3 hTb3 hR3 (by decide) (ln_far known_far) (mayBe_le known_may) 2 0 2 known_read2).mono ?_
  rintro e w4 ⟨rfl, ho4, hR4⟩
  have hTb4 := hTb3.only ho4 (by simpa using hgne)
  go_wp2_with fail
  have HC := code_any g [2, 1, 2] 0 w4 hTb4 (by decide) (ln_far known_far) (mayBe_le known_may)
  rw [known_code.1, known_code.2] at HC
  have HCC := hide HC
  clear HC
  refine (HCC.out).mono ?_
  rintro e w5 ⟨rfl, m5, rfl⟩
  have HS := symbols_any g [2, 1, 2] (w4.drewN m5) (hTb4.only ((Only.refl [] w4).drewN m5) (by simp)) (by decide)
  rw [known_syms] at HS
  have HSS := hide HS
  clear HS
  go_wp2_with fail
  refine (HSS.out).mono ?_
  rintro e w6 ⟨rfl, m6, rfl⟩
  go_wp2_with fail
  have HZ := complete_any _ 3 3 [2, 1, 2] _ (HL.out.1 (w4.drewN (m5 + m6))) rfl (by decide)
  rw [known_sum] at HZ
  refine HZ.mono ?_
  rintro e w7 ⟨rfl, ho7⟩
  have HO7 := hide ho7
  clear ho7 HZ
  go_wp2_with fail
  go_ret
  refine ⟨rfl, ?_⟩
  have h1 : Only [] w w1 := HO0.out.trans HT1.out.2.2 (by simp)
  have h2 : Only [] w w2 := (h1.alloc _).trans HT2.out.2.2.2 (by simp)
  have hsz := h1.size
  have hgr := HT2.out.1
  rw [World.size_alloc] at hgr
  have h3 : Only [] w w3 := h2.trans ho3 (by simp; omega)
  have h4 : Only [] w w4 := h3.trans ho4 (by simp; omega)
  exact ((h4.drewN (m5 + m6)).alloc _).trans HO7.out (by simp)
end Go.Proofs.Ytkjdlpibnnhocaa
