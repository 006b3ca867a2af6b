/-
  The chapter's examples hold.
-/
import Derived.Test.YteimhpjhmpdmjaaSumE
namespace Go.Proofs.Yteimhpjhmpdmjaa
open Go Go.RowKit

theorem Part.ok_new {w : World} {g : Nat} {A : Option Addr} {c : Nat} {l : List UInt8} (h : Holds w 1 A l.length (bvals l)) (hc : l.length ≤ c) (hm : l.length ≤ 140737488355328) (hn : ∀ ad, A = some ad → ad.block ≠ g) : Part.Ok ⟨A, c, l⟩ w g := ⟨h, hc, hm, fun _ => hn⟩

set_option maxHeartbeats 2000000 in
set_option maxRecDepth 10000 in
theorem known_any (w : World) : Calls Try.prog 6 #[] w fun e w' => e = .returned (.bool true) ∧ Only [] w w' := by
  have hn1 : ∀ (g : Nat) (w : World), (binOp .eql 25 (.pointer (some ⟨g, 0, none⟩)) (.pointer none)).run Try.prog w = .ok (.bool false) w := fun g w => by kernel_rfl
  have hn2 : ∀ (g : Nat) (w : World), (binOp .eql 27 (.pointer (some ⟨g, 0, none⟩)) (.pointer none)).run Try.prog w = .ok (.bool false) w := fun g w => by kernel_rfl
  have hcv := run_bytes_const Try.prog 22 5 Try.underlying22 Try.underlying5
  go_enter Try.func6, Try.ntmps6
  go_wp2_with fail
  refine (newCrc_any w).mono ?_
  rintro e w1 ⟨g, rfl, hg, hC1, ho1⟩
  go_wp2_with fail
  refine (newAdler_any w1).mono ?_
  rintro e w2 ⟨f, rfl, hf, hA2, ho2⟩
  have hC2 := hC1.only ho2 (by simp)
  go_wp2_with fail
  refine (crcSum_any _ _ w2 hC2).mono ?_
  rintro e w3 ⟨rfl, rfl⟩
  have k1 : 4294967295 - crcList 4294967295 [] = 0 := by decide
  rw [k1]
  have glt := hC1.lt
  have hlit : Holds (w2.alloc (.cells #[.int .u8 49, .int .u8 50, .int .u8 51, .int .u8 52, .int .u8 53, .int .u8 54, .int .u8 55, .int .u8 56, .int .u8 57] 5 (9, 10))) 1 (some ⟨w2.heap.size, 0, none⟩) 9 (bvals [49, 50, 51, 52, 53, 54, 55, 56, 57]) := Holds.lit_mark w2 _ _ _ _ rfl
  have hC3 := fun o => hC2.only ((Only.refl [] w2).alloc o) (by simp)
  have HW := hide (crcWrite_any g [] _ 9 9 _ _ (hC3 _) hlit rfl (by omega))
  have HE := hide (And.intro ho1 (And.intro ho2 hA2))
  clear hC1 hC2 hC3 hlit ho1 ho2 hA2 k1
  go_wp2_with fail
  refine (HW.out).mono ?_
  rintro e w4 ⟨rfl, hC4, ho4⟩
  go_wp2_with fail
  have k2 : 4294967295 - crcList 4294967295 ([] ++ [49, 50, 51, 52, 53, 54, 55, 56, 57]) = 3421780262 := by decide +kernel
  have h4 := hide (And.intro hC4 ho4)
  clear hC4 ho4
  have HS := crcSum_any g _ w4 h4.out.1
  rw [k2] at HS
  have HS2 := hide HS
  clear HS k2
  refine (HS2.out).mono ?_
  rintro e w5 ⟨rfl, rfl⟩
  go_wp2_with fail
  have hA4 : Adl w4 f [] := (HE.out.2.2.only ((Only.refl [] w2).alloc _) (by simp)).only h4.out.2 (by simp; omega)
  have k3 : adWord (adOf []) = 1 := by decide +kernel
  have HS := adlerSum_o f _ w4 hA4
  rw [k3] at HS
  have HS3 := hide HS
  clear HS k3
  refine (HS3.out).mono ?_
  rintro e w5 ⟨rfl, hA5, ho5⟩
  have h5 := hide (And.intro hA5 ho5)
  clear hA5 ho5 hA4
  have flt := h5.out.1.lt
  have hO : Calls Try.prog 16 #[.pointer (some ⟨f, 0, none⟩), .slice (some ⟨w5.heap.size + 1 + 1, 0, none⟩) 2 2]
      (((w5.alloc (.cells #[.int .u8 49, .int .u8 50, .int .u8 51, .int .u8 52] 5 (4, 5))).alloc (.cells #[.int .u8 53, .int .u8 54, .int .u8 55, .int .u8 56, .int .u8 57] 5 (5, 6))).alloc
        (.cells #[.slice (some ⟨w5.heap.size, 0, none⟩) 4 4, .slice (some ⟨w5.heap.size + 1, 0, none⟩) 5 5] 22)) fun e w' => e = .returned (.int .u32 152961502) ∧ Only [f] w5 w' := by
    have o1 : ∀ o1 o2 o3, Only [f] w5 (((w5.alloc o1).alloc o2).alloc o3) := fun _ _ _ => ((((Only.refl [] w5).alloc _).alloc _).alloc _).of_nil
    have a1 : Holds (w5.alloc (.cells #[.int .u8 49, .int .u8 50, .int .u8 51, .int .u8 52] 5 (4, 5))) 1 (some ⟨w5.heap.size, 0, none⟩) 4 (bvals [49, 50, 51, 52]) := Holds.lit_mark w5 _ _ _ _ rfl
    have a2 := fun w : World => fun q hq => (Holds.lit_mark w #[.int .u8 53, .int .u8 54, .int .u8 55, .int .u8 56, .int .u8 57] 5 (5, 6) q hq : Holds _ 1 _ 5 (bvals [53, 54, 55, 56, 57]))
    refine (ofAdler_any f [] _ 2 2 [⟨some ⟨w5.heap.size, 0, none⟩, 4, [49, 50, 51, 52]⟩, ⟨some ⟨w5.heap.size + 1, 0, none⟩, 5, [53, 54, 55, 56, 57]⟩] _ (h5.out.1.only (((((Only.refl [] w5).alloc _).alloc _).alloc _)) (by simp))
      (Holds.lit_mark _ _ _ _ _ (by simp)) rfl (by omega) ?_ ?_).mono ?_
    · intro p hp
      rcases List.mem_cons.1 hp with rfl | hp
      · refine ⟨(a1.keep ((Only.refl [] _).alloc _) (by simp)).keep ((Only.refl [] _).alloc _) (by simp), Nat.le_refl _, by simp, fun _ ad ha => ?_⟩
        injection ha with ha; subst ha
        show w5.heap.size ≠ f
        omega
      · obtain rfl := List.mem_singleton.1 hp
        refine ⟨(a2 _ _ (by simp)).keep ((Only.refl [] _).alloc _) (by simp), Nat.le_refl _, by simp, fun _ ad ha => ?_⟩
        injection ha with ha; subst ha
        show w5.heap.size + 1 ≠ f
        omega
    · intro _ ad ha
      injection ha with ha; subst ha
      show w5.heap.size + 1 + 1 ≠ f
      omega
    · rintro e w' ⟨he, _, ho⟩
      have k4 : adWord (adOf ([] ++ Part.all [⟨some ⟨w5.heap.size, 0, none⟩, 4, [49, 50, 51, 52]⟩, ⟨some ⟨w5.heap.size + 1, 0, none⟩, 5, [53, 54, 55, 56, 57]⟩])) = 152961502 := by
        show adWord (adOf [49, 50, 51, 52, 53, 54, 55, 56, 57]) = 152961502
        decide +kernel
      rw [k4] at he
      exact ⟨he, (o1 _ _ _).trans ho (by simp)⟩
  have HO := hide hO
  clear hO
  go_wp2_with fail
  refine (HO.out).mono ?_
  rintro e w6 ⟨rfl, ho6⟩
  go_wp2_with fail
  go_ret
  refine ⟨rfl, ?_⟩
  have e1 := HE.out.1.trans HE.out.2.1 (by simp)
  have e2 := (e1.alloc _).trans h4.out.2 (by simp; omega)
  have s1 := HE.out.1.size
  exact (e2.trans h5.out.2 (by simp)).trans ho6 (by simp; omega)
end Go.Proofs.Yteimhpjhmpdmjaa
