/-
  The fixed codes' lengths, as package huff puts them together.
-/
import Derived.Test.YtglkfgpefpebmaaDoorHufZ
namespace Go.Proofs.YtglkfgpefpebmaaDoor
open Go Go.RowKit

theorem parts_all (a b c d : Option Addr) : CPart.all [⟨a, 144, List.replicate 144 8⟩, ⟨b, 112, List.replicate 112 9⟩, ⟨c, 24, List.replicate 24 7⟩, ⟨d, 8, List.replicate 8 8⟩] = fixedL := by
  unfold CPart.all fixedL
  simp only [List.map_cons, List.map_nil, List.flatten_cons, List.flatten_nil, List.append_nil]
theorem lit_one (w : World) (v : UInt8) : Holds (w.alloc (.cells #[.int .u8 (v.toNat : Int)] 5)) 1 (some ⟨w.heap.size, 0, none⟩) 1 (bvals [v]) := Holds.lit w #[.int .u8 (v.toNat : Int)] 5

set_option maxRecDepth 100000 in
set_option maxHeartbeats 8000000 in
theorem fixed_own (w : World) : Calls Tryd.prog 43 #[] w fun e w' => ∃ va g, e = .returned (.tuple #[va, .slice (some ⟨g, 0, none⟩) 30 30]) ∧ w'.ownsRow 0 5 1 va 288 (bvals fixedL) ∧ w'.ownsRow 0 5 1 (.slice (some ⟨g, 0, none⟩) 30 30) 30 (bvals fixedD) ∧ w.heap.size ≤ g ∧ Only [] w w' := by
  have l8 := fun w1 => lit_one w1 8
  have l9 := fun w1 => lit_one w1 9
  have l7 := fun w1 => lit_one w1 7
  have l5 := fun w1 => lit_one w1 5
  have HL := hide (And.intro l8 (And.intro l9 (And.intro l7 l5)))
  clear l8 l9 l7 l5
  go_enter Tryd.func43, Tryd.ntmps43
  go_wp2_with fail
  refine (repeat_any w.heap.size 8 144 (.inl rfl) _ (HL.out.1 w)).mono ?_
  rintro e w1 ⟨g1, rfl, _, hg1, ho1⟩
  have H1 := hide (And.intro hg1 (((Only.refl [] w).alloc _).trans ho1 (S := []) (by simp)))
  clear hg1 ho1
  go_wp2_with fail
  refine (repeat_any w1.heap.size 9 112 (.inr (.inl rfl)) _ (HL.out.2.1 w1)).mono ?_
  rintro e w2 ⟨g2, rfl, _, hg2, ho2⟩
  have H2 := hide (And.intro hg2 (((Only.refl [] w1).alloc _).trans ho2 (S := []) (by simp)))
  clear hg2 ho2
  go_wp2_with fail
  refine (repeat_any w2.heap.size 7 24 (.inr (.inr (.inl rfl))) _ (HL.out.2.2.1 w2)).mono ?_
  rintro e w3 ⟨g3, rfl, _, hg3, ho3⟩
  have H3 := hide (And.intro hg3 (((Only.refl [] w2).alloc _).trans ho3 (S := []) (by simp)))
  clear hg3 ho3
  go_wp2_with fail
  refine (repeat_any w3.heap.size 8 8 (.inr (.inr (.inr (.inl rfl)))) _ (HL.out.1 w3)).mono ?_
  rintro e w4 ⟨g4, rfl, _, hg4, ho4⟩
  have H4 := hide (And.intro hg4 (((Only.refl [] w3).alloc _).trans ho4 (S := []) (by simp)))
  clear hg4 ho4
  go_wp2_with fail
  have o24 : Only [] w2 w4 := H3.out.2.trans H4.out.2 (by simp)
  have o14 : Only [] w1 w4 := H2.out.2.trans o24 (by simp)
  have hps : ∀ p ∈ [(⟨some ⟨g1, 0, none⟩, 144, List.replicate 144 8⟩ : CPart), ⟨some ⟨g2, 0, none⟩, 112, List.replicate 112 9⟩, ⟨some ⟨g3, 0, none⟩, 24, List.replicate 24 7⟩, ⟨some ⟨g4, 0, none⟩, 8, List.replicate 8 8⟩],
      Holds (w4.alloc (.cells #[.slice (some ⟨g1, 0, none⟩) 144 144, .slice (some ⟨g2, 0, none⟩) 112 112, .slice (some ⟨g3, 0, none⟩) 24 24, .slice (some ⟨g4, 0, none⟩) 8 8] 22)) 1 p.A p.l.length (bvals p.l) := by
    intro p hp
    simp only [List.mem_cons, List.not_mem_nil, or_false] at hp
    rcases hp with rfl | rfl | rfl | rfl
    · show Holds _ 1 (some ⟨g1, 0, none⟩) (List.replicate 144 (8 : UInt8)).length _
      rw [List.length_replicate]
      exact (H1.out.1.keep o14 (by simp)).keep ((Only.refl [] _).alloc _) (by simp)
    · show Holds _ 1 (some ⟨g2, 0, none⟩) (List.replicate 112 (9 : UInt8)).length _
      rw [List.length_replicate]
      exact (H2.out.1.keep o24 (by simp)).keep ((Only.refl [] _).alloc _) (by simp)
    · show Holds _ 1 (some ⟨g3, 0, none⟩) (List.replicate 24 (7 : UInt8)).length _
      rw [List.length_replicate]
      exact (H3.out.1.keep H4.out.2 (by simp)).keep ((Only.refl [] _).alloc _) (by simp)
    · show Holds _ 1 (some ⟨g4, 0, none⟩) (List.replicate 8 (8 : UInt8)).length _
      rw [List.length_replicate]
      exact H4.out.1.keep ((Only.refl [] _).alloc _) (by simp)
  have hPP : Holds (w4.alloc (.cells #[.slice (some ⟨g1, 0, none⟩) 144 144, .slice (some ⟨g2, 0, none⟩) 112 112, .slice (some ⟨g3, 0, none⟩) 24 24, .slice (some ⟨g4, 0, none⟩) 8 8] 22)) 1 (some ⟨w4.heap.size, 0, none⟩) 4
      ([(⟨some ⟨g1, 0, none⟩, 144, List.replicate 144 8⟩ : CPart), ⟨some ⟨g2, 0, none⟩, 112, List.replicate 112 9⟩, ⟨some ⟨g3, 0, none⟩, 24, List.replicate 24 7⟩, ⟨some ⟨g4, 0, none⟩, 8, List.replicate 8 8⟩].map CPart.val) := by
    have h := Holds.lit w4 #[.slice (some ⟨g1, 0, none⟩) 144 144, .slice (some ⟨g2, 0, none⟩) 112 112, .slice (some ⟨g3, 0, none⟩) 24 24, .slice (some ⟨g4, 0, none⟩) 8 8] 22
    simpa [CPart.val] using h
  have hcon := concat_any (some ⟨w4.heap.size, 0, none⟩) 4 _ _ hPP (by simp) hps (by rw [parts_all, fixedL_len]; decide) (by rw [parts_all, fixedL_len]; decide)
  rw [parts_all, fixedL_len] at hcon
  refine Calls.mono hcon ?_
  rintro e w5 ⟨v5, rfl, hown5, ho5⟩
  have h04 : Only [] w w4 := H1.out.2.trans o14 (by simp)
  have H5 := hide (And.intro hown5 ((h04.alloc _).trans ho5 (S := []) (by simp)))
  clear hown5 ho5 hcon hPP hps o24 o14 h04
  go_wp2_with fail
  refine (repeat_row w5.heap.size 5 30 (.inr (.inr (.inr (.inr rfl)))) _ (HL.out.2.2.2 w5)).mono ?_
  rintro e w6 ⟨g6, rfl, hge, hg6, ho6⟩
  have o6 : Only [] w5 w6 := ((Only.refl [] w5).alloc _).trans ho6 (S := []) (by simp)
  have hown6 : w6.ownsRow 0 5 1 (.slice (some ⟨g6, 0, none⟩) 30 30) 30 (bvals fixedD) :=
    ⟨by decide +kernel, .inr ⟨g6, 30, _, rfl, Nat.zero_le _, hg6, Nat.le_refl _, by decide, by decide +kernel, by kernel_rfl⟩⟩
  have hge2 := Nat.le_trans (H5.out.2.size) (Nat.le_trans (by simp) hge)
  have H6 := hide (And.intro hown6 (And.intro (own_keep (own_mono H5.out.1 (Nat.zero_le _)) o6 (by simp)) (H5.out.2.trans o6 (S := []) (by simp))))
  clear hg6 ho6 o6
  go_wp2_with fail
  go_ret2
  exact ⟨v5, g6, rfl, H6.out.2.1, H6.out.1, hge2, H6.out.2.2⟩
theorem fixed_any (w : World) : Calls Tryd.prog 43 #[] w fun e w' => ∃ va A c, e = .returned (.tuple #[va, .slice A 30 c]) ∧ w'.ownsRow 0 5 1 va 288 (bvals fixedL) ∧ Holds w' 1 A 30 (bvals fixedD) ∧ Only [] w w' :=
  (fixed_own w).mono fun _ _ ⟨va, _, he, h1, h2, _, ho⟩ => ⟨va, _, _, he, h1, Holds.of_own h2, ho⟩
end Go.Proofs.YtglkfgpefpebmaaDoor
