/-
  Package ring: what every law asks first; a ring told whatever its slots are.
-/
import Derived.Test.YtakeoabeaopamaaRnES
import Derived.Test.YtakeoabeaopamaaRnE
namespace Go.Proofs.Ytakeoabeaopamaa
open Go Go.RowKit

def sA : Value := .string ⟨#[97]⟩
def sB : Value := .string ⟨#[98]⟩
def sC : Value := .string ⟨#[99]⟩

set_option maxRecDepth 100000 in
set_option maxHeartbeats 4000000 in
theorem known_any (w : World) : Calls Try.prog 6 #[] w fun e w' => e = .returned (.bool true) ∧ Only [] w w' := by
  have HN := hide (new_rs 2 (by omega) w)
  rw [show ((2 : Nat) : Int) = 2 from rfl] at HN
  have HP1 := hide (fun w1 v (h : RgV_rs w1 w.heap.size w.heap.size 2 v [] 0) => push_room_rs h ⟨#[97]⟩ (by decide))
  have HP2 := hide (fun w1 v (h : RgV_rs w1 w.heap.size w.heap.size 2 v [sA] 0) => push_room_rs h ⟨#[98]⟩ (by decide))
  have HP3 := hide (fun w1 v (h : RgV_rs w1 w.heap.size w.heap.size 2 v [sA, sB] 0) => push_out_rs h ⟨#[99]⟩ sA (by decide) rfl (by omega))
  have HA : Hid (∀ w1 v, RgV_rs w1 w.heap.size w.heap.size 2 v [sB, sC] 1 → Calls Try.prog 21 #[.pointer (some ⟨w.heap.size, 0, none⟩), .int .i64 1] w1 fun e w' => e = .returned (.tuple #[sC, .bool true]) ∧ Only [] w1 w') :=
    hide (fun w1 v h => by obtain ⟨n, c, A, f, xs, rfl, h⟩ := h; exact at_rs h 1 sC rfl)
  have HL : Hid (∀ w1 v, RgV_rs w1 w.heap.size w.heap.size 2 v [sB, sC] 1 → Calls Try.prog 22 #[.pointer (some ⟨w.heap.size, 0, none⟩)] w1 fun e w' => e = .returned (.int .i64 2) ∧ Only [] w1 w') :=
    hide (fun w1 v h => by obtain ⟨n, c, A, f, xs, rfl, h⟩ := h; exact len_rs h)
  have HG : Hid (∀ w1 v, RgV_rs w1 w.heap.size w.heap.size 2 v [sB, sC] 1 → Calls Try.prog 23 #[.pointer (some ⟨w.heap.size, 0, none⟩)] w1 fun e w' => e = .returned (.int .i64 1) ∧ Only [] w1 w') :=
    hide (fun w1 v h => by obtain ⟨n, c, A, f, xs, rfl, h⟩ := h; exact gone_rs h)
  have HO : Hid (∀ w1 v w2 v2 , Only [] w w1 → Tn [w.heap.size] w1 v w2 v2 → (∀ b, v.ownBlock = some b → w.heap.size ≤ b) → Only [] w w2 ∧ ∀ b, v2.ownBlock = some b → w.heap.size ≤ b) := by
    refine hide (fun w1 v w2 v2 h1 hT hv => ⟨h1.trans hT.only (fun i hi hlt => ?_), fun b hb => ?_⟩)
    · rcases List.mem_append.1 hi with hi | hi
      · simp at hi; omega
      · cases hv' : v.ownBlock with
        | none => rw [hv'] at hi; simp at hi
        | some j => rw [hv'] at hi; simp at hi; have := hv j hv'; omega
    · rcases hT.own b hb with h | h
      · exact hv b h
      · exact Nat.le_trans h1.size h
  go_enter Try.func6, Try.ntmps6
  go_wp2_with fail
  refine (HN.out).mono ?_
  rintro e w1 ⟨rfl, hR, ho⟩
  have H1 := hide (And.intro (⟨_, _, _, _, _, rfl, hR⟩ : RgV_rs w1 w.heap.size w.heap.size 2 (.slice none 0 0) [] 0) ho)
  clear hR ho HN
  go_wp2_with fail
  refine (HP1.out _ _ H1.out.1).mono ?_
  rintro e w2 ⟨v2, rfl, hR, hT⟩
  have ho := HO.out _ _ _ _ H1.out.2 hT (fun b hb => by simp [Value.ownBlock] at hb)
  have H2 := hide (And.intro hR ho)
  clear hR ho hT HP1 H1
  go_wp2_with fail
  refine (HP2.out _ _ H2.out.1).mono ?_
  rintro e w3 ⟨v3, rfl, hR, hT⟩
  have ho := HO.out _ _ _ _ H2.out.2.1 hT H2.out.2.2
  have H3 := hide (And.intro hR ho)
  clear hR ho hT HP2 H2
  go_wp2_with fail
  refine (HP3.out _ _ H3.out.1).mono ?_
  rintro e w4 ⟨v4, rfl, hR, hT⟩
  have ho := HO.out _ _ _ _ H3.out.2.1 hT H3.out.2.2
  have H4 := hide (And.intro hR ho)
  clear hR ho hT HP3 H3
  unfold sA
  go_wp2_with fail
  refine (HA.out _ _ H4.out.1).mono ?_
  rintro e w5 ⟨rfl, ho5⟩
  have H5 := hide (And.intro (H4.out.1.only ho5) (H4.out.2.1.trans ho5 (S := []) (by simp)))
  clear ho5 HA H4
  unfold sC
  go_wp2_with fail
  refine (HL.out _ _ H5.out.1).mono ?_
  rintro e w6 ⟨rfl, ho6⟩
  have H6 := hide (And.intro (H5.out.1.only ho6) (H5.out.2.trans ho6 (S := []) (by simp)))
  clear ho6 HL H5
  go_wp2_with fail
  refine (HG.out _ _ H6.out.1).mono ?_
  rintro e w7 ⟨rfl, ho7⟩
  have H7 := hide (H6.out.2.trans ho7 (S := []) (by simp))
  clear ho7 HG H6
  go_wp2_with fail
  go_ret
  exact ⟨rfl, H7.out⟩
end Go.Proofs.Ytakeoabeaopamaa
