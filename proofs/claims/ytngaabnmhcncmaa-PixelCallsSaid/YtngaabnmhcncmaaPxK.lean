/-
  Package pixel: what every law asks first.
-/
import Derived.Test.YtngaabnmhcncmaaPxH
import Derived.Test.YtngaabnmhcncmaaPxS
import Derived.Test.YtngaabnmhcncmaaStr
import Derived.Test.YtngaabnmhcncmaaEqA
namespace Go.Proofs.Ytngaabnmhcncmaa
open Go Go.RowKit

theorem str_of {w : World} {A : Option Addr} {n : Nat} {l : List UInt8} (h : Holds w 1 A n (bvals l)) (c : Nat) : (convert 22 9 (.slice A n c)).run Try.prog w = .ok (.string ⟨l.toArray⟩) w :=
  run_string_of h c 22 5 9 Try.underlying22 Try.underlying5 Try.underlying9

theorem px_inj {c d : Px} : c = d ↔ (c.r = d.r ∧ c.g = d.g) ∧ c.b = d.b ∧ c.a = d.a := by
  cases c; cases d; simp [and_assoc]
/-- Which colours are the same. -/
def pxEq (c d : Px) : Bool := decide ((c.r = d.r ∧ c.g = d.g) ∧ c.b = d.b ∧ c.a = d.a)
theorem px_cell (c : Px) (i : Nat) (h : i < 4) : c.cells[i]? = some (.int .u8 ((c.at i).toNat : Int)) := by
  rcases (show i = 0 ∨ i = 1 ∨ i = 2 ∨ i = 3 by omega) with rfl | rfl | rfl | rfl <;> rfl
theorem px_all (c d : Px) : allEq (fun i => ((c.at i).toNat : Int)) (fun i => ((d.at i).toNat : Int)) (List.range' 0 4) = pxEq c d := by
  have key : ∀ x y : UInt8, (((x.toNat : Int)) == (y.toNat : Int)) = decide (x = y) := fun x y => by
    rw [Bool.eq_iff_iff, beq_iff_eq, decide_eq_true_iff, Int.ofNat_inj, UInt8.toNat_inj]
  have e : List.range' 0 4 = [0, 1, 2, 3] := rfl
  rw [e]
  unfold allEq pxEq
  simp only [List.all_cons, List.all_nil, key]
  show (decide (c.r = d.r) && (decide (c.g = d.g) && (decide (c.b = d.b) && (decide (c.a = d.a) && true)))) = _
  rw [Bool.eq_iff_iff]
  simp [and_assoc]
theorem col_eq (c d : Px) (w : World) : (binOp .eql 41 c.val d.val).run Try.prog w = .ok (.bool (pxEq c d)) w := by
  show (binOp .eql 41 (.agg c.cells) (.agg d.cells)).run Try.prog w = _
  rw [run_eql_struct, run_equalIn_ints w 9998 41 5 4 .u8 .u8 c.cells d.cells _ _ Try.underlying41 Try.underlying5 (by kernel_rfl) (by kernel_rfl) (fun i hi => px_cell c i hi) (fun i hi => px_cell d i hi), px_all]
  rfl
theorem col_ne (c d : Px) (w : World) : (binOp .neq 41 c.val d.val).run Try.prog w = .ok (.bool (!pxEq c d)) w := by
  show (binOp .neq 41 (.agg c.cells) (.agg d.cells)).run Try.prog w = _
  rw [run_neq_struct, run_equalIn_ints w 9998 41 5 4 .u8 .u8 c.cells d.cells _ _ Try.underlying41 Try.underlying5 (by kernel_rfl) (by kernel_rfl) (fun i hi => px_cell c i hi) (fun i hi => px_cell d i hi), px_all]
  rfl
theorem arr_ne (c d : Px) (w : World) : (binOp .neq 40 c.val d.val).run Try.prog w = .ok (.bool (!pxEq c d)) w := by
  show (binOp .neq 40 (.agg c.cells) (.agg d.cells)).run Try.prog w = _
  rw [run_neq_struct, run_equalIn_ints w 9998 40 5 4 .u8 .u8 c.cells d.cells _ _ Try.underlying40 Try.underlying5 (by kernel_rfl) (by kernel_rfl) (fun i hi => px_cell c i hi) (fun i hi => px_cell d i hi), px_all]
  rfl
theorem pxEq_self (c : Px) : pxEq c c = true := by simp [pxEq]

theorem known_rgb : rgbL [1, 2, 3] 1 = [1, 2, 3, 255] := by decide
theorem known_over : over ⟨255, 0, 0, 255⟩ ⟨0, 255, 0, 128⟩ = ⟨127, 128, 0, 255⟩ := by
  unfold over ov1
  simp only [Px.mk.injEq]
  decide
theorem known_sc1 : scN 1 3 255 = 85 := by decide
theorem known_sc2 : scN 3 7 255 = 109 := by decide

set_option maxRecDepth 100000 in
set_option maxHeartbeats 4000000 in
theorem known_any (w : World) : Calls Try.prog 10 #[] w fun e w' => e = .returned (.bool true) ∧ Only [] w w' := by
  have o0 : Only [] w (w.alloc (.cells #[.int .u8 1, .int .u8 2, .int .u8 3] 5)) := (Only.refl [] w).alloc _
  have hl : Holds (w.alloc (.cells #[.int .u8 1, .int .u8 2, .int .u8 3] 5)) 1 (some ⟨w.heap.size, 0, none⟩) 3 (bvals [1, 2, 3]) := Holds.lit w #[.int .u8 1, .int .u8 2, .int .u8 3] 5
  have HF := hide (rgb_ok 1 1 (some ⟨w.heap.size, 0, none⟩) 3 3 [1, 2, 3] (w.alloc (.cells #[.int .u8 1, .int .u8 2, .int .u8 3] 5)) (by decide) hl rfl (by omega))
  have HO : Hid (∀ w, Calls Try.prog 36 #[.agg #[.int .u8 255, .int .u8 0, .int .u8 0, .int .u8 255], .agg #[.int .u8 0, .int .u8 255, .int .u8 0, .int .u8 128]] w fun e w' => e = .returned (.agg #[.int .u8 127, .int .u8 128, .int .u8 0, .int .u8 255]) ∧ Only [] w w') := hide (fun w => by
    have := over_any ⟨255, 0, 0, 255⟩ ⟨0, 255, 0, 128⟩ w
    rw [known_over] at this
    exact this)
  have HS1 := hide (fun w => scaleI_any 1 3 255 w (by omega) (by omega) (by omega))
  rw [known_sc1] at HS1
  have HS2 := hide (fun w => scaleB_any 3 7 255 w (by omega) (by omega) (by omega))
  rw [known_sc2] at HS2
  have hce : ∀ w, (binOp .eql 41 (.agg #[.int .u8 127, .int .u8 128, .int .u8 0, .int .u8 255]) (.agg #[.int .u8 127, .int .u8 128, .int .u8 0, .int .u8 255])).run Try.prog w = .ok (.bool true) w := fun w => col_eq ⟨127, 128, 0, 255⟩ ⟨127, 128, 0, 255⟩ w
  have HI := hide o0
  clear o0 hl
  go_enter Try.func10, Try.ntmps10
  go_wp2_with fail
  refine (HF.out).mono ?_
  rintro e w1 ⟨v, rfl, ⟨A1, c1, rfl, how⟩, ho1⟩
  have hr : rgbL [1, 2, 3] ((1 : Int).toNat * (1 : Int).toNat) = [1, 2, 3, 255] := known_rgb
  rw [hr] at how ⊢
  have hst : Holds w1 1 A1 4 (bvals [1, 2, 3, 255]) := Holds.of_own how
  have h1 := hide (And.intro how (HI.out.trans ho1 (S := []) (by simp)))
  clear how ho1 hr
  unfold mval
  have hm : Has (w1.alloc (.cells #[.int .i64 1, .int .i64 1, .slice A1 4 c1] 24)) w1.heap.size 24 #[.int .i64 1, .int .i64 1, .slice A1 4 c1] := Has.new w1 _ _
  have om : Only [] w1 (w1.alloc (.cells #[.int .i64 1, .int .i64 1, .slice A1 4 c1] 24)) := (Only.refl [] w1).alloc _
  go_wp2_with fail
  refine (HO.out _).mono ?_
  rintro e w2 ⟨rfl, ho2⟩
  have hm2 := hm.only ho2 (by simp)
  have om2 := om.trans ho2 (S := []) (by simp)
  have hm3 := hm2.alloc (.cells #[.int .u8 127, .int .u8 128, .int .u8 0, .int .u8 255] 41)
  have om3 := om2.alloc (.cells #[.int .u8 127, .int .u8 128, .int .u8 0, .int .u8 255] 41)
  have s1 := str_of (hst.keep om3 (by simp)) c1
  have m0 := hm3.cell 0
  have m1 := hm3.cell 1
  have m2 := hm3.cell 2
  simp only [List.getElem?_toArray, List.getElem?_cons_zero, List.getElem?_cons_succ] at m0 m1 m2
  have H3 := hide om3
  clear hm om hm2 om2 hm3 om3 hst ho2
  go_wp2_with fail
  refine (HS1.out _).mono ?_
  rintro e w3 ⟨rfl, ho3⟩
  have o3 := h1.out.2.trans (H3.out.trans ho3 (S := []) (by simp)) (S := []) (by simp)
  clear m0 m1 m2 s1 ho3
  go_wp2_with fail
  refine (HS2.out _).mono ?_
  rintro e w4 ⟨rfl, ho4⟩
  have o4 := o3.trans ho4 (S := []) (by simp)
  go_wp2_with fail
  go_ret
  exact ⟨rfl, o4⟩
end Go.Proofs.Ytngaabnmhcncmaa
