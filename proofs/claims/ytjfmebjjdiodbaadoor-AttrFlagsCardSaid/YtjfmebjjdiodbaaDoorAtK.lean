/-
  Attributes compared; what every law asks first.
-/
import Derived.Test.YtjfmebjjdiodbaaDoorAtV
import Derived.Laws.StructEq
namespace Go.Proofs.YtjfmebjjdiodbaaDoor
open Go Go.RowKit

def At.eqB (a b : At) : Bool := (a.fg == b.fg) && ((a.bg == b.bg) && (a.fl == b.fl))
theorem At.eqB_self (a : At) : a.eqB a = true := by simp [At.eqB]
theorem At.eqB_iff {a b : At} : a.eqB b = true ↔ a = b := by
  cases a; cases b
  simp [At.eqB]
theorem at_eq (a b : At) (w : World) : (binOp .eql 23 a.val b.val).run Tryd.prog w = .ok (.bool (a.eqB b)) w := by
  unfold At.val At.cells At.eqB
  generalize a.fg = x0
  generalize a.bg = x1
  generalize a.fl = x2
  generalize b.fg = y0
  generalize b.bg = y1
  generalize b.fl = y2
  simp [go_sem, Tryd.underlying23, Tryd.underlying3]
  by_cases h0 : x0 = y0 <;> by_cases h1 : x1 = y1 <;> by_cases h2 : x2 = y2 <;> simp [h0, h1, h2]

theorem C3.eqB_iff {a b : C3} : a.eqB b = true ↔ a = b := by
  cases a; cases b
  simp [C3.eqB]

theorem known_apply : applyA At.zero [1, 31, 48, 2, 1, 2, 3] = ⟨16777217, 33620483, 1⟩ := At.eqB_iff.1 (by decide +kernel)
theorem known_fore : foreA ⟨16777217, 33620483, 1⟩ = ⟨205, 0, 0⟩ := C3.eqB_iff.1 (by decide +kernel)
theorem known_back : backA ⟨16777217, 33620483, 1⟩ = ⟨1, 2, 3⟩ := C3.eqB_iff.1 (by decide +kernel)
theorem known_basic : basicA 16 = ⟨0, 0, 0⟩ := C3.eqB_iff.1 (by decide +kernel)
theorem known_right : rightA ⟨16777217, 33620483, 1⟩ = true := by decide +kernel

set_option maxRecDepth 100000 in
set_option maxHeartbeats 4000000 in
theorem known_any (w : World) (T : Tab w) : Calls Tryd.prog 8 #[] w fun e w' => e = .returned (.bool true) ∧ Only [] w w' := by
  have o0 : Only [] w (w.alloc (.cells (ivals [1, 31, 48, 2, 1, 2, 3]).toArray 3)) := (Only.refl [] w).alloc _
  have hl : Holds (w.alloc (.cells (ivals [1, 31, 48, 2, 1, 2, 3]).toArray 3)) 1 (some ⟨w.heap.size, 0, none⟩) 7 (ivals [1, 31, 48, 2, 1, 2, 3]) := Holds.lit w (ivals [1, 31, 48, 2, 1, 2, 3]).toArray 3
  have HA := hide (apply_any At.zero At.zero_wf (some ⟨w.heap.size, 0, none⟩) 7 7 [1, 31, 48, 2, 1, 2, 3] _ (T.only o0 (by simp)) hl rfl (by omega))
  have HC := hide (fun w T => colors_any ⟨16777217, 33620483, 1⟩ ⟨by decide, by decide, by decide⟩ w T)
  have HB := hide (fun w T => basic_any 16 w T)
  have HR := hide (fun w => right_any ⟨16777217, 33620483, 1⟩ ⟨by decide, by decide, by decide⟩ w)
  rw [known_apply] at HA
  rw [known_fore, known_back] at HC
  rw [known_basic] at HB
  rw [known_right] at HR
  have q1 : ∀ w, (binOp .eql 23 (.agg #[.int .i64 16777217, .int .i64 33620483, .int .i64 1]) (.agg #[.int .i64 16777217, .int .i64 33620483, .int .i64 1])).run Tryd.prog w = .ok (.bool true) w := fun w => at_eq ⟨16777217, 33620483, 1⟩ ⟨16777217, 33620483, 1⟩ w
  have q2 : ∀ w, (binOp .eql 29 (.agg #[.int .u8 205, .int .u8 0, .int .u8 0]) (.agg #[.int .u8 205, .int .u8 0, .int .u8 0])).run Tryd.prog w = .ok (.bool true) w := fun w => c3_eq ⟨205, 0, 0⟩ ⟨205, 0, 0⟩ w
  have q3 : ∀ w, (binOp .eql 29 (.agg #[.int .u8 1, .int .u8 2, .int .u8 3]) (.agg #[.int .u8 1, .int .u8 2, .int .u8 3])).run Tryd.prog w = .ok (.bool true) w := fun w => c3_eq ⟨1, 2, 3⟩ ⟨1, 2, 3⟩ w
  have q4 : ∀ w, (binOp .eql 29 (.agg #[.int .u8 0, .int .u8 0, .int .u8 0]) (.agg #[.int .u8 0, .int .u8 0, .int .u8 0])).run Tryd.prog w = .ok (.bool true) w := fun w => c3_eq ⟨0, 0, 0⟩ ⟨0, 0, 0⟩ w
  have HI := hide (And.intro o0 T)
  clear o0 hl T
  go_enter Tryd.func8, Tryd.ntmps8
  go_wp2_with fail
  refine (HA.out).mono ?_
  rintro e w1 ⟨rfl, ho1⟩
  unfold At.val At.cells
  have o1 := HI.out.1.trans ho1 (S := []) (by simp)
  have m1 := Has.new w1 23 #[.int .i64 16777217, .int .i64 33620483, .int .i64 1]
  have o2 := o1.alloc (.cells #[.int .i64 16777217, .int .i64 33620483, .int .i64 1] 23)
  have HM := hide (And.intro m1 o2)
  clear ho1 o1 m1 o2 HA
  go_upto_region 2 with fail
  obtain ⟨m1, o2⟩ := HM.out
  generalize w1.alloc (.cells #[.int .i64 16777217, .int .i64 33620483, .int .i64 1] 23) = W at *
  have c0 : W.cell? ⟨w1.heap.size, 0, none⟩ = some (.int .i64 16777217) := m1.cell 0
  have c1 : W.cell? ⟨w1.heap.size, 1, none⟩ = some (.int .i64 33620483) := m1.cell 1
  have c2 : W.cell? ⟨w1.heap.size, 2, none⟩ = some (.int .i64 1) := m1.cell 2
  have HM := hide (And.intro m1 o2)
  clear m1 o2
  go_wp2_with fail
  refine (HC.out W (HI.out.2.only HM.out.2 (by simp))).mono ?_
  rintro e w2 ⟨rfl, ho2⟩
  unfold C3.val C3.cells
  clear c0 c1 c2
  have m2 := HM.out.1.only ho2 (by simp)
  have o2 := HM.out.2.trans ho2 (S := []) (by simp)
  have m3 := (m2.alloc (.cells #[.int .u8 205, .int .u8 0, .int .u8 0] 29)).alloc (.cells #[.int .u8 1, .int .u8 2, .int .u8 3] 29)
  have o3 := (o2.alloc (.cells #[.int .u8 205, .int .u8 0, .int .u8 0] 29)).alloc (.cells #[.int .u8 1, .int .u8 2, .int .u8 3] 29)
  have f3 := (Has.new w2 29 #[.int .u8 205, .int .u8 0, .int .u8 0]).alloc (.cells #[.int .u8 1, .int .u8 2, .int .u8 3] 29)
  have b3 := Has.new (w2.alloc (.cells #[.int .u8 205, .int .u8 0, .int .u8 0] 29)) 29 #[.int .u8 1, .int .u8 2, .int .u8 3]
  simp only [World.size_alloc] at b3
  have HM2 := hide (And.intro m3 (And.intro o3 (And.intro f3 b3)))
  clear m2 o2 m3 o3 f3 b3 HM ho2
  go_upto_region 3 with fail
  obtain ⟨m3, o3, f3, b3⟩ := HM2.out
  generalize (w2.alloc (.cells #[.int .u8 205, .int .u8 0, .int .u8 0] 29)).alloc (.cells #[.int .u8 1, .int .u8 2, .int .u8 3] 29) = W2 at *
  have c0 : W2.cell? ⟨w1.heap.size, 0, none⟩ = some (.int .i64 16777217) := m3.cell 0
  have c1 : W2.cell? ⟨w1.heap.size, 1, none⟩ = some (.int .i64 33620483) := m3.cell 1
  have c2 : W2.cell? ⟨w1.heap.size, 2, none⟩ = some (.int .i64 1) := m3.cell 2
  have d0 : W2.cell? ⟨w2.heap.size, 0, none⟩ = some (.int .u8 205) := f3.cell 0
  have d1 : W2.cell? ⟨w2.heap.size, 1, none⟩ = some (.int .u8 0) := f3.cell 1
  have d2 : W2.cell? ⟨w2.heap.size, 2, none⟩ = some (.int .u8 0) := f3.cell 2
  have e0 : W2.cell? ⟨w2.heap.size + 1, 0, none⟩ = some (.int .u8 1) := b3.cell 0
  have e1 : W2.cell? ⟨w2.heap.size + 1, 1, none⟩ = some (.int .u8 2) := b3.cell 1
  have e2 : W2.cell? ⟨w2.heap.size + 1, 2, none⟩ = some (.int .u8 3) := b3.cell 2
  have HM := hide (And.intro m3 o3)
  clear m3 o3 f3 b3 HM2 HC
  go_wp2_with fail
  refine (HB.out W2 (HI.out.2.only HM.out.2 (by simp))).mono ?_
  rintro e w3 ⟨rfl, ho3⟩
  clear c0 c1 c2 d0 d1 d2 e0 e1 e2
  have m4 := HM.out.1.only ho3 (by simp)
  have o4 := HM.out.2.trans ho3 (S := []) (by simp)
  have c0 : w3.cell? ⟨w1.heap.size, 0, none⟩ = some (.int .i64 16777217) := m4.cell 0
  have c1 : w3.cell? ⟨w1.heap.size, 1, none⟩ = some (.int .i64 33620483) := m4.cell 1
  have c2 : w3.cell? ⟨w1.heap.size, 2, none⟩ = some (.int .i64 1) := m4.cell 2
  have HO := hide o4
  clear m4 o4 ho3
  unfold C3.val C3.cells
  go_wp2_with fail
  refine (HR.out _).mono ?_
  rintro e w4 ⟨rfl, ho4⟩
  go_wp2_with fail
  go_ret
  exact ⟨rfl, HO.out.trans ho4 (by simp)⟩
end Go.Proofs.YtjfmebjjdiodbaaDoor
