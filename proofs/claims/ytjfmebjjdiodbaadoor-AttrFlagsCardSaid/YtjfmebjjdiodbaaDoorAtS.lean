/-
  Package attr: a colour's number taken apart; which colours there are.
-/
import Derived.Test.YtjfmebjjdiodbaaDoorAtG
import Derived.Test.YtjfmebjjdiodbaaDoorEqA
namespace Go.Proofs.YtjfmebjjdiodbaaDoor
open Go Go.RowKit

theorem results_tmp_cell {fn : Func} {p u : Tmp} {ty : TypeId} (h : fn.results = #[.tmp u, .cell p ty]) (tmps : Array Value) (P : Program) (w : World) :
    (results fn tmps).run P w =
      ((asAddr (tmps.getD p undef)).run P w).andThen fun a w1 => ((loadVar ty a).run P w1).andThen fun x w2 => .ok (.tuple #[tmps.getD u undef, x]) w2 := by
  simp only [results, h]
  simp [Sem.run_bind, Result.andThen]
/-- Two results, the second one in a cell's row. -/
theorem results_tmp_row {P : Program} {fn : Func} {p u : Tmp} {ty : TypeId} (h : fn.results = #[.tmp u, .cell p ty]) (tmps : Array Value) (w : World) (g : Nat) (t : TypeId) (cs : Array Value) (d : TypeDesc)
    (hp : tmps.getD p undef = .pointer (some ⟨g, 0, none⟩)) (hg : Has w g t cs)
    (hu : P.underlying ty = some d) (hd : (match d with | .struct _ | .array _ _ => true | _ => false) = true) (hi : (P.info? ty).map (·.size) = some cs.size) :
    (results fn tmps).run P w = .ok (.tuple #[tmps.getD u undef, .agg cs]) w := by
  rw [results_tmp_cell h, hp]
  simp [asAddr, Result.andThen, run_loadVar_row w g t ty cs (0, 0) d hg hu hd hi]

/-- Three bytes. -/
structure C3 where
  r : Int
  g : Int
  b : Int
def C3.cells (c : C3) : Array Value := #[.int .u8 c.r, .int .u8 c.g, .int .u8 c.b]
def C3.val (c : C3) : Value := .agg c.cells
def C3.zero : C3 := ⟨0, 0, 0⟩
def C3.at (c : C3) (i : Nat) : Int := if i = 0 then c.r else if i = 1 then c.g else c.b
def C3.eqB (c d : C3) : Bool := (c.r == d.r) && ((c.g == d.g) && (c.b == d.b))
theorem C3.eqB_self (c : C3) : c.eqB c = true := by simp [C3.eqB]
theorem C3.cell (c : C3) (i : Nat) (h : i < 3) : c.cells[i]? = some (.int .u8 (c.at i)) := by
  rcases (show i = 0 ∨ i = 1 ∨ i = 2 by omega) with rfl | rfl | rfl <;> rfl
theorem C3.all (c d : C3) : allEq c.at d.at (List.range' 0 3) = c.eqB d := by
  have e : List.range' 0 3 = [0, 1, 2] := rfl
  rw [e]
  unfold allEq C3.eqB
  simp only [List.all_cons, List.all_nil]
  show ((c.r == d.r) && ((c.g == d.g) && ((c.b == d.b) && true))) = _
  rw [Bool.and_true]
theorem c3_eq (c d : C3) (w : World) : (binOp .eql 29 c.val d.val).run Tryd.prog w = .ok (.bool (c.eqB d)) w := by
  show (binOp .eql 29 (.agg c.cells) (.agg d.cells)).run Tryd.prog w = _
  rw [run_eql_struct, run_equalIn_ints w 9998 29 5 3 .u8 .u8 c.cells d.cells _ _ Tryd.underlying29 Tryd.underlying5 (by kernel_rfl) (by kernel_rfl) (fun i hi => c.cell i hi) (fun i hi => d.cell i hi), C3.all]
  rfl

/-- What stands behind a colour's kind. -/
def rgbA (c : Int) : C3 := ⟨c / 65536 % 256, c / 256 % 256, c % 256⟩

set_option maxRecDepth 100000 in
theorem split_any (c : Int) (hc : I64 c) (w : World) :
    Calls Tryd.prog 27 #[.int .i64 c] w fun e w' => e = .returned (.tuple #[.int .i64 (kindA c), (rgbA c).val]) ∧ Only [] w w' := by
  have hk := not_24 hc
  unfold rgbA C3.val C3.cells
  generalize kindA c = k at *
  have HC := hide hc
  clear hc
  go_enter Tryd.func27, Tryd.ntmps27
  go_wp2_with fail
  exact bodyPost_ret (results_tmp_row Tryd.results27 _ _ w.heap.size 29 _ _ rfl (Has.new w _ _) Tryd.underlying29 rfl (by kernel_rfl)) rfl ⟨rfl, (Only.refl [] w).alloc _⟩

/-- Is it a colour? -/
def rightI (c : Int) : Bool := decide (c = 0 ∨ (16777216 ≤ c ∧ c ≤ 16777471) ∨ (33554432 ≤ c ∧ c < 50331648))
theorem right_kind (c : Int) : (kindA c = 0 ∧ (rgbA c).eqB C3.zero = rightI c) ∨ (kindA c = 16777216 ∧ (rgbA c).eqB ⟨0, 0, (rgbA c).b⟩ = rightI c) ∨ (kindA c = 33554432 ∧ rightI c = true) ∨ (kindA c ≠ 0 ∧ kindA c ≠ 16777216 ∧ kindA c ≠ 33554432 ∧ rightI c = false) := by
  unfold kindA rightI C3.eqB rgbA C3.zero
  rcases (show c / 16777216 = 0 ∨ c / 16777216 = 1 ∨ c / 16777216 = 2 ∨ (c / 16777216 ≠ 0 ∧ c / 16777216 ≠ 1 ∧ c / 16777216 ≠ 2) by omega) with h | h | h | ⟨h1, h2, h3⟩
  · refine .inl ⟨by omega, ?_⟩
    rw [Bool.eq_iff_iff]
    simp only [Bool.and_eq_true, beq_iff_eq, decide_eq_true_iff]
    omega
  · refine .inr (.inl ⟨by omega, ?_⟩)
    rw [Bool.eq_iff_iff]
    simp only [Bool.and_eq_true, beq_iff_eq, decide_eq_true_iff, and_true]
    omega
  · refine .inr (.inr (.inl ⟨by omega, ?_⟩))
    rw [decide_eq_true_iff]
    omega
  · refine .inr (.inr (.inr ⟨by omega, by omega, by omega, ?_⟩))
    rw [decide_eq_false_iff_not]
    omega

set_option maxRecDepth 100000 in
theorem isColor_any (c : Int) (hc : I64 c) (w : World) :
    Calls Tryd.prog 25 #[.int .i64 c] w fun e w' => e = .returned (.bool (rightI c)) ∧ Only [] w w' := by
  have HS := hide (split_any c hc)
  have q0 := c3_eq (rgbA c) C3.zero
  have q1 := c3_eq (rgbA c) ⟨0, 0, (rgbA c).b⟩
  have hk := right_kind c
  generalize kindA c = k at *
  generalize rgbA c = x at *
  generalize rightI c = v at *
  obtain ⟨r, g, b⟩ := x
  unfold C3.val C3.cells C3.zero at *
  generalize (C3.eqB _ _) = v0 at q0 hk
  generalize (C3.eqB _ _) = v1 at q1 hk
  rcases hk with ⟨rfl, rfl⟩ | ⟨rfl, rfl⟩ | ⟨rfl, rfl⟩ | ⟨h1, h2, h3, rfl⟩
  all_goals
    clear hc
    go_enter Tryd.func25, Tryd.ntmps25
    go_wp2_with fail
    refine (HS.out _).mono ?_
    rintro e w1 ⟨rfl, ho⟩
    go_wp2_with fail
    go_ret
    exact ⟨rfl, ho.alloc _⟩

/-- Is it an attribute? -/
def rightA (a : At) : Bool := rightI a.fg && (rightI a.bg && (decide (0 ≤ a.fl) && decide (a.fl ≤ 255)))
set_option maxRecDepth 100000 in
theorem right_any (a : At) (ha : a.Wf) (w : World) :
    Calls Tryd.prog 11 #[a.val] w fun e w' => e = .returned (.bool (rightA a)) ∧ Only [] w w' := by
  have HF := hide (isColor_any a.fg ha.fg)
  have HB := hide (isColor_any a.bg ha.bg)
  unfold rightA
  show Calls Tryd.prog 11 #[.agg #[.int .i64 a.fg, .int .i64 a.bg, .int .i64 a.fl]] w _
  clear ha
  have hh := Has.new w 23 #[.int .i64 a.fg, .int .i64 a.bg, .int .i64 a.fl]
  have oo := (Only.refl [] w).alloc (.cells #[.int .i64 a.fg, .int .i64 a.bg, .int .i64 a.fl] 23)
  have HH := hide (And.intro hh oo)
  clear hh oo
  generalize rightI a.fg = v1 at *
  generalize rightI a.bg = v2 at *
  cases v1 with
  | false =>
    go_enter Tryd.func11, Tryd.ntmps11
    go_wp2_with fail
    refine (HF.out _).mono ?_
    rintro e w1 ⟨rfl, ho⟩
    go_wp2_with fail
    go_ret
    exact ⟨rfl, HH.out.2.trans ho (by simp)⟩
  | true =>
    cases v2 with
    | false =>
      go_enter Tryd.func11, Tryd.ntmps11
      go_wp2_with fail
      refine (HF.out _).mono ?_
      rintro e w1 ⟨rfl, ho⟩
      have c1 := (HH.out.1.only ho (by simp)).cell 1
      simp only [List.getElem?_toArray, List.getElem?_cons_zero, List.getElem?_cons_succ] at c1
      go_wp2_with fail
      refine (HB.out _).mono ?_
      rintro e w2 ⟨rfl, ho2⟩
      go_wp2_with fail
      go_ret
      exact ⟨rfl, (HH.out.2.trans ho (S := []) (by simp)).trans ho2 (by simp)⟩
    | true =>
      by_cases h0 : 0 ≤ a.fl
      · have e0 : decide (0 ≤ a.fl) = true := decide_eq_true h0
        rw [e0]
        go_enter Tryd.func11, Tryd.ntmps11
        go_wp2_with fail
        refine (HF.out _).mono ?_
        rintro e w1 ⟨rfl, ho⟩
        have c1 := (HH.out.1.only ho (by simp)).cell 1
        simp only [List.getElem?_toArray, List.getElem?_cons_zero, List.getElem?_cons_succ] at c1
        go_wp2_with fail
        refine (HB.out _).mono ?_
        rintro e w2 ⟨rfl, ho2⟩
        have c2 := ((HH.out.1.only ho (by simp)).only ho2 (by simp)).cell 2
        simp only [List.getElem?_toArray, List.getElem?_cons_zero, List.getElem?_cons_succ] at c2
        go_wp2_with fail
        go_ret
        exact ⟨rfl, (HH.out.2.trans ho (S := []) (by simp)).trans ho2 (by simp)⟩
      · have e0 : decide (0 ≤ a.fl) = false := decide_eq_false h0
        rw [e0]
        go_enter Tryd.func11, Tryd.ntmps11
        go_wp2_with fail
        refine (HF.out _).mono ?_
        rintro e w1 ⟨rfl, ho⟩
        have c1 := (HH.out.1.only ho (by simp)).cell 1
        simp only [List.getElem?_toArray, List.getElem?_cons_zero, List.getElem?_cons_succ] at c1
        go_wp2_with fail
        refine (HB.out _).mono ?_
        rintro e w2 ⟨rfl, ho2⟩
        have c2 := ((HH.out.1.only ho (by simp)).only ho2 (by simp)).cell 2
        simp only [List.getElem?_toArray, List.getElem?_cons_zero, List.getElem?_cons_succ] at c2
        go_wp2_with fail
        go_ret
        exact ⟨rfl, (HH.out.2.trans ho (S := []) (by simp)).trans ho2 (by simp)⟩
end Go.Proofs.YtjfmebjjdiodbaaDoor
