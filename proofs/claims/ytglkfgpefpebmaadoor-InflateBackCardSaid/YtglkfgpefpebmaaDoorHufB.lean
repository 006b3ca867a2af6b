/-
  Package huff: a tally held against all that there is; Complete.
-/
import Derived.Test.YtglkfgpefpebmaaDoorHufA
import Derived.ChangeKeysEq
import Derived.BigFrame
namespace Go.Proofs.YtglkfgpefpebmaaDoor
open Go Go.RowKit

theorem index_tcells (c : Nat → Nat) (i : Nat) (hi : i < 16) (w : World) : (Instr.index 99 (.agg (tcells c)) (.int .i64 i)).run Tryd.prog w = .ok (.int .i64 (c i : Int)) w := by
  rcases (show i = 0 ∨ i = 1 ∨ i = 2 ∨ i = 3 ∨ i = 4 ∨ i = 5 ∨ i = 6 ∨ i = 7 ∨ i = 8 ∨ i = 9 ∨ i = 10 ∨ i = 11 ∨ i = 12 ∨ i = 13 ∨ i = 14 ∨ i = 15 by omega) with rfl | rfl | rfl | rfl | rfl | rfl | rfl | rfl | rfl | rfl | rfl | rfl | rfl | rfl | rfl | rfl <;> kernel_rfl

def allEq (a b : Nat → Int) (L : List Nat) : Bool := L.all fun i => a i == b i

theorem run_equalIn_ints {P : Program} (w : World) (d : Nat) (t e : TypeId) (len : Nat) (k k' : IntKind) (xs ys : Array Value) (a b : Nat → Int) (ht : P.underlying t = some (.array len e)) (he : P.underlying e = some (.int k')) (hp : P.plainKey e = true)
    (hi : (P.info? e).map (·.size) = some 1)
    (hx : ∀ i, i < len → xs[i]? = some (.int k (a i))) (hy : ∀ i, i < len → ys[i]? = some (.int k (b i))) :
    (Op.equalIn (d + 2) t (.agg xs) (.agg ys)).run P w = .ok (allEq a b (List.range' 0 len)) w := by
  obtain ⟨ie, hie, hsz⟩ : ∃ ie, P.info? e = some ie ∧ ie.size = 1 := by
    cases h : P.info? e with
    | none => rw [h] at hi; simp at hi
    | some ie => rw [h] at hi; simp at hi; exact ⟨ie, rfl, hi⟩
  have hso : ∀ w, (sizeOf e).run P w = .ok 1 w := fun w => by simp [sizeOf, typeInfo, hie, hsz]
  rw [Op.equalIn]
  simp only [Sem.run_bind, run_underlying ht, Result.andThen_ok, hso]
  rw [Std.Legacy.Range.forIn_eq_forIn_range']
  have hL : ∀ i ∈ List.range' 0 len, i < len := by intro i hi; simp at hi; omega
  simp only [Std.Legacy.Range.size, Nat.sub_zero, Nat.add_sub_cancel, Nat.div_one]
  generalize List.range' 0 len = L at *
  clear ht
  induction L generalizing w with
  | nil => simp [allEq]
  | cons i L ih =>
    have h1 := hx i (hL i (by simp))
    have h2 := hy i (hL i (by simp))
    have p1 : (part e xs (i * 1)).run P w = .ok (.int k (a i)) w := run_part_plain w hp (by rw [Nat.mul_one]; exact h1)
    have p2 : (part e ys (i * 1)).run P w = .ok (.int k (b i)) w := run_part_plain w hp (by rw [Nat.mul_one]; exact h2)
    have p3 : (Op.equalIn (d + 1) e (.int k (a i)) (.int k (b i))).run P w = .ok (a i == b i) w := run_equalIn_int w d e k k' _ _ he
    simp only [List.forIn_cons, Sem.run_bind, p1, p2, p3, Result.andThen_ok, Sem.run_ite]
    by_cases h : (a i == b i) = true
    · rw [h]
      simp only [Bool.not_true, Bool.false_eq_true, if_false, Sem.run_pure, Result.andThen_ok]
      rw [ih w (fun j hj => hL j (by simp [hj]))]
      simp [allEq, h]
    · have h' : (a i == b i) = false := by simpa using h
      rw [h']
      simp [allEq, h']

def tEq (c d : Nat → Nat) : Bool := (List.range' 0 16).all fun i => c i == d i
theorem tEq_iff (c d : Nat → Nat) : tEq c d = true ↔ ∀ i, i < 16 → c i = d i := by
  simp only [tEq, List.all_eq_true, List.mem_range', beq_iff_eq]
  constructor
  · intro h i hi
    exact h i ⟨i, hi, by omega⟩
  · rintro h i ⟨j, hj, rfl⟩
    exact h (0 + 1 * j) (by omega)
theorem eql_tcells (c d : Nat → Nat) (w : World) : (binOp .eql 99 (.agg (tcells c)) (.agg (tcells d))).run Tryd.prog w = .ok (.bool (tEq c d)) w := by
  rw [run_eql_struct, run_equalIn_ints w 9998 99 3 16 .i64 .i64 (tcells c) (tcells d) (fun i => (c i : Int)) (fun i => (d i : Int)) Tryd.underlying99 Tryd.underlying3 (by kernel_rfl) (by kernel_rfl)
    (fun i hi => tcells_get c hi) (fun i hi => tcells_get d hi)]
  simp only [Result.andThen_ok]
  congr 2
  unfold allEq tEq
  congr 1
  funext i
  show ((c i : Int) == (d i : Int)) = (c i == d i)
  rw [Bool.eq_iff_iff, beq_iff_eq, beq_iff_eq]
  exact Int.ofNat_inj

theorem isNaN_any (x : Int) (w : World) : Calls Tryd.prog 88 #[.int .i64 x] w fun e w' => e = .returned (.bool false) ∧ w = w' := by
  go_enter Tryd.func88, Tryd.ntmps88
  go_wp2
  go_ret
  exact ⟨rfl, rfl⟩

def cmpI (x y : Int) : Int := if x < y then -1 else if y < x then 1 else 0

set_option maxHeartbeats 1000000 in
theorem cmp_any (x y : Int) (w : World) : Calls Tryd.prog 76 #[.int .i64 x, .int .i64 y] w fun e w' => e = .returned (.int .i64 (cmpI x y)) ∧ w = w' := by
  have H := hide isNaN_any
  unfold cmpI
  by_cases h1 : x < y
  · rw [if_pos h1]
    go_enter Tryd.func76, Tryd.ntmps76
    go_wp2_with fail
    refine (H.out x w).mono ?_
    rintro e w1 ⟨rfl, rfl⟩
    go_wp2_with fail
    refine (H.out y w).mono ?_
    rintro e w1 ⟨rfl, rfl⟩
    go_wp2_with fail
    go_ret
    exact ⟨rfl, rfl⟩
  · rw [if_neg h1]
    by_cases h2 : y < x
    · rw [if_pos h2]
      go_enter Tryd.func76, Tryd.ntmps76
      go_wp2_with fail
      refine (H.out x w).mono ?_
      rintro e w1 ⟨rfl, rfl⟩
      go_wp2_with fail
      refine (H.out y w).mono ?_
      rintro e w1 ⟨rfl, rfl⟩
      go_wp2_with fail
      go_ret
      exact ⟨rfl, rfl⟩
    · rw [if_neg h2]
      go_enter Tryd.func76, Tryd.ntmps76
      go_wp2_with fail
      refine (H.out x w).mono ?_
      rintro e w1 ⟨rfl, rfl⟩
      go_wp2_with fail
      refine (H.out y w).mono ?_
      rintro e w1 ⟨rfl, rfl⟩
      go_wp2_with fail
      go_ret
      exact ⟨rfl, rfl⟩

set_option maxHeartbeats 1000000 in
theorem compare_any (c : Nat → Nat) (w : World) (hc : Sm c 16 ≤ 4611686018427387904) :
    Calls Tryd.prog 70 #[.agg (tcells c)] w fun e w' => e = .returned (.int .i64 (cmpI (Sm c 16 : Nat) 32768)) ∧ Only [] w w' := by
  have HI := hide (index_tcells c)
  have HC := hide cmp_any
  have HN := Has.new w 99 (tcells c)
  go_enter Tryd.func70, Tryd.ntmps70
  go_wp2_with (refine wpList_load_row rfl 99 (.tmp 1) rfl w.heap.size rfl 99 (tcells c) (0, 0) _ HN Tryd.underlying99 rfl (by kernel_rfl) ?_)
  go_loop [3, 7] (fun v i => ∃ j : Nat, j ≤ 16 ∧ i = .int .i64 j ∧ v = .int .i64 (Sm c j : Nat)) (fun _ i => 16 - (intOf i).toNat)
  case atStart => exact ⟨0, Nat.zero_le _, rfl, rfl⟩
  case round =>
    obtain ⟨j, hj, rfl, rfl⟩ := hrel
    by_cases hlt : j < 16
    · have e : Sm c (j + 1) = Sm c j + c j * 2 ^ (15 - j) := rfl
      have hm := Sm_mono c (show j + 1 ≤ 16 by omega)
      have hx := HI.out j hlt
      obtain ⟨q, hq⟩ : ∃ q, q = 15 - j := ⟨_, rfl⟩
      rw [← hq] at e
      have hq2 : (15 : Int) - (j : Int) = (q : Int) := by omega
      have hp : ((c j : Int) * 2 ^ q) = ((c j * 2 ^ q : Nat) : Int) := by rw [Int.natCast_mul, two_pow_cast]
      have HE := hide e
      have hb : Sm c j + c j * 2 ^ q ≤ 4611686018427387904 := by omega
      clear e hm
      generalize Sm c j = s at *
      generalize c j * 2 ^ q = p at *
      have hq15 : q ≤ 15 := by omega
      clear hq
      go_wp2_with fail
      go_round
      case rel => exact ⟨j + 1, hlt, by go_num, by rw [HE.out, Int.natCast_add]⟩
      case measure => simp [intOf]; omega
    · obtain rfl : j = 16 := by omega
      go_wp2_with fail
      refine (HC.out _ _ _).mono ?_
      rintro e w1 ⟨rfl, rfl⟩
      go_wp2_with fail
      go_ret
      exact ⟨rfl, (Only.refl [] w).alloc _⟩

theorem eql_none (c : Nat → Nat) (w : World) : (binOp .eql 99 (.agg (tcells c)) (.agg #[.int .i64 0, .int .i64 0, .int .i64 0, .int .i64 0, .int .i64 0, .int .i64 0, .int .i64 0, .int .i64 0, .int .i64 0, .int .i64 0, .int .i64 0, .int .i64 0, .int .i64 0, .int .i64 0, .int .i64 0, .int .i64 0])).run Tryd.prog w = .ok (.bool (tEq c fun _ => 0)) w := eql_tcells c (fun _ => 0) w
theorem eql_one (c : Nat → Nat) (w : World) : (binOp .eql 99 (.agg (tcells c)) (.agg #[.int .i64 0, .int .i64 1, .int .i64 0, .int .i64 0, .int .i64 0, .int .i64 0, .int .i64 0, .int .i64 0, .int .i64 0, .int .i64 0, .int .i64 0, .int .i64 0, .int .i64 0, .int .i64 0, .int .i64 0, .int .i64 0])).run Tryd.prog w = .ok (.bool (tEq c fun i => if i = 1 then 1 else 0)) w := eql_tcells c (fun i => if i = 1 then 1 else 0) w
theorem cmpI_zero (x : Nat) : (cmpI (x : Int) 32768 == 0) = decide (x = 32768) := by
  unfold cmpI
  rcases Nat.lt_trichotomy x 32768 with h | h | h
  · rw [if_pos (by omega)]
    have : x ≠ 32768 := by omega
    simp [this]
  · subst h; rfl
  · rw [if_neg (by omega), if_pos (by omega)]
    have : x ≠ 32768 := by omega
    simp [this]

/-- May a table have such codes? -/
def mayBe (c : Nat → Nat) : Bool := decide (Sm c 16 = 32768) || tEq c (fun _ => 0) || tEq c (fun i => if i = 1 then 1 else 0)

/-- A whole row is loaded, at a guarded step. -/
theorem load_row_g {P : Program} {ops : Array Oper} {rest : List Oper} {o : Oper} {a : Act} {w : World} {Q : Exit → Act → World → Prop} (k : Nat) (_ : o.dst = some k) (hw : Region.wanted o (yielded ops a.tmps) = true) (ty : TypeId) (x : Operand) (ho : o.op = .load ty x)
    (g : Nat) (hx : a.eval x = .pointer (some ⟨g, 0, none⟩)) (t : TypeId) (cs : Array Value) (fr : Nat × Nat) (d : TypeDesc) (hg : w.heap[g]? = some (.cells cs t fr))
    (hu : P.underlying ty = some d) (hd : (match d with | .struct _ | .array _ _ => true | _ => false) = true) (hi : (P.info? ty).map (·.size) = some cs.size)
    (h : wpList P ops Q rest (a.put o.dst (.agg cs)) w) : wpList P ops Q (o :: rest) a w :=
  BigFrame.wpList_want hw fun _ hK => wp_load_row ty x ho g hx t cs fr d hg hu hd hi (hK _ _ h)

set_option maxRecDepth 20000 in
set_option maxHeartbeats 1000000 in
theorem allowed_any (c : Nat → Nat) (w : World) (hc : Sm c 16 ≤ 4611686018427387904) :
    Calls Tryd.prog 58 #[.agg (tcells c)] w fun e w' => e = .returned (.bool (mayBe c)) ∧ Only [] w w' := by
  have HN := Has.new w 99 (tcells c)
  have HC := hide (compare_any c (w.alloc (.cells (tcells c) 99)) hc)
  have e1 := cmpI_zero (Sm c 16)
  have q1 := eql_none c
  have q2 := eql_one c
  unfold mayBe
  generalize cmpI (Sm c 16 : Nat) 32768 = r at *
  generalize decide (Sm c 16 = 32768) = d1 at *
  generalize hd2 : tEq c (fun _ => 0) = d2 at *
  generalize hd3 : tEq c (fun i => if i = 1 then 1 else 0) = d3 at *
  clear hd2 hd3
  have HO := (Only.refl [] w).alloc (.cells (tcells c) 99)
  have HOO := hide HO
  clear HO
  go_enter Tryd.func58, Tryd.ntmps58
  cases d1 with
  | true =>
    go_wp2_with (first | (refine wpList_load_row rfl 99 (.tmp 1) rfl w.heap.size rfl 99 (tcells c) (0, 0) _ HN Tryd.underlying99 rfl (by kernel_rfl) ?_))
    refine (HC.out).mono ?_
    rintro e w1 ⟨rfl, ho⟩
    have HO1 := hide ho
    clear ho
    go_wp2_with fail
    go_ret
    exact ⟨rfl, HOO.out.trans HO1.out (by simp)⟩
  | false =>
    go_wp2_with (first | (refine wpList_load_row rfl 99 (.tmp 1) rfl w.heap.size rfl 99 (tcells c) (0, 0) _ HN Tryd.underlying99 rfl (by kernel_rfl) ?_))
    refine (HC.out).mono ?_
    rintro e w1 ⟨rfl, ho⟩
    have HN1 := HN.only ho (by simp)
    have HO1 := hide ho
    clear ho
    cases d2 with
    | true =>
      go_wp2_with (refine load_row_g 7 rfl (by kernel_rfl) 99 (.tmp 1) rfl w.heap.size rfl 99 (tcells c) (0, 0) _ HN1 Tryd.underlying99 rfl (by kernel_rfl) ?_)
      go_ret
      exact ⟨rfl, HOO.out.trans HO1.out (by simp)⟩
    | false =>
      cases d3
      all_goals
        go_wp2_with (first | (refine load_row_g 7 rfl (by kernel_rfl) 99 (.tmp 1) rfl w.heap.size rfl 99 (tcells c) (0, 0) _ HN1 Tryd.underlying99 rfl (by kernel_rfl) ?_) | (refine load_row_g 12 rfl (by kernel_rfl) 99 (.tmp 1) rfl w.heap.size rfl 99 (tcells c) (0, 0) _ HN1 Tryd.underlying99 rfl (by kernel_rfl) ?_))
        go_ret
        exact ⟨rfl, HOO.out.trans HO1.out (by simp)⟩
end Go.Proofs.YtglkfgpefpebmaaDoor
