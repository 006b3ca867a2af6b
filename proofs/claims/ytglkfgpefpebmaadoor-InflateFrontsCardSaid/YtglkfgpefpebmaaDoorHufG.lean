/-
  Package huff: New.
-/
import Derived.Test.YtglkfgpefpebmaaDoorHufF
namespace Go.Proofs.YtglkfgpefpebmaaDoor
open Go Go.RowKit

theorem Sm16_le (l : List UInt8) (h : l.length ≤ 1000000) : Sm (cn l) 16 ≤ 4611686018427387904 :=
  Nat.le_trans (Sm_bound (cn l) 1000000 (fun i => Nat.le_trans (cn_le l i) h) 16) (by decide)

/-- A part built, at a plain step. -/
theorem list_build {P : Program} {ops : Array Oper} {rest : List Oper} {o : Oper} {a : Act} {w : World} {Q : Exit → Act → World → Prop} (hgd : o.guard = none) (t : TypeId) (k : Nat) (x : Operand) (ho : o.op = .build t #[(k, x)])
    (v : Value) (hx : a.eval x = v) (cells : Array Value) (hb : P.built t [(k, v)] = some cells)
    (h : wpList P ops Q rest (a.put o.dst (.agg cells)) w) : wpList P ops Q (o :: rest) a w :=
  wpList_plain hgd fun _ hK => by
    refine wp_build t #[(k, x)] ho ?_ ?_
    · simp [hx, hb]
    · simpa [hx, hb] using hK _ _ h

set_option maxRecDepth 100000 in
theorem newT_any (A : Option Addr) (n c : Nat) (l : List UInt8) (w : World) (hb : Holds w 1 A n (bvals l)) (hl : l.length = n) (hn : n ≤ 320) (hf : far l = false) (hm : mayBe (cn l) = true) :
    Calls Tryd.prog 44 #[.slice A n c] w fun e w' => ∃ g, e = .returned (.tuple #[.pointer (some ⟨g, 0, none⟩), .int .i64 0]) ∧ w.heap.size ≤ g ∧ Tb w' g l ∧ Only [] w w' := by
  subst hl
  have hS := mayBe_le hm
  have HC := hide (containsFunc_any A l.length c l w hb rfl (by omega))
  have HN := hide (count_any A l.length c l w hb rfl (by omega))
  have HB := hide hb
  have HX := hide (And.intro hS (And.intro (ln_far hf) (fun i (_ : i < 16) => Nat.le_trans (cn_le l i) (show l.length ≤ 65536 by omega))))
  have hT : Has (w.alloc (.cells (tcells fun _ => 0) 99)) w.heap.size 99 (tcells fun _ => 0) := Has.new w _ _
  clear hb hS
  go_enter Tryd.func44, Tryd.ntmps44
  go_wp2_with fail
  refine (HC.out).mono ?_
  rintro e w1 ⟨rfl, rfl⟩
  rw [hf]
  go_wp2_with fail
  refine (HN.out).mono ?_
  rintro e w1 ⟨rfl, ho1⟩
  have HO1 := hide ho1
  clear ho1
  have hT1 : Has (w1.alloc (.cells (tcells fun _ => 0) 99)) w1.heap.size 99 (tcells fun _ => 0) := Has.new w1 _ _
  go_wp2_with (first
    | (refine list_store_row' rfl 99 (.tmp 4) (.tmp 14) rfl w1.heap.size (tcells (cn l)) rfl rfl 99 (tcells fun _ => 0) hT1 (by kernel_rfl) (by rw [tcells_size, tcells_size]) (tcells_one _) ?_; intro w2 hT2 hO2; have HO2 := hide hO2; clear hO2)
    | (refine wpList_load_row rfl 99 (.tmp 4) rfl w1.heap.size rfl 99 (tcells (cn l)) (0, 0) _ hT2 Tryd.underlying99 rfl (by kernel_rfl) ?_))
  refine (allowed_any (cn l) w2 (by have := HX.out.1; omega)).mono ?_
  rintro e w3 ⟨rfl, ho3⟩
  have hT3 := hT2.only ho3 (by simp)
  have HO3 := hide ho3
  clear ho3 hT1 hT2
  rw [hm]
  have hbd := built_table (cn l)
  go_wp2_with (first
    | (refine wpList_load_row rfl 99 (.tmp 4) rfl w1.heap.size rfl 99 (tcells (cn l)) (0, 0) _ hT3 Tryd.underlying99 rfl (by kernel_rfl) ?_)
    | (refine list_build rfl 101 3 (.tmp 18) rfl (.agg (tcells (cn l))) rfl _ hbd ?_))
  have O3 : Only [] w w3 := HO1.out.trans ((((Only.refl [] w1).alloc _).trans HO2.out (by simp)).trans HO3.out (by simp)) (by simp)
  have hnew : Tbl (w3.alloc (.cells (TF.new (cn l)).cells 101)) w3.heap.size (TF.new (cn l)) := Has.new w3 _ _
  refine (order_any w3.heap.size (cn l) _ hnew rfl HX.out.2.2 HX.out.1).mono ?_
  rintro e w4 ⟨rfl, hT4, ho4⟩
  have HT4 := hide (And.intro hT4 ho4)
  clear hT4 ho4 hnew hT3 hbd
  go_wp2_with fail
  have hsz := O3.size
  have hb4 : Holds w4 1 A l.length (bvals l) := (HB.out.keep (O3.alloc _) (by simp)).keepPos HT4.out.2 (fun h0 ad ha _ => by have := HB.out.blk h0 ad ha; simp; omega)
  refine (deal_any w3.heap.size A l.length c l w4 HT4.out.1 hb4 rfl hn HX.out.2.1 HX.out.1 (fun h0 ad ha => by have := HB.out.blk h0 ad ha; omega)).mono ?_
  rintro e w5 ⟨rfl, hT5, ho5⟩
  have HT5 := hide (And.intro hT5 ho5)
  clear hT5 ho5 hb4
  go_wp2_with fail
  go_ret2
  exact ⟨w3.heap.size, rfl, hsz, HT5.out.1, (O3.alloc _).trans (HT4.out.2.trans HT5.out.2 (by simp)) (by simp; omega)⟩

set_option maxRecDepth 100000 in
set_option maxHeartbeats 4000000 in
theorem newF_any (A : Option Addr) (n c : Nat) (l : List UInt8) (w : World) (hb : Holds w 1 A n (bvals l)) (hl : l.length = n) (hn : n ≤ 140737488355328) (hno : ¬ newE l = 0) :
    Calls Tryd.prog 44 #[.slice A n c] w fun e w' => e = .returned (.tuple #[.pointer none, .int .i64 (newE l : Nat)]) ∧ Only [] w w' := by
  subst hl
  unfold newE at hno ⊢
  by_cases h1 : 320 < l.length
  · rw [if_pos (.inl h1)]
    clear hno
    go_enter Tryd.func44, Tryd.ntmps44
    go_wp2_with fail
    go_ret2
    exact ⟨rfl, Only.refl _ _⟩
  · cases hf : far l with
    | true =>
      rw [if_pos (.inr rfl)]
      have HC := hide (containsFunc_any A l.length c l w hb rfl (by omega))
      rw [hf] at HC
      clear hno
      go_enter Tryd.func44, Tryd.ntmps44
      go_wp2_with fail
      refine (HC.out).mono ?_
      rintro e w1 ⟨rfl, rfl⟩
      go_wp2_with fail
      go_ret2
      exact ⟨rfl, Only.refl _ _⟩
    | false =>
      rw [hf] at hno
      rw [if_neg (by simp; omega)] at hno ⊢
      have hm : mayBe (cn l) = false := by
        cases h : mayBe (cn l) with
        | true => rw [h] at hno; simp at hno
        | false => rfl
      rw [hm]
      have HC := hide (containsFunc_any A l.length c l w hb rfl (by omega))
      have HN := hide (count_any A l.length c l w hb rfl (by omega))
      rw [hf] at HC
      clear hno hb
      go_enter Tryd.func44, Tryd.ntmps44
      go_wp2_with fail
      refine (HC.out).mono ?_
      rintro e w1 ⟨rfl, rfl⟩
      go_wp2_with fail
      refine (HN.out).mono ?_
      rintro e w1 ⟨rfl, ho1⟩
      have HO1 := hide ho1
      clear ho1
      have hT1 : Has (w1.alloc (.cells (tcells fun _ => 0) 99)) w1.heap.size 99 (tcells fun _ => 0) := Has.new w1 _ _
      go_wp2_with (first
        | (refine list_store_row' rfl 99 (.tmp 4) (.tmp 14) rfl w1.heap.size (tcells (cn l)) rfl rfl 99 (tcells fun _ => 0) hT1 (by kernel_rfl) (by rw [tcells_size, tcells_size]) (tcells_one _) ?_; intro w2 hT2 hO2; have HO2 := hide hO2; clear hO2)
        | (refine wpList_load_row rfl 99 (.tmp 4) rfl w1.heap.size rfl 99 (tcells (cn l)) (0, 0) _ hT2 Tryd.underlying99 rfl (by kernel_rfl) ?_))
      refine (allowed_any (cn l) w2 (Sm16_le l (by omega))).mono ?_
      rintro e w3 ⟨rfl, ho3⟩
      have HO3 := hide ho3
      clear ho3 hT1 hT2
      rw [hm]
      go_wp2_with fail
      go_ret2
      exact ⟨rfl, HO1.out.trans ((((Only.refl [] w1).alloc _).trans HO2.out (by simp)).trans HO3.out (by simp)) (by simp)⟩

end Go.Proofs.YtglkfgpefpebmaaDoor
