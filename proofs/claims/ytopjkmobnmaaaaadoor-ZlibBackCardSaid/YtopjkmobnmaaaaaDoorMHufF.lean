/-
  Package huff: New, Complete, Symbols. | Package huff: New. | Package huff: Code, Symbols. | Reading by codes, plainly: bit by bit, a code's first bit the highest.
-/
import Derived.Test.YtopjkmobnmaaaaaDoorMHufD
import Derived.Deep.QuietTactic
import Derived.Test.YtopjkmobnmaaaaaDoorMHufM
namespace Go.Proofs.YtopjkmobnmaaaaaDoor
open Go Go.RowKit

/-- Is there a length above 15? -/
def far (l : List UInt8) : Bool := l.any fun b => decide (15 < b.toNat)

set_option maxRecDepth 100000 in
set_option maxHeartbeats 1000000 in
theorem indexFunc_any (A : Option Addr) (n c : Nat) (l : List UInt8) (w : World) (hb : Holds w 1 A n (bvals l)) (hl : l.length = n) (hn : n ≤ 140737488355328) :
    Calls Tryd.prog 49 #[.slice A n c, .func (.func 42) #[] #[]] w fun e w' => (∃ z : Int, e = .returned (.int .i64 z) ∧ decide (z ≥ 0) = far l) ∧ w = w' := by
  subst hl
  have HT := hide tooLong_any
  have HB := hide hb
  clear hb
  go_enter Tryd.func49, Tryd.ntmps49
  go_wp2_with fail
  go_loop [8] (fun i => ∃ j : Nat, j ≤ l.length ∧ i = .int .i64 j ∧ (l.take j).any (fun b => decide (15 < b.toNat)) = false) (fun i => l.length - (intOf i).toNat)
  case atStart => exact ⟨0, Nat.zero_le _, rfl, rfl⟩
  case round =>
    obtain ⟨j, hj, rfl, hno⟩ := hrel
    by_cases hlt : j < l.length
    · obtain ⟨b, o, rfl, hc2⟩ := HB.out.addr (by simpa using (show 0 < l.length by omega))
      have hcell : w.cell? ⟨b, o + j, none⟩ = some (.int .u8 (l[j].toNat : Int)) := hc2 j _ (bvals_get l j hlt)
      clear hc2
      cases hd : decide (15 < l[j].toNat) with
      | true =>
        have hf : far l = true := by
          unfold far
          rw [List.any_eq_true]
          exact ⟨l[j], List.getElem_mem hlt, hd⟩
        have HF := hide (And.intro hf hd)
        clear hf hd hno
        generalize l[j].toNat = x at *
        go_wp2_with fail
        refine (HT.out x w).mono ?_
        rintro e w1 ⟨rfl, rfl⟩
        rw [HF.out.2]
        go_wp2_with fail
        go_ret
        refine ⟨⟨_, rfl, ?_⟩, rfl⟩
        rw [HF.out.1]
        simp
      | false =>
        have hno2 : (l.take (j + 1)).any (fun b => decide (15 < b.toNat)) = false := by
          rw [take_snoc hlt, List.any_append, hno]
          simp only [List.any_cons, List.any_nil, Bool.or_false, Bool.false_or]
          exact hd
        have HF := hide (And.intro hno2 hd)
        clear hno2 hd hno
        generalize l[j].toNat = x at *
        go_wp2_with fail
        refine (HT.out x w).mono ?_
        rintro e w1 ⟨rfl, rfl⟩
        rw [HF.out.2]
        go_wp2_with fail
        go_round
        case rel => exact ⟨j + 1, hlt, by go_num, HF.out.1⟩
        case measure => simp [intOf]; omega
    · obtain rfl : j = l.length := by omega
      rw [List.take_length] at hno
      have HF := hide hno
      clear hno
      go_wp2_with fail
      go_ret
      refine ⟨⟨_, rfl, ?_⟩, rfl⟩
      unfold far
      rw [HF.out]
      rfl

set_option maxRecDepth 100000 in
theorem containsFunc_any (A : Option Addr) (n c : Nat) (l : List UInt8) (w : World) (hb : Holds w 1 A n (bvals l)) (hl : l.length = n) (hn : n ≤ 140737488355328) :
    Calls Tryd.prog 41 #[.slice A n c, .func (.func 42) #[] #[]] w fun e w' => e = .returned (.bool (far l)) ∧ w = w' := by
  have H := hide (indexFunc_any A n c l w hb hl hn)
  clear hb
  go_enter Tryd.func41, Tryd.ntmps41
  go_wp2_with fail
  refine (H.out).mono ?_
  rintro e w1 ⟨⟨z, rfl, hz⟩, rfl⟩
  have HZ := hide hz
  clear hz
  go_wp2_with fail
  go_ret
  exact ⟨ret_bool HZ.out, rfl⟩

/-- Block g is a table of these lengths. -/
def Tb (w : World) (g : Nat) (l : List UInt8) : Prop := ∃ S, Dealt l l.length S ∧ Tbl w g (TF.dl l l.length S)
theorem Tb.only {w w' : World} {g : Nat} {l : List UInt8} {S : List Nat} (h : Tb w g l) (ho : Only S w w') (hg : g ∉ S) : Tb w' g l := by
  obtain ⟨F, h1, h2⟩ := h
  exact ⟨F, h1, h2.only ho hg⟩
theorem Tb.lt {w : World} {g : Nat} {l : List UInt8} (h : Tb w g l) : g < w.heap.size := by
  obtain ⟨F, _, h2⟩ := h
  exact Has.lt h2

/-- What New answers. -/
def newE (l : List UInt8) : Nat := if 320 < l.length ∨ far l = true then 1 else if mayBe (cn l) then 0 else 3

theorem mayBe_le {c : Nat → Nat} (h : mayBe c = true) : Sm c 16 ≤ 32768 := by
  unfold mayBe at h
  rcases Bool.or_eq_true _ _ ▸ h with h | h
  · rcases Bool.or_eq_true _ _ ▸ h with h | h
    · have := of_decide_eq_true h; omega
    · have h0 := (tEq_iff _ _).1 h
      have : ∀ n, n ≤ 16 → Sm c n = 0 := by
        intro n hn
        induction n with
        | zero => rfl
        | succ n ih => show Sm c n + c n * 2 ^ (15 - n) = 0; rw [ih (by omega), h0 n (by omega)]; simp
      rw [this 16 (Nat.le_refl _)]; omega
  · have h0 := (tEq_iff _ _).1 h
    have : ∀ n, n ≤ 16 → Sm c n = if n ≤ 1 then 0 else 16384 := by
      intro n hn
      induction n with
      | zero => rfl
      | succ n ih =>
        show Sm c n + c n * 2 ^ (15 - n) = _
        rw [ih (by omega), h0 n (by omega)]
        by_cases h1 : n = 0
        · subst h1; rfl
        · by_cases h2 : n = 1
          · subst h2; rfl
          · rw [if_neg (by omega), if_neg h2, if_neg (by omega)]; simp
    rw [this 16 (Nat.le_refl _)]; decide

theorem cn_le (l : List UInt8) (n : Nat) : cn l n ≤ l.length := by
  unfold cn; split
  · exact Nat.zero_le _
  · exact List.countP_le_length
theorem Sm_bound (c : Nat → Nat) (m : Nat) (hc : ∀ i, c i ≤ m) (n : Nat) : Sm c n ≤ m * 32768 * n := by
  induction n with
  | zero => simp [Sm]
  | succ n ih =>
    show Sm c n + c n * 2 ^ (15 - n) ≤ _
    have h1 : 2 ^ (15 - n) ≤ 32768 := Nat.pow_le_pow_right (n := 2) (i := 15 - n) (j := 15) (by decide) (by omega)
    have h2 := Nat.mul_le_mul (hc n) h1
    rw [Nat.mul_add]; omega
theorem ln_far {l : List UInt8} (h : far l = false) (i : Nat) : ln l i ≤ 15 := by
  rcases Nat.lt_or_ge i l.length with hi | hi
  · rw [ln_get hi]
    unfold far at h
    rw [List.any_eq_false] at h
    have := h l[i] (List.getElem_mem hi)
    simpa using this
  · rw [ln_out hi]; omega
end Go.Proofs.YtopjkmobnmaaaaaDoor


namespace Go.Proofs.YtopjkmobnmaaaaaDoor
open Go Go.RowKit

theorem Sm16_le (l : List UInt8) (h : l.length ≤ 1000000) : Sm (cn l) 16 ≤ 4611686018427387904 :=
  Nat.le_trans (Sm_bound (cn l) 1000000 (fun i => Nat.le_trans (cn_le l i) h) 16) (by decide)

/-- A part built, at a plain step. -/
theorem list_build {P : Program} {ops : Array Oper} {rest : List Oper} {o : Oper} {a : Act} {w : World} {Q : Exit → Act → World → Prop} (hgd : o.guard = none) (t : TypeId) (k : Nat) (x : Operand) (ho : o.op = .build t #[(k, x)])
    (v : Value) (hx : a.eval x = v) (cells : Array Value) (hb : P.built t [(k, v)] = some cells)
    (h : wpList P ops Q rest (a.put o.dst (.agg cells)) w) : wpList P ops Q (o :: rest) a w :=
  wpList_plain hgd fun _ hK => by
    refine wp_build t #[(k, x)] ho ?_ ?_
    · simp [hx, hb]
    · simpa [hx, hb] using hK _ _ h

set_option maxRecDepth 100000 in
theorem newT_any (A : Option Addr) (n c : Nat) (l : List UInt8) (w : World) (hb : Holds w 1 A n (bvals l)) (hl : l.length = n) (hn : n ≤ 320) (hf : far l = false) (hm : mayBe (cn l) = true) :
    Calls Tryd.prog 33 #[.slice A n c] w fun e w' => ∃ g, e = .returned (.tuple #[.pointer (some ⟨g, 0, none⟩), .int .i64 0]) ∧ w.heap.size ≤ g ∧ Tb w' g l ∧ Only [] w w' := by
  subst hl
  have hS := mayBe_le hm
  have HC := hide (containsFunc_any A l.length c l w hb rfl (by omega))
  have HN := hide (count_any A l.length c l w hb rfl (by omega))
  have HB := hide hb
  have HX := hide (And.intro hS (And.intro (ln_far hf) (fun i (_ : i < 16) => Nat.le_trans (cn_le l i) (show l.length ≤ 65536 by omega))))
  have hT : Has (w.alloc (.cells (tcells fun _ => 0) 103)) w.heap.size 103 (tcells fun _ => 0) := Has.new w _ _
  clear hb hS
  go_enter Tryd.func33, Tryd.ntmps33
  go_wp2_with fail
  refine (HC.out).mono ?_
  rintro e w1 ⟨rfl, rfl⟩
  rw [hf]
  go_wp2_with fail
  refine (HN.out).mono ?_
  rintro e w1 ⟨rfl, ho1⟩
  have HO1 := hide ho1
  clear ho1
  have hT1 : Has (w1.alloc (.cells (tcells fun _ => 0) 103)) w1.heap.size 103 (tcells fun _ => 0) := Has.new w1 _ _
  go_wp2_with (first
    | (refine list_store_row' rfl 103 (.tmp 4) (.tmp 14) rfl w1.heap.size (tcells (cn l)) rfl rfl 103 (tcells fun _ => 0) hT1 (by kernel_rfl) (by rw [tcells_size, tcells_size]) (tcells_one _) ?_; intro w2 hT2 hO2; have HO2 := hide hO2; clear hO2)
    | (refine wpList_load_row rfl 103 (.tmp 4) rfl w1.heap.size rfl 103 (tcells (cn l)) (0, 0) _ hT2 Tryd.underlying103 rfl (by kernel_rfl) ?_))
  refine (allowed_any (cn l) w2 (by have := HX.out.1; omega)).mono ?_
  rintro e w3 ⟨rfl, ho3⟩
  have hT3 := hT2.only ho3 (by simp)
  have HO3 := hide ho3
  clear ho3 hT1 hT2
  rw [hm]
  have hbd := built_table (cn l)
  go_wp2_with (first
    | (refine wpList_load_row rfl 103 (.tmp 4) rfl w1.heap.size rfl 103 (tcells (cn l)) (0, 0) _ hT3 Tryd.underlying103 rfl (by kernel_rfl) ?_)
    | (refine list_build rfl 105 3 (.tmp 18) rfl (.agg (tcells (cn l))) rfl _ hbd ?_))
  have O3 : Only [] w w3 := HO1.out.trans ((((Only.refl [] w1).alloc _).trans HO2.out (by simp)).trans HO3.out (by simp)) (by simp)
  have hnew : Tbl (w3.alloc (.cells (TF.new (cn l)).cells 105)) w3.heap.size (TF.new (cn l)) := Has.new w3 _ _
  refine (order_any w3.heap.size (cn l) _ hnew rfl HX.out.2.2 HX.out.1).mono ?_
  rintro e w4 ⟨rfl, hT4, ho4⟩
  have HT4 := hide (And.intro hT4 ho4)
  clear hT4 ho4 hnew hT3 hbd
  go_wp2_with fail
  have hsz := O3.size
  have hb4 : Holds w4 1 A l.length (bvals l) := (HB.out.keep (O3.alloc _) (by simp)).keepPos HT4.out.2 (fun h0 ad ha _ => by have := HB.out.blk h0 ad ha; simp; omega)
  refine (deal_any w3.heap.size A l.length c l w4 HT4.out.1 hb4 rfl hn HX.out.2.1 HX.out.1 (fun h0 ad ha => by have := HB.out.blk h0 ad ha; omega)).mono ?_
  rintro e w5 ⟨rfl, hT5, ho5⟩
  have HT5 := hide (And.intro hT5 ho5)
  clear hT5 ho5 hb4
  go_wp2_with fail
  go_ret2
  exact ⟨w3.heap.size, rfl, hsz, HT5.out.1, (O3.alloc _).trans (HT4.out.2.trans HT5.out.2 (by simp)) (by simp; omega)⟩

set_option maxRecDepth 100000 in
set_option maxHeartbeats 4000000 in
theorem newF_any (A : Option Addr) (n c : Nat) (l : List UInt8) (w : World) (hb : Holds w 1 A n (bvals l)) (hl : l.length = n) (hn : n ≤ 140737488355328) (hno : ¬ newE l = 0) :
    Calls Tryd.prog 33 #[.slice A n c] w fun e w' => e = .returned (.tuple #[.pointer none, .int .i64 (newE l : Nat)]) ∧ Only [] w w' := by
  subst hl
  unfold newE at hno ⊢
  by_cases h1 : 320 < l.length
  · rw [if_pos (.inl h1)]
    clear hno
    go_enter Tryd.func33, Tryd.ntmps33
    go_wp2_with fail
    go_ret2
    exact ⟨rfl, Only.refl _ _⟩
  · cases hf : far l with
    | true =>
      rw [if_pos (.inr rfl)]
      have HC := hide (containsFunc_any A l.length c l w hb rfl (by omega))
      rw [hf] at HC
      clear hno
      go_enter Tryd.func33, Tryd.ntmps33
      go_wp2_with fail
      refine (HC.out).mono ?_
      rintro e w1 ⟨rfl, rfl⟩
      go_wp2_with fail
      go_ret2
      exact ⟨rfl, Only.refl _ _⟩
    | false =>
      rw [hf] at hno
      rw [if_neg (by simp; omega)] at hno ⊢
      have hm : mayBe (cn l) = false := by
        cases h : mayBe (cn l) with
        | true => rw [h] at hno; simp at hno
        | false => rfl
      rw [hm]
      have HC := hide (containsFunc_any A l.length c l w hb rfl (by omega))
      have HN := hide (count_any A l.length c l w hb rfl (by omega))
      rw [hf] at HC
      clear hno hb
      go_enter Tryd.func33, Tryd.ntmps33
      go_wp2_with fail
      refine (HC.out).mono ?_
      rintro e w1 ⟨rfl, rfl⟩
      go_wp2_with fail
      refine (HN.out).mono ?_
      rintro e w1 ⟨rfl, ho1⟩
      have HO1 := hide ho1
      clear ho1
      have hT1 : Has (w1.alloc (.cells (tcells fun _ => 0) 103)) w1.heap.size 103 (tcells fun _ => 0) := Has.new w1 _ _
      go_wp2_with (first
        | (refine list_store_row' rfl 103 (.tmp 4) (.tmp 14) rfl w1.heap.size (tcells (cn l)) rfl rfl 103 (tcells fun _ => 0) hT1 (by kernel_rfl) (by rw [tcells_size, tcells_size]) (tcells_one _) ?_; intro w2 hT2 hO2; have HO2 := hide hO2; clear hO2)
        | (refine wpList_load_row rfl 103 (.tmp 4) rfl w1.heap.size rfl 103 (tcells (cn l)) (0, 0) _ hT2 Tryd.underlying103 rfl (by kernel_rfl) ?_))
      refine (allowed_any (cn l) w2 (Sm16_le l (by omega))).mono ?_
      rintro e w3 ⟨rfl, ho3⟩
      have HO3 := hide ho3
      clear ho3 hT1 hT2
      rw [hm]
      go_wp2_with fail
      go_ret2
      exact ⟨rfl, HO1.out.trans ((((Only.refl [] w1).alloc _).trans HO2.out (by simp)).trans HO3.out (by simp)) (by simp)⟩

end Go.Proofs.YtopjkmobnmaaaaaDoor


namespace Go.Proofs.YtopjkmobnmaaaaaDoor
open Go Go.RowKit

/-- A symbol's length, of any number. -/
def lnI (l : List UInt8) (i : Int) : Nat := if 0 ≤ i then ln l i.toNat else 0
/-- A symbol's code, as Bits would tell it. -/
def cvI (l : List UInt8) (i : Int) : Nat := if lnI l i ≠ 0 then rev (cd l i.toNat) (lnI l i) else 0

theorem lnI_nat (l : List UInt8) (i : Nat) : lnI l (i : Int) = ln l i := by
  unfold lnI; rw [if_pos (by omega), Int.toNat_natCast]
theorem cvI_lt {l : List UInt8} (_ : Sm (cn l) 16 ≤ 32768) (h15 : ∀ i, ln l i ≤ 15) (i : Int) : cvI l i < 32768 := by
  unfold cvI
  split
  · refine Nat.lt_of_lt_of_le (rev_lt _ _) ?_
    have : lnI l i ≤ 15 := by unfold lnI; split; exact h15 _; omega
    exact Nat.pow_le_pow_right (n := 2) (j := 15) (by decide) this
  · decide

set_option maxRecDepth 100000 in
theorem code_out (g : Nat) (i : Int) (w : World) (h : i < 0 ∨ 320 ≤ i) :
    Calls Tryd.prog 23 #[.pointer (some ⟨g, 0, none⟩), .int .i64 i] w fun e w' => e = .returned (.tuple #[.int .u32 0, .int .i64 0]) ∧ ∃ m, w' = w.drewN m := by
  by_cases h1 : i < 0
  · clear h
    go_enter Tryd.func23, Tryd.ntmps23
    go_wp2_with fail
    go_ret2
    exact ⟨rfl, 0, rfl⟩
  · have h2 : 320 ≤ i := by omega
    clear h
    go_enter Tryd.func23, Tryd.ntmps23
    go_wp2_with fail
    go_ret2
    exact ⟨rfl, 0, rfl⟩

set_option maxRecDepth 100000 in
theorem code_in (g X Y i : Nat) (w : World) (hi : i < 320) (hX : X < 65536) (hY : Y < 256) (c1 : w.cell? ⟨g, 320 + i, none⟩ = some (.int .u16 (X : Int))) (c0 : w.cell? ⟨g, i, none⟩ = some (.int .u8 (Y : Int))) :
    Calls Tryd.prog 23 #[.pointer (some ⟨g, 0, none⟩), .int .i64 i] w fun e w' => e = .returned (.tuple #[.int .u32 (X : Int), .int .i64 (Y : Int)]) ∧ ∃ m, w' = w.drewN m := by
  have k1 : IntKind.u32.wrap (X : Int) = (X : Int) := wrapU32 rfl (by omega)
  have k2 : IntKind.i64.wrap (Y : Int) = (Y : Int) := wrap64 rfl (by omega)
  have q0 : (0 : Int) ≤ (i : Int) := by omega
  have q1 : (i : Int) < 320 := by omega
  go_enter Tryd.func23, Tryd.ntmps23
  go_wp2_with fail
  go_quiet (fail)
  go_wp2_with fail
  go_ret2
  exact ⟨rfl, _, rfl⟩

theorem code_any (g : Nat) (l : List UInt8) (i : Int) (w : World) (h : Tb w g l) (hn : l.length ≤ 320) (h15 : ∀ i, ln l i ≤ 15) (hS : Sm (cn l) 16 ≤ 32768) :
    Calls Tryd.prog 23 #[.pointer (some ⟨g, 0, none⟩), .int .i64 i] w fun e w' => e = .returned (.tuple #[.int .u32 (cvI l i : Nat), .int .i64 (lnI l i : Nat)]) ∧ ∃ m, w' = w.drewN m := by
  have hlt := cvI_lt hS h15 i
  by_cases hi : 0 ≤ i ∧ i < 320
  · obtain ⟨k, rfl⟩ := Int.eq_ofNat_of_zero_le hi.1
    obtain ⟨S, _, hT⟩ := h
    refine code_in g (cvI l k) (lnI l k) k w (by omega) (by omega) (by rw [lnI_nat]; have := h15 k; omega) ?_ ?_
    · rw [hT.cell (by omega), TF.at_code _ (by omega)]
      show some (Value.int .u16 ((if k < l.length ∧ ln l k ≠ 0 then rev (cd l k) (ln l k) else 0 : Nat) : Int)) = _
      unfold cvI
      rw [lnI_nat, Int.toNat_natCast]
      by_cases h0 : ln l k ≠ 0
      · rw [if_pos ⟨ln_lt h0, h0⟩, if_pos h0]
      · rw [if_neg (fun h => h0 h.2), if_neg h0]
    · rw [hT.cell (by omega), TF.at_len _ (by omega)]
      show some (Value.int .u8 ((if k < l.length then ln l k else 0 : Nat) : Int)) = _
      rw [lnI_nat]
      by_cases h0 : k < l.length
      · rw [if_pos h0]
      · rw [if_neg h0, ln_out (by omega)]
  · have e : lnI l i = 0 := by
      unfold lnI
      by_cases h0 : 0 ≤ i
      · rw [if_pos h0, ln_out (by omega)]
      · rw [if_neg h0]
    have e2 : cvI l i = 0 := by unfold cvI; rw [e]; rfl
    rw [e, e2]
    exact code_out g i w (by omega)

end Go.Proofs.YtopjkmobnmaaaaaDoor


namespace Go.Proofs.YtopjkmobnmaaaaaDoor

/-- The number of the n bits that stand in N from k on, the first the highest. -/
def bc (N k : Nat) : Nat → Nat
  | 0 => 0
  | n + 1 => 2 * bc N k n + N / 2 ^ (k + n) % 2
theorem bc_succ (N k n : Nat) : bc N k (n + 1) = 2 * bc N k n + N / 2 ^ (k + n) % 2 := rfl
theorem bc_lt (N k n : Nat) : bc N k n < 2 ^ n := by
  induction n with
  | zero => exact Nat.one_pos
  | succ n ih => rw [bc_succ, Nat.pow_succ]; omega
theorem bc_rev (N k n : Nat) : bc N k n = rev (N / 2 ^ k) n := by
  induction n with
  | zero => rfl
  | succ n ih => rw [bc_succ, rev, ih, Nat.div_div_eq_div_mul, ← Nat.pow_add]

/-- The j-th symbol of length n. -/
def sy (l : List UInt8) (n j : Nat) : Nat := ((List.range l.length).find? fun i => ln l i == n && rk l i n == j).getD 0
theorem sy_eq {l : List UInt8} {i : Nat} (h : ln l i ≠ 0) : sy l (ln l i) (rk l i (ln l i)) = i := by
  unfold sy
  cases hf : (List.range l.length).find? fun k => ln l k == ln l i && rk l k (ln l i) == rk l i (ln l i) with
  | none =>
    rw [List.find?_eq_none] at hf
    have := hf i (List.mem_range.2 (ln_lt h))
    simp at this
  | some j =>
    have := List.find?_some hf
    simp only [Bool.and_eq_true, beq_iff_eq] at this
    show j = i
    refine (rk_inj h this.1.symm ?_).symm
    exact this.2.symm

/-- What Read tells: a symbol, an error, how many bits it passes. r lengths are left, from n on. -/
def scan (l : List UInt8) (N k left : Nat) : Nat → Nat → Nat × Nat × Nat
  | 0, _ => (0, 3, 0)
  | r + 1, n => if left < n then (0, 2, 0) else if bc N k n < Fs (cn l) n + cn l n then (sy l n (bc N k n - Fs (cn l) n), 0, n) else scan l N k left r (n + 1)
/-- All of it. -/
def readM (l : List UInt8) (N k left : Nat) : Nat × Nat × Nat := scan l N k left (Lg (cn l) 15) 1

theorem scan_short {l : List UInt8} {N k left r n : Nat} (h : left < n) : scan l N k left (r + 1) n = (0, 2, 0) := by unfold scan; rw [if_pos h]
theorem scan_hit {l : List UInt8} {N k left r n : Nat} (h : ¬ left < n) (h2 : bc N k n < Fs (cn l) n + cn l n) : scan l N k left (r + 1) n = (sy l n (bc N k n - Fs (cn l) n), 0, n) := by unfold scan; rw [if_neg h, if_pos h2]
theorem scan_next {l : List UInt8} {N k left r n : Nat} (h : ¬ left < n) (h2 : ¬ bc N k n < Fs (cn l) n + cn l n) : scan l N k left (r + 1) n = scan l N k left r (n + 1) := by
  show (if left < n then (0, 2, 0) else if bc N k n < Fs (cn l) n + cn l n then (sy l n (bc N k n - Fs (cn l) n), 0, n) else scan l N k left r (n + 1)) = _
  rw [if_neg h, if_neg h2]
end Go.Proofs.YtopjkmobnmaaaaaDoor

