/-
  Package huff: New. | Package huff: Code, Symbols. | Reading by codes, plainly: bit by bit, a code's first bit the highest. | Package huff: Read.
-/
import Derived.Test.YtlknhiihdejpeaaGreatDoorMHufD
import Derived.Deep.QuietTactic
import Derived.Test.YtlknhiihdejpeaaGreatDoorMHBits
namespace Go.Proofs.YtlknhiihdejpeaaGreatDoor
open Go Go.RowKit

theorem Sm16_le (l : List UInt8) (h : l.length ≤ 1000000) : Sm (cn l) 16 ≤ 4611686018427387904 :=
  Nat.le_trans (Sm_bound (cn l) 1000000 (fun i => Nat.le_trans (cn_le l i) h) 16) (by decide)

/-- A part built, at a plain step. -/
theorem list_build {P : Program} {ops : Array Oper} {rest : List Oper} {o : Oper} {a : Act} {w : World} {Q : Exit → Act → World → Prop} (hgd : o.guard = none) (t : TypeId) (k : Nat) (x : Operand) (ho : o.op = .build t #[(k, x)])
    (v : Value) (hx : a.eval x = v) (cells : Array Value) (hb : P.built t [(k, v)] = some cells)
    (h : wpList P ops Q rest (a.put o.dst (.agg cells)) w) : wpList P ops Q (o :: rest) a w :=
  wpList_plain hgd fun _ hK => by
    refine wp_build t #[(k, x)] ho ?_ ?_
    · simp [hx, hb]
    · simpa [hx, hb] using hK _ _ h

set_option maxRecDepth 100000 in
theorem newT_any (A : Option Addr) (n c : Nat) (l : List UInt8) (w : World) (hb : Holds w 1 A n (bvals l)) (hl : l.length = n) (hn : n ≤ 320) (hf : far l = false) (hm : mayBe (cn l) = true) :
    Calls Tryz.prog 53 #[.slice A n c] w fun e w' => ∃ g, e = .returned (.tuple #[.pointer (some ⟨g, 0, none⟩), .int .i64 0]) ∧ w.heap.size ≤ g ∧ Tb w' g l ∧ Only [] w w' := by
  subst hl
  have hS := mayBe_le hm
  have HC := hide (containsFunc_any A l.length c l w hb rfl (by omega))
  have HN := hide (count_any A l.length c l w hb rfl (by omega))
  have HB := hide hb
  have HX := hide (And.intro hS (And.intro (ln_far hf) (fun i (_ : i < 16) => Nat.le_trans (cn_le l i) (show l.length ≤ 65536 by omega))))
  have hT : Has (w.alloc (.cells (tcells fun _ => 0) 124)) w.heap.size 124 (tcells fun _ => 0) := Has.new w _ _
  clear hb hS
  go_enter Tryz.func53, Tryz.ntmps53
  go_wp2_with fail
  refine (HC.out).mono ?_
  rintro e w1 ⟨rfl, rfl⟩
  rw [hf]
  go_wp2_with fail
  refine (HN.out).mono ?_
  rintro e w1 ⟨rfl, ho1⟩
  have HO1 := hide ho1
  clear ho1
  have hT1 : Has (w1.alloc (.cells (tcells fun _ => 0) 124)) w1.heap.size 124 (tcells fun _ => 0) := Has.new w1 _ _
  go_wp2_with (first
    | (refine list_store_row' rfl 124 (.tmp 4) (.tmp 14) rfl w1.heap.size (tcells (cn l)) rfl rfl 124 (tcells fun _ => 0) hT1 (by kernel_rfl) (by rw [tcells_size, tcells_size]) (tcells_one _) ?_; intro w2 hT2 hO2; have HO2 := hide hO2; clear hO2)
    | (refine wpList_load_row rfl 124 (.tmp 4) rfl w1.heap.size rfl 124 (tcells (cn l)) (0, 0) _ hT2 Tryz.underlying124 rfl (by kernel_rfl) ?_))
  refine (allowed_any (cn l) w2 (by have := HX.out.1; omega)).mono ?_
  rintro e w3 ⟨rfl, ho3⟩
  have hT3 := hT2.only ho3 (by simp)
  have HO3 := hide ho3
  clear ho3 hT1 hT2
  rw [hm]
  have hbd := built_table (cn l)
  go_wp2_with (first
    | (refine wpList_load_row rfl 124 (.tmp 4) rfl w1.heap.size rfl 124 (tcells (cn l)) (0, 0) _ hT3 Tryz.underlying124 rfl (by kernel_rfl) ?_)
    | (refine list_build rfl 126 3 (.tmp 18) rfl (.agg (tcells (cn l))) rfl _ hbd ?_))
  have O3 : Only [] w w3 := HO1.out.trans ((((Only.refl [] w1).alloc _).trans HO2.out (by simp)).trans HO3.out (by simp)) (by simp)
  have hnew : Tbl (w3.alloc (.cells (TF.new (cn l)).cells 126)) w3.heap.size (TF.new (cn l)) := Has.new w3 _ _
  refine (order_any w3.heap.size (cn l) _ hnew rfl HX.out.2.2 HX.out.1).mono ?_
  rintro e w4 ⟨rfl, hT4, ho4⟩
  have HT4 := hide (And.intro hT4 ho4)
  clear hT4 ho4 hnew hT3 hbd
  go_wp2_with fail
  have hsz := O3.size
  have hb4 : Holds w4 1 A l.length (bvals l) := (HB.out.keep (O3.alloc _) (by simp)).keepPos HT4.out.2 (fun h0 ad ha _ => by have := HB.out.blk h0 ad ha; simp; omega)
  refine (deal_any w3.heap.size A l.length c l w4 HT4.out.1 hb4 rfl hn HX.out.2.1 HX.out.1 (fun h0 ad ha => by have := HB.out.blk h0 ad ha; omega)).mono ?_
  rintro e w5 ⟨rfl, hT5, ho5⟩
  have HT5 := hide (And.intro hT5 ho5)
  clear hT5 ho5 hb4
  go_wp2_with fail
  go_ret2
  exact ⟨w3.heap.size, rfl, hsz, HT5.out.1, (O3.alloc _).trans (HT4.out.2.trans HT5.out.2 (by simp)) (by simp; omega)⟩

set_option maxRecDepth 100000 in
set_option maxHeartbeats 4000000 in
theorem newF_any (A : Option Addr) (n c : Nat) (l : List UInt8) (w : World) (hb : Holds w 1 A n (bvals l)) (hl : l.length = n) (hn : n ≤ 140737488355328) (hno : ¬ newE l = 0) :
    Calls Tryz.prog 53 #[.slice A n c] w fun e w' => e = .returned (.tuple #[.pointer none, .int .i64 (newE l : Nat)]) ∧ Only [] w w' := by
  subst hl
  unfold newE at hno ⊢
  by_cases h1 : 320 < l.length
  · rw [if_pos (.inl h1)]
    clear hno
    go_enter Tryz.func53, Tryz.ntmps53
    go_wp2_with fail
    go_ret2
    exact ⟨rfl, Only.refl _ _⟩
  · cases hf : far l with
    | true =>
      rw [if_pos (.inr rfl)]
      have HC := hide (containsFunc_any A l.length c l w hb rfl (by omega))
      rw [hf] at HC
      clear hno
      go_enter Tryz.func53, Tryz.ntmps53
      go_wp2_with fail
      refine (HC.out).mono ?_
      rintro e w1 ⟨rfl, rfl⟩
      go_wp2_with fail
      go_ret2
      exact ⟨rfl, Only.refl _ _⟩
    | false =>
      rw [hf] at hno
      rw [if_neg (by simp; omega)] at hno ⊢
      have hm : mayBe (cn l) = false := by
        cases h : mayBe (cn l) with
        | true => rw [h] at hno; simp at hno
        | false => rfl
      rw [hm]
      have HC := hide (containsFunc_any A l.length c l w hb rfl (by omega))
      have HN := hide (count_any A l.length c l w hb rfl (by omega))
      rw [hf] at HC
      clear hno hb
      go_enter Tryz.func53, Tryz.ntmps53
      go_wp2_with fail
      refine (HC.out).mono ?_
      rintro e w1 ⟨rfl, rfl⟩
      go_wp2_with fail
      refine (HN.out).mono ?_
      rintro e w1 ⟨rfl, ho1⟩
      have HO1 := hide ho1
      clear ho1
      have hT1 : Has (w1.alloc (.cells (tcells fun _ => 0) 124)) w1.heap.size 124 (tcells fun _ => 0) := Has.new w1 _ _
      go_wp2_with (first
        | (refine list_store_row' rfl 124 (.tmp 4) (.tmp 14) rfl w1.heap.size (tcells (cn l)) rfl rfl 124 (tcells fun _ => 0) hT1 (by kernel_rfl) (by rw [tcells_size, tcells_size]) (tcells_one _) ?_; intro w2 hT2 hO2; have HO2 := hide hO2; clear hO2)
        | (refine wpList_load_row rfl 124 (.tmp 4) rfl w1.heap.size rfl 124 (tcells (cn l)) (0, 0) _ hT2 Tryz.underlying124 rfl (by kernel_rfl) ?_))
      refine (allowed_any (cn l) w2 (Sm16_le l (by omega))).mono ?_
      rintro e w3 ⟨rfl, ho3⟩
      have HO3 := hide ho3
      clear ho3 hT1 hT2
      rw [hm]
      go_wp2_with fail
      go_ret2
      exact ⟨rfl, HO1.out.trans ((((Only.refl [] w1).alloc _).trans HO2.out (by simp)).trans HO3.out (by simp)) (by simp)⟩

end Go.Proofs.YtlknhiihdejpeaaGreatDoor


namespace Go.Proofs.YtlknhiihdejpeaaGreatDoor
open Go Go.RowKit

/-- A symbol's length, of any number. -/
def lnI (l : List UInt8) (i : Int) : Nat := if 0 ≤ i then ln l i.toNat else 0
/-- A symbol's code, as Bits would tell it. -/
def cvI (l : List UInt8) (i : Int) : Nat := if lnI l i ≠ 0 then rev (cd l i.toNat) (lnI l i) else 0

theorem lnI_nat (l : List UInt8) (i : Nat) : lnI l (i : Int) = ln l i := by
  unfold lnI; rw [if_pos (by omega), Int.toNat_natCast]
theorem cvI_lt {l : List UInt8} (_ : Sm (cn l) 16 ≤ 32768) (h15 : ∀ i, ln l i ≤ 15) (i : Int) : cvI l i < 32768 := by
  unfold cvI
  split
  · refine Nat.lt_of_lt_of_le (rev_lt _ _) ?_
    have : lnI l i ≤ 15 := by unfold lnI; split; exact h15 _; omega
    exact Nat.pow_le_pow_right (n := 2) (j := 15) (by decide) this
  · decide

set_option maxRecDepth 100000 in
theorem code_out (g : Nat) (i : Int) (w : World) (h : i < 0 ∨ 320 ≤ i) :
    Calls Tryz.prog 36 #[.pointer (some ⟨g, 0, none⟩), .int .i64 i] w fun e w' => e = .returned (.tuple #[.int .u32 0, .int .i64 0]) ∧ ∃ m, w' = w.drewN m := by
  by_cases h1 : i < 0
  · clear h
    go_enter Tryz.func36, Tryz.ntmps36
    go_wp2_with fail
    go_ret2
    exact ⟨rfl, 0, rfl⟩
  · have h2 : 320 ≤ i := by omega
    clear h
    go_enter Tryz.func36, Tryz.ntmps36
    go_wp2_with fail
    go_ret2
    exact ⟨rfl, 0, rfl⟩

set_option maxRecDepth 100000 in
theorem code_in (g X Y i : Nat) (w : World) (hi : i < 320) (hX : X < 65536) (hY : Y < 256) (c1 : w.cell? ⟨g, 320 + i, none⟩ = some (.int .u16 (X : Int))) (c0 : w.cell? ⟨g, i, none⟩ = some (.int .u8 (Y : Int))) :
    Calls Tryz.prog 36 #[.pointer (some ⟨g, 0, none⟩), .int .i64 i] w fun e w' => e = .returned (.tuple #[.int .u32 (X : Int), .int .i64 (Y : Int)]) ∧ ∃ m, w' = w.drewN m := by
  have k1 : IntKind.u32.wrap (X : Int) = (X : Int) := wrapU32 rfl (by omega)
  have k2 : IntKind.i64.wrap (Y : Int) = (Y : Int) := wrap64 rfl (by omega)
  have q0 : (0 : Int) ≤ (i : Int) := by omega
  have q1 : (i : Int) < 320 := by omega
  go_enter Tryz.func36, Tryz.ntmps36
  go_wp2_with fail
  go_quiet (fail)
  go_wp2_with fail
  go_ret2
  exact ⟨rfl, _, rfl⟩

theorem code_any (g : Nat) (l : List UInt8) (i : Int) (w : World) (h : Tb w g l) (hn : l.length ≤ 320) (h15 : ∀ i, ln l i ≤ 15) (hS : Sm (cn l) 16 ≤ 32768) :
    Calls Tryz.prog 36 #[.pointer (some ⟨g, 0, none⟩), .int .i64 i] w fun e w' => e = .returned (.tuple #[.int .u32 (cvI l i : Nat), .int .i64 (lnI l i : Nat)]) ∧ ∃ m, w' = w.drewN m := by
  have hlt := cvI_lt hS h15 i
  by_cases hi : 0 ≤ i ∧ i < 320
  · obtain ⟨k, rfl⟩ := Int.eq_ofNat_of_zero_le hi.1
    obtain ⟨S, _, hT⟩ := h
    refine code_in g (cvI l k) (lnI l k) k w (by omega) (by omega) (by rw [lnI_nat]; have := h15 k; omega) ?_ ?_
    · rw [hT.cell (by omega), TF.at_code _ (by omega)]
      show some (Value.int .u16 ((if k < l.length ∧ ln l k ≠ 0 then rev (cd l k) (ln l k) else 0 : Nat) : Int)) = _
      unfold cvI
      rw [lnI_nat, Int.toNat_natCast]
      by_cases h0 : ln l k ≠ 0
      · rw [if_pos ⟨ln_lt h0, h0⟩, if_pos h0]
      · rw [if_neg (fun h => h0 h.2), if_neg h0]
    · rw [hT.cell (by omega), TF.at_len _ (by omega)]
      show some (Value.int .u8 ((if k < l.length then ln l k else 0 : Nat) : Int)) = _
      rw [lnI_nat]
      by_cases h0 : k < l.length
      · rw [if_pos h0]
      · rw [if_neg h0, ln_out (by omega)]
  · have e : lnI l i = 0 := by
      unfold lnI
      by_cases h0 : 0 ≤ i
      · rw [if_pos h0, ln_out (by omega)]
      · rw [if_neg h0]
    have e2 : cvI l i = 0 := by unfold cvI; rw [e]; rfl
    rw [e, e2]
    exact code_out g i w (by omega)

end Go.Proofs.YtlknhiihdejpeaaGreatDoor


namespace Go.Proofs.YtlknhiihdejpeaaGreatDoor

/-- The number of the n bits that stand in N from k on, the first the highest. -/
def bc (N k : Nat) : Nat → Nat
  | 0 => 0
  | n + 1 => 2 * bc N k n + N / 2 ^ (k + n) % 2
theorem bc_succ (N k n : Nat) : bc N k (n + 1) = 2 * bc N k n + N / 2 ^ (k + n) % 2 := rfl
theorem bc_lt (N k n : Nat) : bc N k n < 2 ^ n := by
  induction n with
  | zero => exact Nat.one_pos
  | succ n ih => rw [bc_succ, Nat.pow_succ]; omega
theorem bc_rev (N k n : Nat) : bc N k n = rev (N / 2 ^ k) n := by
  induction n with
  | zero => rfl
  | succ n ih => rw [bc_succ, rev, ih, Nat.div_div_eq_div_mul, ← Nat.pow_add]

/-- The j-th symbol of length n. -/
def sy (l : List UInt8) (n j : Nat) : Nat := ((List.range l.length).find? fun i => ln l i == n && rk l i n == j).getD 0
theorem sy_eq {l : List UInt8} {i : Nat} (h : ln l i ≠ 0) : sy l (ln l i) (rk l i (ln l i)) = i := by
  unfold sy
  cases hf : (List.range l.length).find? fun k => ln l k == ln l i && rk l k (ln l i) == rk l i (ln l i) with
  | none =>
    rw [List.find?_eq_none] at hf
    have := hf i (List.mem_range.2 (ln_lt h))
    simp at this
  | some j =>
    have := List.find?_some hf
    simp only [Bool.and_eq_true, beq_iff_eq] at this
    show j = i
    refine (rk_inj h this.1.symm ?_).symm
    exact this.2.symm

/-- What Read tells: a symbol, an error, how many bits it passes. r lengths are left, from n on. -/
def scan (l : List UInt8) (N k left : Nat) : Nat → Nat → Nat × Nat × Nat
  | 0, _ => (0, 3, 0)
  | r + 1, n => if left < n then (0, 2, 0) else if bc N k n < Fs (cn l) n + cn l n then (sy l n (bc N k n - Fs (cn l) n), 0, n) else scan l N k left r (n + 1)
/-- All of it. -/
def readM (l : List UInt8) (N k left : Nat) : Nat × Nat × Nat := scan l N k left (Lg (cn l) 15) 1

theorem scan_short {l : List UInt8} {N k left r n : Nat} (h : left < n) : scan l N k left (r + 1) n = (0, 2, 0) := by unfold scan; rw [if_pos h]
theorem scan_hit {l : List UInt8} {N k left r n : Nat} (h : ¬ left < n) (h2 : bc N k n < Fs (cn l) n + cn l n) : scan l N k left (r + 1) n = (sy l n (bc N k n - Fs (cn l) n), 0, n) := by unfold scan; rw [if_neg h, if_pos h2]
theorem scan_next {l : List UInt8} {N k left r n : Nat} (h : ¬ left < n) (h2 : ¬ bc N k n < Fs (cn l) n + cn l n) : scan l N k left (r + 1) n = scan l N k left r (n + 1) := by
  show (if left < n then (0, 2, 0) else if bc N k n < Fs (cn l) n + cn l n then (sy l n (bc N k n - Fs (cn l) n), 0, n) else scan l N k left r (n + 1)) = _
  rw [if_neg h, if_neg h2]
end Go.Proofs.YtlknhiihdejpeaaGreatDoor


namespace Go.Proofs.YtlknhiihdejpeaaGreatDoor
open Go Go.RowKit

theorem i64_or1 (a b : Nat) (hb : b < 2) (h : a < 1073741824) : bits .or .i64 ((a : Int) * 2) (b : Int) = 2 * (a : Int) + (b : Int) := by
  have h1 : (BitVec.ofInt 64 ((a : Int) * 2)).toNat = a * 2 ^ 1 := by rw [BitVec.toNat_ofInt]; omega
  have h2 : (BitVec.ofInt 64 (b : Int)).toNat = b := by rw [BitVec.toNat_ofInt]; omega
  have key : (BitVec.ofInt 64 ((a : Int) * 2) ||| BitVec.ofInt 64 (b : Int)).toNat = 2 * a + b := by
    rw [BitVec.toNat_or, h1, h2, Nat.or_comm, or_of_lt (by omega)]; omega
  show IntKind.i64.wrap ((BitVec.ofInt 64 ((a : Int) * 2) ||| BitVec.ofInt 64 (b : Int)).toNat : Nat) = _
  rw [key, IntKind.wrap_i64]
  omega

theorem Has.ne {w : World} {g g' : Nat} {t t' : TypeId} {cs cs' : Array Value} (h : Has w g t cs) (h' : Has w g' t' cs') (ht : t ≠ t') : g ≠ g' := by
  rintro rfl
  unfold Has at h h'
  rw [h] at h'
  injection h' with h'
  injection h' with _ h'
  exact ht h'

/-- What the loop of Read has when it has seen j bits. -/
structure Seen (l : List UInt8) (N k left j : Nat) (R : Nat × Nat × Nat) : Prop where
  le : j ≤ Lg (cn l) 15
  have_ : j ≤ left
  all : scan l N k left (Lg (cn l) 15 - j) (j + 1) = R
  past : Fs (cn l) j + cn l j ≤ bc N k j

theorem Seen.start (l : List UInt8) (N k left : Nat) : Seen l N k left 0 (readM l N k left) := ⟨Nat.zero_le _, Nat.zero_le _, rfl, Nat.le_refl _⟩

theorem Seen.done {l : List UInt8} {N k left : Nat} {R : Nat × Nat × Nat} (h : Seen l N k left (Lg (cn l) 15) R) : R = (0, 3, 0) := by
  have := h.all
  rw [Nat.sub_self] at this
  exact this.symm
theorem Seen.short {l : List UInt8} {N k left j : Nat} {R : Nat × Nat × Nat} (h : Seen l N k left j R) (h1 : j < Lg (cn l) 15) (h2 : left < j + 1) : R = (0, 2, 0) := by
  have := h.all
  obtain ⟨r, hr⟩ : ∃ r, Lg (cn l) 15 - j = r + 1 := ⟨Lg (cn l) 15 - j - 1, by omega⟩
  rw [hr, scan_short h2] at this
  exact this.symm
theorem Seen.hit {l : List UInt8} {N k left j : Nat} {R : Nat × Nat × Nat} (h : Seen l N k left j R) (h1 : j < Lg (cn l) 15) (h2 : ¬ left < j + 1) (h3 : bc N k (j + 1) < Fs (cn l) (j + 1) + cn l (j + 1)) : R = (sy l (j + 1) (bc N k (j + 1) - Fs (cn l) (j + 1)), 0, j + 1) := by
  have := h.all
  obtain ⟨r, hr⟩ : ∃ r, Lg (cn l) 15 - j = r + 1 := ⟨Lg (cn l) 15 - j - 1, by omega⟩
  rw [hr, scan_hit h2 h3] at this
  exact this.symm
theorem Seen.next {l : List UInt8} {N k left j : Nat} {R : Nat × Nat × Nat} (h : Seen l N k left j R) (h1 : j < Lg (cn l) 15) (h2 : ¬ left < j + 1) (h3 : ¬ bc N k (j + 1) < Fs (cn l) (j + 1) + cn l (j + 1)) : Seen l N k left (j + 1) R := by
  refine ⟨h1, by omega, ?_, by omega⟩
  have := h.all
  obtain ⟨r, hr⟩ : ∃ r, Lg (cn l) 15 - j = r + 1 := ⟨Lg (cn l) 15 - j - 1, by omega⟩
  rw [hr, scan_next h2 h3] at this
  rw [show Lg (cn l) 15 - (j + 1) = r by omega]
  exact this
theorem Seen.ge {l : List UInt8} {N k left j : Nat} {R : Nat × Nat × Nat} (h : Seen l N k left j R) : Fs (cn l) (j + 1) ≤ bc N k (j + 1) := by
  have := h.past
  rw [Fs_succ, bc_succ]; omega

/-- The symbol that was dealt there. -/
theorem dealt_sy {l : List UInt8} {S : Nat → Nat} (h : Dealt l l.length S) {n j : Nat} (hn : n ≠ 0) (hj : j < cn l n) : S (Bf (cn l) n + j) = sy l n j ∧ sy l n j < l.length ∧ Bf (cn l) n + j < l.length := by
  obtain ⟨i, hi, rfl, rfl⟩ := rk_sur hn hj
  have h1 := h i hi hn
  have h2 := sy_eq hn
  unfold pl at h1
  rw [h1, h2]
  exact ⟨rfl, hi, pl_lt hn⟩

set_option maxRecDepth 100000 in
set_option maxHeartbeats 4000000 in
theorem read_any (g gr : Nat) (v : Value) (l b : List UInt8) (k : Nat) (w : World) (hT : Tb w g l) (hR : Rd w gr v b k) (hn : l.length ≤ 320) (_ : ∀ i, ln l i ≤ 15) (_ : Sm (cn l) 16 ≤ 32768) (x e n : Nat) (hs : readM l (num b) k (8 * b.length - k) = (x, e, n)) :
    Calls Tryz.prog 109 #[.pointer (some ⟨g, 0, none⟩), .pointer (some ⟨gr, 0, none⟩)] w fun o w' => o = .returned (.tuple #[.int .i64 x, .int .i64 e]) ∧ Only [gr] w w' ∧ Rd w' gr v b (k + n) := by
  have hk := hR.2.2.2
  have hbl := hR.2.2.1
  obtain ⟨A, c, rfl, hc, hA⟩ := own_shape hR.2.1
  have HL := hide (left_any gr b.length c A k w hR.1 hbl hk)
  obtain ⟨left, hleft⟩ : ∃ q, q = 8 * b.length - k := ⟨_, rfl⟩
  rw [← hleft] at hs HL
  have HLE := hide hleft
  have h0 := Seen.start l (num b) k left
  rw [hs] at h0
  obtain ⟨S, hD, hTT⟩ := hT
  obtain ⟨L, hLg⟩ : ∃ L, L = Lg (cn l) 15 := ⟨_, rfl⟩
  have hL15 : L ≤ 15 := by rw [hLg]; exact Lg_le _ _
  have cL : ∀ w1, Only [gr] w w1 → w1.cell? ⟨g, 1008, none⟩ = some (.int .i64 (L : Int)) := fun w1 ho => by
    rw [(hTT.only ho (by simpa using Has.ne hTT hR.1 (by decide))).cell (by omega), TF.at_lng, hLg]; rfl
  have HLL := hide hLg
  have HC := hide cL
  have HT := hide (And.intro hD (And.intro hTT (And.intro hR h0)))
  obtain ⟨m, hm1, hm4, hm2, hm3⟩ : ∃ m : Nat, (if L < left then (L : Int) else (left : Int)) = (m : Int) ∧ (if L < left then Value.int .i64 (L : Int) else Value.int .i64 (left : Int)) = Value.int .i64 (m : Int) ∧ (m ≤ L ∧ m ≤ left) ∧ (m = L ∨ m = left) := by
    by_cases h : L < left
    · exact ⟨L, by rw [if_pos h], by rw [if_pos h], by omega, by omega⟩
    · exact ⟨left, by rw [if_neg h], by rw [if_neg h], by omega, by omega⟩
  have hleq : (8 * b.length - k : Nat) = left := hleft.symm
  have HP := hide (fun w1 (h : Rd w1 gr (.slice A b.length c) b k) => peek_any gr _ b k (m : Int) w1 h)
  have hok : okBits b.length k (m : Int) = true := by unfold okBits; rw [decide_eq_true_eq, hleq]; omega
  have hgot : gotBits b k (m : Int) = bitsOf (num b) k m := by unfold gotBits; rw [if_pos hok, Int.toNat_natCast]
  rw [hok, hgot] at HP
  have HM := hide (And.intro hm2 hm3)
  clear hD hTT hR h0 cL hLg hs hm2 hm3 hok hgot hleq hleft
  have c0 := HC.out w (Only.refl _ _)
  go_enter Tryz.func109, Tryz.ntmps109
  go_wp2_with fail
  refine (HL.out).mono ?_
  rintro o w1 ⟨rfl, m1, rfl⟩
  go_wp2_with fail
  refine (HP.out _ (HT.out.2.2.1.drewN m1)).mono ?_
  rintro o w1 ⟨rfl, m2, rfl⟩
  obtain ⟨m3, h3⟩ := drews w m1 m2
  rw [h3]
  have HD : Tbl (w.drewN m3) g (TF.dl l l.length S) ∧ Rd (w.drewN m3) gr (.slice A b.length c) b k ∧ Only [] w (w.drewN m3) := ⟨HT.out.2.1.only ((Only.refl [] w).drewN m3) (by simp), HT.out.2.2.1.drewN m3, (Only.refl [] w).drewN m3⟩
  have HW := hide HD
  have hT1 := HD.1
  clear h3 HL HP c0 HD
  generalize w.drewN m3 = W at *
  have cL : W.cell? ⟨g, 1008, none⟩ = some (.int .i64 (L : Int)) := by rw [hT1.cell (by omega), TF.at_lng, HLL.out]; rfl
  have HT1 := hide hT1
  clear hT1 hm1 hm4
  obtain ⟨y0, hy0⟩ : ∃ y, y = bitsOf (num b) k m := ⟨_, rfl⟩
  rw [← hy0]
  have HY := hide hy0
  have hy32 : y0 < 4294967296 := by rw [hy0]; exact bitsOf_lt32 _ _ _ (by have := HM.out.1; omega)
  clear hy0
  go_wp2_with fail
  go_loop [7, 9, 10] (fun v7 v9 v10 => ∃ j : Nat, Seen l (num b) k left j (x, e, n) ∧ v7 = .int .u32 ((y0 / 2 ^ j : Nat) : Int) ∧ v9 = .int .i64 (bc (num b) k j : Nat) ∧ v10 = .int .i64 ((j + 1 : Nat) : Int)) (fun _ _ v10 => 17 - (intOf v10).toNat)
  case atStart => exact ⟨0, HT.out.2.2.2, by simp, rfl, rfl⟩
  case round =>
    obtain ⟨j, hSn, rfl, rfl, rfl⟩ := hrel
    have hjL := hSn.le
    rw [← HLL.out] at hjL
    by_cases hlt : j < L
    · have hlt' : j < Lg (cn l) 15 := by rw [← HLL.out]; exact hlt
      have HS := hide hSn
      by_cases hsh : left < j + 1
      · have hR := hSn.short hlt' hsh
        injection hR with hx hR
        injection hR with he hn0
        subst hx he hn0
        have hnL : j + 1 ≤ L := hlt
        clear hSn hlt'
        generalize hnn : j + 1 = nn at *
        clear hnn
        go_wp2_with fail
        go_ret2
        exact ⟨rfl, HW.out.2.2.of_nil, HW.out.2.1⟩
      · have hjm : j < m := by rcases HM.out.2 with h | h <;> omega
        have hge := hSn.ge
        have hzl := bc_lt (num b) k j
        have hz15 : 2 ^ j ≤ 2 ^ 15 := Nat.pow_le_pow_right (by decide) (by omega)
        have hbs := bc_succ (num b) k j
        obtain ⟨y, hy⟩ : ∃ y, y = y0 / 2 ^ j := ⟨_, rfl⟩
        have hyl : y < 4294967296 := by rw [hy]; exact Nat.lt_of_le_of_lt (Nat.div_le_self _ _) hy32
        have hbit : y % 2 = num b / 2 ^ (k + j) % 2 := by
          have h1 := mod_div_mod (num b / 2 ^ k) m j 1 (by omega)
          rw [Nat.pow_one] at h1
          rw [hy, HY.out]
          unfold bitsOf
          rw [h1, Nat.div_div_eq_div_mul, ← Nat.pow_add]
        have hy2 : y / 2 = y0 / 2 ^ (j + 1) := by rw [hy, Nat.div_div_eq_div_mul, Nat.pow_succ]
        rw [← hbit] at hbs
        obtain ⟨C, hC⟩ : ∃ C, C = bc (num b) k (j + 1) := ⟨_, rfl⟩
        rw [← hC] at hbs hge
        obtain ⟨F, hF⟩ : ∃ F, F = Fs (cn l) (j + 1) := ⟨_, rfl⟩
        rw [← hF] at hge
        obtain ⟨K, hK⟩ : ∃ K, K = cn l (j + 1) := ⟨_, rfl⟩
        obtain ⟨I, hI⟩ : ∃ I, I = C - F := ⟨_, rfl⟩
        have cF : W.cell? ⟨g, 976 + (j + 1), none⟩ = some (.int .i64 (F : Int)) := by
          rw [HT1.out.cell (by omega), TF.at_fst _ (by omega)]
          show some (Value.int .i64 ((if j + 1 ≤ 15 then Fs (cn l) (j + 1) else 0 : Nat) : Int)) = _
          rw [if_pos (by omega), hF]
        have cK : W.cell? ⟨g, 960 + (j + 1), none⟩ = some (.int .i64 (K : Int)) := by
          rw [HT1.out.cell (by omega), TF.at_cnt _ (by omega), hK]; rfl
        obtain ⟨z, hz⟩ : ∃ z, z = bc (num b) k j := ⟨_, rfl⟩
        rw [← hz] at hbs hzl ⊢
        rw [← hy]
        obtain ⟨t, ht⟩ : ∃ t, t = y % 2 := ⟨_, rfl⟩
        have ht2 : t < 2 := by omega
        have eA := u32_and1 y hyl
        rw [← ht] at eA hbs
        have eW : IntKind.i64.wrap (t : Int) = (t : Int) := wrap64 rfl (by omega)
        have eO := i64_or1 z t ht2 (by omega)
        have eC : 2 * (z : Int) + (t : Int) = (C : Int) := by omega
        rw [eC] at eO
        have eI : (C : Int) - (F : Int) = (I : Int) := by omega
        obtain ⟨Y2, hY2⟩ : ∃ q, q = y / 2 := ⟨_, rfl⟩
        rw [← hY2] at hy2
        have eH : (y : Int) / 2 = (Y2 : Int) := by omega
        have hz64 : z < 32768 := by omega
        have q1 : ((j + 1 : Nat) : Int) < 16 := by omega
        have q0 : (0 : Int) ≤ ((j + 1 : Nat) : Int) := by omega
        have hnL : j + 1 ≤ L := hlt
        have hnl : j + 1 ≤ left := by omega
        have hn0 : j + 1 ≠ 0 := by omega
        have hI63 : I < 65536 := by omega
        have hC63 : C < 65536 := by omega
        by_cases hhit : I < K
        · have hR := hSn.hit hlt' hsh (by rw [← hC, ← hF, ← hK]; omega)
          rw [← hC, ← hF, ← hI] at hR
          obtain ⟨d1, d2, d3⟩ := dealt_sy HT.out.1 (n := j + 1) (by omega) (show I < cn l (j + 1) by omega)
          have hok : okBits b.length k ((j + 1 : Nat) : Int) = true := by unfold okBits; rw [decide_eq_true_eq]; have := HLE.out; omega
          have HB := hide (bits_any gr _ b k ((j + 1 : Nat) : Int) W HW.out.2.1)
          rw [hok, if_pos rfl, Int.toNat_natCast] at HB
          injection hR with hx hR
          injection hR with he hn0'
          obtain ⟨B, hB⟩ : ∃ B, B = Bf (cn l) (j + 1) := ⟨_, rfl⟩
          rw [← hB] at d1 d3
          rw [← hx] at d1 d2
          subst he hn0'
          have HZ := hide (And.intro hB (And.intro d1 hn0))
          have hj15 : j + 1 ≤ 15 := by omega
          clear hSn hlt' hsh hy hbit hy2 hC hF hK hI hz hbs hge ht hzl hz15 hjm hok hx hB d1 eC hn0 hlt hjL hY2
          generalize hnn : j + 1 = nn at *
          have HNN := hide hnn
          clear hnn
          go_wp2_with fail
          refine (HB.out).mono ?_
          rintro o w5 ⟨rfl, ho5, hR5⟩
          have hT5 : Tbl w5 g (TF.dl l l.length S) := HT1.out.only ho5 (by simpa using Has.ne HT1.out HW.out.2.1.1 (by decide))
          have a1 : w5.cell? ⟨g, 992 + nn, none⟩ = some (.int .i64 (B : Int)) := by
            rw [hT5.cell (by omega), TF.at_bef _ (by omega)]
            show some (Value.int .i64 ((if nn ≤ 15 then Bf (cn l) nn else 0 : Nat) : Int)) = _
            rw [if_pos hj15, HZ.out.1]
          have a2 : w5.cell? ⟨g, 640 + (B + I), none⟩ = some (.int .i16 (x : Int)) := by
            rw [hT5.cell (by omega), TF.at_sym _ (by omega)]
            show some (Value.int .i16 ((S (B + I) : Nat) : Int)) = _
            rw [HZ.out.2.1]
          have H5 := hide (And.intro hR5 ho5)
          clear hR5 ho5 hT5
          have k1 : IntKind.i64.wrap ((B : Int) + (I : Int)) = (B : Int) + (I : Int) := by have := wrap64 (z := (B : Int) + (I : Int)) (n := B + I) (by omega) (by omega); omega
          have k2 : IntKind.i64.wrap (x : Int) = (x : Int) := wrap64 rfl (by omega)
          have k3 : (0 : Int) ≤ (B : Int) + (I : Int) := by omega
          have k4 : (B : Int) + (I : Int) < 320 := by omega
          go_wp2_with fail
          go_quiet (fail)
          go_wp2_with fail
          go_ret2
          rw [HNN.out]
          exact ⟨rfl, (HW.out.2.2.of_nil.trans H5.out.2 (fun i hi _ => hi)).drewN nq, H5.out.1.drewN nq⟩
        · have hnx := hSn.next hlt' hsh (by rw [← hC, ← hF, ← hK]; omega)
          have HX := hide (And.intro hnx (And.intro hC (And.intro hy2 hz)))
          clear hSn hnx hlt' hsh hy hbit hy2 hC hF hK hI hz hbs hge ht hzl hz15 hjm eC hlt hY2
          generalize hnn : j + 1 = nn at *
          have HNN := hide hnn
          clear hnn
          go_wp2_with fail
          go_round
          case rel =>
            exact ⟨nn, HX.out.1, by rw [← HX.out.2.2.1], by rw [← HX.out.2.1], by go_num⟩
          case measure => simp [intOf]; omega
    · obtain rfl : j = L := by omega
      rw [HLL.out] at hSn
      have hR := hSn.done
      injection hR with hx hR
      injection hR with he hn0
      subst hx he hn0
      clear hSn hlt
      generalize y0 / 2 ^ j = y at *
      generalize bc (num b) k j = z at *
      go_wp2_with fail
      go_ret2
      exact ⟨rfl, HW.out.2.2.of_nil, HW.out.2.1⟩
end Go.Proofs.YtlknhiihdejpeaaGreatDoor

