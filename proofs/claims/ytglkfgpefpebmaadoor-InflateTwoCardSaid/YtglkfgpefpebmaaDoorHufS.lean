/-
  The codes said a second time: New.
-/
import Derived.Test.YtglkfgpefpebmaaDoorHufR
import Derived.Deep.RegionLaw
import Derived.Laws.MakeOwn
import Derived.Deep.OwnRows
namespace Go.Proofs.YtglkfgpefpebmaaDoor
open Go Go.RowKit

def nzc (l : List UInt8) : Nat := l.countP (fun b => b.toNat != 0)
def oneOf (l : List UInt8) : Nat := l.foldl (fun a b => if b.toNat ≠ 0 then b.toNat else a) 0
theorem nzc_snoc (l : List UInt8) (b : UInt8) : nzc (l ++ [b]) = nzc l + (if b.toNat ≠ 0 then 1 else 0) := by
  unfold nzc
  by_cases h : b.toNat = 0 <;> simp [h, List.countP_append]
theorem oneOf_snoc (l : List UInt8) (b : UInt8) : oneOf (l ++ [b]) = if b.toNat ≠ 0 then b.toNat else oneOf l := by
  unfold oneOf; rw [List.foldl_append]; rfl
theorem snoc_ind {P : List UInt8 → Prop} (h0 : P []) (h1 : ∀ l b, P l → P (l ++ [b])) (l : List UInt8) : P l := by
  have key : ∀ n, n ≤ l.length → P (l.take n) := by
    intro n
    induction n with
    | zero => intro _; simpa using h0
    | succ n ih =>
      intro hn
      rw [take_snoc (by omega)]
      exact h1 _ _ (ih (by omega))
  have := key l.length (Nat.le_refl _)
  rwa [List.take_length] at this
theorem nzc_zero {l : List UInt8} (h : nzc l = 0) (n : Nat) : cn l n = 0 := by
  induction l using snoc_ind with
  | h0 => exact cn_nil n
  | h1 l b ih =>
    rw [nzc_snoc] at h
    rw [cn_snoc, ih (by omega)]
    by_cases hb : b.toNat ≠ 0
    · rw [if_pos hb] at h; omega
    · rw [if_neg (by omega)]
theorem nzc_one {l : List UInt8} (h : nzc l = 1) (n : Nat) : cn l n = if n = oneOf l ∧ n ≠ 0 then 1 else 0 := by
  induction l using snoc_ind with
  | h0 => simp [nzc] at h
  | h1 l b ih =>
    rw [nzc_snoc] at h
    rw [cn_snoc, oneOf_snoc]
    by_cases hb : b.toNat ≠ 0
    · rw [if_pos hb] at h ⊢
      rw [nzc_zero (by omega), Nat.zero_add]
      by_cases h2 : b.toNat = n ∧ n ≠ 0
      · rw [if_pos h2, if_pos (by omega)]
      · rw [if_neg h2, if_neg (by omega)]
    · rw [if_neg hb] at h ⊢
      have e : (if b.toNat = n ∧ n ≠ 0 then 1 else 0) = 0 := if_neg (by omega)
      rw [ih (by omega), e, Nat.add_zero]
theorem oneOf_pos {l : List UInt8} (h : nzc l ≠ 0) : oneOf l ≠ 0 := by
  induction l using snoc_ind with
  | h0 => simp [nzc] at h
  | h1 l b ih =>
    rw [nzc_snoc] at h
    rw [oneOf_snoc]
    by_cases hb : b.toNat ≠ 0
    · rw [if_pos hb]; exact hb
    · rw [if_neg hb] at h ⊢; exact ih (by omega)
theorem nzc_Bf {l : List UInt8} (h : ∀ i, ln l i ≤ 15) : nzc l = Bf (cn l) 16 := by
  have key : ∀ j, j ≤ l.length → nzc (l.take j) = Bf (cn (l.take j)) 16 := by
    intro j
    induction j with
    | zero => intro _; rw [List.take_zero]; decide +kernel
    | succ j ih =>
      intro hj
      rw [take_snoc (by omega), nzc_snoc, ih (by omega)]
      have hb := h j
      rw [ln_get (by omega)] at hb
      have step : ∀ (m : List UInt8) (b : UInt8) (n : Nat), Bf (cn (m ++ [b])) n = Bf (cn m) n + if b.toNat ≠ 0 ∧ b.toNat < n then 1 else 0 := by
        intro m b n
        induction n with
        | zero => simp [Bf]
        | succ n ih2 =>
          rw [Bf_succ, Bf_succ, ih2, cn_snoc]
          by_cases h1 : b.toNat = n ∧ n ≠ 0
          · rw [if_pos h1, if_neg (by omega), if_pos (by omega)]; omega
          · rw [if_neg h1]
            by_cases h2 : b.toNat ≠ 0 ∧ b.toNat < n
            · rw [if_pos h2, if_pos (by omega)]; omega
            · rw [if_neg h2, if_neg (by omega)]; rfl
      rw [step]
      by_cases h1 : l[j].toNat ≠ 0
      · rw [if_pos h1, if_pos (by omega)]
      · rw [if_neg h1, if_neg (by omega)]
  have := key l.length (Nat.le_refl _)
  rwa [List.take_length] at this

/-- Both say the same of which tables may be. -/
theorem may_iff {l : List UInt8} (h : ∀ i, ln l i ≤ 15) : mayBe (cn l) = true ↔ ¬ (32768 < Sm (cn l) 16 ∨ (Sm (cn l) 16 < 32768 ∧ 0 < nzc l ∧ ¬ (nzc l = 1 ∧ oneOf l = 1))) := by
  have hB := nzc_Bf h
  constructor
  · intro hm hc
    have hle := mayBe_le hm
    unfold mayBe at hm
    rcases hc with hc | ⟨h1, h2, h3⟩
    · omega
    · rcases Bool.or_eq_true _ _ ▸ hm with hm | hm
      · rcases Bool.or_eq_true _ _ ▸ hm with hm | hm
        · have := of_decide_eq_true hm; omega
        · have h0 := (tEq_iff _ _).1 hm
          have : ∀ n, n ≤ 16 → Bf (cn l) n = 0 := by
            intro n hn
            induction n with
            | zero => rfl
            | succ n ih => rw [Bf_succ, ih (by omega), h0 n (by omega)]
          rw [this 16 (Nat.le_refl _)] at hB; omega
      · have h0 := (tEq_iff _ _).1 hm
        have : ∀ n, n ≤ 16 → Bf (cn l) n = if n ≤ 1 then 0 else 1 := by
          intro n hn
          induction n with
          | zero => rfl
          | succ n ih =>
            rw [Bf_succ, ih (by omega), h0 n (by omega)]
            by_cases h1 : n = 0
            · subst h1; rfl
            · by_cases h2 : n = 1
              · subst h2; rfl
              · rw [if_neg (by omega), if_neg h2, if_neg (by omega)]
        rw [this 16 (Nat.le_refl _), if_neg (by omega)] at hB
        refine h3 ⟨hB, ?_⟩
        have ho := oneOf_pos (l := l) (by omega)
        have h1' := nzc_one hB 1
        have := h0 1 (by omega)
        rw [if_pos rfl] at this
        rw [this] at h1'
        by_cases hc : (1 = oneOf l ∧ (1 : Nat) ≠ 0)
        · exact hc.1.symm
        · rw [if_neg hc] at h1'; omega
  · intro hc
    unfold mayBe
    by_cases h1 : Sm (cn l) 16 = 32768
    · rw [decide_eq_true h1]; rfl
    · have h2 : ¬ 0 < nzc l ∨ (nzc l = 1 ∧ oneOf l = 1) := by
        by_cases h3 : 0 < nzc l
        · right
          exact Decidable.byContradiction fun h4 => hc (.inr ⟨by omega, h3, h4⟩)
        · exact .inl h3
      rcases h2 with h2 | ⟨h2, h3⟩
      · have : tEq (cn l) (fun _ => 0) = true := (tEq_iff _ _).2 fun i _ => nzc_zero (by omega) i
        rw [this]; simp
      · have : tEq (cn l) (fun i => if i = 1 then 1 else 0) = true := (tEq_iff _ _).2 fun i _ => by
          rw [nzc_one h2, h3]
          by_cases hi : i = 1
          · rw [if_pos (by omega), if_pos hi]
          · rw [if_neg (by omega), if_neg hi]
        rw [this]; simp
end Go.Proofs.YtglkfgpefpebmaaDoor
