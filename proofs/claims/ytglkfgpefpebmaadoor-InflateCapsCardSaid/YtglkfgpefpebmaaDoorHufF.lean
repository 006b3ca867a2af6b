/-
  Package huff: New, Complete, Symbols.
-/
import Derived.Test.YtglkfgpefpebmaaDoorHufE
namespace Go.Proofs.YtglkfgpefpebmaaDoor
open Go Go.RowKit

/-- Is there a length above 15? -/
def far (l : List UInt8) : Bool := l.any fun b => decide (15 < b.toNat)

set_option maxRecDepth 100000 in
set_option maxHeartbeats 1000000 in
theorem indexFunc_any (A : Option Addr) (n c : Nat) (l : List UInt8) (w : World) (hb : Holds w 1 A n (bvals l)) (hl : l.length = n) (hn : n ≤ 140737488355328) :
    Calls Tryd.prog 69 #[.slice A n c, .func (.func 56) #[] #[]] w fun e w' => (∃ z : Int, e = .returned (.int .i64 z) ∧ decide (z ≥ 0) = far l) ∧ w = w' := by
  subst hl
  have HT := hide tooLong_any
  have HB := hide hb
  clear hb
  go_enter Tryd.func69, Tryd.ntmps69
  go_wp2_with fail
  go_loop [8] (fun i => ∃ j : Nat, j ≤ l.length ∧ i = .int .i64 j ∧ (l.take j).any (fun b => decide (15 < b.toNat)) = false) (fun i => l.length - (intOf i).toNat)
  case atStart => exact ⟨0, Nat.zero_le _, rfl, rfl⟩
  case round =>
    obtain ⟨j, hj, rfl, hno⟩ := hrel
    by_cases hlt : j < l.length
    · obtain ⟨b, o, rfl, hc2⟩ := HB.out.addr (by simpa using (show 0 < l.length by omega))
      have hcell : w.cell? ⟨b, o + j, none⟩ = some (.int .u8 (l[j].toNat : Int)) := hc2 j _ (bvals_get l j hlt)
      clear hc2
      cases hd : decide (15 < l[j].toNat) with
      | true =>
        have hf : far l = true := by
          unfold far
          rw [List.any_eq_true]
          exact ⟨l[j], List.getElem_mem hlt, hd⟩
        have HF := hide (And.intro hf hd)
        clear hf hd hno
        generalize l[j].toNat = x at *
        go_wp2_with fail
        refine (HT.out x w).mono ?_
        rintro e w1 ⟨rfl, rfl⟩
        rw [HF.out.2]
        go_wp2_with fail
        go_ret
        refine ⟨⟨_, rfl, ?_⟩, rfl⟩
        rw [HF.out.1]
        simp
      | false =>
        have hno2 : (l.take (j + 1)).any (fun b => decide (15 < b.toNat)) = false := by
          rw [take_snoc hlt, List.any_append, hno]
          simp only [List.any_cons, List.any_nil, Bool.or_false, Bool.false_or]
          exact hd
        have HF := hide (And.intro hno2 hd)
        clear hno2 hd hno
        generalize l[j].toNat = x at *
        go_wp2_with fail
        refine (HT.out x w).mono ?_
        rintro e w1 ⟨rfl, rfl⟩
        rw [HF.out.2]
        go_wp2_with fail
        go_round
        case rel => exact ⟨j + 1, hlt, by go_num, HF.out.1⟩
        case measure => simp [intOf]; omega
    · obtain rfl : j = l.length := by omega
      rw [List.take_length] at hno
      have HF := hide hno
      clear hno
      go_wp2_with fail
      go_ret
      refine ⟨⟨_, rfl, ?_⟩, rfl⟩
      unfold far
      rw [HF.out]
      rfl

set_option maxRecDepth 100000 in
theorem containsFunc_any (A : Option Addr) (n c : Nat) (l : List UInt8) (w : World) (hb : Holds w 1 A n (bvals l)) (hl : l.length = n) (hn : n ≤ 140737488355328) :
    Calls Tryd.prog 55 #[.slice A n c, .func (.func 56) #[] #[]] w fun e w' => e = .returned (.bool (far l)) ∧ w = w' := by
  have H := hide (indexFunc_any A n c l w hb hl hn)
  clear hb
  go_enter Tryd.func55, Tryd.ntmps55
  go_wp2_with fail
  refine (H.out).mono ?_
  rintro e w1 ⟨⟨z, rfl, hz⟩, rfl⟩
  have HZ := hide hz
  clear hz
  go_wp2_with fail
  go_ret
  exact ⟨ret_bool HZ.out, rfl⟩

/-- Block g is a table of these lengths. -/
def Tb (w : World) (g : Nat) (l : List UInt8) : Prop := ∃ S, Dealt l l.length S ∧ Tbl w g (TF.dl l l.length S)
theorem Tb.only {w w' : World} {g : Nat} {l : List UInt8} {S : List Nat} (h : Tb w g l) (ho : Only S w w') (hg : g ∉ S) : Tb w' g l := by
  obtain ⟨F, h1, h2⟩ := h
  exact ⟨F, h1, h2.only ho hg⟩
theorem Tb.lt {w : World} {g : Nat} {l : List UInt8} (h : Tb w g l) : g < w.heap.size := by
  obtain ⟨F, _, h2⟩ := h
  exact Has.lt h2

/-- What New answers. -/
def newE (l : List UInt8) : Nat := if 320 < l.length ∨ far l = true then 1 else if mayBe (cn l) then 0 else 3

theorem mayBe_le {c : Nat → Nat} (h : mayBe c = true) : Sm c 16 ≤ 32768 := by
  unfold mayBe at h
  rcases Bool.or_eq_true _ _ ▸ h with h | h
  · rcases Bool.or_eq_true _ _ ▸ h with h | h
    · have := of_decide_eq_true h; omega
    · have h0 := (tEq_iff _ _).1 h
      have : ∀ n, n ≤ 16 → Sm c n = 0 := by
        intro n hn
        induction n with
        | zero => rfl
        | succ n ih => show Sm c n + c n * 2 ^ (15 - n) = 0; rw [ih (by omega), h0 n (by omega)]; simp
      rw [this 16 (Nat.le_refl _)]; omega
  · have h0 := (tEq_iff _ _).1 h
    have : ∀ n, n ≤ 16 → Sm c n = if n ≤ 1 then 0 else 16384 := by
      intro n hn
      induction n with
      | zero => rfl
      | succ n ih =>
        show Sm c n + c n * 2 ^ (15 - n) = _
        rw [ih (by omega), h0 n (by omega)]
        by_cases h1 : n = 0
        · subst h1; rfl
        · by_cases h2 : n = 1
          · subst h2; rfl
          · rw [if_neg (by omega), if_neg h2, if_neg (by omega)]; simp
    rw [this 16 (Nat.le_refl _)]; decide

theorem cn_le (l : List UInt8) (n : Nat) : cn l n ≤ l.length := by
  unfold cn; split
  · exact Nat.zero_le _
  · exact List.countP_le_length
theorem Sm_bound (c : Nat → Nat) (m : Nat) (hc : ∀ i, c i ≤ m) (n : Nat) : Sm c n ≤ m * 32768 * n := by
  induction n with
  | zero => simp [Sm]
  | succ n ih =>
    show Sm c n + c n * 2 ^ (15 - n) ≤ _
    have h1 : 2 ^ (15 - n) ≤ 32768 := Nat.pow_le_pow_right (n := 2) (i := 15 - n) (j := 15) (by decide) (by omega)
    have h2 := Nat.mul_le_mul (hc n) h1
    rw [Nat.mul_add]; omega
theorem ln_far {l : List UInt8} (h : far l = false) (i : Nat) : ln l i ≤ 15 := by
  rcases Nat.lt_or_ge i l.length with hi | hi
  · rw [ln_get hi]
    unfold far at h
    rw [List.any_eq_false] at h
    have := h l[i] (List.getElem_mem hi)
    simpa using this
  · rw [ln_out hi]; omega
end Go.Proofs.YtglkfgpefpebmaaDoor
