/-
  The codes said a second time: New that fails; what begins a code.
-/
import Derived.Test.YtkjdlpibnnhocaaHufU
import Derived.Test.YtkjdlpibnnhocaaHufN
import Derived.Test.YtkjdlpibnnhocaaHufI
namespace Go.Proofs.Ytkjdlpibnnhocaa
open Go Go.RowKit

set_option maxRecDepth 100000 in
set_option maxHeartbeats 8000000 in
theorem tNewF (A : Option Addr) (n c : Nat) (l : List UInt8) (w : World) (hb : Holds w 1 A n (bvals l)) (hl : l.length = n) (hn : n ≤ 1000000) (hno : ¬ newE l = 0) :
    Calls Try.prog 9 #[.slice A n c] w fun e w' => e = .returned (.tuple #[.pointer none, .int .i64 (newE l : Nat)]) ∧ w = w' := by
  subst hl
  by_cases h320 : 320 < l.length
  · have e : newE l = 1 := by unfold newE; rw [if_pos (.inl h320)]
    rw [e]
    have h320' : (320 : Int) < (l.length : Int) := by omega
    clear hno hb h320 e
    go_enter Try.func9, Try.ntmps9
    go_wp2_with fail
    go_ret2
    exact ⟨rfl, rfl⟩
  have hn' : ¬ (320 : Int) < (l.length : Int) := by omega
  have HTC := hide (tComplete_any A l.length c l w hb rfl (by omega))
  have HB := hide (And.intro hb (And.intro hno (show l.length ≤ 320 by omega)))
  obtain ⟨q, hq⟩ : ∃ q, q = newE l := ⟨_, rfl⟩
  rw [← hq]
  have HQ := hide hq
  clear hb hq hno h320
  go_enter Try.func9, Try.ntmps9
  go_wp2_with fail
  go_loop [4, 5, 6] (fun v4 v5 v6 => ∃ j : Nat, j ≤ l.length ∧ v6 = .int .i64 j ∧ v4 = .int .i64 (nzc (l.take j) : Nat) ∧ v5 = .int .i64 (oneOf (l.take j) : Nat) ∧ far (l.take j) = false) (fun _ _ v6 => l.length - (intOf v6).toNat)
  case atStart => exact ⟨0, Nat.zero_le _, rfl, rfl, rfl, rfl⟩
  case round =>
    obtain ⟨j, hj, rfl, rfl, rfl, hfar⟩ := hrel
    by_cases hlt : j < l.length
    · obtain ⟨b, o, rfl, hc2⟩ := HB.out.1.addr (by simpa using (show 0 < l.length by omega))
      have hcell : w.cell? ⟨b, o + j, none⟩ = some (.int .u8 (l[j].toNat : Int)) := hc2 j _ (bvals_get l j hlt)
      have e1 := nzc_snoc (l.take j) l[j]
      have e2 := oneOf_snoc (l.take j) l[j]
      rw [← take_snoc hlt] at e1 e2
      have hnz : nzc (l.take j) ≤ 320 := Nat.le_trans List.countP_le_length (by rw [List.length_take]; have := HB.out.2.2; omega)
      have hx8 := l[j].toNat_lt
      clear hc2
      by_cases hx15 : 15 < l[j].toNat
      · have hq : q = 1 := by
          have hf : far l = true := by
            unfold far
            rw [List.any_eq_true]
            exact ⟨l[j], List.getElem_mem hlt, by simpa using hx15⟩
          rw [HQ.out]; unfold newE
          rw [if_pos (.inr hf)]
        have hx' : (15 : Int) < (l[j].toNat : Int) := by omega
        clear e1 e2 hfar hx15 HQ
        subst hq
        generalize l[j].toNat = x at *
        generalize nzc (l.take j) = a at *
        generalize oneOf (l.take j) = d at *
        go_wp2_with fail
        go_ret2
        exact ⟨rfl, rfl⟩
      · have hfar2 : far (l.take (j + 1)) = false := by
          unfold far at hfar ⊢
          rw [take_snoc hlt, List.any_append, hfar]
          simp only [List.any_cons, List.any_nil, Bool.or_false, Bool.false_or]
          simpa using hx15
        have HF2 := hide hfar2
        clear hfar hfar2
        generalize l[j].toNat = x at *
        generalize nzc (l.take j) = a at *
        generalize oneOf (l.take j) = d at *
        have k1 : IntKind.i64.wrap (x : Int) = (x : Int) := wrap64 rfl (by omega)
        have hx' : ¬ (15 : Int) < (x : Int) := by omega
        clear hx15
        rcases Nat.eq_zero_or_pos x with rfl | hx0
        · rw [if_neg (by omega)] at e1 e2
          have HE := hide (And.intro e1 e2)
          clear e1 e2
          go_wp2_with fail
          go_round
          case rel => exact ⟨j + 1, hlt, by go_num, by rw [HE.out.1]; rfl, by rw [HE.out.2], HF2.out⟩
          case measure => simp [intOf]; omega
        · rw [if_pos (by omega)] at e1 e2
          have HE := hide (And.intro e1 e2)
          have hx0' : (0 : Int) < (x : Int) := by omega
          clear e1 e2
          go_wp2_with fail
          go_round
          case rel => exact ⟨j + 1, hlt, by go_num, by rw [HE.out.1]; go_num, by rw [HE.out.2], HF2.out⟩
          case measure => simp [intOf]; omega
    · obtain rfl : j = l.length := by omega
      rw [List.take_length] at hfar
      rw [List.take_length]
      have hmb : mayBe (cn l) = false := by
        cases h : mayBe (cn l) with
        | false => rfl
        | true =>
          exact absurd (show newE l = 0 by unfold newE; rw [if_neg (by have := HB.out.2.2; rw [hfar]; rintro (h | h) <;> first | omega | cases h), h]; rfl) HB.out.2.1
      have hq : q = 3 := by
        rw [HQ.out]; unfold newE
        rw [if_neg (by have := HB.out.2.2; rw [hfar]; rintro (h | h) <;> first | omega | cases h), hmb]; rfl
      have hz : 0 < cmpI (Sm (cn l) 16 : Nat) 32768 ∨ (cmpI (Sm (cn l) 16 : Nat) 32768 < 0 ∧ 0 < nzc l ∧ ¬ (nzc l = 1 ∧ oneOf l = 1)) := by
        have hc : 32768 < Sm (cn l) 16 ∨ (Sm (cn l) 16 < 32768 ∧ 0 < nzc l ∧ ¬ (nzc l = 1 ∧ oneOf l = 1)) := Decidable.byContradiction fun h => by
          have := (may_iff (ln_far hfar)).2 h
          rw [hmb] at this; cases this
        unfold cmpI
        rcases hc with hc | ⟨h1, h2, h3⟩
        · rw [if_neg (by omega), if_pos (by omega)]; exact .inl (by omega)
        · rw [if_pos (by omega)]; exact .inr ⟨by omega, h2, h3⟩
      obtain ⟨z, hzz⟩ : ∃ z, z = cmpI (Sm (cn l) 16 : Nat) 32768 := ⟨_, rfl⟩
      rw [← hzz] at HTC hz
      clear hzz hmb hfar HQ
      subst hq
      have hnz : nzc l ≤ 320 := Nat.le_trans List.countP_le_length HB.out.2.2
      generalize nzc l = a at *
      generalize oneOf l = d at *
      rcases hz with hz | ⟨hz1, ha, hd⟩
      · go_wp2_with fail
        refine (HTC.out).mono ?_
        rintro e w1 ⟨rfl, rfl⟩
        go_wp2_with fail
        go_ret2
        exact ⟨rfl, rfl⟩
      · have hz2 : ¬ (0 : Int) < z := by omega
        have ha' : (0 : Int) < (a : Int) := by omega
        by_cases ha1 : a = 1
        · have hd' : ¬ (d : Int) = 1 := by omega
          have hd'' : ((d : Int) == 1) = false := beq_eq_false_iff_ne.2 (by omega)
          have ha1' : (a : Int) = 1 := by omega
          clear hd ha ha1 hnz
          generalize (a : Int) = aa at *
          subst ha1'
          go_wp2_with fail
          refine (HTC.out).mono ?_
          rintro e w1 ⟨rfl, rfl⟩
          go_wp2_with fail
          go_ret2
          exact ⟨rfl, rfl⟩
        · have ha1' : ¬ (a : Int) = 1 := by omega
          have ha1'' : ((a : Int) == 1) = false := beq_eq_false_iff_ne.2 (by omega)
          clear hd ha1
          go_wp2_with fail
          refine (HTC.out).mono ?_
          rintro e w1 ⟨rfl, rfl⟩
          go_wp2_with fail
          go_ret2
          exact ⟨rfl, rfl⟩

/-- A code of no fewer than n bits begins so. -/
def beginsB (l : List UInt8) (code n : Nat) (m : Nat) : Bool := (List.range m).any fun i => decide (ln l i ≠ 0 ∧ n ≤ ln l i ∧ cd l i / 2 ^ (ln l i - n) = code)
theorem beginsB_succ (l : List UInt8) (code n m : Nat) : beginsB l code n (m + 1) = (beginsB l code n m || decide (ln l m ≠ 0 ∧ n ≤ ln l m ∧ cd l m / 2 ^ (ln l m - n) = code)) := by
  unfold beginsB; rw [List.range_succ, List.any_append]; simp

theorem Lg_zero {c : Nat → Nat} (h : ∀ i, i < 16 → c i = 0) : Lg c 15 = 0 := by
  rcases Nat.eq_zero_or_pos (Lg c 15) with h0 | h0
  · exact h0
  · have := Lg_pos c h0
    have := h (Lg c 15) (by have := Lg_le c 15; omega)
    omega
theorem begins_iff {l : List UInt8} (hm : mayBe (cn l) = true) (h15 : ∀ i, ln l i ≤ 15) {N k left n : Nat} {R : Nat × Nat × Nat} (hs : Seen l N k left n R) :
    beginsB l (bc N k n) n l.length = true ↔ n < Lg (cn l) 15 := by
  have hS := mayBe_le hm
  have hn15 : n ≤ 15 := Nat.le_trans hs.le (Lg_le _ _)
  unfold beginsB
  rw [List.any_eq_true]
  constructor
  · rintro ⟨i, _, hi⟩
    obtain ⟨h0, h1, h2⟩ := of_decide_eq_true hi
    have hrk := rk_lt h0
    have hlt : n < ln l i := by
      rcases Nat.lt_or_ge n (ln l i) with h | h
      · exact h
      · exfalso
        have e : n = ln l i := by omega
        rw [e, Nat.sub_self, Nat.pow_zero, Nat.div_one] at h2
        have := hs.past
        rw [e] at this
        unfold cd at h2
        omega
    exact Nat.lt_of_lt_of_le hlt (Lg_ge (cn l) (by omega) (h15 i) (by omega))
  · intro hL
    have hex : ∃ m, n < m ∧ m ≤ 15 ∧ Fs (cn l) m ≤ bc N k n * 2 ^ (m - n) ∧ bc N k n * 2 ^ (m - n) < Fs (cn l) m + cn l m := by
      unfold mayBe at hm
      have single : cn l 1 = 1 → (∀ i, i < 16 → i ≠ 1 → cn l i = 0) → ∃ m, n < m ∧ m ≤ 15 ∧ Fs (cn l) m ≤ bc N k n * 2 ^ (m - n) ∧ bc N k n * 2 ^ (m - n) < Fs (cn l) m + cn l m := by
        intro c1 c2
        have hL1 : Lg (cn l) 15 = 1 := by
          have hp := Lg_pos (cn l) (n := 15) (by omega)
          have hle := Lg_le (cn l) 15
          exact Decidable.byContradiction fun h => by have := c2 _ (by omega) h; omega
        obtain rfl : n = 0 := by omega
        refine ⟨1, by omega, by omega, ?_, ?_⟩
        · have e : Fs (cn l) 1 = 0 := by show 2 * (0 + cn l 0) = 0; rw [cn_zero]
          rw [e]; exact Nat.zero_le _
        · have e : Fs (cn l) 1 = 0 := by show 2 * (0 + cn l 0) = 0; rw [cn_zero]
          rw [e, c1]
          show 0 * 2 ^ 1 < 1
          omega
      rcases Bool.or_eq_true _ _ ▸ hm with hm | hm
      · rcases Bool.or_eq_true _ _ ▸ hm with hm | hm
        · have h16 := of_decide_eq_true hm
          have hp := hs.past
          have h1 := Fs_end (cn l) n hn15
          have hlt := bc_lt N k n
          have e15 : 2 ^ n * 2 ^ (15 - n) = 32768 := by rw [← Nat.pow_add, show n + (15 - n) = 15 by omega]
          have h2 : Sm (cn l) (n + 1) ≤ bc N k n * 2 ^ (15 - n) := by rw [← h1]; exact Nat.mul_le_mul_right _ hp
          have h3 : bc N k n * 2 ^ (15 - n) < Sm (cn l) 16 := by
            rw [h16, ← e15]
            exact Nat.mul_lt_mul_of_pos_right hlt (Nat.two_pow_pos _)
          obtain ⟨m, m1, m2, m3, m4⟩ := Sm_find (cn l) (show n + 1 ≤ 16 by omega) h2 h3
          have e : bc N k n * 2 ^ (15 - n) = bc N k n * 2 ^ (m - n) * 2 ^ (15 - m) := by
            rw [Nat.mul_assoc, ← Nat.pow_add, show m - n + (15 - m) = 15 - n by omega]
          have f1 := Fs_Sm (cn l) m (by omega)
          have f2 := Fs_end (cn l) m (by omega)
          rw [e, ← f1] at m3
          rw [e, ← f2] at m4
          exact ⟨m, by omega, by omega, Nat.le_of_mul_le_mul_right m3 (Nat.two_pow_pos _), Nat.lt_of_mul_lt_mul_right m4⟩
        · have h0 := (tEq_iff _ _).1 hm
          have := Lg_zero h0
          omega
      · have h0 := (tEq_iff _ _).1 hm
        refine single (by have := h0 1 (by omega); rw [if_pos rfl] at this; exact this) (fun i hi h => by have := h0 i hi; rw [if_neg h] at this; exact this)
    obtain ⟨m, m1, m2, m3, m4⟩ := hex
    obtain ⟨i, hi, hli, hri⟩ := rk_sur (l := l) (n := m) (j := bc N k n * 2 ^ (m - n) - Fs (cn l) m) (by omega) (by omega)
    refine ⟨i, List.mem_range.2 hi, decide_eq_true ⟨by omega, by omega, ?_⟩⟩
    have e : cd l i = bc N k n * 2 ^ (m - n) := by unfold cd; rw [hli, hri]; omega
    rw [e, hli, Nat.mul_div_cancel _ (Nat.two_pow_pos _)]
end Go.Proofs.Ytkjdlpibnnhocaa
