/-
  The codes said a second time: New that fails; what begins a code. | The codes said a second time: begins, Read.
-/
import Derived.Test.YtlknhiihdejpeaaGreatDoorMHufT
import Derived.Test.YtlknhiihdejpeaaGreatDoorMHufG
namespace Go.Proofs.YtlknhiihdejpeaaGreatDoor
open Go Go.RowKit

set_option maxRecDepth 100000 in
set_option maxHeartbeats 8000000 in
theorem tNewF (A : Option Addr) (n c : Nat) (l : List UInt8) (w : World) (hb : Holds w 1 A n (bvals l)) (hl : l.length = n) (hn : n ≤ 1000000) (hno : ¬ newE l = 0) :
    Calls Tryz.prog 39 #[.slice A n c] w fun e w' => e = .returned (.tuple #[.pointer none, .int .i64 (newE l : Nat)]) ∧ w = w' := by
  subst hl
  by_cases h320 : 320 < l.length
  · have e : newE l = 1 := by unfold newE; rw [if_pos (.inl h320)]
    rw [e]
    have h320' : (320 : Int) < (l.length : Int) := by omega
    clear hno hb h320 e
    go_enter Tryz.func39, Tryz.ntmps39
    go_wp2_with fail
    go_ret2
    exact ⟨rfl, rfl⟩
  have hn' : ¬ (320 : Int) < (l.length : Int) := by omega
  have HTC := hide (tComplete_any A l.length c l w hb rfl (by omega))
  have HB := hide (And.intro hb (And.intro hno (show l.length ≤ 320 by omega)))
  obtain ⟨q, hq⟩ : ∃ q, q = newE l := ⟨_, rfl⟩
  rw [← hq]
  have HQ := hide hq
  clear hb hq hno h320
  go_enter Tryz.func39, Tryz.ntmps39
  go_wp2_with fail
  go_loop [4, 5, 6] (fun v4 v5 v6 => ∃ j : Nat, j ≤ l.length ∧ v6 = .int .i64 j ∧ v4 = .int .i64 (nzc (l.take j) : Nat) ∧ v5 = .int .i64 (oneOf (l.take j) : Nat) ∧ far (l.take j) = false) (fun _ _ v6 => l.length - (intOf v6).toNat)
  case atStart => exact ⟨0, Nat.zero_le _, rfl, rfl, rfl, rfl⟩
  case round =>
    obtain ⟨j, hj, rfl, rfl, rfl, hfar⟩ := hrel
    by_cases hlt : j < l.length
    · obtain ⟨b, o, rfl, hc2⟩ := HB.out.1.addr (by simpa using (show 0 < l.length by omega))
      have hcell : w.cell? ⟨b, o + j, none⟩ = some (.int .u8 (l[j].toNat : Int)) := hc2 j _ (bvals_get l j hlt)
      have e1 := nzc_snoc (l.take j) l[j]
      have e2 := oneOf_snoc (l.take j) l[j]
      rw [← take_snoc hlt] at e1 e2
      have hnz : nzc (l.take j) ≤ 320 := Nat.le_trans List.countP_le_length (by rw [List.length_take]; have := HB.out.2.2; omega)
      have hx8 := l[j].toNat_lt
      clear hc2
      by_cases hx15 : 15 < l[j].toNat
      · have hq : q = 1 := by
          have hf : far l = true := by
            unfold far
            rw [List.any_eq_true]
            exact ⟨l[j], List.getElem_mem hlt, by simpa using hx15⟩
          rw [HQ.out]; unfold newE
          rw [if_pos (.inr hf)]
        have hx' : (15 : Int) < (l[j].toNat : Int) := by omega
        clear e1 e2 hfar hx15 HQ
        subst hq
        generalize l[j].toNat = x at *
        generalize nzc (l.take j) = a at *
        generalize oneOf (l.take j) = d at *
        go_wp2_with fail
        go_ret2
        exact ⟨rfl, rfl⟩
      · have hfar2 : far (l.take (j + 1)) = false := by
          unfold far at hfar ⊢
          rw [take_snoc hlt, List.any_append, hfar]
          simp only [List.any_cons, List.any_nil, Bool.or_false, Bool.false_or]
          simpa using hx15
        have HF2 := hide hfar2
        clear hfar hfar2
        generalize l[j].toNat = x at *
        generalize nzc (l.take j) = a at *
        generalize oneOf (l.take j) = d at *
        have k1 : IntKind.i64.wrap (x : Int) = (x : Int) := wrap64 rfl (by omega)
        have hx' : ¬ (15 : Int) < (x : Int) := by omega
        clear hx15
        rcases Nat.eq_zero_or_pos x with rfl | hx0
        · rw [if_neg (by omega)] at e1 e2
          have HE := hide (And.intro e1 e2)
          clear e1 e2
          go_wp2_with fail
          go_round
          case rel => exact ⟨j + 1, hlt, by go_num, by rw [HE.out.1]; rfl, by rw [HE.out.2], HF2.out⟩
          case measure => simp [intOf]; omega
        · rw [if_pos (by omega)] at e1 e2
          have HE := hide (And.intro e1 e2)
          have hx0' : (0 : Int) < (x : Int) := by omega
          clear e1 e2
          go_wp2_with fail
          go_round
          case rel => exact ⟨j + 1, hlt, by go_num, by rw [HE.out.1]; go_num, by rw [HE.out.2], HF2.out⟩
          case measure => simp [intOf]; omega
    · obtain rfl : j = l.length := by omega
      rw [List.take_length] at hfar
      rw [List.take_length]
      have hmb : mayBe (cn l) = false := by
        cases h : mayBe (cn l) with
        | false => rfl
        | true =>
          exact absurd (show newE l = 0 by unfold newE; rw [if_neg (by have := HB.out.2.2; rw [hfar]; rintro (h | h) <;> first | omega | cases h), h]; rfl) HB.out.2.1
      have hq : q = 3 := by
        rw [HQ.out]; unfold newE
        rw [if_neg (by have := HB.out.2.2; rw [hfar]; rintro (h | h) <;> first | omega | cases h), hmb]; rfl
      have hz : 0 < cmpI (Sm (cn l) 16 : Nat) 32768 ∨ (cmpI (Sm (cn l) 16 : Nat) 32768 < 0 ∧ 0 < nzc l ∧ ¬ (nzc l = 1 ∧ oneOf l = 1)) := by
        have hc : 32768 < Sm (cn l) 16 ∨ (Sm (cn l) 16 < 32768 ∧ 0 < nzc l ∧ ¬ (nzc l = 1 ∧ oneOf l = 1)) := Decidable.byContradiction fun h => by
          have := (may_iff (ln_far hfar)).2 h
          rw [hmb] at this; cases this
        unfold cmpI
        rcases hc with hc | ⟨h1, h2, h3⟩
        · rw [if_neg (by omega), if_pos (by omega)]; exact .inl (by omega)
        · rw [if_pos (by omega)]; exact .inr ⟨by omega, h2, h3⟩
      obtain ⟨z, hzz⟩ : ∃ z, z = cmpI (Sm (cn l) 16 : Nat) 32768 := ⟨_, rfl⟩
      rw [← hzz] at HTC hz
      clear hzz hmb hfar HQ
      subst hq
      have hnz : nzc l ≤ 320 := Nat.le_trans List.countP_le_length HB.out.2.2
      generalize nzc l = a at *
      generalize oneOf l = d at *
      rcases hz with hz | ⟨hz1, ha, hd⟩
      · go_wp2_with fail
        refine (HTC.out).mono ?_
        rintro e w1 ⟨rfl, rfl⟩
        go_wp2_with fail
        go_ret2
        exact ⟨rfl, rfl⟩
      · have hz2 : ¬ (0 : Int) < z := by omega
        have ha' : (0 : Int) < (a : Int) := by omega
        by_cases ha1 : a = 1
        · have hd' : ¬ (d : Int) = 1 := by omega
          have hd'' : ((d : Int) == 1) = false := beq_eq_false_iff_ne.2 (by omega)
          have ha1' : (a : Int) = 1 := by omega
          clear hd ha ha1 hnz
          generalize (a : Int) = aa at *
          subst ha1'
          go_wp2_with fail
          refine (HTC.out).mono ?_
          rintro e w1 ⟨rfl, rfl⟩
          go_wp2_with fail
          go_ret2
          exact ⟨rfl, rfl⟩
        · have ha1' : ¬ (a : Int) = 1 := by omega
          have ha1'' : ((a : Int) == 1) = false := beq_eq_false_iff_ne.2 (by omega)
          clear hd ha1
          go_wp2_with fail
          refine (HTC.out).mono ?_
          rintro e w1 ⟨rfl, rfl⟩
          go_wp2_with fail
          go_ret2
          exact ⟨rfl, rfl⟩

/-- A code of no fewer than n bits begins so. -/
def beginsB (l : List UInt8) (code n : Nat) (m : Nat) : Bool := (List.range m).any fun i => decide (ln l i ≠ 0 ∧ n ≤ ln l i ∧ cd l i / 2 ^ (ln l i - n) = code)
theorem beginsB_succ (l : List UInt8) (code n m : Nat) : beginsB l code n (m + 1) = (beginsB l code n m || decide (ln l m ≠ 0 ∧ n ≤ ln l m ∧ cd l m / 2 ^ (ln l m - n) = code)) := by
  unfold beginsB; rw [List.range_succ, List.any_append]; simp

theorem Lg_zero {c : Nat → Nat} (h : ∀ i, i < 16 → c i = 0) : Lg c 15 = 0 := by
  rcases Nat.eq_zero_or_pos (Lg c 15) with h0 | h0
  · exact h0
  · have := Lg_pos c h0
    have := h (Lg c 15) (by have := Lg_le c 15; omega)
    omega
theorem begins_iff {l : List UInt8} (hm : mayBe (cn l) = true) (h15 : ∀ i, ln l i ≤ 15) {N k left n : Nat} {R : Nat × Nat × Nat} (hs : Seen l N k left n R) :
    beginsB l (bc N k n) n l.length = true ↔ n < Lg (cn l) 15 := by
  have hS := mayBe_le hm
  have hn15 : n ≤ 15 := Nat.le_trans hs.le (Lg_le _ _)
  unfold beginsB
  rw [List.any_eq_true]
  constructor
  · rintro ⟨i, _, hi⟩
    obtain ⟨h0, h1, h2⟩ := of_decide_eq_true hi
    have hrk := rk_lt h0
    have hlt : n < ln l i := by
      rcases Nat.lt_or_ge n (ln l i) with h | h
      · exact h
      · exfalso
        have e : n = ln l i := by omega
        rw [e, Nat.sub_self, Nat.pow_zero, Nat.div_one] at h2
        have := hs.past
        rw [e] at this
        unfold cd at h2
        omega
    exact Nat.lt_of_lt_of_le hlt (Lg_ge (cn l) (by omega) (h15 i) (by omega))
  · intro hL
    have hex : ∃ m, n < m ∧ m ≤ 15 ∧ Fs (cn l) m ≤ bc N k n * 2 ^ (m - n) ∧ bc N k n * 2 ^ (m - n) < Fs (cn l) m + cn l m := by
      unfold mayBe at hm
      have single : cn l 1 = 1 → (∀ i, i < 16 → i ≠ 1 → cn l i = 0) → ∃ m, n < m ∧ m ≤ 15 ∧ Fs (cn l) m ≤ bc N k n * 2 ^ (m - n) ∧ bc N k n * 2 ^ (m - n) < Fs (cn l) m + cn l m := by
        intro c1 c2
        have hL1 : Lg (cn l) 15 = 1 := by
          have hp := Lg_pos (cn l) (n := 15) (by omega)
          have hle := Lg_le (cn l) 15
          exact Decidable.byContradiction fun h => by have := c2 _ (by omega) h; omega
        obtain rfl : n = 0 := by omega
        refine ⟨1, by omega, by omega, ?_, ?_⟩
        · have e : Fs (cn l) 1 = 0 := by show 2 * (0 + cn l 0) = 0; rw [cn_zero]
          rw [e]; exact Nat.zero_le _
        · have e : Fs (cn l) 1 = 0 := by show 2 * (0 + cn l 0) = 0; rw [cn_zero]
          rw [e, c1]
          show 0 * 2 ^ 1 < 1
          omega
      rcases Bool.or_eq_true _ _ ▸ hm with hm | hm
      · rcases Bool.or_eq_true _ _ ▸ hm with hm | hm
        · have h16 := of_decide_eq_true hm
          have hp := hs.past
          have h1 := Fs_end (cn l) n hn15
          have hlt := bc_lt N k n
          have e15 : 2 ^ n * 2 ^ (15 - n) = 32768 := by rw [← Nat.pow_add, show n + (15 - n) = 15 by omega]
          have h2 : Sm (cn l) (n + 1) ≤ bc N k n * 2 ^ (15 - n) := by rw [← h1]; exact Nat.mul_le_mul_right _ hp
          have h3 : bc N k n * 2 ^ (15 - n) < Sm (cn l) 16 := by
            rw [h16, ← e15]
            exact Nat.mul_lt_mul_of_pos_right hlt (Nat.two_pow_pos _)
          obtain ⟨m, m1, m2, m3, m4⟩ := Sm_find (cn l) (show n + 1 ≤ 16 by omega) h2 h3
          have e : bc N k n * 2 ^ (15 - n) = bc N k n * 2 ^ (m - n) * 2 ^ (15 - m) := by
            rw [Nat.mul_assoc, ← Nat.pow_add, show m - n + (15 - m) = 15 - n by omega]
          have f1 := Fs_Sm (cn l) m (by omega)
          have f2 := Fs_end (cn l) m (by omega)
          rw [e, ← f1] at m3
          rw [e, ← f2] at m4
          exact ⟨m, by omega, by omega, Nat.le_of_mul_le_mul_right m3 (Nat.two_pow_pos _), Nat.lt_of_mul_lt_mul_right m4⟩
        · have h0 := (tEq_iff _ _).1 hm
          have := Lg_zero h0
          omega
      · have h0 := (tEq_iff _ _).1 hm
        refine single (by have := h0 1 (by omega); rw [if_pos rfl] at this; exact this) (fun i hi h => by have := h0 i hi; rw [if_neg h] at this; exact this)
    obtain ⟨m, m1, m2, m3, m4⟩ := hex
    obtain ⟨i, hi, hli, hri⟩ := rk_sur (l := l) (n := m) (j := bc N k n * 2 ^ (m - n) - Fs (cn l) m) (by omega) (by omega)
    refine ⟨i, List.mem_range.2 hi, decide_eq_true ⟨by omega, by omega, ?_⟩⟩
    have e : cd l i = bc N k n * 2 ^ (m - n) := by unfold cd; rw [hli, hri]; omega
    rw [e, hli, Nat.mul_div_cancel _ (Nat.two_pow_pos _)]
end Go.Proofs.YtlknhiihdejpeaaGreatDoor


namespace Go.Proofs.YtlknhiihdejpeaaGreatDoor
open Go Go.RowKit

set_option maxRecDepth 100000 in
set_option maxHeartbeats 8000000 in
theorem begins_any (g base : Nat) (l : List UInt8) (code n : Nat) (w : World) (h : RT w base g l) (hn : l.length ≤ 320) (h15 : ∀ i, ln l i ≤ 15) (hS : Sm (cn l) 16 ≤ 32768) (_ : code < 4294967296) (hn15 : n ≤ 15) :
    Calls Tryz.prog 81 #[.pointer (some ⟨g, 0, none⟩), .int .u32 code, .int .i64 n] w fun e w' => e = .returned (.bool (beginsB l code n l.length)) ∧ w = w' := by
  obtain ⟨A, B, c, c', c0, c1, hcs⟩ := h.open_
  have HC := hide hcs
  clear h hcs
  obtain ⟨r, hr⟩ : ∃ r, r = beginsB l code n l.length := ⟨_, rfl⟩
  rw [← hr]
  have HR := hide hr
  clear hr
  go_enter Tryz.func81, Tryz.ntmps81
  go_wp2_with fail
  go_loop [7] (fun i => ∃ j : Nat, j ≤ l.length ∧ i = .int .i64 j ∧ beginsB l code n j = false) (fun i => l.length - (intOf i).toNat)
  case atStart => exact ⟨0, Nat.zero_le _, rfl, rfl⟩
  case round =>
    obtain ⟨j, hj, rfl, hno⟩ := hrel
    by_cases hlt : j < l.length
    · obtain ⟨a, b, rfl, rfl, hcs⟩ := HC.out (by omega)
      obtain ⟨d0, d1⟩ := hcs j hlt
      have hs := beginsB_succ l code n j
      rw [hno, Bool.false_or] at hs
      have hx15 := h15 j
      have hcd : cdz l j = if ln l j ≠ 0 then cd l j else 0 := rfl
      have hcl : ln l j ≠ 0 → cd l j < 2 ^ ln l j := fun h0 => cd_lt hS h0 hx15
      clear hcs hno
      obtain ⟨x, hx⟩ : ∃ x, x = ln l j := ⟨_, rfl⟩
      rw [← hx] at d0 hs hx15 hcd hcl
      have k1 : IntKind.i64.wrap (x : Int) = (x : Int) := wrap64 rfl (by omega)
      by_cases hxn : x < n
      · have hs' : beginsB l code n (j + 1) = false := by rw [hs]; exact decide_eq_false (by omega)
        have HS := hide hs'
        have q1 : ¬ (n : Int) ≤ (x : Int) := by omega
        clear hs hs' hcd hcl hx
        go_wp2_with fail
        go_round
        case rel => exact ⟨j + 1, hlt, by go_num, HS.out⟩
        case measure => simp [intOf]; omega
      · have q1 : (n : Int) ≤ (x : Int) := by omega
        by_cases hx0 : x = 0
        · have hs' : beginsB l code n (j + 1) = false := by rw [hs]; exact decide_eq_false (by omega)
          have HS := hide hs'
          have q2 : ¬ (0 : Int) < (x : Int) := by omega
          clear hs hs' hcd hcl hx hx0
          go_wp2_with fail
          go_round
          case rel => exact ⟨j + 1, hlt, by go_num, HS.out⟩
          case measure => simp [intOf]; omega
        · have q2 : (0 : Int) < (x : Int) := by omega
          rw [if_pos hx0] at hcd
          rw [hcd] at d1
          have hcl2 := hcl hx0
          have hp15 := Nat.pow_le_pow_right (n := 2) (by decide) hx15
          obtain ⟨y, hy⟩ : ∃ y, y = cd l j := ⟨_, rfl⟩
          rw [← hy] at d1 hs hcl2
          have hyb : y < 32768 := Nat.lt_of_lt_of_le hcl2 hp15
          obtain ⟨k, hk⟩ : ∃ k, k = x - n := ⟨_, rfl⟩
          rw [← hk] at hs
          have e1 : (x : Int) - (n : Int) = (k : Int) := by omega
          have e2 : IntKind.u64.wrap (k : Int) = (k : Int) := by have := IntWalk.u64_in (k : Int) ⟨by omega, by omega⟩; exact this
          obtain ⟨q, hq⟩ : ∃ q, q = y / 2 ^ k := ⟨_, rfl⟩
          rw [← hq] at hs
          have e3 : (y : Int) / 2 ^ k = (q : Int) := by rw [hq]; simp
          have hk16 : k ≤ 15 := by omega
          clear hcd hcl hcl2 hp15 hq hk hy hx
          by_cases hqc : q = code
          · have hrr : r = true := by
              rw [HR.out]
              unfold beginsB
              rw [List.any_eq_true]
              have : beginsB l code n (j + 1) = true := by rw [hs]; exact decide_eq_true ⟨hx0, by omega, hqc⟩
              unfold beginsB at this
              rw [List.any_eq_true] at this
              obtain ⟨i, hi, h2⟩ := this
              exact ⟨i, List.mem_range.2 (by have := List.mem_range.1 hi; omega), h2⟩
            have q3 : ((q : Int) == (code : Int)) = true := beq_iff_eq.2 (by omega)
            have q4 : (q : Int) = (code : Int) := by omega
            clear hs HR hqc
            subst hrr
            go_wp2_with fail
            go_ret
            exact ⟨rfl, rfl⟩
          · have hs' : beginsB l code n (j + 1) = false := by rw [hs]; exact decide_eq_false (by rintro ⟨_, _, h⟩; exact hqc h)
            have HS := hide hs'
            have q3 : ((q : Int) == (code : Int)) = false := beq_eq_false_iff_ne.2 (by omega)
            have q4 : ¬ (q : Int) = (code : Int) := by omega
            clear hs hs' hqc
            go_wp2_with fail
            go_round
            case rel => exact ⟨j + 1, hlt, by go_num, HS.out⟩
            case measure => simp [intOf]; omega
    · obtain rfl : j = l.length := by omega
      have hrr : r = false := by rw [HR.out]; exact hno
      clear hno HR
      subst hrr
      go_wp2_with fail
      go_ret
      exact ⟨rfl, rfl⟩

/-- Where the reference's Read stands when it has seen n bits. -/
def StepR (l : List UInt8) (N k left n : Nat) (R : Nat × Nat × Nat) : Prop :=
  (n = 0 ∧ Seen l N k left 0 R) ∨ ∃ j, n = j + 1 ∧ Seen l N k left j R ∧ j < Lg (cn l) 15 ∧ ¬ left < j + 1
namespace StepR
variable {l : List UInt8} {N k left n : Nat} {R : Nat × Nat × Nat}
theorem le (h : StepR l N k left n R) : n ≤ 15 := by
  rcases h with ⟨rfl, _⟩ | ⟨j, rfl, _, h, _⟩
  · omega
  · have := Lg_le (cn l) 15; omega
theorem hit (h : StepR l N k left n R) {i : Nat} (hn : n ≠ 0) (hl : ln l i = n) (hc : cd l i = bc N k n) : R = (i, 0, n) := by
  rcases h with ⟨h0, _⟩ | ⟨j, rfl, hs, h1, h2⟩
  · exact absurd h0 hn
  · have hi : ln l i ≠ 0 := by omega
    have hrk := rk_lt hi
    have hsy := sy_eq hi
    have e : cd l i = Fs (cn l) (j + 1) + rk l i (j + 1) := by unfold cd; rw [hl]
    rw [hl] at hrk hsy
    have h3 := hs.hit h1 h2 (by omega)
    rw [← hc, e, Nat.add_sub_cancel_left, hsy] at h3
    exact h3
theorem miss (h : StepR l N k left n R) (hm : n ≠ 0 → ∀ i, i < l.length → ¬ (ln l i = n ∧ cd l i = bc N k n)) : Seen l N k left n R := by
  rcases h with ⟨rfl, hs⟩ | ⟨j, rfl, hs, h1, h2⟩
  · exact hs
  · refine hs.next h1 h2 (fun hlt => ?_)
    have hge := hs.ge
    obtain ⟨i, hi, hli, hri⟩ := rk_sur (l := l) (n := j + 1) (j := bc N k (j + 1) - Fs (cn l) (j + 1)) (by omega) (by omega)
    exact hm (by omega) i hi ⟨hli, by unfold cd; rw [hli, hri]; omega⟩
end StepR

set_option maxRecDepth 100000 in
set_option maxHeartbeats 8000000 in
theorem tRead_any (g base gq : Nat) (A : Option Addr) (c : Nat) (l b : List UInt8) (k : Nat) (w : World) (hT : RT w base g l) (hR : TRd w gq A c b k) (hA : 0 < b.length → ∀ ad, A = some ad → ad.block ≠ gq)
    (hn : l.length ≤ 320) (h15 : ∀ i, ln l i ≤ 15) (hm : mayBe (cn l) = true) (x e n : Nat) (hs : readM l (num b) k (8 * b.length - k) = (x, e, n)) :
    Calls Tryz.prog 71 #[.pointer (some ⟨g, 0, none⟩), .pointer (some ⟨gq, 0, none⟩)] w fun o w' => o = .returned (.tuple #[.int .i64 x, .int .i64 e]) ∧ Only [gq] w w' ∧ TRd w' gq A c b (k + n) := by
  have hk := hR.le
  have hS := mayBe_le hm
  obtain ⟨left, hleft⟩ : ∃ q, q = 8 * b.length - k := ⟨_, rfl⟩
  rw [← hleft] at hs
  have h0 := Seen.start l (num b) k left
  rw [hs] at h0
  have c1 : w.cell? ⟨gq, 1, none⟩ = some (.int .i64 (k : Int)) := hR.has.cell 1
  have hRT := fun w1 (ho : Only [gq] w w1) => hT.other ho hR.has (by decide) (by decide) (by decide)
  have HT := hide (And.intro hRT (And.intro hA (And.intro hleft (And.intro hm (And.intro h15 (And.intro hS h0))))))
  have HR0 := hide hR
  clear hT hR hA hRT hleft hs h0 hm h15 hS
  go_enter Tryz.func71, Tryz.ntmps71
  go_wp2_with fail
  go_loopw [7, 8] (fun v7 v8 wr => ∃ j : Nat, StepR l (num b) k left j (x, e, n) ∧ v8 = .int .i64 j ∧ v7 = .int .u32 (bc (num b) k j : Nat) ∧ TRd wr gq A c b (k + j) ∧ Only [gq] w wr) (fun _ v8 _ => 17 - (intOf v8).toNat)
  case atStart => exact ⟨0, .inl ⟨rfl, HT.out.2.2.2.2.2.2⟩, rfl, rfl, HR0.out, Only.refl _ _⟩
  case round =>
    obtain ⟨j, hSt, rfl, rfl, hRd, ho⟩ := hrel
    have hj15 := hSt.le
    have hj15' : (j : Int) ≤ 15 := by omega
    have hbl := bc_lt (num b) k j
    have hp15 := Nat.pow_le_pow_right (n := 2) (by decide) hj15
    obtain ⟨code, hcode⟩ : ∃ q, q = bc (num b) k j := ⟨_, rfl⟩
    rw [← hcode] at hbl ⊢
    have hcl : code < 32768 := Nat.lt_of_lt_of_le hbl hp15
    have HJ := hide (And.intro hSt (And.intro hRd (And.intro ho hcode)))
    have hRTw := HT.out.1 wr ho
    obtain ⟨TA, TB, tc, tc', c0, c1', hcs⟩ := hRTw.open_
    have HC := hide (And.intro hcs hRTw)
    have ha0 : wr.cell? ⟨gq, 0, none⟩ = some (.slice A b.length c) := hRd.has.cell 0
    have ha1 : wr.cell? ⟨gq, 1, none⟩ = some (.int .i64 ((k + j : Nat) : Int)) := hRd.has.cell 1
    have hf1 : wr.frozen? ⟨gq, 1, none⟩ = false := hRd.has.free 1
    clear hSt hRd ho hcode hcs hRTw hbl hp15 c1
    go_wp2_with fail
    go_loop [9] (fun v => ∃ s : Nat, s ≤ l.length ∧ v = .int .i64 s ∧ (j ≠ 0 → ∀ i, i < s → ¬ (ln l i = j ∧ cd l i = code))) (fun v => l.length - (intOf v).toNat)
    case atStart => exact ⟨0, Nat.zero_le _, rfl, fun _ i hi => absurd hi (by omega)⟩
    case round =>
      obtain ⟨s, hs, rfl, hno⟩ := hrel
      by_cases hlt : s < l.length
      · obtain ⟨ta, tb, rfl, rfl, hcs⟩ := HC.out.1 (by omega)
        obtain ⟨d0, d1⟩ := hcs s hlt
        have hx15 := HT.out.2.2.2.2.1 s
        have hcd : cdz l s = if ln l s ≠ 0 then cd l s else 0 := rfl
        have hcdl : ln l s ≠ 0 → cd l s < 2 ^ ln l s := fun h0 => cd_lt HT.out.2.2.2.2.2.1 h0 hx15
        clear hcs
        obtain ⟨z, hz⟩ : ∃ z, z = ln l s := ⟨_, rfl⟩
        obtain ⟨y, hy⟩ : ∃ y, y = cdz l s := ⟨_, rfl⟩
        rw [← hz] at d0 hx15 hcd hcdl
        rw [← hy] at d1 hcd
        have k1 : IntKind.i64.wrap (z : Int) = (z : Int) := wrap64 rfl (by omega)
        have hstep : (j ≠ 0 → ¬ (z = j ∧ cd l s = code)) → j ≠ 0 → ∀ i, i < s + 1 → ¬ (ln l i = j ∧ cd l i = code) := fun h h0 i hi => by
          rcases Nat.lt_or_ge i s with h1 | h1
          · exact hno h0 i h1
          · have : i = s := by omega
            subst this
            rw [← hz]; exact h h0
        by_cases hj0 : j = 0
        · have HS := hide (hstep (fun h => absurd hj0 h))
          have q1 : ¬ (0 : Int) < (j : Int) := by omega
          clear hstep hno hcd hcdl hz hy hj0
          go_wp2_with fail
          go_round
          case rel => exact ⟨s + 1, hlt, by go_num, HS.out⟩
          case measure => simp [intOf]; omega
        · have q1 : (0 : Int) < (j : Int) := by omega
          by_cases hzj : z = j
          · rw [if_pos (by omega)] at hcd
            have q2 : ((z : Int) == (j : Int)) = true := beq_iff_eq.2 (by omega)
            have q2' : (z : Int) = (j : Int) := by omega
            by_cases hyc : y = code
            · have hR := HJ.out.1.hit (i := s) hj0 (by omega) (by rw [← HJ.out.2.2.2]; omega)
              injection hR with hxx hR
              injection hR with hee hnn
              have q3 : ((y : Int) == (code : Int)) = true := beq_iff_eq.2 (by omega)
              have q3' : (y : Int) = (code : Int) := by omega
              have HN := hide hnn
              clear hstep hno hcd hcdl hz hy hj0 hzj hyc hnn
              subst hxx hee
              go_wp2_with fail
              go_ret2
              rw [HN.out]
              exact ⟨rfl, HJ.out.2.2.1, HJ.out.2.1⟩
            · have HS := hide (hstep (fun _ h => hyc (by omega)))
              have q3 : ((y : Int) == (code : Int)) = false := beq_eq_false_iff_ne.2 (by omega)
              have q3' : ¬ (y : Int) = (code : Int) := by omega
              clear hstep hno hcd hcdl hz hy hj0 hzj hyc
              go_wp2_with fail
              go_round
              case rel => exact ⟨s + 1, hlt, by go_num, HS.out⟩
              case measure => simp [intOf]; omega
          · have HS := hide (hstep (fun _ h => hzj h.1))
            have q2 : ((z : Int) == (j : Int)) = false := beq_eq_false_iff_ne.2 (by omega)
            have q2' : ¬ (z : Int) = (j : Int) := by omega
            clear hstep hno hcd hcdl hz hy hj0 hzj
            go_wp2_with fail
            go_round
            case rel => exact ⟨s + 1, hlt, by go_num, HS.out⟩
            case measure => simp [intOf]; omega
      · obtain rfl : s = l.length := by omega
        have hSn := HJ.out.1.miss (by rw [← HJ.out.2.2.2]; exact hno)
        have hbi := begins_iff HT.out.2.2.2.1 HT.out.2.2.2.2.1 hSn
        have HBg := hide (begins_any g base l code j wr HC.out.2 hn HT.out.2.2.2.2.1 HT.out.2.2.2.2.2.1 (by omega) hj15)
        rw [← HJ.out.2.2.2] at hbi
        have HSN := hide (And.intro hSn hbi)
        clear hno hSn hbi hlt
        cases hbb : beginsB l code j l.length with
        | false =>
          have hL : j = Lg (cn l) 15 := Nat.le_antisymm HSN.out.1.le (Nat.le_of_not_lt fun h => by have := HSN.out.2.2 h; rw [hbb] at this; cases this)
          have hRR : (x, e, n) = (0, 3, 0) := by have := HSN.out.1; rw [hL] at this; exact this.done
          injection hRR with hxx hR
          injection hR with hee hnn
          rw [hbb] at HBg
          clear hbb hL
          subst hxx hee hnn
          go_wp2_with fail
          refine (HBg.out).mono ?_
          rintro o w5 ⟨rfl, rfl⟩
          go_wp2_with fail
          go_ret2
          exact ⟨rfl, HJ.out.2.2.1.setCell (by simp) _, HJ.out.2.1.set (by omega) HT.out.2.1⟩
        | true =>
          have hL := HSN.out.2.1 hbb
          rw [hbb] at HBg
          have HTB := hide (tBits gq c (k + j) A b 1 wr HJ.out.2.1 HT.out.2.1)
          have hlf := HT.out.2.2.1
          by_cases hsh : left < j + 1
          · have hRR := HSN.out.1.short hL hsh
            injection hRR with hxx hR
            injection hR with hee hnn
            have hok : okBits b.length (k + j) 1 = false := by unfold okBits; exact decide_eq_false (by omega)
            rw [hok] at HTB
            clear hbb hL hsh hlf hok
            subst hxx hee hnn
            go_wp2_with fail
            refine (HBg.out).mono ?_
            rintro o w5 ⟨rfl, rfl⟩
            go_wp2_with fail
            refine (HTB.out).mono ?_
            rintro o w6 ⟨rfl, ho6, hR6⟩
            have hR6' : TRd w6 gq A c b (k + j) := hR6
            have hg6 : w6.cell? ⟨gq, 1, none⟩ = some (.int .i64 ((k + j : Nat) : Int)) := hR6'.has.cell 1
            have hf6 : w6.frozen? ⟨gq, 1, none⟩ = false := hR6'.has.free 1
            have H6 := hide (And.intro hR6' ho6)
            clear hR6 hR6' ho6
            go_wp2_with fail
            go_ret2
            exact ⟨rfl, (HJ.out.2.2.1.trans H6.out.2 (fun i hi _ => hi)).setCell (by simp) _, H6.out.1.set (by omega) HT.out.2.1⟩
          · have hok : okBits b.length (k + j) 1 = true := by unfold okBits; exact decide_eq_true (by omega)
            have hgot : gotBits b (k + j) 1 = num b / 2 ^ (k + j) % 2 := by
              unfold gotBits
              rw [if_pos hok]
              rfl
            rw [hok, hgot] at HTB
            obtain ⟨t, ht⟩ : ∃ t, t = num b / 2 ^ (k + j) % 2 := ⟨_, rfl⟩
            rw [← ht] at HTB
            have ht2 : t < 2 := by omega
            have hnx : bc (num b) k (j + 1) = 2 * code + t := by rw [bc_succ, ← HJ.out.2.2.2, ht]
            have eO := u32_or1 code t ht2 (by omega)
            have HX := hide (And.intro hnx (And.intro hL hsh))
            clear hbb hL hsh hlf hok hgot ht hnx
            obtain ⟨C2, hC2⟩ : ∃ q, q = 2 * code + t := ⟨_, rfl⟩
            rw [← hC2] at eO
            have HC2 := hide hC2
            clear hC2
            go_wp2_with fail
            refine (HBg.out).mono ?_
            rintro o w5 ⟨rfl, rfl⟩
            go_wp2_with fail
            refine (HTB.out).mono ?_
            rintro o w6 ⟨rfl, ho6, hR6⟩
            have hR6' : TRd w6 gq A c b (k + (j + 1)) := hR6
            have H6 := hide (And.intro hR6' ho6)
            clear hR6 hR6' ho6
            go_wp2_with fail
            go_roundw
            case rel => exact ⟨j + 1, .inr ⟨j, rfl, HSN.out.1, HX.out.2.1, HX.out.2.2⟩, by go_num, by rw [HX.out.1, ← HC2.out], H6.out.1, HJ.out.2.2.1.trans H6.out.2 (fun i hi _ => hi)⟩
            case measure => simp [intOf]; omega
end Go.Proofs.YtlknhiihdejpeaaGreatDoor

