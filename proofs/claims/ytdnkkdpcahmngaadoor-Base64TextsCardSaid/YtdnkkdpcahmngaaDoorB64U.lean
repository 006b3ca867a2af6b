/-
  Contracts of the reference's decoder: may a sign stand next.
-/
import Derived.Test.YtdnkkdpcahmngaaDoorB64T
namespace Go.Proofs.YtdnkkdpcahmngaaDoor
open Go Go.RowKit

theorem valZ_neg {c : Nat} (h : ¬ six c < 64) : valZ c = -1 := by unfold valZ; rw [if_neg h]
theorem valZ_pos {c : Nat} (h : six c < 64) : valZ c = (six c : Nat) := by unfold valZ; rw [if_pos h]

theorem tThreeX (A : Option Addr) (n c : Nat) (cs : List UInt8) (w : World) (h6 : ∀ c ∈ cs, six c.toNat < 64) (hb : Holds w 1 A n (bvals cs)) (hl : cs.length = n) (h2 : 2 ≤ n) (h4 : n ≤ 4) (X : Bool) (hX : X = decide (beyond cs = 0)) :
    Calls Tryd.prog 25 #[.slice A n c] w fun e w' => ∃ A m c, e = .returned (.tuple #[.slice A m c, .bool X]) ∧ m ≤ c ∧ Holds w' 1 A m (bvals (if beyond cs = 0 then outOf cs else [])) ∧ Only [] w w' := by
  subst hX
  exact tThree A n c cs w h6 hb hl h2 h4

set_option maxHeartbeats 2000000 in
theorem tFits (B g : Nat) (v : Value) (s : St) (c : UInt8) (w : World) (h : Rf B w g v s) (hs : s.Ok) :
    Calls Tryd.prog 27 #[.pointer (some ⟨g, 0, none⟩), .int .u8 (c.toNat : Int)] w fun e w' => e = .returned (.bool (s.take c).isSome) ∧ Only [] w w' := by
  have hc := c.toNat_lt
  have hfew : s.held < 4 := hs.few
  have hh : s.held = s.cs.length + s.fl := rfl
  have HS := hide (tSigns B g v s w h hs.six (by omega))
  obtain ⟨A, cp, rfl, hcp, _⟩ := own_shape h.own
  have c0 : w.cell? ⟨g, 0, none⟩ = some (.slice A s.held cp) := h.has.cell 0
  have c1 : w.cell? ⟨g, 1, none⟩ = some (.bool s.shut) := h.has.cell 1
  unfold St.take
  by_cases hsh : s.shut = true
  · rw [if_pos hsh]
    rw [hsh] at c1
    clear h hs hsh c0 hfew hh hc
    go_enter Tryd.func27, Tryd.ntmps27
    go_wp2_with fail
    refine (HS.out).mono ?_
    rintro e w1 ⟨rfl, rfl⟩
    go_wp2_with fail
    go_ret
    exact ⟨rfl, Only.refl _ _⟩
  rw [if_neg hsh]
  have hsh : s.shut = false := by simpa using hsh
  rw [hsh] at c1
  by_cases he : c.toNat = 61
  · rw [if_pos he, he]
    by_cases h2 : s.cs.length < 2
    · rw [if_pos (.inl h2)]
      clear h hs hsh c0 hfew hh hc he
      generalize s.cs.length = n at *
      go_enter Tryd.func27, Tryd.ntmps27
      go_wp2_with fail
      refine (HS.out).mono ?_
      rintro e w1 ⟨rfl, rfl⟩
      go_wp2_with fail
      go_ret
      exact ⟨rfl, Only.refl _ _⟩
    · have hwt := s.wait_take
      have hup := run_upto A s.held cp s.cs.length (by omega)
      obtain ⟨X, hX⟩ : ∃ X, X = decide (beyond s.cs = 0) := ⟨_, rfl⟩
      have hT := tThreeX A s.cs.length cp s.cs w hs.six (by rw [← hwt]; simpa [hwt] using (Holds.of_own h.own).upto s.cs.length (by omega)) rfl (by omega) (by omega) X hX
      have HT := hide hT
      have hd : decide (s.cs.length < 2) = false := by simpa using h2
      have e : (if s.cs.length < 2 ∨ beyond s.cs ≠ 0 then none else some { s with fl := s.fl + 1 } : Option St).isSome = decide (beyond s.cs = 0) := by
        by_cases hb : beyond s.cs = 0
        · rw [if_neg (by omega), decide_eq_true hb]; rfl
        · rw [if_pos (.inr hb), decide_eq_false hb]; rfl
      rw [e, ← hX]
      clear h hs hsh hfew hh hc he hwt hT e hX
      go_enter Tryd.func27, Tryd.ntmps27
      go_wp2_with fail
      refine (HS.out).mono ?_
      rintro e w1 ⟨rfl, rfl⟩
      go_wp2_with fail
      refine (HT.out).mono ?_
      rintro e w2 ⟨A2, m2, cp2, rfl, _, _, ho⟩
      have HO := hide ho
      clear ho
      go_wp2_with fail
      go_ret
      exact ⟨rfl, HO.out⟩
  · rw [if_neg he]
    have he' : ((c.toNat : Int) == 61) = false := by simp; omega
    have HV := tValue c.toNat w (by omega)
    by_cases h6 : six c.toNat < 64
    · rw [valZ_pos h6] at HV
      have HV := hide HV
      have e : (if 64 ≤ six c.toNat ∨ 0 < s.fl then none else some { s with cs := s.cs ++ [c] } : Option St).isSome = decide (s.cs.length = s.held) := by
        by_cases hb : 0 < s.fl
        · rw [if_pos (.inr hb), decide_eq_false (by omega)]; rfl
        · rw [if_neg (by omega), decide_eq_true (by omega)]; rfl
      rw [e]
      clear h hs hsh hh he h6 e
      generalize six c.toNat = x at *
      by_cases hq : s.cs.length = s.held
      · rw [decide_eq_true hq]
        rw [hq] at HS
        clear hq
        generalize s.held = n at *
        go_enter Tryd.func27, Tryd.ntmps27
        go_wp2_with fail
        refine (HS.out).mono ?_
        rintro e w1 ⟨rfl, rfl⟩
        go_wp2_with fail
        refine (HV.out).mono ?_
        rintro e w1 ⟨rfl, rfl⟩
        go_wp2_with fail
        go_ret
        exact ⟨rfl, Only.refl _ _⟩
      · rw [decide_eq_false hq]
        have hq' : ((s.cs.length : Int) == s.held) = false := by simp; omega
        clear hq
        generalize s.held = n at *
        generalize s.cs.length = m at *
        go_enter Tryd.func27, Tryd.ntmps27
        go_wp2_with fail
        refine (HS.out).mono ?_
        rintro e w1 ⟨rfl, rfl⟩
        go_wp2_with fail
        refine (HV.out).mono ?_
        rintro e w1 ⟨rfl, rfl⟩
        go_wp2_with fail
        go_ret
        exact ⟨rfl, Only.refl _ _⟩
    · rw [if_pos (.inl (by omega))]
      rw [valZ_neg h6] at HV
      have HV := hide HV
      clear h hs hsh hh he h6 c0
      go_enter Tryd.func27, Tryd.ntmps27
      go_wp2_with fail
      refine (HS.out).mono ?_
      rintro e w1 ⟨rfl, rfl⟩
      go_wp2_with fail
      refine (HV.out).mono ?_
      rintro e w1 ⟨rfl, rfl⟩
      go_wp2_with fail
      go_ret
      exact ⟨rfl, Only.refl _ _⟩
end Go.Proofs.YtdnkkdpcahmngaaDoor
