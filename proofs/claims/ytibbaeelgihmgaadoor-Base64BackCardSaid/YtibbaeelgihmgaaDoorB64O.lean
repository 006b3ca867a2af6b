/-
  Plain facts on base64: what is laid comes back.
-/
import Derived.Test.YtibbaeelgihmgaaDoorB64N
import Derived.Test.YtibbaeelgihmgaaDoorB64S
namespace Go.Proofs.YtibbaeelgihmgaaDoor
open Go

def bare : List UInt8 → List UInt8
  | [] => []
  | [a] => [sgn [a] 0, sgn [a] 1]
  | [a, b] => [sgn [a, b] 0, sgn [a, b] 1, sgn [a, b] 2]
  | a :: b :: c :: r => four [a, b, c] ++ bare r
def pad : List UInt8 → Nat
  | [] => 0
  | [_] => 2
  | [_, _] => 1
  | _ :: _ :: _ :: r => pad r

theorem enc_bare : ∀ l, enc l = bare l ++ List.replicate (pad l) 61
  | [] => rfl
  | [a] => by simp [enc, bare, pad, four, sgn, List.range_succ]
  | [a, b] => by simp [enc, bare, pad, four, sgn, List.range_succ]
  | a :: b :: c :: r => by rw [enc, bare, pad, enc_bare r, List.append_assoc]

theorem sgn_six (l : List UInt8) (k : Nat) (hk : k ≤ l.length) : six (sgn l k).toNat = v3 l / 2 ^ (18 - 6 * k) % 64 ∧ (sgn l k).toNat ≠ 61 := by
  unfold sgn
  rw [if_pos hk]
  obtain ⟨m, hm⟩ : ∃ m, m = v3 l / 2 ^ (18 - 6 * k) % 64 := ⟨_, rfl⟩
  rw [← hm]
  have h := abc_all m (by omega)
  rw [UInt8.toNat_ofNat', Nat.mod_eq_of_lt (by omega)]
  exact ⟨h.1, h.2.2.1⟩

theorem sgn_ok (l : List UInt8) (k : Nat) (hk : k ≤ l.length) : six (sgn l k).toNat < 64 ∧ (sgn l k).toNat ≠ 61 := by
  have := sgn_six l k hk
  exact ⟨by omega, this.2⟩

theorem bare_ok : ∀ l, ∀ c ∈ bare l, c.toNat ≠ 61
  | [] => by simp [bare]
  | [a] => by
    intro c hc
    simp [bare] at hc
    rcases hc with rfl | rfl <;> exact (sgn_ok _ _ (by simp)).2
  | [a, b] => by
    intro c hc
    simp [bare] at hc
    rcases hc with rfl | rfl | rfl <;> exact (sgn_ok _ _ (by simp)).2
  | a :: b :: c :: r => by
    intro d hd
    rcases List.mem_append.1 hd with hd | hd
    · simp [four] at hd
      obtain ⟨k, hk, rfl⟩ := hd
      exact (sgn_ok _ _ (by simp; omega)).2
    · exact bare_ok r d hd

/-- A sign that is none of =, where no = waits. -/
theorem step_sign (cs : List UInt8) (c : UInt8) (h6 : six c.toNat < 64) (h61 : c.toNat ≠ 61) :
    (⟨cs, 0, false, false⟩ : St).step c = some (if cs.length + 1 = 4 then (outOf (cs ++ [c]), St.new) else ([], ⟨cs ++ [c], 0, false, false⟩)) := by
  unfold St.step St.take
  rw [if_neg (by simp), if_neg h61, if_neg (by simp; omega)]
  simp only [Option.map_some, Option.some.injEq]
  unfold St.pour
  by_cases h : cs.length + 1 = 4
  · rw [if_pos (by simp; omega), if_pos h]; rfl
  · rw [if_neg (by simp; omega), if_neg h]

theorem run_2 (a b : UInt8) (ha : six a.toNat < 64 ∧ a.toNat ≠ 61) (hb : six b.toNat < 64 ∧ b.toNat ≠ 61) : St.new.run [a, b] = some ([], ⟨[a, b], 0, false, false⟩) := by
  have h0 : St.new = ⟨[], 0, false, false⟩ := rfl
  rw [h0, run_cons, step_sign [] a ha.1 ha.2]
  simp only [List.length_nil, Option.bind_some]
  rw [if_neg (by decide), run_one]
  simp only [List.nil_append]
  rw [step_sign [a] b hb.1 hb.2, if_neg (by simp)]
  simp
theorem run_3 (a b c : UInt8) (ha : six a.toNat < 64 ∧ a.toNat ≠ 61) (hb : six b.toNat < 64 ∧ b.toNat ≠ 61) (hc : six c.toNat < 64 ∧ c.toNat ≠ 61) : St.new.run [a, b, c] = some ([], ⟨[a, b, c], 0, false, false⟩) := by
  have h := run_snoc (run_2 a b ha hb) c
  rw [step_sign [a, b] c hc.1 hc.2, if_neg (by simp)] at h
  simpa using h
theorem run_4 (a b c d : UInt8) (ha : six a.toNat < 64 ∧ a.toNat ≠ 61) (hb : six b.toNat < 64 ∧ b.toNat ≠ 61) (hc : six c.toNat < 64 ∧ c.toNat ≠ 61) (hd : six d.toNat < 64 ∧ d.toNat ≠ 61) :
    St.new.run [a, b, c, d] = some (outOf [a, b, c, d], St.new) := by
  have h := run_snoc (run_3 a b c ha hb hc) d
  rw [step_sign [a, b, c] d hd.1 hd.2, if_pos (by simp)] at h
  simpa using h

theorem V_2 (a b : UInt8) : V [a, b] = six a.toNat * 64 + six b.toNat := by simp [V]
theorem V_3 (a b c : UInt8) : V [a, b, c] = (six a.toNat * 64 + six b.toNat) * 64 + six c.toNat := by simp [V]
theorem V_4 (a b c d : UInt8) : V [a, b, c, d] = ((six a.toNat * 64 + six b.toNat) * 64 + six c.toNat) * 64 + six d.toNat := by simp [V]

theorem u8_of (x : Nat) (a : UInt8) (h : x % 256 = a.toNat) : UInt8.ofNat x = a := by
  rw [← UInt8.toNat_inj, UInt8.toNat_ofNat']; exact h

theorem four_back (a b c : UInt8) : St.new.run (four [a, b, c]) = some ([a, b, c], St.new) := by
  have e : four [a, b, c] = [sgn [a, b, c] 0, sgn [a, b, c] 1, sgn [a, b, c] 2, sgn [a, b, c] 3] := by simp [four, List.range_succ]
  rw [e, run_4 _ _ _ _ (sgn_ok _ _ (by simp)) (sgn_ok _ _ (by simp)) (sgn_ok _ _ (by simp)) (sgn_ok _ _ (by simp))]
  have ha := a.toNat_lt; have hb := b.toNat_lt; have hc := c.toNat_lt
  unfold outOf
  rw [V_4, (sgn_six [a, b, c] 0 (by simp)).1, (sgn_six [a, b, c] 1 (by simp)).1, (sgn_six [a, b, c] 2 (by simp)).1, (sgn_six [a, b, c] 3 (by simp)).1]
  simp [outN, List.range_succ, v3, -UInt8.ofNat_add, -UInt8.ofNat_mul]
  exact ⟨u8_of _ _ (by omega), u8_of _ _ (by omega), u8_of _ _ (by omega)⟩

theorem one_back (a : UInt8) : beyond [sgn [a] 0, sgn [a] 1] = 0 ∧ outOf [sgn [a] 0, sgn [a] 1] = [a] := by
  have ha := a.toNat_lt
  unfold beyond outOf
  rw [V_2, (sgn_six [a] 0 (by simp)).1, (sgn_six [a] 1 (by simp)).1]
  simp [outN, List.range_succ, v3, -UInt8.ofNat_add, -UInt8.ofNat_mul]
  exact ⟨by omega, u8_of _ _ (by omega)⟩
theorem two_back (a b : UInt8) : beyond [sgn [a, b] 0, sgn [a, b] 1, sgn [a, b] 2] = 0 ∧ outOf [sgn [a, b] 0, sgn [a, b] 1, sgn [a, b] 2] = [a, b] := by
  have ha := a.toNat_lt
  have hb := b.toNat_lt
  unfold beyond outOf
  rw [V_3, (sgn_six [a, b] 0 (by simp)).1, (sgn_six [a, b] 1 (by simp)).1, (sgn_six [a, b] 2 (by simp)).1]
  simp [outN, List.range_succ, v3, -UInt8.ofNat_add, -UInt8.ofNat_mul]
  exact ⟨by omega, u8_of _ _ (by omega), u8_of _ _ (by omega)⟩

/-- A state at the end of a text that may end there. -/
def Ends (t : St) (x : List UInt8) : Prop := t.fin = (x, 0, St.new)

/-- A = behind signs that may end. -/
theorem step_fill (cs : List UInt8) (f : Nat) (h2 : 2 ≤ cs.length) (hb : beyond cs = 0) :
    (⟨cs, f, false, false⟩ : St).step 61 = some (if cs.length + (f + 1) = 4 then (outOf cs, ⟨[], 0, true, false⟩) else ([], ⟨cs, f + 1, false, false⟩)) := by
  unfold St.step St.take
  rw [if_neg (by simp), if_pos (show (61 : UInt8).toNat = 61 from rfl), if_neg (by simp only; omega)]
  simp only [Option.map_some, Option.some.injEq]
  unfold St.pour
  by_cases h : cs.length + (f + 1) = 4
  · rw [if_pos (by simp only; omega), if_pos h]; simp
  · rw [if_neg (by simp only; omega), if_neg h]

theorem ends_shut : Ends ⟨[], 0, true, false⟩ [] := by
  unfold Ends St.fin
  simp [beyond, V, outOf, outN]
theorem ends_new : Ends St.new [] := by
  unfold Ends St.fin
  simp [St.new, beyond, V, outOf, outN]
theorem ends_left (cs : List UInt8) (h : cs.length ≠ 1) (hb : beyond cs = 0) : Ends ⟨cs, 0, false, false⟩ (outOf cs) := by
  unfold Ends St.fin
  rw [if_neg (by simp [hb, h])]

/-- What was laid comes back, filled up or not. -/
theorem back : ∀ (b : List UInt8) (q : Nat), q = 0 ∨ q = pad b → ∃ o t x, St.new.run (bare b ++ List.replicate q 61) = some (o, t) ∧ Ends t x ∧ o ++ x = b
  | [], q, h => ⟨[], St.new, [], by have : q = 0 := by simpa [pad] using h
                                    subst this; rfl, ends_new, rfl⟩
  | [a], q, h => by
    obtain ⟨hb, ho⟩ := one_back a
    have h2 := run_2 (sgn [a] 0) (sgn [a] 1) (sgn_ok _ _ (by simp)) (sgn_ok _ _ (by simp))
    rcases h with rfl | rfl
    · refine ⟨_, _, _, by simpa [bare] using h2, ends_left _ (by simp) hb, by simpa using ho⟩
    · have h3 := run_snoc h2 61
      rw [step_fill _ _ (by simp) hb, if_neg (by simp)] at h3
      simp only [Option.map_some] at h3
      have h4 := run_snoc h3 61
      rw [step_fill _ _ (by simp) hb, if_pos (by simp)] at h4
      refine ⟨_, _, _, by simpa [bare, pad, List.replicate] using h4, ends_shut, by simpa using ho⟩
  | [a, b], q, h => by
    obtain ⟨hb, ho⟩ := two_back a b
    have h2 := run_3 (sgn [a, b] 0) (sgn [a, b] 1) (sgn [a, b] 2) (sgn_ok _ _ (by simp)) (sgn_ok _ _ (by simp)) (sgn_ok _ _ (by simp))
    rcases h with rfl | rfl
    · refine ⟨_, _, _, by simpa [bare] using h2, ends_left _ (by simp) hb, by simpa using ho⟩
    · have h3 := run_snoc h2 61
      rw [step_fill _ _ (by simp) hb, if_pos (by simp)] at h3
      refine ⟨_, _, _, by simpa [bare, pad, List.replicate] using h3, ends_shut, by simpa using ho⟩
  | a :: b :: c :: r, q, h => by
    obtain ⟨o, t, x, h1, h2, h3⟩ := back r q h
    refine ⟨[a, b, c] ++ o, t, x, ?_, h2, by rw [List.append_assoc, h3]; rfl⟩
    rw [bare, List.append_assoc, run_append, four_back]
    simp [h1]
end Go.Proofs.YtibbaeelgihmgaaDoor
