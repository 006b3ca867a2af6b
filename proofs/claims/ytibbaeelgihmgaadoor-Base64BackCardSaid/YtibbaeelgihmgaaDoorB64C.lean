/-
  Contracts of package base64: one sign more, bytes that go out.
-/
import Derived.Test.YtibbaeelgihmgaaDoorB64B
namespace Go.Proofs.YtibbaeelgihmgaaDoor
open Go Go.RowKit

theorem u32_join6 (v x : Nat) (hv : v < 262144) (hx : x < 64) : bits .or .u32 ((v : Int) * 64) (x : Int) = ((v * 64 + x : Nat) : Int) := by
  have := u32_join x v 6 (by omega) (by omega)
  rw [u32_or_nat _ _ (by omega) (by omega)] at this
  have e : ((v : Int) * 64) = ((v * 2 ^ 6 : Nat) : Int) := by omega
  rw [e, u32_or_nat _ _ (by omega) (by omega), Nat.or_comm, this]
  omega

/-- What take leaves. -/
def St.took (s : St) (c : UInt8) : St := (s.take c).getD s

theorem six_any (c : UInt8) (w : World) (T : Tab w) : Calls Tryd.prog 31 #[.int .u8 (c.toNat : Int)] w fun e w' =>
    e = .returned (.tuple #[.int .u32 (if six c.toNat < 64 then six c.toNat else 0 : Nat), .bool (decide (six c.toNat < 64))]) ∧ w = w' := by
  have hc := c.toNat_lt
  by_cases h : six c.toNat < 64
  · rw [if_pos h, decide_eq_true h]; exact six_yes c.toNat w T (by omega) h
  · rw [if_neg h, decide_eq_false h]; exact six_no c.toNat w T (by omega) (by omega)

theorem fill_any (g : Nat) (s : St) (w : World) (h : De w g s) (h6 : ∀ c ∈ s.cs, six c.toNat < 64) (hl : s.cs.length ≤ 4) (hf : s.fl ≤ 4) :
    Calls Tryd.prog 30 #[.pointer (some ⟨g, 0, none⟩)] w fun e w' => e = .returned (.bool (decide (¬ (s.cs.length < 2 ∨ beyond s.cs ≠ 0)))) ∧
      De w' g (if s.cs.length < 2 ∨ beyond s.cs ≠ 0 then s else { s with fl := s.fl + 1 }) ∧ Only [g] w w' := by
  by_cases hn : s.cs.length < 2 ∨ beyond s.cs ≠ 0
  · rw [if_pos hn, decide_eq_false (fun h => h hn)]
    exact fill_no g s w h h6 hl hn
  · rw [if_neg hn, decide_eq_true hn]
    exact fill_yes g s w h h6 hl hf (by omega) (by omega)

set_option maxHeartbeats 1000000 in
theorem take_any (g : Nat) (s : St) (c : UInt8) (w : World) (T : Tab w) (h : De w g s) (hs : s.Ok) :
    Calls Tryd.prog 26 #[.pointer (some ⟨g, 0, none⟩), .int .u8 (c.toNat : Int)] w fun e w' => e = .returned (.bool (s.take c).isSome) ∧ De w' g (s.took c) ∧ Only [g] w w' := by
  have hc := c.toNat_lt
  have hfew := hs.few
  unfold St.took
  unfold St.take
  obtain ⟨⟨c0, c1, c2, c3, c4⟩, f0, f1, f2, f3, f4⟩ := h.facts
  have hv := V_lt3 hs.six (by omega)
  by_cases hsh : s.shut = true
  · rw [if_pos hsh]
    rw [hsh] at c3
    have H := hide h
    clear h hs hsh T
    go_enter Tryd.func26, Tryd.ntmps26
    go_wp2
    go_ret
    exact ⟨rfl, H.out, Only.refl _ _⟩
  rw [if_neg hsh]
  have hsh : s.shut = false := by simpa using hsh
  rw [hsh] at c3
  by_cases he : c.toNat = 61
  · rw [if_pos he, he]
    have HF := hide (fill_any g s w h hs.six (by omega) (by omega))
    clear h hs he hsh c0 c1 c2 c4 f0 f1 f2 f3 f4 T hc hv
    by_cases hn : s.cs.length < 2 ∨ beyond s.cs ≠ 0
    · rw [if_pos hn]
      rw [if_pos hn, decide_eq_false (fun h => h hn)] at HF
      clear hn
      go_enter Tryd.func26, Tryd.ntmps26
      go_wp2_with fail
      refine (HF.out).mono ?_
      rintro e w1 ⟨rfl, h1, ho1⟩
      have H1 := hide (And.intro h1 ho1)
      clear h1 ho1
      go_wp2_with fail
      go_ret
      exact ⟨rfl, H1.out.1, H1.out.2⟩
    · rw [if_neg hn]
      rw [if_neg hn, decide_eq_true hn] at HF
      clear hn
      go_enter Tryd.func26, Tryd.ntmps26
      go_wp2_with fail
      refine (HF.out).mono ?_
      rintro e w1 ⟨rfl, h1, ho1⟩
      have H1 := hide (And.intro h1 ho1)
      clear h1 ho1
      go_wp2_with fail
      go_ret
      exact ⟨rfl, H1.out.1, H1.out.2⟩
  rw [if_neg he]
  have he' : ((c.toNat : Int) == 61) = false := by simp; omega
  have h6 := hide (six_any c w T)
  by_cases hn : 64 ≤ six c.toNat ∨ 0 < s.fl
  · rw [if_pos hn]
    have H := hide h
    by_cases hn6 : six c.toNat < 64
    · rw [if_pos hn6, decide_eq_true hn6] at h6
      have hfl : 0 < s.fl := by omega
      have hfl2 : (s.fl : Int) ≤ 4 := by omega
      clear h hs hsh hn T he hn6 c0 c1 c4 f0 f1 f2 f3 f4 hfew hv
      generalize s.fl = f at *
      generalize six c.toNat = x at *
      go_enter Tryd.func26, Tryd.ntmps26
      go_wp2_with fail
      refine (h6.out).mono ?_
      rintro e w1 ⟨rfl, rfl⟩
      go_wp2_with fail
      go_ret
      exact ⟨rfl, H.out, Only.refl _ _⟩
    · rw [if_neg hn6, decide_eq_false hn6] at h6
      clear h hs hsh hn T he hn6 c0 c1 c2 c4 f0 f1 f2 f3 f4 hfew hv
      go_enter Tryd.func26, Tryd.ntmps26
      go_wp2_with fail
      refine (h6.out).mono ?_
      rintro e w1 ⟨rfl, rfl⟩
      go_wp2_with fail
      go_ret
      exact ⟨rfl, H.out, Only.refl _ _⟩
  · rw [if_neg hn]
    have hn6 : six c.toNat < 64 := by omega
    have hfl : s.fl = 0 := by omega
    rw [if_pos hn6, decide_eq_true hn6] at h6
    rw [hfl] at c2
    have hj := hide (u32_join6 (V s.cs) (six c.toNat) hv hn6)
    have hst : De ((w.setCell ⟨g, 0, none⟩ (.int .u32 (V s.cs * 64 + six c.toNat : Nat))).setCell ⟨g, 1, none⟩ (.int .i64 ((s.cs.length : Nat) + 1))) g { s with cs := s.cs ++ [c] } := by
      have e := (Has.set h 0 (.int .u32 (V s.cs * 64 + six c.toNat : Nat))).set 1 (.int .i64 ((s.cs.length : Nat) + 1))
      unfold De St.cells
      rw [V_snoc, List.length_append]
      exact e
    have HS := hide hst
    clear h hs hsh hn T he hst c4 hfl
    generalize six c.toNat = x at *
    generalize V s.cs = v at *
    generalize s.cs.length = n at *
    have hvx : v * 64 + x < 16777216 := by omega
    have hj2 := hj.out
    have e64 : (v : Int) * 64 % 4294967296 = (v : Int) * 64 := by omega
    go_enter Tryd.func26, Tryd.ntmps26
    go_wp2_with fail
    refine (h6.out).mono ?_
    rintro e w1 ⟨rfl, rfl⟩
    go_wp2_with fail
    go_ret
    exact ⟨rfl, HS.out, ((Only.refl [g] w).setCell (by simp) _).setCell (by simp) _⟩
end Go.Proofs.YtibbaeelgihmgaaDoor
