/-
  Contracts of the reference's decoder: what waits, may a sign stand next.
-/
import Derived.Test.YtdnkkdpcahmngaaDoorB64S
namespace Go.Proofs.YtdnkkdpcahmngaaDoor
open Go Go.RowKit

def St.wait (s : St) : List UInt8 := s.cs ++ List.replicate s.fl 61
theorem St.wait_length (s : St) : s.wait.length = s.held := by simp [St.wait, St.held]
theorem St.wait_cs (s : St) (j : Nat) (h : j < s.cs.length) : s.wait[j]? = some s.cs[j] := by unfold St.wait; rw [List.getElem?_append_left h, List.getElem?_eq_getElem h]
theorem St.wait_fl (s : St) (h : 0 < s.fl) : s.wait[s.cs.length]? = some 61 := by
  unfold St.wait
  rw [List.getElem?_append_right (Nat.le_refl _), Nat.sub_self]
  simp [h]
theorem St.wait_take (s : St) : s.wait.take s.cs.length = s.cs := by simp [St.wait]

/-- Block g is a reference decoder in this state; what waits lies at v, a row of the call's own. -/
structure Rf (B : Nat) (w : World) (g : Nat) (v : Value) (s : St) : Prop where
  has : Has w g 30 #[v, .bool s.shut, .bool s.bad]
  own : w.ownsRow B 5 1 v s.held (bvals s.wait)

theorem Rf.only {B : Nat} {w w' : World} {g : Nat} {v : Value} {s : St} {S : List Nat} (h : Rf B w g v s) (ho : Only S w w') (hg : g ∉ S) (hv : ∀ b, v.ownBlock = some b → b ∉ S) : Rf B w' g v s :=
  ⟨h.has.only ho hg, own_keep h.own ho hv⟩

theorem ne61 {c : UInt8} (h : six c.toNat < 64) : ((c.toNat : Int) != 61) = true := by
  have : c.toNat ≠ 61 := fun h2 => by rw [h2, six_61] at h; omega
  simp; omega

set_option maxHeartbeats 1000000 in
theorem tSigns (B g : Nat) (v : Value) (s : St) (w : World) (h : Rf B w g v s) (h6 : ∀ c ∈ s.cs, six c.toNat < 64) (h4 : s.held ≤ 4) :
    Calls Tryd.prog 24 #[.pointer (some ⟨g, 0, none⟩)] w fun e w' => e = .returned (.int .i64 (s.cs.length : Nat)) ∧ w = w' := by
  obtain ⟨A, c, rfl, _, _⟩ := own_shape h.own
  have c0 : w.cell? ⟨g, 0, none⟩ = some (.slice A s.held c) := h.has.cell 0
  have hh : s.held = s.cs.length + s.fl := rfl
  have hcell : ∀ j b, s.wait[j]? = some b → ∃ bk o, A = some ⟨bk, o, none⟩ ∧ w.cell? ⟨bk, o + j, none⟩ = some (.int .u8 (b.toNat : Int)) := by
    intro j b hb
    have hl : j < s.wait.length := (List.getElem?_eq_some_iff.1 hb).1
    obtain ⟨bk, o, rfl, hc⟩ := (Holds.of_own h.own).addr (by simp; omega)
    refine ⟨bk, o, rfl, hc j _ ?_⟩
    rw [bvals_get s.wait j hl]
    rw [List.getElem?_eq_getElem hl] at hb
    injection hb with hb
    rw [hb]
  have HC := hide hcell
  have H6 := hide h6
  clear h hcell h6
  generalize s.held = n at *
  subst hh
  go_enter Tryd.func24, Tryd.ntmps24
  go_wp2_with fail
  go_loop [3] (fun i => ∃ j : Nat, j ≤ s.cs.length ∧ i = .int .i64 j) (fun i => s.cs.length - (intOf i).toNat)
  case atStart => exact ⟨0, Nat.zero_le _, rfl⟩
  case round =>
    obtain ⟨j, hj, rfl⟩ := hrel
    by_cases hlt : j < s.cs.length
    · obtain ⟨bk, o, rfl, hce⟩ := HC.out j _ (s.wait_cs j hlt)
      have hne := ne61 (H6.out _ (List.getElem_mem hlt))
      have hx := s.cs[j].toNat_lt
      generalize s.cs[j].toNat = x at *
      generalize s.cs.length = m at *
      go_wp2_with fail
      go_round
      case rel => exact ⟨j + 1, hlt, by go_num⟩
      case measure => simp [intOf]; omega
    · obtain rfl : j = s.cs.length := by omega
      clear hlt hj
      by_cases hf : 0 < s.fl
      · obtain ⟨bk, o, rfl, hce⟩ := HC.out _ _ (s.wait_fl hf)
        have hce : w.cell? ⟨bk, o + s.cs.length, none⟩ = some (.int .u8 61) := hce
        generalize s.fl = f at *
        go_wp2_with fail
        go_ret
        exact ⟨rfl, rfl⟩
      · have hf0 : s.fl = 0 := by omega
        rw [hf0, Nat.add_zero] at c0 h4
        clear hf hf0
        go_wp2_with fail
        go_ret
        exact ⟨rfl, rfl⟩

theorem tHeld (B g : Nat) (v : Value) (s : St) (w : World) (h : Rf B w g v s) : Calls Tryd.prog 16 #[.pointer (some ⟨g, 0, none⟩)] w fun e w' => e = .returned (.int .i64 (s.held : Nat)) ∧ w = w' := by
  obtain ⟨A, c, rfl, _, _⟩ := own_shape h.own
  have c0 : w.cell? ⟨g, 0, none⟩ = some (.slice A s.held c) := h.has.cell 0
  clear h
  generalize s.held = n at *
  go_enter Tryd.func16, Tryd.ntmps16
  go_wp2_with fail
  go_ret
  exact ⟨rfl, rfl⟩
end Go.Proofs.YtdnkkdpcahmngaaDoor
