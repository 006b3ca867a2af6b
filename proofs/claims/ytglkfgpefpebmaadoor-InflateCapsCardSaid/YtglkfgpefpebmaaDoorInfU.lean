/-
  Streams of stored bytes, and of literals in fixed codes: what they say.
-/
import Derived.Test.YtglkfgpefpebmaaDoorInfS
namespace Go.Proofs.YtglkfgpefpebmaaDoor

/-- The bytes bs are a stream that says b. -/
def IsStream (b bs : List UInt8) : Prop := (bs = storeB true b ∧ b.length < 65536) ∨ IsFixed b bs

theorem syms_bytes (b : List UInt8) : (symsOf b).reverse.map UInt8.ofNat = b := by
  unfold symsOf
  rw [List.reverse_reverse, List.map_map]
  have : (UInt8.ofNat ∘ UInt8.toNat) = id := by funext x; simp
  rw [this, List.map_id]

theorem IsStream.way {b bs : List UInt8} (h : IsStream b bs) (N j : Nat) (l0 : Bool) (out more : List UInt8) (hN : N / 2 ^ (8 * j) = num (bs ++ more)) :
    ∃ p, 0 < p ∧ (p + 7) / 8 = bs.length ∧ Way fixedL N ⟨0, l0, 0, 8 * j, out⟩ ⟨11, true, 0, 8 * j + p, out ++ b⟩ := by
  rcases h with ⟨rfl, hb⟩ | ⟨h1, h2⟩
  · refine ⟨8 * (5 + b.length), by omega, by rw [storeB_length]; omega, ?_⟩
    refine way_stored l0 true b j (num more) out hb ?_ _ ?_
    · rw [hN, num_append, storeB_length]; rfl
    · rw [show 8 * j + 8 * (5 + b.length) = 8 * (j + 5 + b.length) by omega]
      exact .stop _
  · obtain ⟨L, hL⟩ : ∃ L, L = bitsL fixedL (256 :: symsOf b) := ⟨_, rfl⟩
    refine ⟨3 + L, by omega, by rw [h2, hL], ?_⟩
    refine way_fixed l0 true (8 * j) (2 ^ (8 * bs.length - 3 - L) * num more) (symsOf b) out (fun i hi => ?_) (fixL_pos 256 (by decide)) ?_ _ ?_
    · unfold symsOf at hi
      rw [List.mem_reverse, List.mem_map] at hi
      obtain ⟨x, _, rfl⟩ := hi
      have := x.toNat_lt
      exact ⟨this, fixL_pos _ (by omega)⟩
    · rw [hN, num_append, h1, ← hL, pow_256]
      have e : 8 * bs.length = 3 + L + (8 * bs.length - 3 - L) := by omega
      rw [e, Nat.pow_add, Nat.pow_add, Nat.mul_add, show 3 + L + (8 * bs.length - 3 - L) - 3 - L = 8 * bs.length - 3 - L by omega]
      rw [Nat.mul_assoc, Nat.mul_assoc]
      show 3 + _ + _ = 1 + 2 + _
      omega
    · rw [syms_bytes, ← hL, Nat.add_assoc]
      exact .stop _

theorem IsStream.len_le {b bs : List UInt8} (h : IsStream b bs) : 0 < bs.length ∧ bs.length ≤ 2 * b.length + 5 := by
  rcases h with ⟨rfl, _⟩ | ⟨_, h2⟩
  · rw [storeB_length]; omega
  · have h1 := bitsL_le fixL_far' (256 :: symsOf b)
    rw [List.length_cons, symsOf_length] at h1
    rw [h2]
    omega

/-- A stored block that is not the last one, and a stream. -/
theorem IsStream.two {a b bs : List UInt8} (h : IsStream b bs) (ha : a.length < 65536) : ∃ p, 0 < p ∧ (p + 7) / 8 = 5 + a.length + bs.length ∧ Way fixedL (num (storeB false a ++ bs)) ⟨0, false, 0, 0, []⟩ ⟨11, true, 0, p, a ++ b⟩ := by
  have hlen : (storeB false a).length = 5 + a.length := storeB_length _ _
  obtain ⟨p, hp0, hp, hw⟩ := h.way (num (storeB false a ++ bs)) (5 + a.length) false a [] (by
    rw [List.append_nil, num_append, hlen, ← pow_256, Nat.add_mul_div_left _ _ (Nat.pow_pos (by decide)), Nat.div_eq_of_lt (by rw [← hlen]; exact num_lt _), Nat.zero_add])
  refine ⟨8 * (5 + a.length) + p, by omega, by omega, ?_⟩
  have := way_stored (T := fixedL) (N := num (storeB false a ++ bs)) false false a 0 (num bs) [] ha (by rw [Nat.mul_zero, Nat.pow_zero, Nat.div_one, num_append, hlen]; rfl) _ (by
    rw [List.nil_append, Nat.zero_add]
    exact hw)
  simpa using this

/-- What is read of a stream, with bytes behind. -/
theorem IsStream.alone {b bs : List UInt8} (h : IsStream b bs) (more : List UInt8) : ∃ p, 0 < p ∧ (p + 7) / 8 = bs.length ∧ Way fixedL (num (bs ++ more)) ⟨0, false, 0, 0, []⟩ ⟨11, true, 0, p, b⟩ := by
  obtain ⟨p, h0, h1, h2⟩ := h.way (num (bs ++ more)) 0 false [] more (by simp)
  exact ⟨p, h0, h1, by simpa using h2⟩

theorem known_a : IsStream [97] [75, 4, 0] := .inr (by unfold IsFixed; decide +kernel)
theorem known_hi : storeB true [104, 105] ++ [9] = [1, 2, 0, 253, 255, 104, 105, 9] := by decide +kernel
end Go.Proofs.YtglkfgpefpebmaaDoor
