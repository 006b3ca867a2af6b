/-
  Streams of stored bytes, and of literals in fixed codes: what they say. | The laws of inflate: what is known.
-/
import Derived.Test.YtglkfgpefpebmaaDoorInfS
import Derived.Test.YtglkfgpefpebmaaDoorMInfJ
import Derived.Test.YtglkfgpefpebmaaDoorStr
namespace Go.Proofs.YtglkfgpefpebmaaDoor

/-- The bytes bs are a stream that says b. -/
def IsStream (b bs : List UInt8) : Prop := (bs = storeB true b ∧ b.length < 65536) ∨ IsFixed b bs

theorem syms_bytes (b : List UInt8) : (symsOf b).reverse.map UInt8.ofNat = b := by
  unfold symsOf
  rw [List.reverse_reverse, List.map_map]
  have : (UInt8.ofNat ∘ UInt8.toNat) = id := by funext x; simp
  rw [this, List.map_id]

theorem IsStream.way {b bs : List UInt8} (h : IsStream b bs) (N j : Nat) (l0 : Bool) (out more : List UInt8) (hN : N / 2 ^ (8 * j) = num (bs ++ more)) :
    ∃ p, 0 < p ∧ (p + 7) / 8 = bs.length ∧ Way fixedL N ⟨0, l0, 0, 8 * j, out⟩ ⟨11, true, 0, 8 * j + p, out ++ b⟩ := by
  rcases h with ⟨rfl, hb⟩ | ⟨h1, h2⟩
  · refine ⟨8 * (5 + b.length), by omega, by rw [storeB_length]; omega, ?_⟩
    refine way_stored l0 true b j (num more) out hb ?_ _ ?_
    · rw [hN, num_append, storeB_length]; rfl
    · rw [show 8 * j + 8 * (5 + b.length) = 8 * (j + 5 + b.length) by omega]
      exact .stop _
  · obtain ⟨L, hL⟩ : ∃ L, L = bitsL fixedL (256 :: symsOf b) := ⟨_, rfl⟩
    refine ⟨3 + L, by omega, by rw [h2, hL], ?_⟩
    refine way_fixed l0 true (8 * j) (2 ^ (8 * bs.length - 3 - L) * num more) (symsOf b) out (fun i hi => ?_) (fixL_pos 256 (by decide)) ?_ _ ?_
    · unfold symsOf at hi
      rw [List.mem_reverse, List.mem_map] at hi
      obtain ⟨x, _, rfl⟩ := hi
      have := x.toNat_lt
      exact ⟨this, fixL_pos _ (by omega)⟩
    · rw [hN, num_append, h1, ← hL, pow_256]
      have e : 8 * bs.length = 3 + L + (8 * bs.length - 3 - L) := by omega
      rw [e, Nat.pow_add, Nat.pow_add, Nat.mul_add, show 3 + L + (8 * bs.length - 3 - L) - 3 - L = 8 * bs.length - 3 - L by omega]
      rw [Nat.mul_assoc, Nat.mul_assoc]
      show 3 + _ + _ = 1 + 2 + _
      omega
    · rw [syms_bytes, ← hL, Nat.add_assoc]
      exact .stop _

theorem IsStream.len_le {b bs : List UInt8} (h : IsStream b bs) : 0 < bs.length ∧ bs.length ≤ 2 * b.length + 5 := by
  rcases h with ⟨rfl, _⟩ | ⟨_, h2⟩
  · rw [storeB_length]; omega
  · have h1 := bitsL_le fixL_far' (256 :: symsOf b)
    rw [List.length_cons, symsOf_length] at h1
    rw [h2]
    omega

/-- A stored block that is not the last one, and a stream. -/
theorem IsStream.two {a b bs : List UInt8} (h : IsStream b bs) (ha : a.length < 65536) : ∃ p, 0 < p ∧ (p + 7) / 8 = 5 + a.length + bs.length ∧ Way fixedL (num (storeB false a ++ bs)) ⟨0, false, 0, 0, []⟩ ⟨11, true, 0, p, a ++ b⟩ := by
  have hlen : (storeB false a).length = 5 + a.length := storeB_length _ _
  obtain ⟨p, hp0, hp, hw⟩ := h.way (num (storeB false a ++ bs)) (5 + a.length) false a [] (by
    rw [List.append_nil, num_append, hlen, ← pow_256, Nat.add_mul_div_left _ _ (Nat.pow_pos (by decide)), Nat.div_eq_of_lt (by rw [← hlen]; exact num_lt _), Nat.zero_add])
  refine ⟨8 * (5 + a.length) + p, by omega, by omega, ?_⟩
  have := way_stored (T := fixedL) (N := num (storeB false a ++ bs)) false false a 0 (num bs) [] ha (by rw [Nat.mul_zero, Nat.pow_zero, Nat.div_one, num_append, hlen]; rfl) _ (by
    rw [List.nil_append, Nat.zero_add]
    exact hw)
  simpa using this

/-- What is read of a stream, with bytes behind. -/
theorem IsStream.alone {b bs : List UInt8} (h : IsStream b bs) (more : List UInt8) : ∃ p, 0 < p ∧ (p + 7) / 8 = bs.length ∧ Way fixedL (num (bs ++ more)) ⟨0, false, 0, 0, []⟩ ⟨11, true, 0, p, b⟩ := by
  obtain ⟨p, h0, h1, h2⟩ := h.way (num (bs ++ more)) 0 false [] more (by simp)
  exact ⟨p, h0, h1, by simpa using h2⟩

theorem known_a : IsStream [97] [75, 4, 0] := .inr (by unfold IsFixed; decide +kernel)
theorem known_hi : storeB true [104, 105] ++ [9] = [1, 2, 0, 253, 255, 104, 105, 9] := by decide +kernel
end Go.Proofs.YtglkfgpefpebmaaDoor


namespace Go.Proofs.YtglkfgpefpebmaaDoor
open Go Go.RowKit

/-- A stream that is whole, with bytes behind: all of it, or too long. -/
theorem inflate_whole (b bs more : List UInt8) (h : IsStream b bs) (A : Option Addr) (n cb most : Nat) (w : World) (hn : n = (bs ++ more).length) (hb : Holds w 1 A n (bvals (bs ++ more))) (hcb : n ≤ cb) (hB : n ≤ 90000) (hmost : most ≤ 1073741824) :
    Calls Tryd.prog 14 #[.slice A n cb, .int .i64 (most : Int)] w fun e w' => Only [] w w' ∧
      ((b.length ≤ most ∧ ∃ v, e = .returned (.tuple #[v, .int .i64 (bs.length : Int), .int .i64 0]) ∧ w'.ownsRow 0 5 1 v b.length (bvals b)) ∨
        (most < b.length ∧ e = .returned (.tuple #[.slice none 0 0, .int .i64 0, .int .i64 5]))) := by
  subst hn
  obtain ⟨p, hp0, hp, hw⟩ := h.alone more
  refine (inflate_any (bs ++ more) _ cb most A ⟨11, true, 0, p, b⟩ w hw rfl hp0 (by rw [List.take_length]; exact hb) hcb (Nat.le_refl _) hB hmost).mono ?_
  rintro e w' ⟨ho, hcase⟩
  refine ⟨ho, ?_⟩
  rcases hcase with ⟨v, rfl, hown, hEp, hm⟩ | ⟨rfl, hfar⟩ | ⟨rfl, hlong⟩
  · exact .inl ⟨hm, v, by show _ = Ending.returned (.tuple #[v, .int .i64 (bs.length : Int), .int .i64 0]); rw [← hp], hown⟩
  · exfalso
    have h1 : 8 * (bs ++ more).length < p := hfar
    rw [List.length_append] at h1
    omega
  · exact .inr ⟨hlong, rfl⟩

/-- A front of it. -/
theorem inflate_front (b bs : List UInt8) (h : IsStream b bs) (A : Option Addr) (n cb : Nat) (w : World) (hn : n < bs.length) (hb : Holds w 1 A n (bvals (bs.take n))) (hcb : n ≤ cb) (hB : bs.length ≤ 90000) (hb2 : b.length ≤ 1073741824) :
    Calls Tryd.prog 14 #[.slice A n cb, .int .i64 (b.length : Int)] w fun e w' => Only [] w w' ∧ e = .returned (.tuple #[.slice none 0 0, .int .i64 0, .int .i64 2]) := by
  obtain ⟨p, hp0, hp, hw⟩ := h.alone []
  rw [List.append_nil] at hw
  refine (inflate_any bs n cb b.length A ⟨11, true, 0, p, b⟩ w hw rfl hp0 hb hcb (by omega) hB hb2).mono ?_
  rintro e w' ⟨ho, hcase⟩
  refine ⟨ho, ?_⟩
  rcases hcase with ⟨v, _, _, hEp, _⟩ | ⟨rfl, _⟩ | ⟨_, hlong⟩
  · have h1 : p ≤ 8 * n := hEp
    omega
  · rfl
  · have h1 : b.length < b.length := hlong
    omega

/-- A stored block that is not the last one, and a stream. -/
theorem inflate_two (a b bs : List UInt8) (h : IsStream b bs) (ha : a.length < 65536) (A : Option Addr) (n cb most : Nat) (w : World) (hn : n = (storeB false a ++ bs).length) (hb : Holds w 1 A n (bvals (storeB false a ++ bs))) (hcb : n ≤ cb) (hB : n ≤ 90000) (hmo : most = a.length + b.length) (hmost : most ≤ 1073741824) :
    Calls Tryd.prog 14 #[.slice A n cb, .int .i64 (most : Int)] w fun e w' => Only [] w w' ∧
      ∃ v, e = .returned (.tuple #[v, .int .i64 (n : Int), .int .i64 0]) ∧ w'.ownsRow 0 5 1 v (a ++ b).length (bvals (a ++ b)) := by
  obtain ⟨p, hp0, hp, hw⟩ := h.two ha
  have hlen : (storeB false a ++ bs).length = 5 + a.length + bs.length := by rw [List.length_append, storeB_length]
  subst hn
  refine (inflate_any (storeB false a ++ bs) _ cb most A ⟨11, true, 0, p, a ++ b⟩ w hw rfl hp0 (by rw [List.take_length]; exact hb) hcb (Nat.le_refl _) hB hmost).mono ?_
  rintro e w' ⟨ho, hcase⟩
  refine ⟨ho, ?_⟩
  rcases hcase with ⟨v, rfl, hown, _, _⟩ | ⟨_, hfar⟩ | ⟨_, hlong⟩
  · exact ⟨v, by show _ = Ending.returned (.tuple #[v, .int .i64 ((storeB false a ++ bs).length : Int), .int .i64 0]); rw [hlen, ← hp], hown⟩
  · have h1 : 8 * (storeB false a ++ bs).length < p := hfar
    omega
  · have h1 : most < (a ++ b).length := hlong
    rw [List.length_append] at h1
    omega

set_option maxRecDepth 100000 in
set_option maxHeartbeats 4000000 in
theorem knownI_any (w : World) : Calls Tryd.prog 9 #[] w fun e w' => e = .returned (.bool true) ∧ Only [] w w' := by
  have HT := hide (fun w => Holds.lit w #[.int .u8 1, .int .u8 2, .int .u8 0, .int .u8 253, .int .u8 255, .int .u8 104, .int .u8 105, .int .u8 9] 5)
  have HA := hide (fun w => Holds.lit w #[.int .u8 75, .int .u8 4, .int .u8 0] 5)
  go_enter Tryd.func9, Tryd.ntmps9
  go_wp2_with fail
  refine (inflate_whole [104, 105] (storeB true [104, 105]) [9] (.inl ⟨rfl, by decide⟩) (some ⟨w.heap.size, 0, none⟩) 8 8 10 _ rfl (by rw [known_hi]; exact HT.out w) (by decide) (by decide) (by decide)).mono ?_
  rintro e w1 ⟨ho1, hc1⟩
  obtain ⟨v1, rfl, hown1⟩ : ∃ v, e = .returned (.tuple #[v, .int .i64 7, .int .i64 0]) ∧ w1.ownsRow 0 5 1 v 2 (bvals [104, 105]) := by
    rcases hc1 with ⟨_, v, h1, h2⟩ | ⟨h1, _⟩
    · exact ⟨v, h1, h2⟩
    · exact absurd h1 (by decide)
  obtain ⟨A1, c1, rfl, _, _⟩ := own_shape hown1
  have H1 := hide (And.intro hown1 (((Only.refl [] w).alloc _).trans ho1 (S := []) (by simp)))
  clear hc1 hown1 ho1
  go_wp2_with fail
  refine (inflate_whole [97] [75, 4, 0] [] known_a (some ⟨w1.heap.size, 0, none⟩) 3 3 1 _ rfl (HA.out w1) (by decide) (by decide) (by decide)).mono ?_
  rintro e w2 ⟨ho2, hc2⟩
  obtain ⟨v2, rfl, hown2⟩ : ∃ v, e = .returned (.tuple #[v, .int .i64 3, .int .i64 0]) ∧ w2.ownsRow 0 5 1 v 1 (bvals [97]) := by
    rcases hc2 with ⟨_, v, h1, h2⟩ | ⟨h1, _⟩
    · exact ⟨v, h1, h2⟩
    · exact absurd h1 (by decide)
  obtain ⟨A2, c2, rfl, _, _⟩ := own_shape hown2
  have o12 : Only [] w1 w2 := ((Only.refl [] w1).alloc _).trans ho2 (S := []) (by simp)
  have H2 := hide (And.intro hown2 (And.intro (own_keep H1.out.1 o12 (by simp)) (H1.out.2.trans o12 (S := []) (by simp))))
  clear hc2 hown2 ho2 o12
  go_wp2_with fail
  refine (inflate_whole [97] [75, 4, 0] [] known_a (some ⟨w2.heap.size, 0, none⟩) 3 3 0 _ rfl (HA.out w2) (by decide) (by decide) (by decide)).mono ?_
  rintro e w3 ⟨ho3, hc3⟩
  obtain rfl : e = .returned (.tuple #[.slice none 0 0, .int .i64 0, .int .i64 5]) := by
    rcases hc3 with ⟨h1, _⟩ | ⟨_, h1⟩
    · exact absurd h1 (by decide)
    · exact h1
  have o23 : Only [] w2 w3 := ((Only.refl [] w2).alloc _).trans ho3 (S := []) (by simp)
  have s1 := run_string_of (Holds.of_own (own_keep H2.out.2.1 o23 (by simp))) c1 22 5 9 Tryd.underlying22 Tryd.underlying5 Tryd.underlying9
  have s2 := run_string_of (Holds.of_own (own_keep H2.out.1 o23 (by simp))) c2 22 5 9 Tryd.underlying22 Tryd.underlying5 Tryd.underlying9
  have H3 := hide (H2.out.2.2.trans o23 (S := []) (by simp))
  clear hc3 ho3 o23
  go_wp2_with fail
  go_ret
  exact ⟨rfl, H3.out⟩
end Go.Proofs.YtglkfgpefpebmaaDoor

