/-
  The laws of inflate: what is known.
-/
import Derived.Test.YtglkfgpefpebmaaDoorInfL
import Derived.Test.YtglkfgpefpebmaaDoorInfU
import Derived.Test.YtglkfgpefpebmaaDoorStr
namespace Go.Proofs.YtglkfgpefpebmaaDoor
open Go Go.RowKit

/-- A stream that is whole, with bytes behind: all of it, or too long. -/
theorem inflate_whole (b bs more : List UInt8) (h : IsStream b bs) (A : Option Addr) (n cb most : Nat) (w : World) (hn : n = (bs ++ more).length) (hb : Holds w 1 A n (bvals (bs ++ more))) (hcb : n ≤ cb) (hB : n ≤ 90000) (hmost : most ≤ 1073741824) :
    Calls Tryd.prog 14 #[.slice A n cb, .int .i64 (most : Int)] w fun e w' => Only [] w w' ∧
      ((b.length ≤ most ∧ ∃ v, e = .returned (.tuple #[v, .int .i64 (bs.length : Int), .int .i64 0]) ∧ w'.ownsRow 0 5 1 v b.length (bvals b)) ∨
        (most < b.length ∧ e = .returned (.tuple #[.slice none 0 0, .int .i64 0, .int .i64 5]))) := by
  subst hn
  obtain ⟨p, hp0, hp, hw⟩ := h.alone more
  refine (inflate_any (bs ++ more) _ cb most A ⟨11, true, 0, p, b⟩ w hw rfl hp0 (by rw [List.take_length]; exact hb) hcb (Nat.le_refl _) hB hmost).mono ?_
  rintro e w' ⟨ho, hcase⟩
  refine ⟨ho, ?_⟩
  rcases hcase with ⟨v, rfl, hown, hEp, hm⟩ | ⟨rfl, hfar⟩ | ⟨rfl, hlong⟩
  · exact .inl ⟨hm, v, by show _ = Ending.returned (.tuple #[v, .int .i64 (bs.length : Int), .int .i64 0]); rw [← hp], hown⟩
  · exfalso
    have h1 : 8 * (bs ++ more).length < p := hfar
    rw [List.length_append] at h1
    omega
  · exact .inr ⟨hlong, rfl⟩

/-- A front of it. -/
theorem inflate_front (b bs : List UInt8) (h : IsStream b bs) (A : Option Addr) (n cb : Nat) (w : World) (hn : n < bs.length) (hb : Holds w 1 A n (bvals (bs.take n))) (hcb : n ≤ cb) (hB : bs.length ≤ 90000) (hb2 : b.length ≤ 1073741824) :
    Calls Tryd.prog 14 #[.slice A n cb, .int .i64 (b.length : Int)] w fun e w' => Only [] w w' ∧ e = .returned (.tuple #[.slice none 0 0, .int .i64 0, .int .i64 2]) := by
  obtain ⟨p, hp0, hp, hw⟩ := h.alone []
  rw [List.append_nil] at hw
  refine (inflate_any bs n cb b.length A ⟨11, true, 0, p, b⟩ w hw rfl hp0 hb hcb (by omega) hB hb2).mono ?_
  rintro e w' ⟨ho, hcase⟩
  refine ⟨ho, ?_⟩
  rcases hcase with ⟨v, _, _, hEp, _⟩ | ⟨rfl, _⟩ | ⟨_, hlong⟩
  · have h1 : p ≤ 8 * n := hEp
    omega
  · rfl
  · have h1 : b.length < b.length := hlong
    omega

/-- A stored block that is not the last one, and a stream. -/
theorem inflate_two (a b bs : List UInt8) (h : IsStream b bs) (ha : a.length < 65536) (A : Option Addr) (n cb most : Nat) (w : World) (hn : n = (storeB false a ++ bs).length) (hb : Holds w 1 A n (bvals (storeB false a ++ bs))) (hcb : n ≤ cb) (hB : n ≤ 90000) (hmo : most = a.length + b.length) (hmost : most ≤ 1073741824) :
    Calls Tryd.prog 14 #[.slice A n cb, .int .i64 (most : Int)] w fun e w' => Only [] w w' ∧
      ∃ v, e = .returned (.tuple #[v, .int .i64 (n : Int), .int .i64 0]) ∧ w'.ownsRow 0 5 1 v (a ++ b).length (bvals (a ++ b)) := by
  obtain ⟨p, hp0, hp, hw⟩ := h.two ha
  have hlen : (storeB false a ++ bs).length = 5 + a.length + bs.length := by rw [List.length_append, storeB_length]
  subst hn
  refine (inflate_any (storeB false a ++ bs) _ cb most A ⟨11, true, 0, p, a ++ b⟩ w hw rfl hp0 (by rw [List.take_length]; exact hb) hcb (Nat.le_refl _) hB hmost).mono ?_
  rintro e w' ⟨ho, hcase⟩
  refine ⟨ho, ?_⟩
  rcases hcase with ⟨v, rfl, hown, _, _⟩ | ⟨_, hfar⟩ | ⟨_, hlong⟩
  · exact ⟨v, by show _ = Ending.returned (.tuple #[v, .int .i64 ((storeB false a ++ bs).length : Int), .int .i64 0]); rw [hlen, ← hp], hown⟩
  · have h1 : 8 * (storeB false a ++ bs).length < p := hfar
    omega
  · have h1 : most < (a ++ b).length := hlong
    rw [List.length_append] at h1
    omega

set_option maxRecDepth 100000 in
set_option maxHeartbeats 4000000 in
theorem knownI_any (w : World) : Calls Tryd.prog 9 #[] w fun e w' => e = .returned (.bool true) ∧ Only [] w w' := by
  have HT := hide (fun w => Holds.lit w #[.int .u8 1, .int .u8 2, .int .u8 0, .int .u8 253, .int .u8 255, .int .u8 104, .int .u8 105, .int .u8 9] 5)
  have HA := hide (fun w => Holds.lit w #[.int .u8 75, .int .u8 4, .int .u8 0] 5)
  go_enter Tryd.func9, Tryd.ntmps9
  go_wp2_with fail
  refine (inflate_whole [104, 105] (storeB true [104, 105]) [9] (.inl ⟨rfl, by decide⟩) (some ⟨w.heap.size, 0, none⟩) 8 8 10 _ rfl (by rw [known_hi]; exact HT.out w) (by decide) (by decide) (by decide)).mono ?_
  rintro e w1 ⟨ho1, hc1⟩
  obtain ⟨v1, rfl, hown1⟩ : ∃ v, e = .returned (.tuple #[v, .int .i64 7, .int .i64 0]) ∧ w1.ownsRow 0 5 1 v 2 (bvals [104, 105]) := by
    rcases hc1 with ⟨_, v, h1, h2⟩ | ⟨h1, _⟩
    · exact ⟨v, h1, h2⟩
    · exact absurd h1 (by decide)
  obtain ⟨A1, c1, rfl, _, _⟩ := own_shape hown1
  have H1 := hide (And.intro hown1 (((Only.refl [] w).alloc _).trans ho1 (S := []) (by simp)))
  clear hc1 hown1 ho1
  go_wp2_with fail
  refine (inflate_whole [97] [75, 4, 0] [] known_a (some ⟨w1.heap.size, 0, none⟩) 3 3 1 _ rfl (HA.out w1) (by decide) (by decide) (by decide)).mono ?_
  rintro e w2 ⟨ho2, hc2⟩
  obtain ⟨v2, rfl, hown2⟩ : ∃ v, e = .returned (.tuple #[v, .int .i64 3, .int .i64 0]) ∧ w2.ownsRow 0 5 1 v 1 (bvals [97]) := by
    rcases hc2 with ⟨_, v, h1, h2⟩ | ⟨h1, _⟩
    · exact ⟨v, h1, h2⟩
    · exact absurd h1 (by decide)
  obtain ⟨A2, c2, rfl, _, _⟩ := own_shape hown2
  have o12 : Only [] w1 w2 := ((Only.refl [] w1).alloc _).trans ho2 (S := []) (by simp)
  have H2 := hide (And.intro hown2 (And.intro (own_keep H1.out.1 o12 (by simp)) (H1.out.2.trans o12 (S := []) (by simp))))
  clear hc2 hown2 ho2 o12
  go_wp2_with fail
  refine (inflate_whole [97] [75, 4, 0] [] known_a (some ⟨w2.heap.size, 0, none⟩) 3 3 0 _ rfl (HA.out w2) (by decide) (by decide) (by decide)).mono ?_
  rintro e w3 ⟨ho3, hc3⟩
  obtain rfl : e = .returned (.tuple #[.slice none 0 0, .int .i64 0, .int .i64 5]) := by
    rcases hc3 with ⟨h1, _⟩ | ⟨_, h1⟩
    · exact absurd h1 (by decide)
    · exact h1
  have o23 : Only [] w2 w3 := ((Only.refl [] w2).alloc _).trans ho3 (S := []) (by simp)
  have s1 := run_string_of (Holds.of_own (own_keep H2.out.2.1 o23 (by simp))) c1 22 5 9 Tryd.underlying22 Tryd.underlying5 Tryd.underlying9
  have s2 := run_string_of (Holds.of_own (own_keep H2.out.1 o23 (by simp))) c2 22 5 9 Tryd.underlying22 Tryd.underlying5 Tryd.underlying9
  have H3 := hide (H2.out.2.2.trans o23 (S := []) (by simp))
  clear hc3 ho3 o23
  go_wp2_with fail
  go_ret
  exact ⟨rfl, H3.out⟩
end Go.Proofs.YtglkfgpefpebmaaDoor
