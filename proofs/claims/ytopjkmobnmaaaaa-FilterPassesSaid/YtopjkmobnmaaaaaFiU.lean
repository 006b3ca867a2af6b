/-
  The document's passes, and how many pixels one has.
-/
import Derived.Test.YtopjkmobnmaaaaaFiR
import Derived.Test.YtopjkmobnmaaaaaFiK
namespace Go.Proofs.Ytopjkmobnmaaaaa
open Go Go.RowKit

set_option maxRecDepth 100000 in
set_option maxHeartbeats 4000000 in
theorem refPasses_any (w : World) : Calls Try.prog 21 #[] w fun e w' => ∃ A c, e = .returned (.slice A 7 c) ∧ Holds w' 4 A 7 (pvals 7) ∧ Only [] w w' := by
  go_enter Try.func21, Try.ntmps21
  go_wp2_with fail
  go_ret
  refine ⟨_, _, rfl, ?_, (Only.refl [] w).alloc _⟩
  have h := Holds.lit w (pvals 7).toArray 44
  exact ⟨rfl, fun _ => h.2 (by rw [List.size_toArray, pvals_length]; omega)⟩

set_option maxRecDepth 100000 in
set_option maxHeartbeats 8000000 in
theorem refSize_any (x y dx dy w h : Int) (W : World) (hx : x ≤ 9223372036854775807) (hy : y ≤ 9223372036854775807) (hdx : dx ≤ 9223372036854775807) (hdy : dy ≤ 9223372036854775807) :
    Calls Try.prog 19 #[.agg #[.int .i64 x, .int .i64 y, .int .i64 dx, .int .i64 dy], .int .i64 w, .int .i64 h] W fun e W' => e = .returned (.tuple #[.int .i64 (sizeW x y dx dy w h), .int .i64 (sizeH x y dx dy w h)]) ∧ Only [] W W' := by
  by_cases hok : sizeOkB x y dx dy w h = true
  · have e1 : sizeW x y dx dy w h = (w - x - 1) / dx + 1 := if_pos hok
    have e2 : sizeH x y dx dy w h = (h - y - 1) / dy + 1 := if_pos hok
    rw [e1, e2]
    obtain ⟨⟨hw1, hw2⟩, ⟨hh1, hh2⟩, ⟨hd1, hd2⟩, ⟨hx0, hy0⟩, hxw, hyh⟩ := of_decide_eq_true hok
    clear e1 e2 hok
    have key : ∀ n d : Int, 0 ≤ n → n ≤ 16384 → 1 ≤ d → n.tdiv d = n / d ∧ 0 ≤ n / d ∧ n / d ≤ 16384 := fun n d h1 h2 h3 => ⟨Int.tdiv_eq_ediv_of_nonneg h1, Int.ediv_nonneg h1 (by omega), Int.le_trans (Int.ediv_le_self d h1) h2⟩
    obtain ⟨k1, k2, k3⟩ := key (w - x - 1) dx (by omega) (by omega) hd1
    obtain ⟨l1, l2, l3⟩ := key (h - y - 1) dy (by omega) (by omega) hd2
    obtain ⟨a, ha⟩ : ∃ a, a = w - x := ⟨_, rfl⟩
    obtain ⟨b, hb⟩ : ∃ b, b = a - 1 := ⟨_, rfl⟩
    obtain ⟨p, hp⟩ : ∃ a, a = h - y := ⟨_, rfl⟩
    obtain ⟨q, hq⟩ : ∃ b, b = p - 1 := ⟨_, rfl⟩
    rw [← ha, ← hb] at k1 k2 k3 ⊢
    rw [← hp, ← hq] at l1 l2 l3 ⊢
    generalize b / dx = U at *
    generalize q / dy = V at *
    obtain ⟨r, hr⟩ : ∃ r, r = U + 1 := ⟨_, rfl⟩
    obtain ⟨s, hs⟩ : ∃ r, r = V + 1 := ⟨_, rfl⟩
    rw [← hr, ← hs]
    have wr : ∀ z : Int, -1000000000 ≤ z → z ≤ 1000000000 → wrap64 z = z ∧ IntKind.i64.wrap z = z := fun z h1 h2 => ⟨IntWalk.wrap64_in _ ⟨by omega, by omega⟩, by rw [IntKind.wrap_i64]; omega⟩
    have W1 : Hid (wrap64 (w - x) = a ∧ IntKind.i64.wrap (w - x) = a) := hide (by rw [← ha]; exact wr _ (by omega) (by omega))
    have W2 : Hid (wrap64 (a - 1) = b ∧ IntKind.i64.wrap (a - 1) = b) := hide (by rw [← hb]; exact wr _ (by omega) (by omega))
    have W3 : Hid (wrap64 (h - y) = p ∧ IntKind.i64.wrap (h - y) = p) := hide (by rw [← hp]; exact wr _ (by omega) (by omega))
    have W4 : Hid (wrap64 (p - 1) = q ∧ IntKind.i64.wrap (p - 1) = q) := hide (by rw [← hq]; exact wr _ (by omega) (by omega))
    have W5 : Hid (wrap64 (U + 1) = r ∧ IntKind.i64.wrap (U + 1) = r) := hide (by rw [← hr]; exact wr _ (by omega) (by omega))
    have W6 : Hid (wrap64 (V + 1) = s ∧ IntKind.i64.wrap (V + 1) = s) := hide (by rw [← hs]; exact wr _ (by omega) (by omega))
    have W7 := hide (wr U (by omega) (by omega))
    have W8 := hide (wr V (by omega) (by omega))
    have d1 : ¬ dx = 0 := by omega
    have d2 : ¬ dy = 0 := by omega
    have d3 : (dx == 0) = false := beq_eq_false_iff_ne.2 d1
    have d4 : (dy == 0) = false := beq_eq_false_iff_ne.2 d2
    have g1 : ¬ w < 1 := by omega
    have g2 : ¬ 16384 < w := by omega
    have g3 : ¬ h < 1 := by omega
    have g4 : ¬ 16384 < h := by omega
    have g5 : ¬ dx < 1 := by omega
    have g6 : ¬ dy < 1 := by omega
    have g7 : ¬ x < 0 := by omega
    have g8 : ¬ y < 0 := by omega
    have g9 : ¬ w ≤ x := by omega
    have g10 : ¬ h ≤ y := by omega
    clear wr ha hb hp hq hr hs k2 k3 l2 l3 key hw1 hw2 hh1 hh2 hd1 hd2 hx0 hy0 hxw hyh hx hy hdx hdy
    obtain ⟨v1, u1⟩ := W1.out
    obtain ⟨v2, u2⟩ := W2.out
    obtain ⟨v3, u3⟩ := W3.out
    obtain ⟨v4, u4⟩ := W4.out
    obtain ⟨v5, u5⟩ := W5.out
    obtain ⟨v6, u6⟩ := W6.out
    obtain ⟨v7, u7⟩ := W7.out
    obtain ⟨v8, u8⟩ := W8.out
    clear W1 W2 W3 W4 W5 W6 W7 W8
    go_enter Try.func19, Try.ntmps19
    go_wp2_with fail
    go_quiet (fail)
    go_wp2_with fail
    go_ret2
    exact ⟨rfl, ((Only.refl [] W).alloc _).drewN nq⟩
  · have e1 : sizeW x y dx dy w h = 0 := if_neg hok
    have e2 : sizeH x y dx dy w h = 0 := if_neg hok
    rw [e1, e2]
    have hno : ¬ ((1 ≤ w ∧ w ≤ 16384) ∧ (1 ≤ h ∧ h ≤ 16384) ∧ (1 ≤ dx ∧ 1 ≤ dy) ∧ (0 ≤ x ∧ 0 ≤ y) ∧ x < w ∧ y < h) := fun hc => hok (decide_eq_true hc)
    clear e1 e2 hok
    by_cases g0 : w < 1
    · clear hno
      go_enter Try.func19, Try.ntmps19
      go_wp2_with fail
      go_ret2
      exact ⟨rfl, (Only.refl [] W).alloc _⟩
    · by_cases g1 : 16384 < w
      · clear hno
        go_enter Try.func19, Try.ntmps19
        go_wp2_with fail
        go_ret2
        exact ⟨rfl, (Only.refl [] W).alloc _⟩
      · by_cases g2 : h < 1
        · clear hno
          go_enter Try.func19, Try.ntmps19
          go_wp2_with fail
          go_ret2
          exact ⟨rfl, (Only.refl [] W).alloc _⟩
        · by_cases g3 : 16384 < h
          · clear hno
            go_enter Try.func19, Try.ntmps19
            go_wp2_with fail
            go_ret2
            exact ⟨rfl, (Only.refl [] W).alloc _⟩
          · by_cases g4 : dx < 1
            · clear hno
              go_enter Try.func19, Try.ntmps19
              go_wp2_with fail
              go_ret2
              exact ⟨rfl, (Only.refl [] W).alloc _⟩
            · by_cases g5 : dy < 1
              · clear hno
                go_enter Try.func19, Try.ntmps19
                go_wp2_with fail
                go_ret2
                exact ⟨rfl, (Only.refl [] W).alloc _⟩
              · by_cases g6 : x < 0
                · clear hno
                  go_enter Try.func19, Try.ntmps19
                  go_wp2_with fail
                  go_ret2
                  exact ⟨rfl, (Only.refl [] W).alloc _⟩
                · by_cases g7 : y < 0
                  · clear hno
                    go_enter Try.func19, Try.ntmps19
                    go_wp2_with fail
                    go_ret2
                    exact ⟨rfl, (Only.refl [] W).alloc _⟩
                  · by_cases g8 : w ≤ x
                    · clear hno
                      go_enter Try.func19, Try.ntmps19
                      go_wp2_with fail
                      go_ret2
                      exact ⟨rfl, (Only.refl [] W).alloc _⟩
                    · by_cases g9 : h ≤ y
                      · clear hno
                        go_enter Try.func19, Try.ntmps19
                        go_wp2_with fail
                        go_ret2
                        exact ⟨rfl, (Only.refl [] W).alloc _⟩
                      · exact absurd ⟨by omega, by omega, by omega, by omega, by omega, by omega⟩ hno
end Go.Proofs.Ytopjkmobnmaaaaa
