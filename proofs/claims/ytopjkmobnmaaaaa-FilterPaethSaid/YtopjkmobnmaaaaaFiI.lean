/-
  Package filter: how many pixels a pass has.
-/
import Derived.Test.YtopjkmobnmaaaaaFiE
import Derived.Test.YtopjkmobnmaaaaaStr
namespace Go.Proofs.Ytopjkmobnmaaaaa
open Go Go.RowKit

/-- A pass goes on from where it begins. -/
def gOn (x y dx dy : Int) : Bool := decide (0 ≤ x ∧ 0 ≤ y ∧ 0 < dx ∧ 0 < dy)
def pcells (x y dx dy : Int) : Array Value := #[.int .i64 x, .int .i64 y, .int .i64 dx, .int .i64 dy]

set_option maxRecDepth 100000 in
theorem goesOn_any (x y dx dy : Int) (w : World) : Calls Try.prog 32 #[.agg #[.int .i64 x, .int .i64 y, .int .i64 dx, .int .i64 dy]] w fun e w' => e = .returned (.bool (gOn x y dx dy)) ∧ Only [] w w' := by
  have hyes : 0 ≤ x ∧ 0 ≤ y ∧ 0 < dx ∧ 0 < dy → gOn x y dx dy = true := fun h => decide_eq_true h
  have hno : ¬ (0 ≤ x ∧ 0 ≤ y ∧ 0 < dx ∧ 0 < dy) → gOn x y dx dy = false := fun h => decide_eq_false h
  generalize gOn x y dx dy = r at *
  by_cases h1 : 0 ≤ x
  · by_cases h2 : 0 ≤ y
    · by_cases h3 : 0 < dx
      · by_cases h4 : 0 < dy
        · obtain rfl := hyes ⟨h1, h2, h3, h4⟩
          clear hyes hno
          go_enter Try.func32, Try.ntmps32
          go_wp2_with fail
          go_ret
          exact ⟨rfl, (Only.refl [] w).alloc _⟩
        · obtain rfl := hno (fun h => h4 h.2.2.2)
          clear hyes hno
          go_enter Try.func32, Try.ntmps32
          go_wp2_with fail
          go_ret
          exact ⟨rfl, (Only.refl [] w).alloc _⟩
      · obtain rfl := hno (fun h => h3 h.2.2.1)
        clear hyes hno
        go_enter Try.func32, Try.ntmps32
        go_wp2_with fail
        go_ret
        exact ⟨rfl, (Only.refl [] w).alloc _⟩
    · obtain rfl := hno (fun h => h2 h.2.1)
      clear hyes hno
      go_enter Try.func32, Try.ntmps32
      go_wp2_with fail
      go_ret
      exact ⟨rfl, (Only.refl [] w).alloc _⟩
  · obtain rfl := hno (fun h => h1 h.1)
    clear hyes hno
    go_enter Try.func32, Try.ntmps32
    go_wp2_with fail
    go_ret
    exact ⟨rfl, (Only.refl [] w).alloc _⟩

theorem upV_zero {n d : Int} (hd : 1 ≤ d) : upV n d = 0 ↔ n ≤ 0 := by
  unfold upV
  by_cases h : n ≤ 0
  · rw [if_pos h]; simp [h]
  · rw [if_neg h]
    have : 0 ≤ (n - 1) / d := Int.ediv_nonneg (by omega) (by omega)
    generalize (n - 1) / d = q at *
    omega
theorem size_none {x y dx dy w h : Int} (hn : ¬ ((1 ≤ w ∧ w ≤ 16384) ∧ (1 ≤ h ∧ h ≤ 16384) ∧ (0 ≤ x ∧ 0 ≤ y ∧ 0 < dx ∧ 0 < dy))) : sizeW x y dx dy w h = 0 ∧ sizeH x y dx dy w h = 0 := by
  have : ¬ sizeOkB x y dx dy w h = true := fun hc => by
    have := of_decide_eq_true hc
    exact hn ⟨this.1, this.2.1, by omega⟩
  exact ⟨if_neg this, if_neg this⟩
theorem size_up {x y dx dy w h : Int} (hw : 1 ≤ w ∧ w ≤ 16384) (hh : 1 ≤ h ∧ h ≤ 16384) (hg : 0 ≤ x ∧ 0 ≤ y ∧ 0 < dx ∧ 0 < dy) :
    (upV (w - x) dx = 0 ∨ upV (h - y) dy = 0 → sizeW x y dx dy w h = 0 ∧ sizeH x y dx dy w h = 0) ∧ (¬ upV (w - x) dx = 0 → ¬ upV (h - y) dy = 0 → sizeW x y dx dy w h = upV (w - x) dx ∧ sizeH x y dx dy w h = upV (h - y) dy) := by
  rw [upV_zero (by omega), upV_zero (by omega)]
  constructor
  · intro hz
    have : ¬ sizeOkB x y dx dy w h = true := fun hc => by
      have := of_decide_eq_true hc
      omega
    exact ⟨if_neg this, if_neg this⟩
  · intro h1 h2
    have : sizeOkB x y dx dy w h = true := decide_eq_true (by omega)
    unfold sizeW sizeH upV
    rw [if_pos this, if_pos this, if_neg h1, if_neg h2]
    exact ⟨rfl, rfl⟩

set_option maxRecDepth 100000 in
set_option maxHeartbeats 4000000 in
theorem size_any (x y dx dy w h : Int) (W : World) (hx : x ≤ 9223372036854775807) (hy : y ≤ 9223372036854775807) (hdx : dx ≤ 9223372036854775807) (hdy : dy ≤ 9223372036854775807) :
    Calls Try.prog 18 #[.agg #[.int .i64 x, .int .i64 y, .int .i64 dx, .int .i64 dy], .int .i64 w, .int .i64 h] W fun e W' => e = .returned (.tuple #[.int .i64 (sizeW x y dx dy w h), .int .i64 (sizeH x y dx dy w h)]) ∧ Only [] W W' := by
  have H1 := hide (fun W => isSide_any w W)
  have H2 := hide (fun W => isSide_any h W)
  have HG := hide (fun W => goesOn_any x y dx dy W)
  have o0 : Only [] W (W.alloc (.cells #[.int .i64 x, .int .i64 y, .int .i64 dx, .int .i64 dy] 40)) := (Only.refl [] W).alloc _
  have hz : Has (W.alloc (.cells #[.int .i64 x, .int .i64 y, .int .i64 dx, .int .i64 dy] 40)) W.heap.size 40 #[.int .i64 x, .int .i64 y, .int .i64 dx, .int .i64 dy] := Has.new W _ _
  by_cases hw : 1 ≤ w ∧ w ≤ 16384
  · rw [show isSd w = true from decide_eq_true hw] at H1
    by_cases hh : 1 ≤ h ∧ h ≤ 16384
    · rw [show isSd h = true from decide_eq_true hh] at H2
      by_cases hg : 0 ≤ x ∧ 0 ≤ y ∧ 0 < dx ∧ 0 < dy
      · rw [show gOn x y dx dy = true from decide_eq_true hg] at HG
        obtain ⟨q1, q2⟩ := size_up hw hh hg
        obtain ⟨a, ha⟩ : ∃ a, a = w - x := ⟨_, rfl⟩
        obtain ⟨b, hb⟩ : ∃ b, b = h - y := ⟨_, rfl⟩
        have W1 : Hid (wrap64 (w - x) = a ∧ IntKind.i64.wrap (w - x) = a) := hide ⟨by rw [ha]; exact IntWalk.wrap64_in _ ⟨by omega, by omega⟩, by rw [ha, IntKind.wrap_i64]; omega⟩
        have W2 : Hid (wrap64 (h - y) = b ∧ IntKind.i64.wrap (h - y) = b) := hide ⟨by rw [hb]; exact IntWalk.wrap64_in _ ⟨by omega, by omega⟩, by rw [hb, IntKind.wrap_i64]; omega⟩
        rw [← ha, ← hb] at q1 q2
        obtain ⟨fU, hfU⟩ : ∃ f : Int → Int → Int, f = upV := ⟨_, rfl⟩
        have HU : Hid (∀ n d W, (n ≤ 1000000000000 ∧ 1 ≤ d ∧ d ≤ 9223372036854775807) → Calls Try.prog 31 #[.int .i64 n, .int .i64 d] W fun e w' => e = .returned (.int .i64 (fU n d)) ∧ w' = W) := hide (fun n d W hc => by rw [hfU]; exact upwards_any n d W hc.1 hc.2)
        have HL := hide (And.intro (show a ≤ 1000000000000 ∧ 1 ≤ dx ∧ dx ≤ 9223372036854775807 by omega) (show b ≤ 1000000000000 ∧ 1 ≤ dy ∧ dy ≤ 9223372036854775807 by omega))
        rw [← hfU] at q1 q2
        obtain ⟨U, hUe⟩ : ∃ U, U = fU a dx := ⟨_, rfl⟩
        obtain ⟨V, hVe⟩ : ∃ V, V = fU b dy := ⟨_, rfl⟩
        rw [← hUe, ← hVe] at q1 q2
        replace hUe := hUe.symm
        replace hVe := hVe.symm
        clear hfU
        generalize sizeW x y dx dy w h = R at *
        generalize sizeH x y dx dy w h = S at *
        obtain ⟨v1, u1⟩ := W1.out
        obtain ⟨v2, u2⟩ := W2.out
        have HQ := hide (And.intro hz o0)
        clear W1 W2 ha hb hw hh hg hx hy hdx hdy hz o0
        by_cases hU : U = 0
        · obtain ⟨rfl, rfl⟩ := q1 (.inl hU)
          subst hU
          clear q1 q2
          go_enter Try.func18, Try.ntmps18
          go_wp2_with fail
          refine (H1.out _).mono ?_
          rintro e w1 ⟨rfl, rfl⟩
          go_wp2_with fail
          refine (H2.out _).mono ?_
          rintro e w1 ⟨rfl, rfl⟩
          go_wp2_with fail
          refine (HG.out _).mono ?_
          rintro e w1 ⟨rfl, ho⟩
          have hh1 := HQ.out.1.only ho (by simp)
          have ho1 := HQ.out.2.trans ho (S := []) (by simp)
          have c0 := hh1.cell 0
          have c1 := hh1.cell 1
          have c2 := hh1.cell 2
          have c3 := hh1.cell 3
          simp only [List.getElem?_toArray, List.getElem?_cons_zero, List.getElem?_cons_succ] at c0 c1 c2 c3
          have HO := hide ho1
          clear ho hh1 ho1
          go_wp2_with fail
          go_quiet ((go_at_call 31; exact Calls.quiet_of_same (HU.out _ _ _ (by first | exact HL.out.1 | exact HL.out.2))))
          go_wp2_with fail
          go_ret2
          exact ⟨rfl, HO.out.drewN nq⟩
        · by_cases hV : V = 0
          · obtain ⟨rfl, rfl⟩ := q1 (.inr hV)
            subst hV
            clear q1 q2
            go_enter Try.func18, Try.ntmps18
            go_wp2_with fail
            refine (H1.out _).mono ?_
            rintro e w1 ⟨rfl, rfl⟩
            go_wp2_with fail
            refine (H2.out _).mono ?_
            rintro e w1 ⟨rfl, rfl⟩
            go_wp2_with fail
            refine (HG.out _).mono ?_
            rintro e w1 ⟨rfl, ho⟩
            have hh1 := HQ.out.1.only ho (by simp)
            have ho1 := HQ.out.2.trans ho (S := []) (by simp)
            have c0 := hh1.cell 0
            have c1 := hh1.cell 1
            have c2 := hh1.cell 2
            have c3 := hh1.cell 3
            simp only [List.getElem?_toArray, List.getElem?_cons_zero, List.getElem?_cons_succ] at c0 c1 c2 c3
            have HO := hide ho1
            clear ho hh1 ho1
            go_wp2_with fail
            go_quiet ((go_at_call 31; exact Calls.quiet_of_same (HU.out _ _ _ (by first | exact HL.out.1 | exact HL.out.2))))
            go_wp2_with fail
            go_ret2
            exact ⟨rfl, HO.out.drewN nq⟩
          · obtain ⟨rfl, rfl⟩ := q2 hU hV
            have bU := beq_eq_false_iff_ne.2 hU
            have bV := beq_eq_false_iff_ne.2 hV
            clear q1 q2
            go_enter Try.func18, Try.ntmps18
            go_wp2_with fail
            refine (H1.out _).mono ?_
            rintro e w1 ⟨rfl, rfl⟩
            go_wp2_with fail
            refine (H2.out _).mono ?_
            rintro e w1 ⟨rfl, rfl⟩
            go_wp2_with fail
            refine (HG.out _).mono ?_
            rintro e w1 ⟨rfl, ho⟩
            have hh1 := HQ.out.1.only ho (by simp)
            have ho1 := HQ.out.2.trans ho (S := []) (by simp)
            have c0 := hh1.cell 0
            have c1 := hh1.cell 1
            have c2 := hh1.cell 2
            have c3 := hh1.cell 3
            simp only [List.getElem?_toArray, List.getElem?_cons_zero, List.getElem?_cons_succ] at c0 c1 c2 c3
            have HO := hide ho1
            clear ho hh1 ho1
            go_wp2_with fail
            go_quiet ((go_at_call 31; exact Calls.quiet_of_same (HU.out _ _ _ (by first | exact HL.out.1 | exact HL.out.2))))
            go_wp2_with fail
            go_ret2
            exact ⟨by show Ending.returned (.tuple #[.int .i64 (fU a dx), .int .i64 (fU b dy)]) = _; rw [hUe, hVe], HO.out.drewN nq⟩
      · rw [show gOn x y dx dy = false from decide_eq_false hg] at HG
        obtain ⟨e1, e2⟩ := size_none (x := x) (y := y) (dx := dx) (dy := dy) (w := w) (h := h) (fun hc => hg hc.2.2)
        rw [e1, e2]
        have HQ := hide o0
        clear e1 e2 hw hh hg hz o0
        go_enter Try.func18, Try.ntmps18
        go_wp2_with fail
        refine (H1.out _).mono ?_
        rintro e w1 ⟨rfl, rfl⟩
        go_wp2_with fail
        refine (H2.out _).mono ?_
        rintro e w1 ⟨rfl, rfl⟩
        go_wp2_with fail
        refine (HG.out _).mono ?_
        rintro e w1 ⟨rfl, ho⟩
        go_wp2_with fail
        go_ret2
        exact ⟨rfl, HQ.out.trans ho (S := []) (by simp)⟩
    · rw [show isSd h = false from decide_eq_false hh] at H2
      obtain ⟨e1, e2⟩ := size_none (x := x) (y := y) (dx := dx) (dy := dy) (w := w) (h := h) (fun hc => hh hc.2.1)
      rw [e1, e2]
      have HQ := hide o0
      clear e1 e2 hw hh hz o0
      go_enter Try.func18, Try.ntmps18
      go_wp2_with fail
      refine (H1.out _).mono ?_
      rintro e w1 ⟨rfl, rfl⟩
      go_wp2_with fail
      refine (H2.out _).mono ?_
      rintro e w1 ⟨rfl, rfl⟩
      go_wp2_with fail
      go_ret2
      exact ⟨rfl, HQ.out⟩
  · rw [show isSd w = false from decide_eq_false hw] at H1
    obtain ⟨e1, e2⟩ := size_none (x := x) (y := y) (dx := dx) (dy := dy) (w := w) (h := h) (fun hc => hw hc.1)
    rw [e1, e2]
    have HQ := hide o0
    clear e1 e2 hw hz o0
    go_enter Try.func18, Try.ntmps18
    go_wp2_with fail
    refine (H1.out _).mono ?_
    rintro e w1 ⟨rfl, rfl⟩
    go_wp2_with fail
    go_ret2
    exact ⟨rfl, HQ.out⟩
end Go.Proofs.Ytopjkmobnmaaaaa
