/-
  Package attr: Params.
-/
import Derived.Test.YtjfmebjjdiodbaaDoorAtO
import Derived.Test.YtjfmebjjdiodbaaDoorAtP
namespace Go.Proofs.YtjfmebjjdiodbaaDoor
open Go Go.RowKit

/-- A slice of these numbers is told. -/
def RowP (L : List Int) (w : World) (e : Ending) (w' : World) : Prop := ∃ (A : Option Addr) (n c : Nat), e = .returned (.slice A n c) ∧ L.length = n ∧ n ≤ c ∧ Holds w' 1 A n (ivals L) ∧ Only [] w w'

set_option maxRecDepth 100000 in
set_option maxHeartbeats 2000000 in
theorem paramsOf_any (c base : Int) (hc : I64 c) (hb0 : 0 ≤ base) (hb1 : base ≤ 100) (w : World) :
    Calls Tryd.prog 29 #[.int .i64 c, .int .i64 base] w fun e w' => RowP (pOf c base) w e w' := by
  have HS := hide (split_any c hc)
  have ho := rgbA_ok c
  have hA : pOf c base = if kindA c = 0 then [] else if kindA c = 33554432 then [base + 8, 2, (rgbA c).r, (rgbA c).g, (rgbA c).b] else if (rgbA c).b < 8 then [base + (rgbA c).b] else if (rgbA c).b < 16 then [base + 60 + (rgbA c).b - 8] else [base + 8, 5, (rgbA c).b] := rfl
  generalize pOf c base = L at *
  generalize kindA c = k at *
  generalize rgbA c = x at *
  obtain ⟨r, g, b⟩ := x
  obtain ⟨⟨p0, p1⟩, ⟨p2, p3⟩, p4, p5⟩ := ho
  have p0 : 0 ≤ r := p0
  have p1 : r ≤ 255 := p1
  have p2 : 0 ≤ g := p2
  have p3 : g ≤ 255 := p3
  have p4 : 0 ≤ b := p4
  have p5 : b ≤ 255 := p5
  have hA : L = if k = 0 then [] else if k = 33554432 then [base + 8, 2, r, g, b] else if b < 8 then [base + b] else if b < 16 then [base + 60 + b - 8] else [base + 8, 5, b] := hA
  unfold C3.val C3.cells at HS
  clear hc
  by_cases k0 : k = 0
  · rw [if_pos k0] at hA
    subst hA
    subst k0
    go_enter Tryd.func29, Tryd.ntmps29
    go_wp2_with fail
    refine (HS.out _).mono ?_
    rintro e w1 ⟨rfl, ho⟩
    go_wp2_with fail
    go_ret
    exact ⟨none, 0, 0, rfl, rfl, Nat.le_refl _, Holds.empty _ _ _, ho.alloc _⟩
  · rw [if_neg k0] at hA
    have e0 : (k == 0) = false := beq_eq_false_iff_ne.2 k0
    clear k0
    by_cases k1 : k = 33554432
    · rw [if_pos k1] at hA
      subst hA
      subst k1
      go_enter Tryd.func29, Tryd.ntmps29
      go_wp2_with fail
      refine (HS.out _).mono ?_
      rintro e w1 ⟨rfl, ho⟩
      have hl := Holds.lit (w1.alloc (.cells #[.int .u8 r, .int .u8 g, .int .u8 b] 29)) #[.int .i64 (base + 8), .int .i64 (2), .int .i64 (r), .int .i64 (g), .int .i64 (b)] 3
      simp only [World.size_alloc] at hl
      have HL := hide (And.intro hl ((ho.alloc (.cells #[.int .u8 r, .int .u8 g, .int .u8 b] 29)).alloc (.cells #[.int .i64 (base + 8), .int .i64 (2), .int .i64 (r), .int .i64 (g), .int .i64 (b)] 3)))
      clear hl ho
      go_wp2_with fail
      go_ret
      exact ⟨_, 5, 5, rfl, rfl, Nat.le_refl _, HL.out.1, HL.out.2⟩
    · rw [if_neg k1] at hA
      have e1 : (k == 33554432) = false := beq_eq_false_iff_ne.2 k1
      clear k1
      by_cases b8 : b < 8
      · rw [if_pos b8] at hA
        subst hA
        go_enter Tryd.func29, Tryd.ntmps29
        go_wp2_with fail
        refine (HS.out _).mono ?_
        rintro e w1 ⟨rfl, ho⟩
        have hl := Holds.lit (w1.alloc (.cells #[.int .u8 r, .int .u8 g, .int .u8 b] 29)) #[.int .i64 (base + b)] 3
        simp only [World.size_alloc] at hl
        have HL := hide (And.intro hl ((ho.alloc (.cells #[.int .u8 r, .int .u8 g, .int .u8 b] 29)).alloc (.cells #[.int .i64 (base + b)] 3)))
        clear hl ho
        go_wp2_with fail
        go_ret
        exact ⟨_, 1, 1, rfl, rfl, Nat.le_refl _, HL.out.1, HL.out.2⟩
      · rw [if_neg b8] at hA
        have e2 : decide (b < 8) = false := decide_eq_false b8
        by_cases b16 : b < 16
        · rw [if_pos b16] at hA
          subst hA
          go_enter Tryd.func29, Tryd.ntmps29
          go_wp2_with fail
          refine (HS.out _).mono ?_
          rintro e w1 ⟨rfl, ho⟩
          have hl := Holds.lit (w1.alloc (.cells #[.int .u8 r, .int .u8 g, .int .u8 b] 29)) #[.int .i64 (base + 60 + b - 8)] 3
          simp only [World.size_alloc] at hl
          have HL := hide (And.intro hl ((ho.alloc (.cells #[.int .u8 r, .int .u8 g, .int .u8 b] 29)).alloc (.cells #[.int .i64 (base + 60 + b - 8)] 3)))
          clear hl ho
          go_wp2_with fail
          go_ret
          exact ⟨_, 1, 1, rfl, rfl, Nat.le_refl _, HL.out.1, HL.out.2⟩
        · rw [if_neg b16] at hA
          have e3 : decide (b < 16) = false := decide_eq_false b16
          subst hA
          go_enter Tryd.func29, Tryd.ntmps29
          go_wp2_with fail
          refine (HS.out _).mono ?_
          rintro e w1 ⟨rfl, ho⟩
          have hl := Holds.lit (w1.alloc (.cells #[.int .u8 r, .int .u8 g, .int .u8 b] 29)) #[.int .i64 (base + 8), .int .i64 (5), .int .i64 (b)] 3
          simp only [World.size_alloc] at hl
          have HL := hide (And.intro hl ((ho.alloc (.cells #[.int .u8 r, .int .u8 g, .int .u8 b] 29)).alloc (.cells #[.int .i64 (base + 8), .int .i64 (5), .int .i64 (b)] 3)))
          clear hl ho
          go_wp2_with fail
          go_ret
          exact ⟨_, 3, 3, rfl, rfl, Nat.le_refl _, HL.out.1, HL.out.2⟩
end Go.Proofs.YtjfmebjjdiodbaaDoor
