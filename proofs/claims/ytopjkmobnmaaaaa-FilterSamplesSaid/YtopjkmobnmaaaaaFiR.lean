/-
  The document's: far, Paeth, guess, depth, Row.
-/
import Derived.Test.YtopjkmobnmaaaaaFiG
namespace Go.Proofs.Ytopjkmobnmaaaaa
open Go Go.RowKit

set_option maxRecDepth 100000 in
theorem refFar_any (a b d : Int) (w : World) (ha : -1000000 ≤ a ∧ a ≤ 1000000) (hb : -1000000 ≤ b ∧ b ≤ 1000000) (hd : dist a b = d) : Calls Try.prog 26 #[.int .i64 a, .int .i64 b] w fun e w' => e = .returned (.int .i64 d) ∧ w' = w := by
  have key : dist a b = if a < b then b - a else a - b := rfl
  rw [key] at hd
  by_cases h : a < b
  · rw [if_pos h] at hd
    subst hd
    clear key
    go_enter Try.func26, Try.ntmps26
    go_wp2_with fail
    go_ret
    exact ⟨rfl, rfl⟩
  · rw [if_neg h] at hd
    subst hd
    clear key
    go_enter Try.func26, Try.ntmps26
    go_wp2_with fail
    go_ret
    exact ⟨rfl, rfl⟩

set_option maxRecDepth 100000 in
set_option maxHeartbeats 4000000 in
theorem refPaeth_any (a b c : UInt8) (w : World) : Calls Try.prog 13 #[.int .u8 (a.toNat : Int), .int .u8 (b.toNat : Int), .int .u8 (c.toNat : Int)] w fun e w' => e = .returned (.int .u8 ((pae a b c).toNat : Int)) ∧ w' = w := by
  have key : pae a b c = if dist b.toNat c.toNat ≤ dist a.toNat c.toNat ∧ dist b.toNat c.toNat ≤ dist ((a.toNat : Int) + b.toNat) (2 * (c.toNat : Int)) then a else if dist a.toNat c.toNat ≤ dist ((a.toNat : Int) + b.toNat) (2 * (c.toNat : Int)) then b else c := rfl
  have ha := a.toNat_lt
  have hb := b.toNat_lt
  have hc := c.toNat_lt
  obtain ⟨p, hp⟩ : ∃ p, p = (a.toNat : Int) + (b.toNat : Int) - (c.toNat : Int) := ⟨_, rfl⟩
  have HA := hide (fun w => refFar_any p (a.toNat : Int) (dist b.toNat c.toNat) w (by omega) (by omega) (by unfold dist; split <;> split <;> omega))
  have HB := hide (fun w => refFar_any p (b.toNat : Int) (dist a.toNat c.toNat) w (by omega) (by omega) (by unfold dist; split <;> split <;> omega))
  have HC := hide (fun w => refFar_any p (c.toNat : Int) (dist ((a.toNat : Int) + b.toNat) (2 * (c.toNat : Int))) w (by omega) (by omega) (by unfold dist; split <;> split <;> omega))
  generalize dist b.toNat c.toNat = x at *
  generalize dist a.toNat c.toNat = y at *
  generalize dist ((a.toNat : Int) + b.toNat) (2 * (c.toNat : Int)) = z at *
  generalize pae a b c = r at *
  generalize ea : a.toNat = A at *
  generalize eb : b.toNat = B at *
  generalize ec : c.toNat = C at *
  obtain ⟨P, hP⟩ : ∃ P, P = (A : Int) + (B : Int) := ⟨_, rfl⟩
  have wr : ∀ z : Int, -1000000 ≤ z → z ≤ 1000000 → wrap64 z = z ∧ IntKind.i64.wrap z = z := fun z h1 h2 => ⟨IntWalk.wrap64_in _ ⟨by omega, by omega⟩, by rw [IntKind.wrap_i64]; omega⟩
  have W1 : Hid (wrap64 ((A : Int) + (B : Int)) = P ∧ IntKind.i64.wrap ((A : Int) + (B : Int)) = P) := hide (by rw [hP]; exact wr _ (by omega) (by omega))
  have W2 : Hid (wrap64 (P - (C : Int)) = p ∧ IntKind.i64.wrap (P - (C : Int)) = p) := hide (by rw [hP, hp]; exact wr _ (by omega) (by omega))
  have W6 := hide (wr (A : Int) (by omega) (by omega))
  have W7 := hide (wr (B : Int) (by omega) (by omega))
  have W8 := hide (wr (C : Int) (by omega) (by omega))
  clear hP hp wr ha hb hc
  obtain ⟨w1, v1⟩ := W1.out
  obtain ⟨w2, v2⟩ := W2.out
  obtain ⟨w6, v6⟩ := W6.out
  obtain ⟨w7, v7⟩ := W7.out
  obtain ⟨w8, v8⟩ := W8.out
  clear W1 W2 W6 W7 W8
  by_cases h1 : x ≤ y
  · by_cases h2 : x ≤ z
    · rw [if_pos ⟨h1, h2⟩] at key
      rw [key, ea]
      clear key ea eb ec
      go_enter Try.func13, Try.ntmps13
      go_wp2_with fail
      refine (HA.out _).mono ?_
      rintro e w1 ⟨rfl, rfl⟩
      go_wp2_with fail
      refine (HB.out _).mono ?_
      rintro e w1 ⟨rfl, rfl⟩
      go_wp2_with fail
      refine (HC.out _).mono ?_
      rintro e w1 ⟨rfl, rfl⟩
      go_wp2_with fail
      go_ret
      exact ⟨rfl, rfl⟩
    · by_cases h3 : y ≤ z
      · exact absurd (Int.le_trans h1 h3) h2
      · rw [if_neg (fun h => h2 h.2), if_neg h3] at key
        rw [key, ec]
        clear key ea eb ec
        go_enter Try.func13, Try.ntmps13
        go_wp2_with fail
        refine (HA.out _).mono ?_
        rintro e w1 ⟨rfl, rfl⟩
        go_wp2_with fail
        refine (HB.out _).mono ?_
        rintro e w1 ⟨rfl, rfl⟩
        go_wp2_with fail
        refine (HC.out _).mono ?_
        rintro e w1 ⟨rfl, rfl⟩
        go_wp2_with fail
        go_ret
        exact ⟨rfl, rfl⟩
  · by_cases h3 : y ≤ z
    · rw [if_neg (fun h => h1 h.1), if_pos h3] at key
      rw [key, eb]
      clear key ea eb ec
      go_enter Try.func13, Try.ntmps13
      go_wp2_with fail
      refine (HA.out _).mono ?_
      rintro e w1 ⟨rfl, rfl⟩
      go_wp2_with fail
      refine (HB.out _).mono ?_
      rintro e w1 ⟨rfl, rfl⟩
      go_wp2_with fail
      refine (HC.out _).mono ?_
      rintro e w1 ⟨rfl, rfl⟩
      go_wp2_with fail
      go_ret
      exact ⟨rfl, rfl⟩
    · rw [if_neg (fun h => h1 h.1), if_neg h3] at key
      rw [key, ec]
      clear key ea eb ec
      go_enter Try.func13, Try.ntmps13
      go_wp2_with fail
      refine (HA.out _).mono ?_
      rintro e w1 ⟨rfl, rfl⟩
      go_wp2_with fail
      refine (HB.out _).mono ?_
      rintro e w1 ⟨rfl, rfl⟩
      go_wp2_with fail
      refine (HC.out _).mono ?_
      rintro e w1 ⟨rfl, rfl⟩
      go_wp2_with fail
      go_ret
      exact ⟨rfl, rfl⟩

set_option maxRecDepth 100000 in
set_option maxHeartbeats 4000000 in
theorem refGuess_any (k : Nat) (a b cc : UInt8) (w : World) (hk : k ≤ 4) : Calls Try.prog 24 #[.int .i64 k, .int .u8 (a.toNat : Int), .int .u8 (b.toNat : Int), .int .u8 (cc.toNat : Int)] w fun e w' => e = .returned (.int .u8 ((gs k a b cc).toNat : Int)) ∧ w' = w := by
  have HP := hide (fun w => refPaeth_any a b cc w)
  have g0 : gs 0 a b cc = 0 := rfl
  have g1 : gs 1 a b cc = a := rfl
  have g2 : gs 2 a b cc = b := rfl
  have g3 : gs 3 a b cc = UInt8.ofNat ((a.toNat + b.toNat) / 2) := rfl
  have g4 : gs 4 a b cc = pae a b cc := rfl
  have ha := a.toNat_lt
  have hb8 := b.toNat_lt
  rcases (show k = 0 ∨ k = 1 ∨ k = 2 ∨ k = 3 ∨ k = 4 by omega) with rfl | rfl | rfl | rfl | rfl
  · rw [g0]
    clear g0 g1 g2 g3 g4 HP
    go_enter Try.func24, Try.ntmps24
    go_wp2_with fail
    go_ret
    exact ⟨rfl, rfl⟩
  · rw [g1]
    clear g0 g1 g2 g3 g4 HP
    go_enter Try.func24, Try.ntmps24
    go_wp2_with fail
    go_ret
    exact ⟨rfl, rfl⟩
  · rw [g2]
    clear g0 g1 g2 g3 g4 HP
    go_enter Try.func24, Try.ntmps24
    go_wp2_with fail
    go_ret
    exact ⟨rfl, rfl⟩
  · rw [g3, UInt8.toNat_ofNat', Nat.mod_eq_of_lt (by omega : (a.toNat + b.toNat) / 2 < 2 ^ 8)]
    clear g0 g1 g2 g3 g4 HP
    generalize a.toNat = x at *
    generalize b.toNat = y at *
    generalize cc.toNat = u at *
    obtain ⟨z, hz⟩ : ∃ z, z = (x + y) / 2 := ⟨_, rfl⟩
    rw [← hz]
    obtain ⟨q, hq⟩ : ∃ q, q = x + y := ⟨_, rfl⟩
    have W1 := hide (wr64 (z := (x : Int) + (y : Int)) (n := q) (by omega) (by omega))
    have W3 : Hid ((q : Int).tdiv 2 = (z : Int)) := hide (by rw [hz, ← hq]; exact (Int.ofNat_tdiv q 2).symm)
    have W4 : Hid (IntKind.u8.wrap (z : Int) = (z : Int)) := hide (by rw [IntKind.wrap_u8]; omega)
    have W5 := hide (wr64 (z := (z : Int)) (n := z) rfl (by omega))
    have W6 := hide (wr64 (z := (x : Int)) (n := x) rfl (by omega))
    have W7 := hide (wr64 (z := (y : Int)) (n := y) rfl (by omega))
    clear hz hq
    obtain ⟨w1, v1⟩ := W1.out
    have w3 := W3.out
    have w4 := W4.out
    obtain ⟨w5, v5⟩ := W5.out
    obtain ⟨w6, v6⟩ := W6.out
    obtain ⟨w7, v7⟩ := W7.out
    clear W1 W3 W4 W5 W6 W7
    go_enter Try.func24, Try.ntmps24
    go_wp2_with fail
    go_ret
    exact ⟨rfl, rfl⟩
  · rw [g4]
    clear g0 g1 g2 g3 g4
    go_enter Try.func24, Try.ntmps24
    go_wp2_with fail
    refine (HP.out _).mono ?_
    rintro e w1 ⟨rfl, rfl⟩
    go_wp2_with fail
    go_ret
    exact ⟨rfl, rfl⟩

set_option maxRecDepth 100000 in
theorem refDepth_any (d : Int) (w : World) : Calls Try.prog 29 #[.int .i64 d] w fun e w' => e = .returned (.bool (isDep d)) ∧ w' = w := by
  by_cases h : d = 1 ∨ d = 2 ∨ d = 4 ∨ d = 8 ∨ d = 16
  · rw [(isDep_iff d).2 h]
    rcases h with rfl | rfl | rfl | rfl | rfl
    all_goals
      go_enter Try.func29, Try.ntmps29
      go_wp2_with fail
      go_ret
      exact ⟨rfl, rfl⟩
  · have e : isDep d = false := by
      cases hx : isDep d with
      | true => exact absurd ((isDep_iff d).1 hx) h
      | false => rfl
    rw [e]
    have h1 : ¬ d = 1 := by omega
    have h2 : ¬ d = 2 := by omega
    have h3 : ¬ d = 4 := by omega
    have h4 : ¬ d = 8 := by omega
    have h5 : ¬ d = 16 := by omega
    have b1 : (d == 1) = false := beq_eq_false_iff_ne.2 h1
    have b2 : (d == 2) = false := beq_eq_false_iff_ne.2 h2
    have b3 : (d == 4) = false := beq_eq_false_iff_ne.2 h3
    have b4 : (d == 8) = false := beq_eq_false_iff_ne.2 h4
    have b5 : (d == 16) = false := beq_eq_false_iff_ne.2 h5
    clear h e
    go_enter Try.func29, Try.ntmps29
    go_wp2_with fail
    go_ret
    exact ⟨rfl, rfl⟩

set_option maxRecDepth 100000 in
set_option maxHeartbeats 4000000 in
theorem refRow_any (w s d : Int) (W : World) : Calls Try.prog 17 #[.int .i64 w, .int .i64 s, .int .i64 d] W fun e W' => e = .returned (.int .i64 (rowI w s d)) ∧ W' = W := by
  have HD := hide (fun W => refDepth_any d W)
  by_cases h1 : 1 ≤ w
  · by_cases h1' : w ≤ 16384
    · by_cases h2 : 1 ≤ s
      · by_cases h3 : s ≤ 4
        · cases hd : isDep d with
          | true =>
            rw [hd] at HD
            obtain ⟨_, b0, b1, b2, b3⟩ := rowI_up w s d ⟨⟨h1, h1'⟩, ⟨h2, h3⟩, hd⟩
            rw [show rowI w s d = (w * s * d + 7) / 8 from if_pos ⟨⟨h1, h1'⟩, ⟨h2, h3⟩, hd⟩]
            obtain ⟨p, hp⟩ : ∃ p, p = w * s := ⟨_, rfl⟩
            rw [← hp] at b0 b1 b2 b3 ⊢
            obtain ⟨q, hq⟩ : ∃ q, q = p * d := ⟨_, rfl⟩
            rw [← hq] at b2 b3 ⊢
            obtain ⟨r, hr⟩ : ∃ r, r = q + 7 := ⟨_, rfl⟩
            rw [← hr]
            have hq3 : r.tdiv 8 = r / 8 := Int.tdiv_eq_ediv_of_nonneg (by omega)
            obtain ⟨z, hz⟩ : ∃ z, z = r / 8 := ⟨_, rfl⟩
            rw [← hz] at hq3 ⊢
            have wr : ∀ z : Int, -1000000000 ≤ z → z ≤ 1000000000 → wrap64 z = z ∧ IntKind.i64.wrap z = z := fun z h1 h2 => ⟨IntWalk.wrap64_in _ ⟨by omega, by omega⟩, by rw [IntKind.wrap_i64]; omega⟩
            have W1 : Hid (wrap64 (w * s) = p ∧ IntKind.i64.wrap (w * s) = p) := hide (by rw [← hp]; exact wr _ (by omega) (by omega))
            have W2 : Hid (wrap64 (p * d) = q ∧ IntKind.i64.wrap (p * d) = q) := hide (by rw [← hq]; exact wr _ (by omega) (by omega))
            have W3 : Hid (wrap64 (q + 7) = r ∧ IntKind.i64.wrap (q + 7) = r) := hide (by rw [← hr]; exact wr _ (by omega) (by omega))
            have W4 : Hid (wrap64 z = z ∧ IntKind.i64.wrap z = z) := hide (wr _ (by omega) (by omega))
            clear hp hq b0 b1 b2 b3 hr hz wr
            obtain ⟨v1, u1⟩ := W1.out
            obtain ⟨v2, u2⟩ := W2.out
            obtain ⟨v3, u3⟩ := W3.out
            obtain ⟨v4, u4⟩ := W4.out
            clear W1 W2 W3 W4
            go_enter Try.func17, Try.ntmps17
            go_wp2_with fail
            refine (HD.out _).mono ?_
            rintro e w1 ⟨rfl, rfl⟩
            go_wp2_with fail
            go_ret
            exact ⟨rfl, rfl⟩
          | false =>
            rw [hd] at HD
            rw [show rowI w s d = 0 from if_neg (fun h => by rw [hd] at h; exact absurd h.2.2 (by simp))]
            go_enter Try.func17, Try.ntmps17
            go_wp2_with fail
            refine (HD.out _).mono ?_
            rintro e w1 ⟨rfl, rfl⟩
            go_wp2_with fail
            go_ret
            exact ⟨rfl, rfl⟩
        · rw [show rowI w s d = 0 from if_neg (fun h => h3 h.2.1.2)]
          go_enter Try.func17, Try.ntmps17
          go_wp2_with fail
          go_ret
          exact ⟨rfl, rfl⟩
      · rw [show rowI w s d = 0 from if_neg (fun h => h2 h.2.1.1)]
        go_enter Try.func17, Try.ntmps17
        go_wp2_with fail
        go_ret
        exact ⟨rfl, rfl⟩
    · rw [show rowI w s d = 0 from if_neg (fun h => h1' h.1.2)]
      go_enter Try.func17, Try.ntmps17
      go_wp2_with fail
      go_ret
      exact ⟨rfl, rfl⟩
  · rw [show rowI w s d = 0 from if_neg (fun h => h1 h.1.1)]
    go_enter Try.func17, Try.ntmps17
    go_wp2_with fail
    go_ret
    exact ⟨rfl, rfl⟩
end Go.Proofs.Ytopjkmobnmaaaaa
