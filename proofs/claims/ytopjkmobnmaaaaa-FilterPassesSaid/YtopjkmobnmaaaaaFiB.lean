/-
  Package filter: Paeth, which filters may be, what a filter takes a byte for.
-/
import Derived.Test.YtopjkmobnmaaaaaFiA
namespace Go.Proofs.Ytopjkmobnmaaaaa
open Go Go.RowKit

set_option maxRecDepth 100000 in
set_option maxHeartbeats 4000000 in
theorem paeth_any (a b c : UInt8) (w : World) : Calls Try.prog 12 #[.int .u8 (a.toNat : Int), .int .u8 (b.toNat : Int), .int .u8 (c.toNat : Int)] w fun e w' => e = .returned (.int .u8 ((pae a b c).toNat : Int)) ∧ w' = w := by
  have HB := hide (fun w => apart_any b c w)
  have HA := hide (fun w => apart_any a c w)
  have key : pae a b c = if dist b.toNat c.toNat ≤ dist a.toNat c.toNat ∧ dist b.toNat c.toNat ≤ dist ((a.toNat : Int) + b.toNat) (2 * (c.toNat : Int)) then a else if dist a.toNat c.toNat ≤ dist ((a.toNat : Int) + b.toNat) (2 * (c.toNat : Int)) then b else c := rfl
  have em : (if (a.toNat : Int) + (b.toNat : Int) - 2 * (c.toNat : Int) < 2 * (c.toNat : Int) - (a.toNat : Int) - (b.toNat : Int) then 2 * (c.toNat : Int) - (a.toNat : Int) - (b.toNat : Int) else (a.toNat : Int) + (b.toNat : Int) - 2 * (c.toNat : Int)) = dist ((a.toNat : Int) + b.toNat) (2 * (c.toNat : Int)) := by
    unfold dist
    split <;> split <;> omega
  have ha := a.toNat_lt
  have hb := b.toNat_lt
  have hc := c.toNat_lt
  generalize dist b.toNat c.toNat = x at *
  generalize dist a.toNat c.toNat = y at *
  generalize dist ((a.toNat : Int) + b.toNat) (2 * (c.toNat : Int)) = z at *
  generalize pae a b c = r at *
  generalize ea : a.toNat = A at *
  generalize eb : b.toNat = B at *
  generalize ec : c.toNat = C at *
  obtain ⟨P, hP⟩ : ∃ P, P = (A : Int) + (B : Int) := ⟨_, rfl⟩
  obtain ⟨D, hD⟩ : ∃ D, D = 2 * (C : Int) := ⟨_, rfl⟩
  obtain ⟨U, hU⟩ : ∃ U, U = P - D := ⟨_, rfl⟩
  obtain ⟨E, hE⟩ : ∃ E, E = D - (A : Int) := ⟨_, rfl⟩
  obtain ⟨V, hV⟩ : ∃ V, V = E - (B : Int) := ⟨_, rfl⟩
  have em2 : (if U < V then V else U) = z := by rw [← em, hV, hE, hU, hP, hD]
  have wr : ∀ z : Int, -1000000 ≤ z → z ≤ 1000000 → wrap64 z = z ∧ IntKind.i64.wrap z = z := fun z h1 h2 => ⟨IntWalk.wrap64_in _ ⟨by omega, by omega⟩, by rw [IntKind.wrap_i64]; omega⟩
  have W1 : Hid (wrap64 ((A : Int) + (B : Int)) = P ∧ IntKind.i64.wrap ((A : Int) + (B : Int)) = P) := hide (by rw [hP]; exact wr _ (by omega) (by omega))
  have W2 : Hid (wrap64 (2 * (C : Int)) = D ∧ IntKind.i64.wrap (2 * (C : Int)) = D) := hide (by rw [hD]; exact wr _ (by omega) (by omega))
  have W3 : Hid (wrap64 (P - D) = U ∧ IntKind.i64.wrap (P - D) = U) := hide (by rw [hU]; exact wr _ (by omega) (by omega))
  have W4 : Hid (wrap64 (D - (A : Int)) = E ∧ IntKind.i64.wrap (D - (A : Int)) = E) := hide (by rw [hE]; exact wr _ (by omega) (by omega))
  have W5 : Hid (wrap64 (E - (B : Int)) = V ∧ IntKind.i64.wrap (E - (B : Int)) = V) := hide (by rw [hV]; exact wr _ (by omega) (by omega))
  have W6 := hide (wr (A : Int) (by omega) (by omega))
  have W7 := hide (wr (B : Int) (by omega) (by omega))
  have W8 := hide (wr (C : Int) (by omega) (by omega))
  clear hP hD hU hE hV em wr
  obtain ⟨w1, v1⟩ := W1.out
  obtain ⟨w2, v2⟩ := W2.out
  obtain ⟨w3, v3⟩ := W3.out
  obtain ⟨w4, v4⟩ := W4.out
  obtain ⟨w5, v5⟩ := W5.out
  obtain ⟨w6, v6⟩ := W6.out
  obtain ⟨w7, v7⟩ := W7.out
  obtain ⟨w8, v8⟩ := W8.out
  clear W1 W2 W3 W4 W5 W6 W7 W8
  by_cases h1 : x ≤ y
  · by_cases h2 : x ≤ z
    · rw [if_pos ⟨h1, h2⟩] at key
      rw [key, ea]
      clear key ha hb hc ea eb ec
      go_enter Try.func12, Try.ntmps12
      go_wp2_with fail
      refine (HB.out _).mono ?_
      rintro e w1 ⟨rfl, rfl⟩
      go_wp2_with fail
      refine (HA.out _).mono ?_
      rintro e w1 ⟨rfl, rfl⟩
      go_wp2_with fail
      go_ret
      exact ⟨rfl, rfl⟩
    · by_cases h3 : y ≤ z
      · exact absurd (Int.le_trans h1 h3) h2
      · rw [if_neg (fun h => h2 h.2), if_neg h3] at key
        rw [key, ec]
        clear key ha hb hc ea eb ec
        go_enter Try.func12, Try.ntmps12
        go_wp2_with fail
        refine (HB.out _).mono ?_
        rintro e w1 ⟨rfl, rfl⟩
        go_wp2_with fail
        refine (HA.out _).mono ?_
        rintro e w1 ⟨rfl, rfl⟩
        go_wp2_with fail
        go_ret
        exact ⟨rfl, rfl⟩
  · by_cases h3 : y ≤ z
    · rw [if_neg (fun h => h1 h.1), if_pos h3] at key
      rw [key, eb]
      clear key ha hb hc ea eb ec
      go_enter Try.func12, Try.ntmps12
      go_wp2_with fail
      refine (HB.out _).mono ?_
      rintro e w1 ⟨rfl, rfl⟩
      go_wp2_with fail
      refine (HA.out _).mono ?_
      rintro e w1 ⟨rfl, rfl⟩
      go_wp2_with fail
      go_ret
      exact ⟨rfl, rfl⟩
    · rw [if_neg (fun h => h1 h.1), if_neg h3] at key
      rw [key, ec]
      clear key ha hb hc ea eb ec
      go_enter Try.func12, Try.ntmps12
      go_wp2_with fail
      refine (HB.out _).mono ?_
      rintro e w1 ⟨rfl, rfl⟩
      go_wp2_with fail
      refine (HA.out _).mono ?_
      rintro e w1 ⟨rfl, rfl⟩
      go_wp2_with fail
      go_ret
      exact ⟨rfl, rfl⟩

end Go.Proofs.Ytopjkmobnmaaaaa
