/-
  The document's Right.
-/
import Derived.Test.YtilpegmjkbmldaaDoorLnH
namespace Go.Proofs.YtilpegmjkbmldaaDoor
open Go Go.RowKit

set_option maxRecDepth 100000 in
set_option maxHeartbeats 8000000 in
theorem rright_any (A : Option Addr) (n c : Nat) (L : List Ce) (w : World) (h : LineAt w A n c L) (hn : n ≤ 1000000000) :
    Calls Tryd.prog 13 #[.slice A n c] w fun e w' => e = .returned (.bool (rightL L)) ∧ Only [] w w' := by
  have hl := h.len
  rcases Nat.eq_zero_or_pos n with h0 | h0
  · subst h0
    have hr : rightL L = true := rightL_yes L (by intro i hi; omega)
    rw [hr]
    clear h hl hr hn
    go_enter Tryd.func13, Tryd.ntmps13
    go_wp2_with fail
    go_loopw [3] (fun i wr => i = .int .i64 0 ∧ wr = w) (fun _ _ => 0)
    case atStart => exact ⟨rfl, rfl⟩
    case round =>
      obtain ⟨rfl, rfl⟩ := hrel
      go_wp2_with fail
      go_ret
      exact ⟨rfl, Only.refl _ _⟩
  · obtain ⟨b, o, rfl⟩ := h.addr h0
    have hy := rightL_yes L
    have hno := rightL_no L
    generalize rightL L = R at *
    have H0 := hide (And.intro h (And.intro hn (And.intro hl (And.intro hy hno))))
    clear h hn hl h0 hy hno
    go_enter Tryd.func13, Tryd.ntmps13
    go_wp2_with fail
    go_loopw [3] (fun i wr => ∃ k : Nat, k ≤ n ∧ i = .int .i64 k ∧ (∀ j, j < k → mendAt L j = L.getD j noCe) ∧ wr = w) (fun i _ => n - (intOf i).toNat)
    case atStart => exact ⟨0, Nat.zero_le _, rfl, by intro j hj; omega, rfl⟩
    case round =>
      obtain ⟨k, hk, rfl, hall, rfl⟩ := hrel
      obtain ⟨h, hn, hl, hy, hno⟩ := H0.out
      by_cases hlt : k < n
      · have hL : k < L.length := by omega
        obtain ⟨C, hC⟩ := List.get_some hL
        have hgood := mendAt_eq hC
        obtain ⟨c0, c1, c2, c3, c4⟩ := h.ce k C hC
        have hkk : (k : Int) < (n : Int) := by omega
        have hw1 : IntKind.i64.wrap ((k : Int) + 1) = (k : Int) + 1 := IntWalk.i64_in _ ⟨by omega, by omega⟩
        have hnx : k + 1 < n → ∃ D, L[k + 1]? = some D ∧ kindN L (k + 1) = D.k ∧ wr.cell? ⟨b, o + (k + 1) * 5 + 1, none⟩ = some (.int .i64 D.k) := fun h1 => by
          obtain ⟨D, hD⟩ := List.get_some (L := L) (k := k + 1) (by omega)
          exact ⟨D, hD, kindN_of hD, (h.ce (k + 1) D hD).2.1⟩
        have hpr : ∀ j, k = j + 1 → ∃ D : Ce, aheadN L k = D.k ∧ wr.cell? ⟨b, o + j * 5 + 1, none⟩ = some (.int .i64 D.k) ∧ IntKind.i64.wrap ((k : Int) - 1) = (j : Int) := fun j hj => by
          obtain ⟨D, hD⟩ := List.get_some (L := L) (k := j) (by omega)
          refine ⟨D, ?_, (h.ce j D hD).2.1, by rw [IntWalk.i64_in _ ⟨by omega, by omega⟩]; omega⟩
          unfold aheadN
          rw [if_neg (by omega), show k - 1 = j by omega, kindN_of hD]
        have hout : k + 1 = n → kindN L (k + 1) = 0 := fun h1 => kindN_out (by omega)
        have h00 : k = 0 → aheadN L k = 0 := fun h1 => by unfold aheadN; rw [if_pos h1]
        have HE := hide (And.intro hgood (And.intro (hno k hL) hall))
        generalize aheadN L k = p at *
        generalize kindN L (k + 1) = q at *
        obtain ⟨r, K, a⟩ := C
        unfold goodC at HE
        simp only at HE c0 c1 c2 c3 c4
        clear hgood hC hL h hn hl hy hno hall c2 c3 c4
        by_cases K0 : K = 0
        · subst K0
          clear hnx hpr hout h00
          go_wp2_with fail
          go_roundw
          case rel =>
            refine ⟨k + 1, by omega, by go_num, fun j hj => ?_, trivial⟩
            rcases Nat.lt_or_ge j k with h1 | h1
            · exact HE.out.2.2 j h1
            · obtain rfl : j = k := by omega
              exact HE.out.1.2 (.inl rfl)
          case measure => simp [intOf]; omega
        by_cases K1 : K = 1
        · subst K1
          clear hpr h00
          by_cases hk1 : k + 1 = n
          · have hk2 : (n : Int) ≤ (k : Int) + 1 := by omega
            have hq := hout hk1
            clear hnx hout
            go_wp2_with fail
            go_ret
            rw [HE.out.2.1 (fun he => by rcases HE.out.1.1 he with h1 | h1 | h1 <;> omega)]
            exact ⟨rfl, Only.refl _ _⟩
          · obtain ⟨D, _, hD2, hD3⟩ := hnx (by omega)
            have hk2 : ¬ (n : Int) ≤ (k : Int) + 1 := by omega
            have hk3 : (k : Int) + 1 < (n : Int) := by omega
            clear hout hnx
            rw [← hD2] at hD3
            clear hD2
            by_cases hq : q = 2
            · subst hq
              go_wp2_with fail
              go_roundw
              case rel =>
                refine ⟨k + 1, by omega, by go_num, fun j hj => ?_, trivial⟩
                rcases Nat.lt_or_ge j k with h1 | h1
                · exact HE.out.2.2 j h1
                · obtain rfl : j = k := by omega
                  exact HE.out.1.2 (.inr (.inl ⟨rfl, rfl⟩))
              case measure => simp [intOf]; omega
            · go_wp2_with fail
              go_ret
              rw [HE.out.2.1 (fun he => by rcases HE.out.1.1 he with h1 | h1 | h1 <;> omega)]
              exact ⟨rfl, Only.refl _ _⟩
        by_cases K2 : K = 2
        · subst K2
          clear hnx hout
          by_cases hk0 : k = 0
          · subst hk0
            have hp := h00 rfl
            clear hpr h00
            go_wp2_with fail
            go_ret
            rw [HE.out.2.1 (fun he => by rcases HE.out.1.1 he with h1 | h1 | h1 <;> omega)]
            exact ⟨rfl, Only.refl _ _⟩
          · obtain ⟨j, hj⟩ : ∃ j, k = j + 1 := ⟨k - 1, by omega⟩
            obtain ⟨D, hD2, hD3, hw2⟩ := hpr j hj
            have hk2 : ¬ (k : Int) = 0 := by omega
            have hk3 : (j : Int) < (n : Int) := by omega
            clear hpr h00
            rw [← hD2] at hD3
            clear hD2
            have HJ := hide hj
            clear hj
            by_cases hp : p = 1
            · subst hp
              by_cases hr : r = 0
              · subst hr
                go_wp2_with fail
                go_roundw
                case rel =>
                  refine ⟨k + 1, by omega, by go_num, fun j hj => ?_, trivial⟩
                  rcases Nat.lt_or_ge j k with h1 | h1
                  · exact HE.out.2.2 j h1
                  · obtain rfl : j = k := by omega
                    exact HE.out.1.2 (.inr (.inr ⟨rfl, rfl, rfl⟩))
                case measure => simp [intOf]; omega
              · have hr2 : (r != 0) = true := by simpa using hr
                go_wp2_with fail
                go_ret
                rw [HE.out.2.1 (fun he => by rcases HE.out.1.1 he with h1 | h1 | h1 <;> omega)]
                exact ⟨rfl, Only.refl _ _⟩
            · go_wp2_with fail
              go_ret
              rw [HE.out.2.1 (fun he => by rcases HE.out.1.1 he with h1 | h1 | h1 <;> omega)]
              exact ⟨rfl, Only.refl _ _⟩
        · clear hnx hpr hout h00
          rcases Classical.em (K < 0) with k3 | k3
          · go_wp2_with fail
            go_ret
            rw [HE.out.2.1 (fun he => by rcases HE.out.1.1 he with h1 | h1 | h1 <;> omega)]
            exact ⟨rfl, Only.refl _ _⟩
          · have k4 : (2 : Int) < K := by omega
            go_wp2_with fail
            go_ret
            rw [HE.out.2.1 (fun he => by rcases HE.out.1.1 he with h1 | h1 | h1 <;> omega)]
            exact ⟨rfl, Only.refl _ _⟩
      · obtain rfl : k = n := by omega
        have hR := hy (by rw [hl]; exact hall)
        subst hR
        clear h hn hl hno hall hy
        go_wp2_with fail
        go_ret
        exact ⟨rfl, Only.refl _ _⟩
end Go.Proofs.YtilpegmjkbmldaaDoor
