/-
  The plain sums, byte by byte.
-/
import Derived.Test.YteimhpjhmpdmjaaSumB
namespace Go.Proofs.Yteimhpjhmpdmjaa
open Go Go.RowKit

set_option maxHeartbeats 1000000 in
theorem refCrc_any (A : Option Addr) (n c : Nat) (l : List UInt8) (w : World) (hb : Holds w 1 A n (bvals l)) (hl : l.length = n) (hn : n ≤ 140737488355328) :
    Calls Try.prog 12 #[.slice A n c] w fun e w' => e = .returned (.int .u32 ((4294967295 - crcList 4294967295 l : Nat) : Int)) ∧ w = w' := by
  subst hl
  have HB := hide hb
  clear hb
  have hsg : IntKind.u32.signed = false := rfl
  go_enter Try.func12, Try.ntmps12
  go_wp2
  go_loop [3, 4] (fun v i => ∃ j : Nat, j ≤ l.length ∧ i = .int .i64 j ∧ v = .int .u32 ((crcList 4294967295 (l.take j) : Nat) : Int)) (fun _ i => l.length - (intOf i).toNat)
  case atStart => exact ⟨0, Nat.zero_le _, rfl, rfl⟩
  case round =>
    obtain ⟨j, hj, rfl, rfl⟩ := hrel
    have hbv := crcList_lt (show 4294967295 < 4294967296 by omega) (l.take j)
    by_cases hlt : j < l.length
    · have hst : crcList 4294967295 (l.take (j + 1)) = crcByte (crcList 4294967295 (l.take j)) l[j].toNat := by
        rw [List.take_succ_eq_append_getElem hlt, crcList_append]; rfl
      obtain ⟨b, o, rfl, hc2⟩ := HB.out.addr (by simpa using (show 0 < l.length by omega))
      have hcell : w.cell? ⟨b, o + j, none⟩ = some (.int .u8 (l[j].toNat : Int)) := hc2 j _ (bvals_get l j hlt)
      have hx := l[j].toNat_lt
      clear hc2
      generalize l[j].toNat = x at *
      generalize crcList 4294967295 (l.take j) = v at *
      obtain ⟨v1, hv1⟩ : ∃ y, y = v ^^^ x := ⟨_, rfl⟩
      have b1 : v1 < 4294967296 := by rw [hv1]; exact Nat.xor_lt_two_pow (n := 32) hbv (by omega)
      have e1 : bits .xor .u32 (v : Int) (x : Int) = (v1 : Int) := by rw [hv1]; exact u32_xor_nat _ _ hbv (by omega)
      have hst2 : crcList 4294967295 (l.take (j + 1)) = crcIt 8 v1 := by rw [hst, hv1]; rfl
      have HS := hide hst2
      clear hst hst2 hv1
      go_wp2
      go_loop [3, 5] (fun v i => ∃ k : Nat, k ≤ 8 ∧ i = .int .i64 k ∧ v = .int .u32 ((crcIt k v1 : Nat) : Int)) (fun _ i => 8 - (intOf i).toNat)
      case atStart => exact ⟨0, Nat.zero_le _, rfl, rfl⟩
      case round =>
        obtain ⟨k, hk, rfl, rfl⟩ := hrel
        have hb := crcIt_lt k b1
        by_cases hlt8 : k < 8
        · have hs := crcIt_succ k v1
          generalize crcIt k v1 = v at *
          have ea := u32_and1' v hb
          unfold crcBit at hs
          have ed : ((v / 2 : Nat) : Int) = (v : Int) / 2 := by omega
          rcases Nat.mod_two_eq_zero_or_one v with h | h
          · rw [h] at ea hs
            rw [if_neg (by omega)] at hs
            have HS2 := hide (And.intro hs ed)
            have ea' : bits .and .u32 (v : Int) 1 = 0 := ea
            clear hs ea h ed
            go_wp2
            go_round
            case rel => exact ⟨k + 1, hlt8, by go_num, by rw [HS2.out.1, HS2.out.2]⟩
            case measure => simp [intOf]; omega
          · rw [h] at ea hs
            rw [if_pos rfl] at hs
            have ex : bits .xor .u32 ((v : Int) / 2) 3988292384 = ((v / 2 ^^^ crcP : Nat) : Int) := by
              rw [← ed]; exact u32_xor_nat (v / 2) crcP (by omega) (by decide)
            have HS2 := hide (And.intro hs ex)
            have ea' : bits .and .u32 (v : Int) 1 = 1 := ea
            clear hs ea h ed ex
            go_wp2
            go_round
            case rel => exact ⟨k + 1, hlt8, by go_num, by rw [HS2.out.1, HS2.out.2]⟩
            case measure => simp [intOf]; omega
        · obtain rfl : k = 8 := by omega
          have hs := HS.out
          clear hlt8 hb
          rw [← hs]
          go_wp2
          go_round
          case rel => exact ⟨j + 1, hlt, by go_num, rfl⟩
          case measure => simp [intOf]; omega
    · obtain rfl : j = l.length := by omega
      have ht : l.take l.length = l := List.take_length
      rw [ht] at hbv
      rw [ht]
      have e2 := u32_not _ hbv
      clear ht hlt
      obtain ⟨v, hv⟩ : ∃ v, v = crcList 4294967295 l := ⟨_, rfl⟩
      rw [← hv] at hbv e2 ⊢
      have HV := hide hv
      clear hv
      go_wp2
      go_ret
      exact ⟨by rw [← HV.out]; rfl, rfl⟩

set_option maxHeartbeats 1000000 in
theorem refAdler_any (A : Option Addr) (n c : Nat) (l : List UInt8) (w : World) (hb : Holds w 1 A n (bvals l)) (hl : l.length = n) (hn : n ≤ 140737488355328) :
    Calls Try.prog 14 #[.slice A n c] w fun e w' => e = .returned (.int .u32 ((adWord (adOf l) : Nat) : Int)) ∧ w = w' := by
  subst hl
  have HB := hide hb
  clear hb
  go_enter Try.func14, Try.ntmps14
  go_wp2
  go_loop [3, 4, 5] (fun x y i => ∃ j : Nat, j ≤ l.length ∧ i = .int .i64 j ∧ x = .int .u32 ((adOf (l.take j)).1 : Int) ∧ y = .int .u32 ((adOf (l.take j)).2 : Int)) (fun _ _ i => l.length - (intOf i).toNat)
  case atStart => exact ⟨0, Nat.zero_le _, rfl, rfl, rfl⟩
  case round =>
    obtain ⟨j, hj, rfl, rfl, rfl⟩ := hrel
    have hlt2 := adOf_lt (l.take j)
    by_cases hlt : j < l.length
    · have hst : adOf (l.take (j + 1)) = (((adOf (l.take j)).1 + l[j].toNat) % 65521, ((adOf (l.take j)).2 + ((adOf (l.take j)).1 + l[j].toNat) % 65521) % 65521) := by
        rw [List.take_succ_eq_append_getElem hlt]
        exact adList_append _ _ _
      obtain ⟨b, o, rfl, hc2⟩ := HB.out.addr (by simpa using (show 0 < l.length by omega))
      have hcell : w.cell? ⟨b, o + j, none⟩ = some (.int .u8 (l[j].toNat : Int)) := hc2 j _ (bvals_get l j hlt)
      have hx := l[j].toNat_lt
      have HS := hide hst
      clear hc2 hst
      generalize l[j].toNat = x at *
      generalize adOf (l.take j) = p at *
      obtain ⟨p1, p2⟩ := p
      simp only at hlt2 ⊢
      go_wp2
      go_round
      case rel => exact ⟨j + 1, hlt, by go_num, by rw [HS.out]; rfl, by rw [HS.out]; rfl⟩
      case measure => simp [intOf]; omega
    · obtain rfl : j = l.length := by omega
      have htk : l.take l.length = l := List.take_length
      rw [htk] at hlt2
      rw [htk]
      clear htk hlt
      obtain ⟨p, hp⟩ : ∃ p, p = adOf l := ⟨_, rfl⟩
      rw [← hp] at hlt2 ⊢
      have HP := hide hp
      clear hp
      obtain ⟨p1, p2⟩ := p
      simp only at hlt2 ⊢
      go_wp2
      go_ret
      refine ⟨ret_int ?_, rfl⟩
      have hw : adWord (adOf l) = p2 * 65536 + p1 := by rw [← HP.out]; rfl
      rw [hw]
      have e := u32_join p1 p2 16 (by omega) (by omega)
      rw [u32_or_nat _ _ (by omega) (by omega)] at e
      have e1 : ((p2 : Int) * 65536) = ((p2 * 2 ^ 16 : Nat) : Int) := by omega
      rw [e1, u32_or_nat _ _ (by omega) (by omega), Nat.or_comm, e]
      omega
end Go.Proofs.Yteimhpjhmpdmjaa
