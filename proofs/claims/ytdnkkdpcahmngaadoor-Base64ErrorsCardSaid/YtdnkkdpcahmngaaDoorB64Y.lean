/-
  Contracts of the reference: Encode.
-/
import Derived.Test.YtdnkkdpcahmngaaDoorB64X
namespace Go.Proofs.YtdnkkdpcahmngaaDoor
open Go Go.RowKit

theorem abc_idx : ∀ m, (h : m < 64) → (⟨#[65, 66, 67, 68, 69, 70, 71, 72, 73, 74, 75, 76, 77, 78, 79, 80, 81, 82, 83, 84, 85, 86, 87, 88, 89, 90, 97, 98, 99, 100, 101, 102, 103, 104, 105, 106, 107, 108, 109, 110, 111, 112, 113, 114, 115, 116, 117, 118, 119, 120, 121, 122, 48, 49, 50, 51, 52, 53, 54, 55, 56, 57, 43, 47]⟩ : ByteArray)[m]'h = UInt8.ofNat (abc m) := by decide

set_option maxRecDepth 100000 in
set_option maxHeartbeats 4000000 in
theorem tEncode (A : Option Addr) (n c : Nat) (l : List UInt8) (w : World) (hb : Holds w 1 A n (bvals l)) (hl : l.length = n) (hn : n ≤ 100000) :
    Calls Tryd.prog 20 #[.slice A n c] w (Makes (enc l) w) := by
  subst hl
  have HB := hide hb
  clear hb
  go_enter Tryd.func20, Tryd.ntmps20
  go_wp2_with fail
  go_loopw [4, 5] (fun q i wr => ∃ (k : Nat) (vr : Value) (p : List UInt8), i = .int .i64 k ∧ k ≤ l.length + 2 ∧ q = vr ∧ wr.ownsRow w.heap.size 5 1 vr p.length (bvals p) ∧ p ++ enc (l.drop k) = enc l ∧ Only [] w wr) (fun _ i _ => l.length + 3 - (intOf i).toNat)
  case atStart => exact ⟨0, _, [], rfl, by omega, rfl, World.ownsRow_nil _ _ _ _, rfl, Only.refl _ _⟩
  case round =>
    obtain ⟨k, vr, p, rfl, hk, rfl, hownr, heq, hon⟩ := hrel
    have hle := congrArg List.length heq
    rw [List.length_append, enc_length l] at hle
    have hpl : p.length ≤ 1000000 := by omega
    clear hle
    obtain ⟨A1, cc1, rfl, _, _⟩ := own_shape hownr
    by_cases hlt : k < l.length
    · have hcell : ∀ j, (hj : k + j < l.length) → ∃ bk o, A = some ⟨bk, o, none⟩ ∧ wr.cell? ⟨bk, o + (k + j), none⟩ = some (.int .u8 (l[k + j].toNat : Int)) := by
        intro j hj
        obtain ⟨bk, o, rfl, hc⟩ := (HB.out.keep hon (by simp)).addr (by simp; omega)
        exact ⟨bk, o, rfl, hc _ _ (bvals_get l _ hj)⟩
      have hst := enc_step (l.drop k) (fun h => by have := congrArg List.length h; simp at this; omega)
      obtain ⟨bk, o, rfl, hc0⟩ := hcell 0 hlt
      have hx0 := l[k].toNat_lt
      have hc0 : wr.cell? ⟨bk, o + k, none⟩ = some (.int .u8 (l[k].toNat : Int)) := hc0
      have hB := hon.size
      rcases (by omega : k + 1 = l.length ∨ k + 2 = l.length ∨ k + 2 < l.length) with h1 | h1 | h1
      have e1 : (l.drop k).take 3 = [l[k]] := by
        rw [List.drop_eq_getElem_cons hlt, h1, List.drop_length]; rfl
      rw [e1] at hst
      have hv : (l[k].toNat : Int) * 65536 = ((v3 [l[k]] : Nat) : Int) := by simp [v3]
      have hV := v3_lt [l[k]]
      obtain ⟨F, hF⟩ : ∃ F, F = [l[k]] := ⟨_, rfl⟩
      have hFl : F.length = 1 := by rw [hF]; rfl
      rw [← hF] at hst hv hV
      have HG := hide (And.intro hownr (And.intro heq (And.intro hon (And.intro hst hFl))))
      clear hF hcell hownr heq hon hst e1 hFl
      generalize l[k].toNat = x0 at *
      have q1 : ((l.length : Nat) : Int) ≤ (k : Int) + 1 := by omega
      have q2 : ((l.length : Nat) : Int) ≤ (k : Int) + 2 := by omega
      have H1 := hide h1
      clear h1
      focus go_wp2_with fail
      rotate_left 1
      have hlt1 : k + 1 < l.length := by omega
      have hx1 := l[k + 1].toNat_lt
      obtain ⟨bk1, o1, he1, hc1⟩ := hcell 1 hlt1
      obtain ⟨rfl, rfl⟩ : bk = bk1 ∧ o = o1 := by injection he1 with he; injection he with h1 h2; exact ⟨h1, h2⟩
      have hc1 : wr.cell? ⟨bk, o + (k + 1), none⟩ = some (.int .u8 (l[k + 1].toNat : Int)) := hc1
      clear he1
      have e1 : (l.drop k).take 3 = [l[k], l[k + 1]] := by
        rw [List.drop_eq_getElem_cons hlt, List.drop_eq_getElem_cons hlt1, h1, List.drop_length]; rfl
      rw [e1] at hst
      have hv : (l[k].toNat : Int) * 65536 + (l[k + 1].toNat : Int) * 256 = ((v3 [l[k], l[k + 1]] : Nat) : Int) := by simp [v3]
      have hV := v3_lt [l[k], l[k + 1]]
      obtain ⟨F, hF⟩ : ∃ F, F = [l[k], l[k + 1]] := ⟨_, rfl⟩
      have hFl : F.length = 2 := by rw [hF]; rfl
      rw [← hF] at hst hv hV
      have HG := hide (And.intro hownr (And.intro heq (And.intro hon (And.intro hst hFl))))
      clear hF hcell hownr heq hon hst e1 hFl
      generalize l[k].toNat = x0 at *
      generalize l[k + 1].toNat = x1 at *
      have q1 : (k : Int) + 1 < (l.length : Nat) := by omega
      have q2 : ((l.length : Nat) : Int) ≤ (k : Int) + 2 := by omega
      have H1 := hide h1
      clear h1
      focus go_wp2_with fail
      rotate_left 1
      have hlt1 : k + 1 < l.length := by omega
      have hx1 := l[k + 1].toNat_lt
      obtain ⟨bk1, o1, he1, hc1⟩ := hcell 1 hlt1
      obtain ⟨rfl, rfl⟩ : bk = bk1 ∧ o = o1 := by injection he1 with he; injection he with h1 h2; exact ⟨h1, h2⟩
      have hc1 : wr.cell? ⟨bk, o + (k + 1), none⟩ = some (.int .u8 (l[k + 1].toNat : Int)) := hc1
      clear he1
      have hlt2 : k + 2 < l.length := by omega
      have hx2 := l[k + 2].toNat_lt
      obtain ⟨bk2, o2, he2, hc2⟩ := hcell 2 hlt2
      obtain ⟨rfl, rfl⟩ : bk = bk2 ∧ o = o2 := by injection he2 with he; injection he with h1 h2; exact ⟨h1, h2⟩
      have hc2 : wr.cell? ⟨bk, o + (k + 2), none⟩ = some (.int .u8 (l[k + 2].toNat : Int)) := hc2
      clear he2
      have e1 : (l.drop k).take 3 = [l[k], l[k + 1], l[k + 2]] := by
        rw [List.drop_eq_getElem_cons hlt, List.drop_eq_getElem_cons hlt1, List.drop_eq_getElem_cons hlt2]; rfl
      rw [e1] at hst
      have hv : (l[k].toNat : Int) * 65536 + (l[k + 1].toNat : Int) * 256 + (l[k + 2].toNat : Int) = ((v3 [l[k], l[k + 1], l[k + 2]] : Nat) : Int) := by simp [v3]
      have hV := v3_lt [l[k], l[k + 1], l[k + 2]]
      obtain ⟨F, hF⟩ : ∃ F, F = [l[k], l[k + 1], l[k + 2]] := ⟨_, rfl⟩
      have hFl : F.length = 3 := by rw [hF]; rfl
      rw [← hF] at hst hv hV
      have HG := hide (And.intro hownr (And.intro heq (And.intro hon (And.intro hst hFl))))
      clear hF hcell hownr heq hon hst e1 hFl
      generalize l[k].toNat = x0 at *
      generalize l[k + 1].toNat = x1 at *
      generalize l[k + 2].toNat = x2 at *
      have q1 : (k : Int) + 1 < (l.length : Nat) := by omega
      have q2 : (k : Int) + 2 < (l.length : Nat) := by omega
      focus go_wp2_with fail
      all_goals
        go_loopw [4, 8] (fun q i wz => ∃ (z : Nat) (vz : Value), z ≤ 4 ∧ i = .int .i64 z ∧ q = vz ∧ wz.ownsRow w.heap.size 5 1 vz (p.length + z) (bvals (p ++ (four F).take z)) ∧ Only [] w wz) (fun _ i _ => 4 - (intOf i).toNat)
        case atStart => exact ⟨0, _, Nat.zero_le _, rfl, rfl, by simpa using HG.out.1, HG.out.2.2.1⟩
        case round =>
          obtain ⟨z, vz, hz, rfl, rfl, hownz, honz⟩ := hrel
          obtain ⟨A2, cc2, rfl, _, _⟩ := own_shape hownz
          by_cases hlz : z < 4
          · have htk := four_take F z hlz
            unfold sgn at htk
            have hBr : w.heap.size ≤ wr.heap.size := honz.size
            have hrm : p.length + z + 1 ≤ 140737488355328 := by omega
            have hql : (p ++ (four F).take z).length = p.length + z := by rw [List.length_append, List.length_take, four_length]; omega
            by_cases hkl : z ≤ F.length
            · rw [if_pos hkl] at htk
              rw [HG.out.2.2.2.2] at hkl
              obtain ⟨y, hy⟩ : ∃ y, y = v3 F / 2 ^ (18 - 6 * z) := ⟨_, rfl⟩
              have hyI : ((v3 F : Nat) : Int) / 2 ^ (18 - 6 * z) = (y : Int) := by rw [hy, ← two_pow_cast]; rfl
              rw [← hy] at htk
              have hyl : y < 16777216 := by rw [hy]; exact Nat.lt_of_le_of_lt (Nat.div_le_self _ _) hV
              obtain ⟨m, hm⟩ : ∃ m, m = y % 64 := ⟨_, rfl⟩
              have hmI : (y : Int) % 64 = (m : Int) := by omega
              rw [← hm] at htk
              have hm64 : m < 64 := by omega
              have hab := abc_all m hm64
              have HT := hide htk
              have HN := hide (And.intro hownz (And.intro honz (And.intro hBr (And.intro hrm hql))))
              clear htk hy hm hownz honz hBr hrm hql
              go_wp2_with (at_builtin; refine list_push rfl (.tmp 55) (.tmp 65) rfl wr HN.out.2.2.1 _ HN.out.2.2.2.2 HN.out.1 HN.out.2.2.2.1 wr.heap.size rfl rfl rfl ?_; intro A3 cc3 w1 hp; have H1 := hide hp; clear hp)
              go_roundw
              case rel =>
                have h1 := H1.out.own
                rw [abc_idx m hm64, HN.out.2.2.2.2] at h1
                refine ⟨z + 1, _, hlz, by go_num, rfl, by rw [HT.out, ← List.append_assoc]; exact h1, (HN.out.2.1.trans H1.out.only (fun i hi hlt => ?_))⟩
                have hb : (Value.slice A2 (p.length + z) cc2).ownBlock = some i := by simpa using hi
                have := HN.out.1.lt i hb
                omega
              case measure => simp [intOf]; omega
            · rw [if_neg hkl] at htk
              rw [HG.out.2.2.2.2] at hkl
              try (exfalso; omega)
              all_goals
                have hkl' : ¬ (z : Int) ≤ (F.length : Nat) := by rw [HG.out.2.2.2.2]; omega
                rw [HG.out.2.2.2.2] at hkl'
                have HT := hide htk
                have HN := hide (And.intro hownz (And.intro honz (And.intro hBr (And.intro hrm hql))))
                clear htk hownz honz hBr hrm hql
                go_wp2_with (at_builtin; refine list_push rfl (.tmp 67) (.tmp 68) rfl wr HN.out.2.2.1 61 HN.out.2.2.2.2 HN.out.1 HN.out.2.2.2.1 wr.heap.size rfl rfl rfl ?_; intro A3 cc3 w1 hp; have H1 := hide hp; clear hp)
                go_roundw
                case rel =>
                  have h1 := H1.out.own
                  rw [HN.out.2.2.2.2] at h1
                  refine ⟨z + 1, _, hlz, by go_num, rfl, by rw [HT.out, ← List.append_assoc]; exact h1, (HN.out.2.1.trans H1.out.only (fun i hi hlt => ?_))⟩
                  have hb : (Value.slice A2 (p.length + z) cc2).ownBlock = some i := by simpa using hi
                  have := HN.out.1.lt i hb
                  omega
                case measure => simp [intOf]; omega
          · obtain rfl : z = 4 := by omega
            have htk : (four F).take 4 = four F := List.take_of_length_le (by rw [four_length]; omega)
            rw [htk] at hownz
            have HN := hide (And.intro hownz honz)
            clear hownz honz htk hlz hz
            go_wp2_with fail
            go_roundw
            case rel =>
              refine ⟨k + 3, _, p ++ four F, by go_num, by omega, rfl, by rw [List.length_append, four_length]; exact HN.out.1, ?_, HN.out.2⟩
              have e := HG.out.2.2.2.1
              rw [List.drop_drop] at e
              rw [List.append_assoc, ← e]
              exact HG.out.2.1
            case measure => simp [intOf]; omega
    · have hnil : l.drop k = [] := List.drop_eq_nil_of_le (by omega)
      rw [hnil] at heq
      have hp : p = enc l := by simpa [enc] using heq
      subst hp
      have HN := hide (And.intro hownr hon)
      clear hownr hon heq hnil
      go_wp2_with fail
      go_ret
      exact ⟨_, rfl, HN.out.1, HN.out.2⟩
end Go.Proofs.YtdnkkdpcahmngaaDoor
