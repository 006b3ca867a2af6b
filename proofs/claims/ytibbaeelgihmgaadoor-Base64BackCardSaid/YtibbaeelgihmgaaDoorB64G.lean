/-
  Contracts of package base64: Encode.
-/
import Derived.Test.YtibbaeelgihmgaaDoorB64D
import Derived.Test.YtibbaeelgihmgaaDoorB64N
import Derived.Test.YtibbaeelgihmgaaDoorCut
import Derived.OwnWalk
namespace Go.Proofs.YtibbaeelgihmgaaDoor
open Go Go.RowKit

theorem u32_above (m x k : Nat) (hx : x < 2 ^ k) (hm : m * 2 ^ k + x < 4294967296) : bits .or .u32 ((m * 2 ^ k : Nat) : Int) (x : Int) = ((m * 2 ^ k + x : Nat) : Int) := by
  have := u32_join x m k hx (by omega)
  rw [u32_or_nat _ _ (by omega) (by omega)] at this
  rw [u32_or_nat _ _ (by omega) (by omega), Nat.or_comm, this, Nat.add_comm]

theorem v3_or : ∀ (l : List UInt8) (j : Nat) (hj : j < l.length), l.length ≤ 3 → bits .or .u32 (v3 (l.take j) : Nat) ((l[j].toNat : Int) * 2 ^ (16 - 8 * j)) = (v3 (l.take (j + 1)) : Nat) := by
  have key : ∀ m x k : Nat, x < 256 → m < 65536 → k ≤ 16 → m * 2 ^ (8 + k) + x * 2 ^ k < 4294967296 → bits .or .u32 ((m * 2 ^ (8 + k) : Nat) : Int) ((x : Int) * 2 ^ k) = ((m * 2 ^ (8 + k) + x * 2 ^ k : Nat) : Int) := by
    intro m x k hx hm hk hlt
    have e : ((x : Int) * 2 ^ k) = ((x * 2 ^ k : Nat) : Int) := by rw [← two_pow_cast, ← Int.natCast_mul]
    rw [e]
    refine u32_above m (x * 2 ^ k) (8 + k) ?_ hlt
    rw [Nat.pow_add]
    exact Nat.mul_lt_mul_of_pos_right (by omega) (Nat.two_pow_pos k)
  intro l j hj hl
  match l, j, hj, hl with
  | [a], 0, _, _ => have := a.toNat_lt; have := key 0 a.toNat 16 (by omega) (by omega) (by omega) (by omega); simpa [v3] using this
  | [a, b], 0, _, _ => have := a.toNat_lt; have := key 0 a.toNat 16 (by omega) (by omega) (by omega) (by omega); simpa [v3] using this
  | [a, b], 1, _, _ => have := a.toNat_lt; have := b.toNat_lt; have := key a.toNat b.toNat 8 (by omega) (by omega) (by omega) (by omega); simpa [v3] using this
  | [a, b, c], 0, _, _ => have := a.toNat_lt; have := key 0 a.toNat 16 (by omega) (by omega) (by omega) (by omega); simpa [v3] using this
  | [a, b, c], 1, _, _ => have := a.toNat_lt; have := b.toNat_lt; have := key a.toNat b.toNat 8 (by omega) (by omega) (by omega) (by omega); simpa [v3] using this
  | [a, b, c], 2, _, _ =>
    have h1 := a.toNat_lt; have h2 := b.toNat_lt; have h3 := c.toNat_lt
    have := key (a.toNat * 256 + b.toNat) c.toNat 0 (by omega) (by omega) (by omega) (by omega)
    have e : (a.toNat * 256 + b.toNat) * 2 ^ (8 + 0) = a.toNat * 65536 + b.toNat * 256 := by omega
    rw [e] at this
    simpa [v3] using this

theorem u32_and63 (v : Nat) (hv : v < 4294967296) : bits .and .u32 (v : Int) 63 = ((v % 64 : Nat) : Int) := by
  have := u32_and_nat v 63 hv (by omega)
  rw [Nat.and_two_pow_sub_one_eq_mod v 6] at this
  exact this

set_option maxHeartbeats 2000000 in
theorem layFour_any (v : Value) (l0 : List UInt8) (A : Option Addr) (n c : Nat) (l : List UInt8) (w : World) (T : Tab w) (B : Nat) (hB : B ≤ w.heap.size) (hB2 : 1 < B) (hown : w.ownsRow B 5 1 v l0.length (bvals l0)) (hroom : l0.length ≤ 1000000)
    (hb : Holds w 1 A n (bvals l)) (hl : l.length = n) (hn : n ≤ 3) :
    Calls Tryd.prog 28 #[v, .slice A n c] w fun e w' =>
      ∃ v', e = .returned v' ∧ w'.ownsRow B 5 1 v' (l0 ++ four l).length (bvals (l0 ++ four l)) ∧ Since [] w v w' v' := by
  subst hl
  obtain ⟨A0, cap0, rfl, _, _⟩ := own_shape hown
  have HE := hide (And.intro hown (And.intro hb T))
  clear hown hb T
  obtain ⟨i0, hi0, hz0, hz1, hz2⟩ := info_of u8_info
  go_enter Tryd.func28, Tryd.ntmps28
  go_wp2_with fail
  go_loop [5, 12] (fun x i => ∃ j : Nat, j ≤ l.length ∧ i = .int .i64 j ∧ x = .int .u32 (v3 (l.take j) : Nat)) (fun _ i => l.length - (intOf i).toNat)
  case atStart => exact ⟨0, Nat.zero_le _, rfl, rfl⟩
  case round =>
    obtain ⟨j, hj, rfl, rfl⟩ := hrel
    by_cases hlt : j < l.length
    · obtain ⟨b, o, rfl, hc2⟩ := HE.out.2.1.addr (by simpa using (show 0 < l.length by omega))
      have hcell : w.cell? ⟨b, o + j, none⟩ = some (.int .u8 (l[j].toNat : Int)) := hc2 j _ (bvals_get l j hlt)
      have hor := hide (v3_or l j hlt (by omega))
      have hx := l[j].toNat_lt
      clear hc2
      generalize l[j].toNat = x at *
      generalize v3 (l.take j) = y at *
      go_wp2_with fail
      go_round
      case rel =>
        refine ⟨j + 1, hlt, by go_num, ?_⟩
        have e : (x : Int) * 2 ^ (16 - 8 * j) % 4294967296 = (x : Int) * 2 ^ (16 - 8 * j) := by
          rw [← two_pow_cast, ← Int.natCast_mul]
          have : 2 ^ (16 - 8 * j) ≤ 2 ^ 16 := Nat.pow_le_pow_right (by omega) (by omega)
          have h2 : x * 2 ^ (16 - 8 * j) ≤ 255 * 2 ^ 16 := Nat.mul_le_mul (by omega) this
          omega
        rw [e, hor.out]
      case measure => simp [intOf]; omega
    · obtain rfl : j = l.length := by omega
      rw [List.take_length]
      clear hlt hj
      have hy := v3_lt l
      obtain ⟨y, hy2⟩ : ∃ y, y = v3 l := ⟨_, rfl⟩
      rw [← hy2] at hy ⊢
      have HY := hide hy2
      clear hy2
      go_wp2_with fail
      go_loopw [0, 26] (fun q i wr => ∃ (k : Nat) (vr : Value), k ≤ 4 ∧ i = .int .i64 k ∧ q = vr ∧ wr.ownsRow B 5 1 vr (l0.length + k) (bvals (l0 ++ (four l).take k)) ∧ Since [] w (.slice A0 l0.length cap0) wr vr) (fun _ i _ => 4 - (intOf i).toNat)
      case atStart => exact ⟨0, _, Nat.zero_le _, rfl, rfl, by simpa using HE.out.1, Since.refl _ _ _⟩
      case round =>
        obtain ⟨k, vr, hk, rfl, rfl, hownr, hsi⟩ := hrel
        obtain ⟨A1, cc1, rfl, _, _⟩ := own_shape hownr
        by_cases hlt : k < 4
        · have htk := four_take l k hlt
          have hTr : Tab wr := by
            refine HE.out.2.2.only hsi.only ?_ ?_
            · intro hi
              have hb : (Value.slice A0 l0.length cap0).ownBlock = some 0 := by simpa using hi
              have := HE.out.1.lt _ hb
              omega
            · intro hi
              have hb : (Value.slice A0 l0.length cap0).ownBlock = some 1 := by simpa using hi
              have := HE.out.1.lt _ hb
              omega
          unfold sgn at htk
          rw [← HY.out] at htk
          have hBr : B ≤ wr.heap.size := by have := hsi.only.size; omega
          have hrm : l0.length + k + 1 ≤ 140737488355328 := by omega
          have hql : (l0 ++ (four l).take k).length = l0.length + k := by rw [List.length_append, List.length_take, four_length]; omega
          by_cases hkl : k ≤ l.length
          · rw [if_pos hkl] at htk
            obtain ⟨z, hz⟩ : ∃ z, z = y / 2 ^ (18 - 6 * k) := ⟨_, rfl⟩
            have hzI : (y : Int) / 2 ^ (18 - 6 * k) = (z : Int) := by rw [hz, ← two_pow_cast]; rfl
            rw [← hz] at htk
            have hzl : z < 16777216 := by rw [hz]; exact Nat.lt_of_le_of_lt (Nat.div_le_self _ _) hy
            have h63 := u32_and63 z (by omega)
            obtain ⟨m, hm⟩ : ∃ m, m = z % 64 := ⟨_, rfl⟩
            rw [← hm] at htk h63
            have hm64 : m < 64 := by omega
            have hab := abc_all m hm64
            have hcell := hTr.abc m hm64
            rw [hab.2.2.2] at hcell
            obtain ⟨bt, hbt⟩ : ∃ bt : UInt8, bt = UInt8.ofNat (abc m) := ⟨_, rfl⟩
            have hbv : abc m = bt.toNat := by rw [hbt, UInt8.toNat_ofNat']; omega
            rw [← hbt] at htk
            rw [hbv] at hcell
            have HT := hide htk
            have HN := hide (And.intro hownr (And.intro hsi (And.intro hBr (And.intro hrm hql))))
            clear htk hz hm hab hbt hbv hTr hownr hsi hBr hrm hql
            go_wp2_with (at_builtin; refine list_push rfl (.tmp 41) (.tmp 43) rfl wr HN.out.2.2.1 bt HN.out.2.2.2.2 HN.out.1 HN.out.2.2.2.1 wr.heap.size rfl rfl rfl ?_; intro A2 cc2 w1 hp; have H1 := hide hp; clear hp)
            go_roundw
            case rel => exact ⟨k + 1, _, hlt, by go_num, rfl, by rw [HT.out, ← List.append_assoc]; have h1 := H1.out.own; rw [HN.out.2.2.2.2] at h1; exact h1, H1.out.since _ _ _ HN.out.2.1⟩
            case measure => simp [intOf]; omega
          · rw [if_neg hkl] at htk
            have hkl' : decide (k ≤ l.length) = false := by simpa using hkl
            have HT := hide htk
            have HN := hide (And.intro hownr (And.intro hsi (And.intro hBr (And.intro hrm hql))))
            clear htk hTr hownr hsi hBr hrm hql
            go_wp2_with (at_builtin; refine list_push rfl (.tmp 41) (.tmp 43) rfl wr HN.out.2.2.1 61 HN.out.2.2.2.2 HN.out.1 HN.out.2.2.2.1 wr.heap.size rfl rfl rfl ?_; intro A2 cc2 w1 hp; have H1 := hide hp; clear hp)
            go_roundw
            case rel => exact ⟨k + 1, _, hlt, by go_num, rfl, by rw [HT.out, ← List.append_assoc]; have h1 := H1.out.own; rw [HN.out.2.2.2.2] at h1; exact h1, H1.out.since _ _ _ HN.out.2.1⟩
            case measure => simp [intOf]; omega
        · obtain rfl : k = 4 := by omega
          have htk : (four l).take 4 = four l := List.take_of_length_le (by rw [four_length]; omega)
          rw [htk] at hownr
          have HN := hide (And.intro hownr hsi)
          clear hownr hsi htk hlt hk
          go_wp2_with fail
          go_ret
          exact ⟨_, rfl, by simpa [four_length] using HN.out.1, HN.out.2⟩
end Go.Proofs.YtibbaeelgihmgaaDoor
