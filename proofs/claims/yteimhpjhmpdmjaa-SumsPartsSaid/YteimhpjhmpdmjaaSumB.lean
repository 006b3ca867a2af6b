/-
  The table of four bits, and Crc's Write.
-/
import Derived.Test.YteimhpjhmpdmjaaSumA
namespace Go.Proofs.Yteimhpjhmpdmjaa
open Go Go.RowKit

/-- The table behind j rounds. -/
def tabAt (j : Nat) : Array Value := ((List.range 16).map fun i => Value.int .u32 ((if i < j then crcIt 4 i else 0 : Nat) : Int)).toArray

theorem tabAt_size (j : Nat) : (tabAt j).size = 16 := by simp [tabAt]
theorem tabAt_get (j i : Nat) (hi : i < 16) : (tabAt j)[i]? = some (.int .u32 ((if i < j then crcIt 4 i else 0 : Nat) : Int)) := by simp [tabAt, hi]
theorem tabAt_step (j : Nat) : (tabAt j).setIfInBounds j (.int .u32 ((crcIt 4 j : Nat) : Int)) = tabAt (j + 1) := by
  apply Array.ext_getElem?
  intro i
  rw [Array.getElem?_setIfInBounds, tabAt_size]
  by_cases hi : i < 16
  · rw [tabAt_get _ _ hi, tabAt_get _ _ hi]
    by_cases h : j = i
    · subst h; simp [hi]
    · rw [if_neg h]
      by_cases h2 : i < j
      · simp [h2, show i < j + 1 by omega]
      · simp [h2, show ¬ i < j + 1 by omega]
  · have h1 : (tabAt j)[i]? = none := Array.getElem?_eq_none (by rw [tabAt_size]; omega)
    have h2 : (tabAt (j + 1))[i]? = none := Array.getElem?_eq_none (by rw [tabAt_size]; omega)
    rw [h1, h2]
    by_cases h : j = i
    · rw [if_pos h, if_neg (by omega)]
    · rw [if_neg h]
theorem crcIt_succ (k r : Nat) : crcIt (k + 1) r = crcBit (crcIt k r) := by
  induction k generalizing r with
  | zero => rfl
  | succ k ih => rw [crcIt, ih]; rfl

theorem tabAt_one (j : Nat) : (tabAt j).all (·.oneCell') = true := by
  rw [Array.all_eq_true_iff_forall_mem]
  intro v hv
  simp [tabAt] at hv
  obtain ⟨a, _, rfl⟩ := hv
  rfl

theorem u32_and1' (v : Nat) (hv : v < 4294967296) : bits .and .u32 (v : Int) 1 = ((v % 2 : Nat) : Int) := by
  have := u32_and_nat v 1 hv (by omega)
  rw [Nat.and_one_is_mod] at this
  exact this

/-- One bit, as the program reckons it. -/
theorem u32_crcBit (v : Nat) (hv : v < 4294967296) :
    bits .xor .u32 ((v : Int) / 2) (bits .and .u32 3988292384 (-(bits .and .u32 (v : Int) 1) % 4294967296)) = ((crcBit v : Nat) : Int) := by
  have e1 : bits .and .u32 (v : Int) 1 = ((v % 2 : Nat) : Int) := by
    have := u32_and_nat v 1 hv (by omega)
    rw [Nat.and_one_is_mod] at this
    exact this
  have e2 : (v : Int) / 2 = ((v / 2 : Nat) : Int) := by omega
  rw [e1, e2]
  unfold crcBit
  rcases Nat.mod_two_eq_zero_or_one v with h | h
  · rw [h, if_neg (by omega)]
    have : bits .and .u32 3988292384 (-((0 : Nat) : Int) % 4294967296) = ((0 : Nat) : Int) := by decide +kernel
    rw [this, u32_xor_nat _ _ (by omega) (by omega), Nat.xor_zero]
  · rw [h, if_pos rfl]
    have : bits .and .u32 3988292384 (-((1 : Nat) : Int) % 4294967296) = ((3988292384 : Nat) : Int) := by decide +kernel
    rw [this, u32_xor_nat _ _ (by omega) (by omega)]
    rfl

set_option maxHeartbeats 1000000 in
theorem steps_any (w : World) : Calls Try.prog 17 #[] w fun e w' => e = .returned (.agg (tabAt 16)) ∧ Only [] w w' := by
  go_enter Try.func17, Try.ntmps17
  go_wp2
  go_loopw [4] (fun i wr => ∃ (j : Nat) (old : Array Value), j ≤ 16 ∧ i = .int .i64 j ∧ old.size = 16 ∧ Has wr w.heap.size 46 old ∧ Has wr (w.heap.size + 1) 46 (tabAt j) ∧ Only [] w wr) (fun i _ => 16 - (intOf i).toNat)
  case atStart =>
    refine ⟨0, _, Nat.zero_le _, rfl, ?_, (Has.new w _ _).alloc _, ?_, ((Only.refl [] w).alloc _).alloc _⟩
    · rfl
    · have := Has.new (w.alloc (.cells #[.int .u32 0, .int .u32 0, .int .u32 0, .int .u32 0, .int .u32 0, .int .u32 0, .int .u32 0, .int .u32 0, .int .u32 0, .int .u32 0, .int .u32 0, .int .u32 0, .int .u32 0, .int .u32 0, .int .u32 0, .int .u32 0] 46)) 46 (tabAt 0)
      rw [World.size_alloc] at this
      exact this
  case round =>
    obtain ⟨j, old, hj, rfl, hos, h0, h1, ho⟩ := hrel
    by_cases hlt : j < 16
    · have f1 : wr.frozen? ⟨w.heap.size + 1, j, none⟩ = false := h1.free j
      have c1 : wr.cell? ⟨w.heap.size + 1, j, none⟩ = some (.int .u32 0) := by
        rw [h1.cell, tabAt_get _ _ hlt]; simp
      have H := hide (And.intro h0 (And.intro h1 ho))
      clear h0 h1 ho
      go_wp2
      go_loop [3, 9] (fun v i => ∃ k : Nat, k ≤ 4 ∧ i = .int .i64 k ∧ v = .int .u32 ((crcIt k j : Nat) : Int)) (fun _ i => 4 - (intOf i).toNat)
      case atStart => exact ⟨0, Nat.zero_le _, rfl, rfl⟩
      case round =>
        obtain ⟨k, hk, rfl, rfl⟩ := hrel
        have hb := crcIt_lt k (show j < 4294967296 by omega)
        by_cases hlt4 : k < 4
        · have e := u32_crcBit (crcIt k j) hb
          have hs := hide (crcIt_succ k j)
          generalize crcIt k j = v at *
          go_wp2
          go_round
          case rel => exact ⟨k + 1, hlt4, by go_num, by rw [hs.out]⟩
          case measure => simp [intOf]; omega
        · obtain rfl : k = 4 := by omega
          clear hlt4 hb
          have hs : (tabAt j).setIfInBounds j (.int .u32 ((crcIt 4 j : Nat) : Int)) = tabAt (j + 1) := tabAt_step j
          have H2 := hide hs
          clear hs
          go_wp2
          go_roundw
          case rel =>
            have a := H.out.2.1.set j (.int .u32 ((crcIt 4 j : Nat) : Int))
            rw [H2.out] at a
            exact ⟨j + 1, old, hlt, by go_num, hos, H.out.1.other (by simp) _, a, H.out.2.2.setCell (by simp) _⟩
          case measure => simp [intOf]; omega
    · obtain rfl : j = 16 := by omega
      have H1 := hide h1
      have H0 := hide h0
      have HO := hide ho
      clear h0 h1 ho hlt
      go_wp2_with (first
        | (refine wpList_load_row rfl 46 (.tmp 1) rfl (w.heap.size + 1) rfl 46 (tabAt 16) (0, 0) _ H1.out Try.underlying46 rfl (by kernel_rfl) ?_)
        | (refine list_store_row rfl 46 (.tmp 0) (.tmp 23) rfl w.heap.size (tabAt 16) rfl rfl 46 old H0.out (by kernel_rfl) (by rw [tabAt_size]; exact hos) (tabAt_one 16) ?_))
      have hr := H0.out.setRow (tabAt 16)
      refine bodyPost_ret (results_cell_row Try.results17 _ _ w.heap.size 46 (tabAt 16) (0, 0) _ rfl hr Try.underlying46 rfl (by kernel_rfl)) rfl ⟨rfl, HO.out.setRow (by simp) _⟩

theorem crcIt_add (a b r : Nat) : crcIt (a + b) r = crcIt b (crcIt a r) := by
  induction a generalizing r with
  | zero => rw [Nat.zero_add]; rfl
  | succ a ih => rw [Nat.add_right_comm, crcIt, ih]; rfl

/-- Four bits by the table. -/
theorem u32_crc4 (v k : Nat) (hv : v < 4294967296) (hk : k = v % 16) : bits .xor .u32 ((v : Int) / 16) ((crcIt 4 k : Nat) : Int) = ((crcIt 4 v : Nat) : Int) := by
  have e2 : (v : Int) / 16 = ((v / 16 : Nat) : Int) := by omega
  have hb := crcIt_lt 4 (show k < 4294967296 by omega)
  rw [e2, u32_xor_nat _ _ (by omega) hb, crcIt_table 4 v, Nat.xor_comm, hk]
theorem u32_and15 (v : Nat) (hv : v < 4294967296) : bits .and .u32 (v : Int) 15 = ((v % 16 : Nat) : Int) := by
  have := u32_and_nat v 15 hv (by omega)
  rw [Nat.and_two_pow_sub_one_eq_mod v 4] at this
  exact this

set_option maxHeartbeats 1000000 in
theorem crcWrite_any (g : Nat) (l0 : List UInt8) (A : Option Addr) (n c : Nat) (l : List UInt8) (w : World) (h : Crc w g l0) (hb : Holds w 1 A n (bvals l)) (hl : l.length = n) (hn : n ≤ 140737488355328) :
    Calls Try.prog 9 #[.pointer (some ⟨g, 0, none⟩), .slice A n c] w fun e w' =>
      e = .returned (.tuple #[.int .i64 n, .nilIface]) ∧ Crc w' g (l0 ++ l) ∧ Only [g] w w' := by
  subst hl
  go_enter Try.func9, Try.ntmps9
  go_wp2_with fail
  refine (steps_any w).mono ?_
  rintro e w1 ⟨rfl, ho1⟩
  have h1 := h.only ho1 (by simp)
  have hb1 := hb.keep ho1 (by simp)
  have HB := hide hb1
  have Hblk := hide hb1.blk
  clear hb hb1
  have hT := Has.new w1 46 (tabAt 0)
  have HT := hide hT
  clear h hT
  have glt := h1.lt
  have hv0 : crcList 4294967295 l0 < 4294967296 := crcList_lt (by omega) l0
  obtain ⟨v0, hv⟩ : ∃ v, v = crcList 4294967295 l0 := ⟨_, rfl⟩
  rw [← hv] at h1 hv0
  have HV := hide hv
  have eN := u32_not_not v0 hv0
  have hsg : IntKind.u32.signed = false := rfl
  clear hv
  have HE := hide (And.intro ho1 h1)
  clear ho1 h1
  go_wp2_with (refine list_store_row' rfl 46 (.tmp 6) (.tmp 10) rfl w1.heap.size (tabAt 16) rfl rfl 46 (tabAt 0) HT.out (by kernel_rfl) (by rw [tabAt_size, tabAt_size]) (tabAt_one 16) ?_; intro w2 hT2 hO2; have c0 : w2.cell? ⟨g, 0, none⟩ = some (.int .u32 ((4294967295 - v0 : Nat) : Int)) := ((HE.out.2.alloc _).only hO2 (by simp; omega)).cell 0; have f0 : w2.frozen? ⟨g, 0, none⟩ = false := ((HE.out.2.alloc _).only hO2 (by simp; omega)).free 0; have hb2 := (HB.out.keep ((Only.refl [] _).alloc _) (by simp)).keepPos hO2 (fun h0 ad ha _ => by have := Hblk.out h0 ad ha; simp; omega); have HB2 := hide hb2; clear hb2; have HT2 := hide hT2; have HO2 := hide hO2; clear hT2 hO2)
  go_loop [7, 18] (fun v i => ∃ j : Nat, j ≤ l.length ∧ i = .int .i64 j ∧ v = .int .u32 ((crcList v0 (l.take j) : Nat) : Int)) (fun _ i => l.length - (intOf i).toNat)
  case atStart => exact ⟨0, Nat.zero_le _, rfl, rfl⟩
  case round =>
    obtain ⟨j, hj, rfl, rfl⟩ := hrel
    have hbv := crcList_lt hv0 (l.take j)
    by_cases hlt : j < l.length
    · have hst : crcList v0 (l.take (j + 1)) = crcByte (crcList v0 (l.take j)) l[j].toNat := by
        rw [List.take_succ_eq_append_getElem hlt, crcList_append]; rfl
      obtain ⟨b, o, rfl, hc2⟩ := HB2.out.addr (by simpa using (show 0 < l.length by omega))
      have hcell : w2.cell? ⟨b, o + j, none⟩ = some (.int .u8 (l[j].toNat : Int)) := hc2 j _ (bvals_get l j hlt)
      have hx := l[j].toNat_lt
      clear hc2
      generalize l[j].toNat = x at *
      generalize crcList v0 (l.take j) = v at *
      obtain ⟨v1, hv1⟩ : ∃ y, y = v ^^^ x := ⟨_, rfl⟩
      have b1 : v1 < 4294967296 := by rw [hv1]; exact Nat.xor_lt_two_pow (n := 32) hbv (by omega)
      have e1 : bits .xor .u32 (v : Int) (x : Int) = (v1 : Int) := by rw [hv1]; exact u32_xor_nat _ _ hbv (by omega)
      obtain ⟨v2, hv2⟩ : ∃ y, y = crcIt 4 v1 := ⟨_, rfl⟩
      have b2 : v2 < 4294967296 := by rw [hv2]; exact crcIt_lt 4 b1
      obtain ⟨v3, hv3⟩ : ∃ y, y = crcIt 4 v2 := ⟨_, rfl⟩
      have hst2 : crcList v0 (l.take (j + 1)) = v3 := by
        rw [hst, hv3, hv2, hv1, ← crcIt_add]; rfl
      obtain ⟨k1, hk1⟩ : ∃ y, y = v1 % 16 := ⟨_, rfl⟩
      obtain ⟨t1, ht1⟩ : ∃ y, y = crcIt 4 k1 := ⟨_, rfl⟩
      have q1 : k1 < 16 := by omega
      have c1 : w2.cell? ⟨w1.heap.size, k1, none⟩ = some (.int .u32 (t1 : Int)) := by rw [HT2.out.cell, tabAt_get _ _ q1, if_pos q1, ht1]
      have a1 : bits .and .u32 (v1 : Int) 15 = (k1 : Int) := by rw [u32_and15 v1 b1, hk1]
      have x1 : bits .xor .u32 ((v1 : Int) / 16) (t1 : Int) = (v2 : Int) := by rw [ht1, hv2]; exact u32_crc4 v1 k1 b1 hk1
      obtain ⟨k2, hk2⟩ : ∃ y, y = v2 % 16 := ⟨_, rfl⟩
      obtain ⟨t2, ht2⟩ : ∃ y, y = crcIt 4 k2 := ⟨_, rfl⟩
      have q2 : k2 < 16 := by omega
      have c2 : w2.cell? ⟨w1.heap.size, k2, none⟩ = some (.int .u32 (t2 : Int)) := by rw [HT2.out.cell, tabAt_get _ _ q2, if_pos q2, ht2]
      have a2 : bits .and .u32 (v2 : Int) 15 = (k2 : Int) := by rw [u32_and15 v2 b2, hk2]
      have x2 : bits .xor .u32 ((v2 : Int) / 16) (t2 : Int) = (v3 : Int) := by rw [ht2, hv3]; exact u32_crc4 v2 k2 b2 hk2
      have HS := hide hst2
      clear hst hst2 hv1 hv2 hv3 hk1 hk2 ht1 ht2
      go_wp2
      go_round
      case rel => exact ⟨j + 1, hlt, by go_num, by rw [HS.out]⟩
      case measure => simp [intOf]; omega
    · obtain rfl : j = l.length := by omega
      have hbv' : crcList v0 l < 4294967296 := crcList_lt hv0 l
      have ht : l.take l.length = l := List.take_length
      rw [ht] at hbv
      rw [ht]
      have e2 := u32_not _ hbv'
      have hfin : crcList 4294967295 (l0 ++ l) = crcList v0 l := by rw [crcList_append, ← HV.out]
      have HF := hide hfin
      clear ht hlt hfin
      generalize crcList v0 l = v at *
      go_wp2
      go_ret2
      have q := ((HE.out.2.alloc _).only HO2.out (by simp; omega)).set 0 (.int .u32 ((4294967295 - v : Nat) : Int))
      have hsz := HE.out.1.size
      refine ⟨rfl, ?_, ((HE.out.1.alloc _).trans HO2.out (by simp; omega)).of_nil.setCell (by simp) _⟩
      unfold Crc
      rw [HF.out]
      exact q
end Go.Proofs.Yteimhpjhmpdmjaa
