/-
  Proves: for all bytes and every bit SumsBits tells true, and leaves all that was there as it was. No condition.
-/
import Derived.Test.YteimhpjhmpdmjaaSumK
import Derived.Test.YteimhpjhmpdmjaaOpen
namespace Go.Proofs.Yteimhpjhmpdmjaa.sbits
open Go Go.RowKit Go.ChangeShapes Go.WideShapes Go.ChangeAt

/-- One byte with a bit turned: both sums are other ones. -/
theorem other (l : List UInt8) (m x y : Nat) (hil : m / 8 < l.length) (hx : x = (l[m / 8]'hil).toNat) (hy : y = x ^^^ 2 ^ (m % 8)) :
    4294967295 - crcList 4294967295 ([] ++ l) ≠ 4294967295 - crcList 4294967295 ([] ++ l.set (m / 8) (UInt8.ofNat y)) ∧ adWord (adOf ([] ++ l)) ≠ adWord (adOf ([] ++ l.set (m / 8) (UInt8.ofNat y))) := by
  have hb : UInt8.ofNat y ≠ l[m / 8] := by rw [hy, hx]; exact flip_ne _ _ (by omega)
  refine ⟨fun h => ?_, fun h => ?_⟩
  · exact crcList_set (by omega) l (m / 8) _ hil hb (not_inj (crcList_lt (by omega) _) (crcList_lt (by omega) _) h).symm
  · exact adWord_ne (adOf_lt _).1 (adOf_lt _).1 (fun h2 => adList_set (1, 0) (by decide) l (m / 8) _ hil hb h2.symm) h

theorem out (A : Option Addr) (n c : Nat) (bit : Int) (w : World) (hn : n ≤ 9223372036854775807) (h : 8192 < n ∨ n = 0) :
    Calls Try.prog 4 #[.slice A n c, .int .i64 bit] w fun e w' => e = .returned (.bool true) ∧ Only [] w w' := by
  rcases h with h | rfl
  · go_enter Try.func4, Try.ntmps4
    go_wp2_with fail
    refine (known_any w).mono ?_
    rintro e w1 ⟨rfl, ho⟩
    go_wp2_with fail
    go_ret
    exact ⟨rfl, ho⟩
  · go_enter Try.func4, Try.ntmps4
    go_wp2_with fail
    refine (known_any w).mono ?_
    rintro e w1 ⟨rfl, ho⟩
    go_wp2_with fail
    go_ret
    exact ⟨rfl, ho⟩

set_option maxRecDepth 100000 in
set_option maxHeartbeats 4000000 in
theorem core (A : Option Addr) (n c : Nat) (l : List UInt8) (bit : Int) (w : World) (hb : Holds w 1 A n (bvals l)) (hl : l.length = n) (hc : n ≤ c) (h0 : 0 < n) (h1 : n ≤ 8192) :
    Calls Try.prog 4 #[.slice A n c, .int .i64 bit] w fun e w' => e = .returned (.bool true) ∧ Only [] w w' := by
  subst hl
  have HB := hide hb
  clear hb
  have d1 : decide (8192 < (l.length : Int)) = false := by simp; omega
  have d2 : ((l.length : Int) == 0) = false := by rw [beq_eq_false_iff_ne]; omega
  obtain ⟨i0, hi0, hz0, hz1, hz2⟩ := info_of (show (Try.prog.info? 5).map (fun i => (i.zero, i.size, i.bytes)) = some (some (.int .u8 0), 1, 1) by kernel_rfl)
  obtain ⟨z, hz⟩ : ∃ z, z = bit.tmod (8 * (l.length : Int)) := ⟨_, rfl⟩
  have hm : bit.tmod (8 * (l.length : Int)) = z := hz.symm
  have hzu : z < 8 * (l.length : Int) := by rw [hz]; exact Int.tmod_lt_of_pos _ (by omega)
  have hzl : -(8 * (l.length : Int)) < z := by
    have h1 := Int.tmod_lt_of_pos (-bit) (b := 8 * (l.length : Int)) (by omega)
    rw [Int.neg_tmod] at h1
    rw [hz]; omega
  clear hz
  by_cases hneg : z < 0
  · obtain ⟨m, hmz⟩ : ∃ m : Nat, z + 8 * (l.length : Int) = (m : Int) := ⟨(z + 8 * (l.length : Int)).toNat, by omega⟩
    have hil : m / 8 < l.length := by omega
    obtain ⟨x, hx⟩ : ∃ x, x = (l[m / 8]'hil).toNat := ⟨_, rfl⟩
    have hx8 : x < 256 := by rw [hx]; exact (l[m / 8]'hil).toNat_lt
    obtain ⟨y, hy⟩ : ∃ y, y = x ^^^ 2 ^ (m % 8) := ⟨_, rfl⟩
    have hp2 : 2 ^ (m % 8) < 256 := Nat.pow_lt_pow_right (a := 2) (by omega) (n := 8) (by omega)
    have hy8 : y < 256 := by rw [hy]; exact Nat.xor_lt_two_pow (n := 8) hx8 hp2
    have eX : bits .xor .u8 (x : Int) (2 ^ (m % 8) % 256) = (y : Int) := by
      have e : ((2 : Int) ^ (m % 8) % 256) = ((2 ^ (m % 8) : Nat) : Int) := by rw [← two_pow_cast]; generalize 2 ^ (m % 8) = p at hp2 ⊢; omega
      rw [e, hy]; exact u8_xor_nat _ _ hx8 hp2
    have HX := hide hx
    have hN := other l m x y hil hx hy
    obtain ⟨l2, hl2⟩ : ∃ l2, l2 = l.set (m / 8) (UInt8.ofNat y) := ⟨_, rfl⟩
    have hll : l2.length = l.length := by rw [hl2, List.length_set]
    rw [← hl2] at hN
    obtain ⟨a1, ha1⟩ : ∃ a, a = 4294967295 - crcList 4294967295 ([] ++ l) := ⟨_, rfl⟩
    obtain ⟨a2, ha2⟩ : ∃ a, a = 4294967295 - crcList 4294967295 ([] ++ l2) := ⟨_, rfl⟩
    obtain ⟨b1, hb1⟩ : ∃ a, a = adWord (adOf ([] ++ l)) := ⟨_, rfl⟩
    obtain ⟨b2, hb2⟩ : ∃ a, a = adWord (adOf ([] ++ l2)) := ⟨_, rfl⟩
    rw [← ha1, ← ha2, ← hb1, ← hb2] at hN
    have hne1 : ¬ (a1 : Int) = (a2 : Int) := fun h => hN.1 (Int.ofNat.inj h)
    have hne2 : ¬ (b1 : Int) = (b2 : Int) := fun h => hN.2 (Int.ofNat.inj h)
    have HL := hide (And.intro hl2 hll)
    have HQ := hide (And.intro ha1 (And.intro ha2 (And.intro hb1 hb2)))
    clear hN hl2 hll ha1 ha2 hb1 hb2
    clear hx hy hp2
    go_enter Try.func4, Try.ntmps4
    go_wp2_with fail
    refine (known_any w).mono ?_
    rintro e w1 ⟨rfl, ho⟩
    have hb1 := hide (HB.out.keep ho (by simp))
    have hblk := hide (HB.out.blk h0)
    have hempty : (w1.alloc (.cells #[] 5)).ownsRow w1.heap.size 5 1 (.slice (some ⟨w1.heap.size, 0, none⟩) 0 0) 0 [] :=
      World.ownsRow_made w1 #[] 0 (Nat.le_refl _) (by simp [maxLen]) rfl
    have HM := hide hempty
    clear hempty
    go_wp2_with (at_builtin; refine list_append _ rfl (.tmp 28) (.tmp 29) 22 rfl w1.heap.size 1 1 Try.underlying22 hi0 hz0 hz1 hz2 rfl (by omega) HM.out rfl (hb1.out.keep ((Only.refl [] w1).alloc _) (by simp)) rfl (bvals_one l) (by omega) (by omega) (by simp) ?_; intro A2 c2 w2 hown2 hg2 hat2; simp only [Nat.zero_add, List.nil_append] at hown2 hat2 ⊢; obtain ⟨gx, rfl, hgx, hgl, hfx, hcx⟩ := own_open hown2 h0; have hcell : w2.cell? ⟨gx, m / 8, none⟩ = some (.int .u8 (x : Int)) := by { rw [HX.out]; exact hcx _ _ (bvals_get l (m / 8) hil) }; have hf := hfx (m / 8); have HO2 := hide hown2; have HG2 := hide hg2; clear hown2 hg2 hat2 hcx hfx)
    have hs1 := ho.size
    have hcc := (own_shape HO2.out)
    have hc2 : l.length ≤ c2 := by obtain ⟨_, _, he, hle, _⟩ := hcc; injection he with _ _ he; omega
    clear hcc
    have own3 := own_set HO2.out (m / 8) (.int .u8 (y : Int))
    rw [bvals_set _ _ _ hy8, ← HL.out.1] at own3
    have o3 : Only [] w (w2.setCell ⟨gx, m / 8, none⟩ (.int .u8 (y : Int))) := ((ho.alloc _).grown HG2.out (by
      intro k hk hlt; simp [Value.ownBlock] at hk; omega)).setCell (by simp; omega) _
    have own3' := Holds.of_own own3
    clear own3 HO2 HG2 HM hb1 hcell hf
    generalize w2.setCell ⟨gx, m / 8, none⟩ (.int .u8 (y : Int)) = w3 at *
    have H3 := hide (And.intro o3 own3')
    clear o3 own3'
    have hblk3 : ∀ (f : Nat), w3.heap.size ≤ f → ∀ ad, A = some ad → ad.block ≠ f := fun f hf ad ha => by
      have := hblk.out ad ha; have := H3.out.1.size; omega
    have hgx3 : gx < w3.heap.size := H3.out.2.blk h0 _ rfl
    have hsz3 := H3.out.1.size
    refine (newCrc_any w3).mono ?_
    rintro e w4 ⟨g1, rfl, hg1, hC4, ho4⟩
    have pb : ∀ (v : World) (f : Nat), Only [] w3 v → w3.heap.size ≤ f → Part.Ok ⟨A, c, l⟩ v f := fun v f hv hf => ⟨HB.out.keep (H3.out.1.trans hv (by simp)) (by simp), hc, by show l.length ≤ _; omega, fun _ ad ha => hblk3 f hf ad ha⟩
    have px : ∀ (v : World) (f : Nat), Only [] w3 v → w3.heap.size ≤ f → Part.Ok ⟨some ⟨gx, 0, none⟩, c2, l2⟩ v f := fun v f hv hf => ⟨by { show Holds v 1 _ l2.length _; rw [HL.out.2]; exact H3.out.2.keep hv (by simp) }, by { show l2.length ≤ c2; rw [HL.out.2]; exact hc2 }, by { show l2.length ≤ _; rw [HL.out.2]; omega }, fun _ ad ha => by { injection ha with ha; subst ha; show gx ≠ f; omega }⟩
    have PB := hide pb
    have PX := hide px
    have t1 := ofCrc_one g1 [] A l.length c l w4 hC4 (pb w4 g1 ho4 hg1) rfl _ rfl
    rw [← HQ.out.1] at t1
    have T1 := hide t1
    have HO4 := hide ho4
    clear t1 hC4 pb px ho4 hblk3
    go_wp2_with fail
    refine (T1.out).mono ?_
    rintro e w5 ⟨rfl, _, ho5⟩
    have HO5 := hide (HO4.out.trans ho5 (S := []) (by simp; omega))
    clear ho5 T1 HO4
    go_wp2_with fail
    refine (newCrc_any w5).mono ?_
    rintro e w6 ⟨g2, rfl, hg2, hC6, ho6⟩
    have hsz5 := HO5.out.size
    have HO6 := hide (HO5.out.trans ho6 (by simp))
    have t2 := ofCrc_one g2 [] (some ⟨gx, 0, none⟩) l.length c2 l2 w6 hC6 (PX.out w6 g2 HO6.out (by omega)) HL.out.2 _ rfl
    rw [← HQ.out.2.1] at t2
    have T2 := hide t2
    clear t2 hC6 ho6 HO5
    go_wp2_with fail
    refine (T2.out).mono ?_
    rintro e w7 ⟨rfl, _, ho7⟩
    have HO7 := hide (HO6.out.trans ho7 (S := []) (by simp; omega))
    clear ho7 T2 HO6
    go_wp2_with fail
    refine (newAdler_any w7).mono ?_
    rintro e w8 ⟨g3, rfl, hg3, hC8, ho8⟩
    have hsz7 := HO7.out.size
    have HO8 := hide (HO7.out.trans ho8 (by simp))
    have t3 := ofAdler_one g3 [] A l.length c l w8 hC8 (PB.out w8 g3 HO8.out (by omega)) rfl _ rfl
    rw [← HQ.out.2.2.1] at t3
    have T3 := hide t3
    clear t3 hC8 ho8 HO7
    go_wp2_with fail
    refine (T3.out).mono ?_
    rintro e w9 ⟨rfl, _, ho9⟩
    have HO9 := hide (HO8.out.trans ho9 (S := []) (by simp; omega))
    clear ho9 T3 HO8
    go_wp2_with fail
    refine (newAdler_any w9).mono ?_
    rintro e w10 ⟨g4, rfl, hg4, hC10, ho10⟩
    have hsz9 := HO9.out.size
    have HO10 := hide (HO9.out.trans ho10 (by simp))
    have t4 := ofAdler_one g4 [] (some ⟨gx, 0, none⟩) l.length c2 l2 w10 hC10 (PX.out w10 g4 HO10.out (by omega)) HL.out.2 _ rfl
    rw [← HQ.out.2.2.2] at t4
    have T4 := hide t4
    clear t4 hC10 ho10 HO9
    go_wp2_with fail
    refine (T4.out).mono ?_
    rintro e w11 ⟨rfl, _, ho11⟩
    have HO11 := hide (HO10.out.trans ho11 (S := []) (by simp; omega))
    clear ho11 T4 HO10
    go_wp2_with fail
    go_ret
    exact ⟨ret_bool (Bool.and_eq_true_iff.2 ⟨bne_iff_ne.2 hne1, bne_iff_ne.2 hne2⟩), H3.out.1.trans HO11.out (by simp)⟩
  · obtain ⟨m, rfl⟩ : ∃ m : Nat, z = (m : Int) := ⟨z.toNat, by omega⟩
    have hil : m / 8 < l.length := by omega
    obtain ⟨x, hx⟩ : ∃ x, x = (l[m / 8]'hil).toNat := ⟨_, rfl⟩
    have hx8 : x < 256 := by rw [hx]; exact (l[m / 8]'hil).toNat_lt
    obtain ⟨y, hy⟩ : ∃ y, y = x ^^^ 2 ^ (m % 8) := ⟨_, rfl⟩
    have hp2 : 2 ^ (m % 8) < 256 := Nat.pow_lt_pow_right (a := 2) (by omega) (n := 8) (by omega)
    have hy8 : y < 256 := by rw [hy]; exact Nat.xor_lt_two_pow (n := 8) hx8 hp2
    have eX : bits .xor .u8 (x : Int) (2 ^ (m % 8) % 256) = (y : Int) := by
      have e : ((2 : Int) ^ (m % 8) % 256) = ((2 ^ (m % 8) : Nat) : Int) := by rw [← two_pow_cast]; generalize 2 ^ (m % 8) = p at hp2 ⊢; omega
      rw [e, hy]; exact u8_xor_nat _ _ hx8 hp2
    have HX := hide hx
    have hN := other l m x y hil hx hy
    obtain ⟨l2, hl2⟩ : ∃ l2, l2 = l.set (m / 8) (UInt8.ofNat y) := ⟨_, rfl⟩
    have hll : l2.length = l.length := by rw [hl2, List.length_set]
    rw [← hl2] at hN
    obtain ⟨a1, ha1⟩ : ∃ a, a = 4294967295 - crcList 4294967295 ([] ++ l) := ⟨_, rfl⟩
    obtain ⟨a2, ha2⟩ : ∃ a, a = 4294967295 - crcList 4294967295 ([] ++ l2) := ⟨_, rfl⟩
    obtain ⟨b1, hb1⟩ : ∃ a, a = adWord (adOf ([] ++ l)) := ⟨_, rfl⟩
    obtain ⟨b2, hb2⟩ : ∃ a, a = adWord (adOf ([] ++ l2)) := ⟨_, rfl⟩
    rw [← ha1, ← ha2, ← hb1, ← hb2] at hN
    have hne1 : ¬ (a1 : Int) = (a2 : Int) := fun h => hN.1 (Int.ofNat.inj h)
    have hne2 : ¬ (b1 : Int) = (b2 : Int) := fun h => hN.2 (Int.ofNat.inj h)
    have HL := hide (And.intro hl2 hll)
    have HQ := hide (And.intro ha1 (And.intro ha2 (And.intro hb1 hb2)))
    clear hN hl2 hll ha1 ha2 hb1 hb2
    clear hx hy hp2
    go_enter Try.func4, Try.ntmps4
    go_wp2_with fail
    refine (known_any w).mono ?_
    rintro e w1 ⟨rfl, ho⟩
    have hb1 := hide (HB.out.keep ho (by simp))
    have hblk := hide (HB.out.blk h0)
    have hempty : (w1.alloc (.cells #[] 5)).ownsRow w1.heap.size 5 1 (.slice (some ⟨w1.heap.size, 0, none⟩) 0 0) 0 [] :=
      World.ownsRow_made w1 #[] 0 (Nat.le_refl _) (by simp [maxLen]) rfl
    have HM := hide hempty
    clear hempty
    go_wp2_with (at_builtin; refine list_append _ rfl (.tmp 28) (.tmp 29) 22 rfl w1.heap.size 1 1 Try.underlying22 hi0 hz0 hz1 hz2 rfl (by omega) HM.out rfl (hb1.out.keep ((Only.refl [] w1).alloc _) (by simp)) rfl (bvals_one l) (by omega) (by omega) (by simp) ?_; intro A2 c2 w2 hown2 hg2 hat2; simp only [Nat.zero_add, List.nil_append] at hown2 hat2 ⊢; obtain ⟨gx, rfl, hgx, hgl, hfx, hcx⟩ := own_open hown2 h0; have hcell : w2.cell? ⟨gx, m / 8, none⟩ = some (.int .u8 (x : Int)) := by { rw [HX.out]; exact hcx _ _ (bvals_get l (m / 8) hil) }; have hf := hfx (m / 8); have HO2 := hide hown2; have HG2 := hide hg2; clear hown2 hg2 hat2 hcx hfx)
    have hs1 := ho.size
    have hcc := (own_shape HO2.out)
    have hc2 : l.length ≤ c2 := by obtain ⟨_, _, he, hle, _⟩ := hcc; injection he with _ _ he; omega
    clear hcc
    have own3 := own_set HO2.out (m / 8) (.int .u8 (y : Int))
    rw [bvals_set _ _ _ hy8, ← HL.out.1] at own3
    have o3 : Only [] w (w2.setCell ⟨gx, m / 8, none⟩ (.int .u8 (y : Int))) := ((ho.alloc _).grown HG2.out (by
      intro k hk hlt; simp [Value.ownBlock] at hk; omega)).setCell (by simp; omega) _
    have own3' := Holds.of_own own3
    clear own3 HO2 HG2 HM hb1 hcell hf
    generalize w2.setCell ⟨gx, m / 8, none⟩ (.int .u8 (y : Int)) = w3 at *
    have H3 := hide (And.intro o3 own3')
    clear o3 own3'
    have hblk3 : ∀ (f : Nat), w3.heap.size ≤ f → ∀ ad, A = some ad → ad.block ≠ f := fun f hf ad ha => by
      have := hblk.out ad ha; have := H3.out.1.size; omega
    have hgx3 : gx < w3.heap.size := H3.out.2.blk h0 _ rfl
    have hsz3 := H3.out.1.size
    refine (newCrc_any w3).mono ?_
    rintro e w4 ⟨g1, rfl, hg1, hC4, ho4⟩
    have pb : ∀ (v : World) (f : Nat), Only [] w3 v → w3.heap.size ≤ f → Part.Ok ⟨A, c, l⟩ v f := fun v f hv hf => ⟨HB.out.keep (H3.out.1.trans hv (by simp)) (by simp), hc, by show l.length ≤ _; omega, fun _ ad ha => hblk3 f hf ad ha⟩
    have px : ∀ (v : World) (f : Nat), Only [] w3 v → w3.heap.size ≤ f → Part.Ok ⟨some ⟨gx, 0, none⟩, c2, l2⟩ v f := fun v f hv hf => ⟨by { show Holds v 1 _ l2.length _; rw [HL.out.2]; exact H3.out.2.keep hv (by simp) }, by { show l2.length ≤ c2; rw [HL.out.2]; exact hc2 }, by { show l2.length ≤ _; rw [HL.out.2]; omega }, fun _ ad ha => by { injection ha with ha; subst ha; show gx ≠ f; omega }⟩
    have PB := hide pb
    have PX := hide px
    have t1 := ofCrc_one g1 [] A l.length c l w4 hC4 (pb w4 g1 ho4 hg1) rfl _ rfl
    rw [← HQ.out.1] at t1
    have T1 := hide t1
    have HO4 := hide ho4
    clear t1 hC4 pb px ho4 hblk3
    go_wp2_with fail
    refine (T1.out).mono ?_
    rintro e w5 ⟨rfl, _, ho5⟩
    have HO5 := hide (HO4.out.trans ho5 (S := []) (by simp; omega))
    clear ho5 T1 HO4
    go_wp2_with fail
    refine (newCrc_any w5).mono ?_
    rintro e w6 ⟨g2, rfl, hg2, hC6, ho6⟩
    have hsz5 := HO5.out.size
    have HO6 := hide (HO5.out.trans ho6 (by simp))
    have t2 := ofCrc_one g2 [] (some ⟨gx, 0, none⟩) l.length c2 l2 w6 hC6 (PX.out w6 g2 HO6.out (by omega)) HL.out.2 _ rfl
    rw [← HQ.out.2.1] at t2
    have T2 := hide t2
    clear t2 hC6 ho6 HO5
    go_wp2_with fail
    refine (T2.out).mono ?_
    rintro e w7 ⟨rfl, _, ho7⟩
    have HO7 := hide (HO6.out.trans ho7 (S := []) (by simp; omega))
    clear ho7 T2 HO6
    go_wp2_with fail
    refine (newAdler_any w7).mono ?_
    rintro e w8 ⟨g3, rfl, hg3, hC8, ho8⟩
    have hsz7 := HO7.out.size
    have HO8 := hide (HO7.out.trans ho8 (by simp))
    have t3 := ofAdler_one g3 [] A l.length c l w8 hC8 (PB.out w8 g3 HO8.out (by omega)) rfl _ rfl
    rw [← HQ.out.2.2.1] at t3
    have T3 := hide t3
    clear t3 hC8 ho8 HO7
    go_wp2_with fail
    refine (T3.out).mono ?_
    rintro e w9 ⟨rfl, _, ho9⟩
    have HO9 := hide (HO8.out.trans ho9 (S := []) (by simp; omega))
    clear ho9 T3 HO8
    go_wp2_with fail
    refine (newAdler_any w9).mono ?_
    rintro e w10 ⟨g4, rfl, hg4, hC10, ho10⟩
    have hsz9 := HO9.out.size
    have HO10 := hide (HO9.out.trans ho10 (by simp))
    have t4 := ofAdler_one g4 [] (some ⟨gx, 0, none⟩) l.length c2 l2 w10 hC10 (PX.out w10 g4 HO10.out (by omega)) HL.out.2 _ rfl
    rw [← HQ.out.2.2.2] at t4
    have T4 := hide t4
    clear t4 hC10 ho10 HO9
    go_wp2_with fail
    refine (T4.out).mono ?_
    rintro e w11 ⟨rfl, _, ho11⟩
    have HO11 := hide (HO10.out.trans ho11 (S := []) (by simp; omega))
    clear ho11 T4 HO10
    go_wp2_with fail
    go_ret
    exact ⟨ret_bool (Bool.and_eq_true_iff.2 ⟨bne_iff_ne.2 hne1, bne_iff_ne.2 hne2⟩), H3.out.1.trans HO11.out (by simp)⟩

theorem walk (A : Option Addr) (n c : Nat) (l : List UInt8) (bit : Int) (w : World) (hb : Holds w 1 A n (bvals l)) (hl : l.length = n) (hc : n ≤ c) (hn : n ≤ 9223372036854775807) :
    Calls Try.prog 4 #[.slice A n c, .int .i64 bit] w fun e w' => e = .returned (.bool true) ∧ Only [] w w' := by
  by_cases h : 8192 < n ∨ n = 0
  · exact out A n c bit w hn h
  · exact core A n c l bit w hb hl hc (by omega) (by omega)

set_option maxRecDepth 100000 in
theorem lifted (os : Os) (started : os.Started) (H : Type) (enc : TypeId × Value → H) :
    ReturnsInHanded {} Try.checked os 4 .any (Rows.sumsBitsSpec.pre6 enc Try.prog Try.f4 Rows.sumsBitsRow.domain false)
      (Rows.sumsBitsSpec.post enc Try.prog Try.f4 false true false false) := by
  refine returnsInHanded_of_change (C := Try.checked) own_knob started (by kernel_rfl) Try.func4
    (ChangeSpec.witness6 (enc := enc) (C := Try.checked) false ⟨#[], #[.slice none 0 0, .int .i64 0], []⟩ 8 (by kernel_rfl) (by kernel_rfl) (by kernel_rfl) (by kernel_rfl)) ?_
  intro W base args ds gs before hval0 hW hcnd _
  have hval : ∀ (j : Nat) t v, Try.f4.params[j]? = some t → args[j]? = some v → Value.okWide Try.prog W .any base t v := hval0
  have hW' := hW
  obtain ⟨p, q, hA0, hV, rfl, hfz, hnd⟩ := hW
  have hA : DataW.TrodAll enc Try.prog W 0 (fun _ => true) true Try.f4.params.toList args.toList ds p := hA0
  rw [Try.params4] at hA hval
  obtain ⟨v0, vs0, d0, ds0, p0, q0, hargs, rfl, rfl, h0, r0⟩ := trodAll_cons hA
  obtain ⟨v1, vs1, d1, ds1, p1, q1, rfl, rfl, rfl, h1, r1⟩ := trodAll_cons r0
  obtain ⟨rfl, rfl, rfl⟩ := trodAll_nil r1
  obtain rfl : args = #[v0, v1] := by cases args; simp_all
  obtain ⟨A, len, c, l, rfl, hc, cm, _, hl, hb⟩ := open_bytes Try.underlying22 Try.underlying5 (by kernel_rfl) (hval 0 22 v0 rfl rfl) h0
  obtain ⟨n, rfl, rfl, rfl, _⟩ := open_int Try.underlying3 (hval 1 3 v1 rfl rfl) h1
  unfold maxLen at cm
  refine (walk A len c l n W hb hl hc (by omega)).mono fun e W' ⟨he, ho⟩ => ?_
  subst he
  exact ⟨_, rfl, law_post rfl hW' (by intro t ht; revert t; exact of_decide_eq_true (by kernel_rfl)) rfl rfl ho⟩

theorem proved : Rows.SumsBitsSaid :=
  OpenClaim.holds_of_wide 4 Try.f4 rfl rfl rfl rfl rfl rfl rfl ⟨rfl, rfl, rfl, rfl, rfl⟩ rfl rfl rfl rfl rfl (by kernel_rfl) Try.func4 (by kernel_rfl)
    (of_decide_eq_true (by kernel_rfl)) (by unfold Func.isWrapper; first | (rw [if_pos (by decide +kernel)]; kernel_rfl) | (rw [if_neg (by decide +kernel)]; exact ⟨rfl, rfl⟩))
    (fun os started H enc _ => lifted os started H enc)
end Go.Proofs.Yteimhpjhmpdmjaa.sbits
