/-
  Proves: for all bytes and all cuts SumsParts tells true, and leaves all that was there as it was. No condition.
-/
import Derived.Test.YteimhpjhmpdmjaaSumK
import Derived.Test.YteimhpjhmpdmjaaOpen
namespace Go.Proofs.Yteimhpjhmpdmjaa.sparts
open Go Go.RowKit Go.ChangeShapes Go.WideShapes Go.ChangeAt

theorem out (A : Option Addr) (n c : Nat) (B : Option Addr) (m d : Nat) (w : World) (hn : n ≤ 9223372036854775807) (hm : m ≤ 9223372036854775807) (h : 8192 < n ∨ 60 < m) :
    Calls Try.prog 3 #[.slice A n c, .slice B m d] w fun e w' => e = .returned (.bool true) ∧ Only [] w w' := by
  by_cases h1 : 8192 < n
  · clear h
    go_enter Try.func3, Try.ntmps3
    go_wp2_with fail
    refine (known_any w).mono ?_
    rintro e w1 ⟨rfl, ho⟩
    go_wp2_with fail
    go_ret
    exact ⟨rfl, ho⟩
  · have h2 : 60 < m := by omega
    clear h
    go_enter Try.func3, Try.ntmps3
    go_wp2_with fail
    refine (known_any w).mono ?_
    rintro e w1 ⟨rfl, ho⟩
    go_wp2_with fail
    go_ret
    exact ⟨rfl, ho⟩

/-- Both sums as they stand. -/
structure St (w0 w : World) (c a : Nat) (l : List UInt8) : Prop where
  oc : Crc w c l
  oa : Adl w a l
  only : Only [] w0 w
  cs : w0.heap.size ≤ c
  ca : c < a

section
variable {w0 w w' : World} {c a : Nat} {l l' : List UInt8}
theorem St.none (h : St w0 w c a l) (ho : Only [] w w') : St w0 w' c a l :=
  ⟨h.oc.only ho (by simp), h.oa.only ho (by simp), h.only.trans ho (by simp), h.cs, h.ca⟩
end

set_option maxRecDepth 100000 in
set_option maxHeartbeats 4000000 in
theorem core (A : Option Addr) (n c : Nat) (l : List UInt8) (B : Option Addr) (m d : Nat) (zs : List Int) (w : World) (hb : Holds w 1 A n (bvals l)) (hl : l.length = n) (hc : n ≤ c) (hA : A = none → c = 0 ∧ n = 0)
    (hB : Holds w 1 B m (zs.map (Value.int .i64))) (hk : zs.length = m) (hz : ∀ z ∈ zs, -9223372036854775808 ≤ z ∧ z ≤ 9223372036854775807) (h1 : n ≤ 8192) (h2 : m ≤ 60) :
    Calls Try.prog 3 #[.slice A n c, .slice B m d] w fun e w' => e = .returned (.bool true) ∧ Only [] w w' := by
  subst hl
  subst hk
  have HB := hide (And.intro hb hB)
  have HZ := hide hz
  have HA := hide hA
  clear hb hB hz hA
  have hn1 : ∀ (g : Nat) (w : World), (binOp .eql 25 (.pointer (some ⟨g, 0, none⟩)) (.pointer none)).run Try.prog w = .ok (.bool false) w := fun g w => by kernel_rfl
  have hn2 : ∀ (g : Nat) (w : World), (binOp .eql 27 (.pointer (some ⟨g, 0, none⟩)) (.pointer none)).run Try.prog w = .ok (.bool false) w := fun g w => by kernel_rfl
  have d1 : decide (8192 < (l.length : Int)) = false := by simp; omega
  have d2 : decide (60 < (zs.length : Int)) = false := by simp; omega
  go_enter Try.func3, Try.ntmps3
  go_wp2_with fail
  refine (known_any w).mono ?_
  rintro e w1 ⟨rfl, ho1⟩
  go_wp2_with fail
  refine (newCrc_any w1).mono ?_
  rintro e w2 ⟨gc, rfl, hgc, hC2, ho2⟩
  go_wp2_with fail
  refine (newAdler_any w2).mono ?_
  rintro e w3 ⟨ga, rfl, hga, hA3, ho3⟩
  have hs1 := ho1.size
  have hlc := hC2.lt
  have st3 : St w w3 gc ga [] := ⟨hC2.only ho3 (by simp), hA3, (ho1.trans ho2 (by simp)).trans ho3 (by simp), by omega, by omega⟩
  have H3 := hide st3
  have hcs : w.heap.size ≤ gc := by omega
  have hca : gc < ga := by omega
  clear st3 ho1 ho2 ho3 hA3 hC2 hs1 hlc hga hgc
  go_wp2_with fail
  go_loopw [7, 8] (fun t i wr => ∃ (j k : Nat), j ≤ l.length ∧ k ≤ zs.length ∧ t = .int .i64 j ∧ i = .int .i64 k ∧ St w wr gc ga (l.take j)) (fun _ i _ => zs.length - (intOf i).toNat)
  case atStart => exact ⟨0, 0, Nat.zero_le _, Nat.zero_le _, rfl, rfl, H3.out⟩
  case round =>
    obtain ⟨j, k, hj, hk, rfl, rfl, hst⟩ := hrel
    have HS := hide hst
    clear hst
    by_cases hlt : k < zs.length
    · by_cases hjt : j < l.length
      · obtain ⟨b, o, rfl, hcell⟩ := HB.out.1.addr (by simpa using (show 0 < l.length by omega))
        obtain ⟨b2, o2, rfl, hcell2⟩ := HB.out.2.addr (by simpa using (show 0 < zs.length by omega))
        have hB2 := HB.out.2.keep HS.out.only (by simp)
        have cz : wr.cell? ⟨b2, o2 + k, none⟩ = some (.int .i64 zs[k]) := by
          obtain ⟨b', o', he, hc'⟩ := hB2.addr (by simpa using (show 0 < zs.length by omega))
          injection he with he; injection he with e1 e2; subst e1; subst e2
          exact hc' k _ (by simp [hlt])
        obtain ⟨r, hr⟩ : ∃ r, r = l.length - j := ⟨_, rfl⟩
        have hr1 : (l.length : Int) - (j : Int) = (r : Int) := by omega
        have hr0 : 0 < r := by omega
        have hrn : r ≤ 8192 := by omega
        obtain ⟨v, hv⟩ : ∃ v, v = zs[k] := ⟨_, rfl⟩
        rw [← hv] at cz
        obtain ⟨z, hz⟩ : ∃ z, z = v.tmod ((r : Int) + 1) := ⟨_, rfl⟩
        have hm : v.tmod ((r : Int) + 1) = z := hz.symm
        have hzu : z < (r : Int) + 1 := by rw [hz]; exact Int.tmod_lt_of_pos _ (by omega)
        have hzl : -((r : Int) + 1) < z := by
          have h1 := Int.tmod_lt_of_pos (-v) (b := (r : Int) + 1) (by omega)
          rw [Int.neg_tmod] at h1
          rw [hz]; omega
        have HR := hide hr
        clear hz hv hcell hcell2 hB2 hr
        by_cases hneg : z < 0
        · obtain ⟨t, rfl⟩ : ∃ t : Nat, z = -(t : Int) := ⟨(-z).toNat, by omega⟩
          have htr : t ≤ r := by omega
          have htl : j + t ≤ l.length := by have := HR.out; omega
          have hbr : Holds wr 1 (some ⟨b, o, none⟩) l.length (bvals l) := HB.out.1.keep HS.out.only (by simp)
          have hcut := hbr.cut (f := j) (m := t) htl
          have hfr := hbr.cut (f := 0) (m := j + t) (by omega)
          simp only [List.drop_zero, Nat.mul_one, Option.map_some, add_none, Nat.add_zero] at hcut hfr
          rw [← bvals_drop, ← bvals_take] at hcut
          rw [← bvals_take] at hfr
          have hblk : b < w.heap.size := HB.out.1.blk (by omega) _ rfl
          have hll : ((l.drop j).take t).length = t := by rw [List.length_take, List.length_drop]; omega
          have hll2 : (l.take (j + t)).length = j + t := by rw [List.length_take]; omega
          have htk : l.take j ++ (l.drop j).take t = l.take (j + t) := List.take_add.symm
          have hw := crcWrite_any gc (l.take j) _ t (c - j) _ wr HS.out.oc hcut hll (by omega)
          rw [htk] at hw
          have HW := hide hw
          have HC := hide (And.intro hcut (And.intro hfr (And.intro hll (And.intro hll2 htk))))
          clear hbr hcut hfr hll hll2 htk hw
          go_wp2_with fail
          refine (HW.out).mono ?_
          rintro e w4 ⟨rfl, hc4, ho4⟩
          have hw := adlerWrite_any ga (l.take j) _ t (c - j) _ w4 (HS.out.oa.only ho4 (by simp; omega)) (HC.out.1.keep ho4 (by simp; omega)) HC.out.2.2.1 (by omega) (by omega) (by intro _ ad ha; injection ha with ha; subst ha; show b ≠ ga; omega)
          rw [HC.out.2.2.2.2] at hw
          have HW5 := hide hw
          have H4 := hide (And.intro hc4 ho4)
          clear hw hc4 ho4 HW
          go_wp2_with fail
          refine (HW5.out).mono ?_
          rintro e w5 ⟨rfl, ha5, ho5⟩
          have st5 : St w w5 gc ga (l.take (j + t)) := ⟨H4.out.1.only ho5 (by simp; omega), ha5, (HS.out.only.trans H4.out.2 (by simp; omega)).trans ho5 (by simp; omega), hcs, hca⟩
          have H5 := hide st5
          have hfr5 := (HC.out.2.1.keep H4.out.2 (by simp; omega)).keep ho5 (by simp; omega)
          have HF := hide hfr5
          clear ha5 ho5 HW5 st5 hfr5
          obtain ⟨X, hX⟩ : ∃ X, X = 4294967295 - crcList 4294967295 (l.take (j + t)) := ⟨_, rfl⟩
          obtain ⟨Y, hY⟩ : ∃ Y, Y = adWord (adOf (l.take (j + t))) := ⟨_, rfl⟩
          have T1 := fun q => hide ((crcSum_any gc _ (w5.drewN q) (H5.out.none ((Only.refl [] w5).drewN q)).oc).mono fun _ _ h => And.intro h.1 h.2.symm)
          have T2 := fun q => hide ((refCrc_any (some ⟨b, o, none⟩) (j + t) c _ (w5.drewN q) (HF.out.keep ((Only.refl [] w5).drewN q) (by simp)) HC.out.2.2.2.1 (by omega)).mono fun _ _ h => And.intro h.1 h.2.symm)
          have T3 := fun q => hide (adlerSum_any ga _ (w5.drewN q) (H5.out.none ((Only.refl [] w5).drewN q)).oa)
          have T4 := fun q => hide ((refAdler_any (some ⟨b, o, none⟩) (j + t) c _ (w5.drewN q) (HF.out.keep ((Only.refl [] w5).drewN q) (by simp)) HC.out.2.2.2.1 (by omega)).mono fun _ _ h => And.intro h.1 h.2.symm)
          rw [← hX] at T1 T2
          rw [← hY] at T3 T4
          clear hX hY
          go_wp2_with fail
          go_quiet ((first | (go_at_call 11; exact Calls.quiet_of_same (T1 _).out) | (go_at_call 12; exact Calls.quiet_of_same (T2 _).out) | (go_at_call 13; exact Calls.quiet_of (T3 _).out) | (go_at_call 14; exact Calls.quiet_of_same (T4 _).out)))
          have H6 := hide (H5.out.none ((Only.refl [] w5).drewN nq))
          go_wp2_with fail
          go_roundw
          case rel => exact ⟨j + t, k + 1, htl, hlt, by go_num, by go_num, H6.out⟩
          case measure => simp [intOf]; omega
        · obtain ⟨t, rfl⟩ : ∃ t : Nat, z = (t : Int) := ⟨z.toNat, by omega⟩
          have htr : t ≤ r := by omega
          have htl : j + t ≤ l.length := by have := HR.out; omega
          have hbr : Holds wr 1 (some ⟨b, o, none⟩) l.length (bvals l) := HB.out.1.keep HS.out.only (by simp)
          have hcut := hbr.cut (f := j) (m := t) htl
          have hfr := hbr.cut (f := 0) (m := j + t) (by omega)
          simp only [List.drop_zero, Nat.mul_one, Option.map_some, add_none, Nat.add_zero] at hcut hfr
          rw [← bvals_drop, ← bvals_take] at hcut
          rw [← bvals_take] at hfr
          have hblk : b < w.heap.size := HB.out.1.blk (by omega) _ rfl
          have hll : ((l.drop j).take t).length = t := by rw [List.length_take, List.length_drop]; omega
          have hll2 : (l.take (j + t)).length = j + t := by rw [List.length_take]; omega
          have htk : l.take j ++ (l.drop j).take t = l.take (j + t) := List.take_add.symm
          have hw := crcWrite_any gc (l.take j) _ t (c - j) _ wr HS.out.oc hcut hll (by omega)
          rw [htk] at hw
          have HW := hide hw
          have HC := hide (And.intro hcut (And.intro hfr (And.intro hll (And.intro hll2 htk))))
          clear hbr hcut hfr hll hll2 htk hw
          go_wp2_with fail
          refine (HW.out).mono ?_
          rintro e w4 ⟨rfl, hc4, ho4⟩
          have hw := adlerWrite_any ga (l.take j) _ t (c - j) _ w4 (HS.out.oa.only ho4 (by simp; omega)) (HC.out.1.keep ho4 (by simp; omega)) HC.out.2.2.1 (by omega) (by omega) (by intro _ ad ha; injection ha with ha; subst ha; show b ≠ ga; omega)
          rw [HC.out.2.2.2.2] at hw
          have HW5 := hide hw
          have H4 := hide (And.intro hc4 ho4)
          clear hw hc4 ho4 HW
          go_wp2_with fail
          refine (HW5.out).mono ?_
          rintro e w5 ⟨rfl, ha5, ho5⟩
          have st5 : St w w5 gc ga (l.take (j + t)) := ⟨H4.out.1.only ho5 (by simp; omega), ha5, (HS.out.only.trans H4.out.2 (by simp; omega)).trans ho5 (by simp; omega), hcs, hca⟩
          have H5 := hide st5
          have hfr5 := (HC.out.2.1.keep H4.out.2 (by simp; omega)).keep ho5 (by simp; omega)
          have HF := hide hfr5
          clear ha5 ho5 HW5 st5 hfr5
          obtain ⟨X, hX⟩ : ∃ X, X = 4294967295 - crcList 4294967295 (l.take (j + t)) := ⟨_, rfl⟩
          obtain ⟨Y, hY⟩ : ∃ Y, Y = adWord (adOf (l.take (j + t))) := ⟨_, rfl⟩
          have T1 := fun q => hide ((crcSum_any gc _ (w5.drewN q) (H5.out.none ((Only.refl [] w5).drewN q)).oc).mono fun _ _ h => And.intro h.1 h.2.symm)
          have T2 := fun q => hide ((refCrc_any (some ⟨b, o, none⟩) (j + t) c _ (w5.drewN q) (HF.out.keep ((Only.refl [] w5).drewN q) (by simp)) HC.out.2.2.2.1 (by omega)).mono fun _ _ h => And.intro h.1 h.2.symm)
          have T3 := fun q => hide (adlerSum_any ga _ (w5.drewN q) (H5.out.none ((Only.refl [] w5).drewN q)).oa)
          have T4 := fun q => hide ((refAdler_any (some ⟨b, o, none⟩) (j + t) c _ (w5.drewN q) (HF.out.keep ((Only.refl [] w5).drewN q) (by simp)) HC.out.2.2.2.1 (by omega)).mono fun _ _ h => And.intro h.1 h.2.symm)
          rw [← hX] at T1 T2
          rw [← hY] at T3 T4
          clear hX hY
          go_wp2_with fail
          go_quiet ((first | (go_at_call 11; exact Calls.quiet_of_same (T1 _).out) | (go_at_call 12; exact Calls.quiet_of_same (T2 _).out) | (go_at_call 13; exact Calls.quiet_of (T3 _).out) | (go_at_call 14; exact Calls.quiet_of_same (T4 _).out)))
          have H6 := hide (H5.out.none ((Only.refl [] w5).drewN nq))
          go_wp2_with fail
          go_roundw
          case rel => exact ⟨j + t, k + 1, htl, hlt, by go_num, by go_num, H6.out⟩
          case measure => simp [intOf]; omega
      · obtain rfl : j = l.length := by omega
        by_cases hcl : c = l.length
        · subst hcl
          have PK : Hid (∀ v, Only [] w v → ∀ g, gc ≤ g → Part.Ok ⟨A, 0, l.drop l.length⟩ v g) := hide (fun v _ g _ => by rw [List.drop_length]; exact ⟨Holds.empty _ _ _, Nat.le_refl _, by simp, fun h => absurd h (by simp)⟩)
          have hdl : (l.drop l.length).length = 0 := by rw [List.length_drop]; omega
          have htk : l.take l.length ++ l.drop l.length = l := List.take_append_drop _ _
          have t1 := ofCrc_one gc (l.take l.length) (A) 0 0 (l.drop l.length) wr HS.out.oc (PK.out wr HS.out.only gc (Nat.le_refl _)) hdl _ rfl
          rw [htk] at t1
          obtain ⟨X, hX⟩ : ∃ X, X = 4294967295 - crcList 4294967295 l := ⟨_, rfl⟩
          obtain ⟨Y, hY⟩ : ∃ Y, Y = adWord (adOf l) := ⟨_, rfl⟩
          rw [← hX] at t1
          have HX := hide (And.intro hX hY)
          have HD := hide (And.intro hdl htk)
          have T1 := hide t1
          clear t1 hX hY hdl htk
          go_wp2_with fail
          refine (T1.out).mono ?_
          rintro e w4 ⟨rfl, _, ho4⟩
          have o4 : Only [] w w4 := HS.out.only.trans ho4 (by simp; omega)
          have a4 : Adl w4 ga (l.take l.length) := HS.out.oa.only ho4 (by simp; omega)
          have t2 := refCrc_any A l.length l.length l w4 (HB.out.1.keep o4 (by simp)) rfl (by omega)
          rw [← HX.out.1] at t2
          have T2 := hide t2
          have t3 := ofAdler_one ga (l.take l.length) (A) 0 0 (l.drop l.length) w4 a4 (PK.out w4 o4 ga (by omega)) HD.out.1 _ rfl
          rw [HD.out.2, ← HX.out.2] at t3
          have T3 := hide t3
          have O4 := hide o4
          clear t2 t3 o4 a4 ho4 T1
          go_wp2_with fail
          refine (T2.out).mono ?_
          rintro e w5 ⟨rfl, rfl⟩
          go_wp2_with fail
          refine (T3.out).mono ?_
          rintro e w5 ⟨rfl, _, ho5⟩
          have o5 : Only [] w w5 := O4.out.trans ho5 (by simp; omega)
          have t4 := refAdler_any A l.length l.length l w5 (HB.out.1.keep o5 (by simp)) rfl (by omega)
          rw [← HX.out.2] at t4
          have T4 := hide t4
          have O5 := hide o5
          clear t4 o5 ho5 T2 T3
          go_wp2_with fail
          refine (T4.out).mono ?_
          rintro e w6 ⟨rfl, rfl⟩
          go_wp2_with fail
          go_ret
          exact ⟨ret_bool (by simp), O5.out⟩
        · have PK : Hid (∀ v, Only [] w v → ∀ g, gc ≤ g → Part.Ok ⟨Option.map (fun x => x.add l.length) A, c - l.length, l.drop l.length⟩ v g) := hide (fun v _ g _ => by rw [List.drop_length]; exact ⟨Holds.empty _ _ _, Nat.zero_le _, by simp, fun h => absurd h (by simp)⟩)
          have hdl : (l.drop l.length).length = 0 := by rw [List.length_drop]; omega
          have htk : l.take l.length ++ l.drop l.length = l := List.take_append_drop _ _
          have t1 := ofCrc_one gc (l.take l.length) (Option.map (fun x => x.add l.length) A) 0 (c - l.length) (l.drop l.length) wr HS.out.oc (PK.out wr HS.out.only gc (Nat.le_refl _)) hdl _ rfl
          rw [htk] at t1
          obtain ⟨X, hX⟩ : ∃ X, X = 4294967295 - crcList 4294967295 l := ⟨_, rfl⟩
          obtain ⟨Y, hY⟩ : ∃ Y, Y = adWord (adOf l) := ⟨_, rfl⟩
          rw [← hX] at t1
          have HX := hide (And.intro hX hY)
          have HD := hide (And.intro hdl htk)
          have T1 := hide t1
          clear t1 hX hY hdl htk
          go_wp2_with fail
          refine (T1.out).mono ?_
          rintro e w4 ⟨rfl, _, ho4⟩
          have o4 : Only [] w w4 := HS.out.only.trans ho4 (by simp; omega)
          have a4 : Adl w4 ga (l.take l.length) := HS.out.oa.only ho4 (by simp; omega)
          have t2 := refCrc_any A l.length c l w4 (HB.out.1.keep o4 (by simp)) rfl (by omega)
          rw [← HX.out.1] at t2
          have T2 := hide t2
          have t3 := ofAdler_one ga (l.take l.length) (Option.map (fun x => x.add l.length) A) 0 (c - l.length) (l.drop l.length) w4 a4 (PK.out w4 o4 ga (by omega)) HD.out.1 _ rfl
          rw [HD.out.2, ← HX.out.2] at t3
          have T3 := hide t3
          have O4 := hide o4
          clear t2 t3 o4 a4 ho4 T1
          go_wp2_with fail
          refine (T2.out).mono ?_
          rintro e w5 ⟨rfl, rfl⟩
          go_wp2_with fail
          refine (T3.out).mono ?_
          rintro e w5 ⟨rfl, _, ho5⟩
          have o5 : Only [] w w5 := O4.out.trans ho5 (by simp; omega)
          have t4 := refAdler_any A l.length c l w5 (HB.out.1.keep o5 (by simp)) rfl (by omega)
          rw [← HX.out.2] at t4
          have T4 := hide t4
          have O5 := hide o5
          clear t4 o5 ho5 T2 T3
          go_wp2_with fail
          refine (T4.out).mono ?_
          rintro e w6 ⟨rfl, rfl⟩
          go_wp2_with fail
          go_ret
          exact ⟨ret_bool (by simp), O5.out⟩
    · obtain rfl : k = zs.length := by omega
      clear hlt
      by_cases hjt : j < l.length
      · have PK : Hid (∀ v, Only [] w v → ∀ g, gc ≤ g → Part.Ok ⟨Option.map (fun x => x.add j) A, c - j, l.drop j⟩ v g) := hide (fun v hv g hg => by
          have h3 := (HB.out.1.keep hv (by simp)).cut (f := j) (m := l.length - j) (by omega)
          simp only [Nat.mul_one] at h3
          rw [← bvals_drop, ← bvals_take, List.take_of_length_le (by rw [List.length_drop]; omega)] at h3
          have hll : (l.drop j).length = l.length - j := List.length_drop
          refine ⟨by { show Holds v 1 _ (l.drop j).length _; rw [hll]; exact h3 }, by { show (l.drop j).length ≤ c - j; omega }, by { show (l.drop j).length ≤ _; omega }, fun _ ad ha => ?_⟩
          obtain ⟨ad0, ha0, rfl⟩ := Option.map_eq_some_iff.1 ha
          have := HB.out.1.blk (by omega) _ ha0
          show (ad0.add j).block ≠ g
          rw [add_block]; omega)
        have hdl : (l.drop j).length = (l.length - j) := by rw [List.length_drop]
        have htk : l.take j ++ l.drop j = l := List.take_append_drop _ _
        have t1 := ofCrc_one gc (l.take j) (Option.map (fun x => x.add j) A) (l.length - j) (c - j) (l.drop j) wr HS.out.oc (PK.out wr HS.out.only gc (Nat.le_refl _)) hdl _ rfl
        rw [htk] at t1
        obtain ⟨X, hX⟩ : ∃ X, X = 4294967295 - crcList 4294967295 l := ⟨_, rfl⟩
        obtain ⟨Y, hY⟩ : ∃ Y, Y = adWord (adOf l) := ⟨_, rfl⟩
        rw [← hX] at t1
        have HX := hide (And.intro hX hY)
        have HD := hide (And.intro hdl htk)
        have T1 := hide t1
        clear t1 hX hY hdl htk
        go_wp2_with fail
        refine (T1.out).mono ?_
        rintro e w4 ⟨rfl, _, ho4⟩
        have o4 : Only [] w w4 := HS.out.only.trans ho4 (by simp; omega)
        have a4 : Adl w4 ga (l.take j) := HS.out.oa.only ho4 (by simp; omega)
        have t2 := refCrc_any A l.length c l w4 (HB.out.1.keep o4 (by simp)) rfl (by omega)
        rw [← HX.out.1] at t2
        have T2 := hide t2
        have t3 := ofAdler_one ga (l.take j) (Option.map (fun x => x.add j) A) (l.length - j) (c - j) (l.drop j) w4 a4 (PK.out w4 o4 ga (by omega)) HD.out.1 _ rfl
        rw [HD.out.2, ← HX.out.2] at t3
        have T3 := hide t3
        have O4 := hide o4
        clear t2 t3 o4 a4 ho4 T1
        go_wp2_with fail
        refine (T2.out).mono ?_
        rintro e w5 ⟨rfl, rfl⟩
        go_wp2_with fail
        refine (T3.out).mono ?_
        rintro e w5 ⟨rfl, _, ho5⟩
        have o5 : Only [] w w5 := O4.out.trans ho5 (by simp; omega)
        have t4 := refAdler_any A l.length c l w5 (HB.out.1.keep o5 (by simp)) rfl (by omega)
        rw [← HX.out.2] at t4
        have T4 := hide t4
        have O5 := hide o5
        clear t4 o5 ho5 T2 T3
        go_wp2_with fail
        refine (T4.out).mono ?_
        rintro e w6 ⟨rfl, rfl⟩
        go_wp2_with fail
        go_ret
        exact ⟨ret_bool (by simp), O5.out⟩
      · obtain rfl : j = l.length := by omega
        by_cases hcl : c = l.length
        · subst hcl
          have PK : Hid (∀ v, Only [] w v → ∀ g, gc ≤ g → Part.Ok ⟨A, 0, l.drop l.length⟩ v g) := hide (fun v _ g _ => by rw [List.drop_length]; exact ⟨Holds.empty _ _ _, Nat.le_refl _, by simp, fun h => absurd h (by simp)⟩)
          have hdl : (l.drop l.length).length = 0 := by rw [List.length_drop]; omega
          have htk : l.take l.length ++ l.drop l.length = l := List.take_append_drop _ _
          have t1 := ofCrc_one gc (l.take l.length) (A) 0 0 (l.drop l.length) wr HS.out.oc (PK.out wr HS.out.only gc (Nat.le_refl _)) hdl _ rfl
          rw [htk] at t1
          obtain ⟨X, hX⟩ : ∃ X, X = 4294967295 - crcList 4294967295 l := ⟨_, rfl⟩
          obtain ⟨Y, hY⟩ : ∃ Y, Y = adWord (adOf l) := ⟨_, rfl⟩
          rw [← hX] at t1
          have HX := hide (And.intro hX hY)
          have HD := hide (And.intro hdl htk)
          have T1 := hide t1
          clear t1 hX hY hdl htk
          go_wp2_with fail
          refine (T1.out).mono ?_
          rintro e w4 ⟨rfl, _, ho4⟩
          have o4 : Only [] w w4 := HS.out.only.trans ho4 (by simp; omega)
          have a4 : Adl w4 ga (l.take l.length) := HS.out.oa.only ho4 (by simp; omega)
          have t2 := refCrc_any A l.length l.length l w4 (HB.out.1.keep o4 (by simp)) rfl (by omega)
          rw [← HX.out.1] at t2
          have T2 := hide t2
          have t3 := ofAdler_one ga (l.take l.length) (A) 0 0 (l.drop l.length) w4 a4 (PK.out w4 o4 ga (by omega)) HD.out.1 _ rfl
          rw [HD.out.2, ← HX.out.2] at t3
          have T3 := hide t3
          have O4 := hide o4
          clear t2 t3 o4 a4 ho4 T1
          go_wp2_with fail
          refine (T2.out).mono ?_
          rintro e w5 ⟨rfl, rfl⟩
          go_wp2_with fail
          refine (T3.out).mono ?_
          rintro e w5 ⟨rfl, _, ho5⟩
          have o5 : Only [] w w5 := O4.out.trans ho5 (by simp; omega)
          have t4 := refAdler_any A l.length l.length l w5 (HB.out.1.keep o5 (by simp)) rfl (by omega)
          rw [← HX.out.2] at t4
          have T4 := hide t4
          have O5 := hide o5
          clear t4 o5 ho5 T2 T3
          go_wp2_with fail
          refine (T4.out).mono ?_
          rintro e w6 ⟨rfl, rfl⟩
          go_wp2_with fail
          go_ret
          exact ⟨ret_bool (by simp), O5.out⟩
        · have PK : Hid (∀ v, Only [] w v → ∀ g, gc ≤ g → Part.Ok ⟨Option.map (fun x => x.add l.length) A, c - l.length, l.drop l.length⟩ v g) := hide (fun v _ g _ => by rw [List.drop_length]; exact ⟨Holds.empty _ _ _, Nat.zero_le _, by simp, fun h => absurd h (by simp)⟩)
          have hdl : (l.drop l.length).length = 0 := by rw [List.length_drop]; omega
          have htk : l.take l.length ++ l.drop l.length = l := List.take_append_drop _ _
          have t1 := ofCrc_one gc (l.take l.length) (Option.map (fun x => x.add l.length) A) 0 (c - l.length) (l.drop l.length) wr HS.out.oc (PK.out wr HS.out.only gc (Nat.le_refl _)) hdl _ rfl
          rw [htk] at t1
          obtain ⟨X, hX⟩ : ∃ X, X = 4294967295 - crcList 4294967295 l := ⟨_, rfl⟩
          obtain ⟨Y, hY⟩ : ∃ Y, Y = adWord (adOf l) := ⟨_, rfl⟩
          rw [← hX] at t1
          have HX := hide (And.intro hX hY)
          have HD := hide (And.intro hdl htk)
          have T1 := hide t1
          clear t1 hX hY hdl htk
          go_wp2_with fail
          refine (T1.out).mono ?_
          rintro e w4 ⟨rfl, _, ho4⟩
          have o4 : Only [] w w4 := HS.out.only.trans ho4 (by simp; omega)
          have a4 : Adl w4 ga (l.take l.length) := HS.out.oa.only ho4 (by simp; omega)
          have t2 := refCrc_any A l.length c l w4 (HB.out.1.keep o4 (by simp)) rfl (by omega)
          rw [← HX.out.1] at t2
          have T2 := hide t2
          have t3 := ofAdler_one ga (l.take l.length) (Option.map (fun x => x.add l.length) A) 0 (c - l.length) (l.drop l.length) w4 a4 (PK.out w4 o4 ga (by omega)) HD.out.1 _ rfl
          rw [HD.out.2, ← HX.out.2] at t3
          have T3 := hide t3
          have O4 := hide o4
          clear t2 t3 o4 a4 ho4 T1
          go_wp2_with fail
          refine (T2.out).mono ?_
          rintro e w5 ⟨rfl, rfl⟩
          go_wp2_with fail
          refine (T3.out).mono ?_
          rintro e w5 ⟨rfl, _, ho5⟩
          have o5 : Only [] w w5 := O4.out.trans ho5 (by simp; omega)
          have t4 := refAdler_any A l.length c l w5 (HB.out.1.keep o5 (by simp)) rfl (by omega)
          rw [← HX.out.2] at t4
          have T4 := hide t4
          have O5 := hide o5
          clear t4 o5 ho5 T2 T3
          go_wp2_with fail
          refine (T4.out).mono ?_
          rintro e w6 ⟨rfl, rfl⟩
          go_wp2_with fail
          go_ret
          exact ⟨ret_bool (by simp), O5.out⟩
theorem walk (A : Option Addr) (n c : Nat) (l : List UInt8) (B : Option Addr) (m d : Nat) (zs : List Int) (w : World) (hb : Holds w 1 A n (bvals l)) (hl : l.length = n) (hc : n ≤ c) (hn : n ≤ 9223372036854775807) (hA : A = none → c = 0 ∧ n = 0) (hB : Holds w 1 B m (zs.map (Value.int .i64))) (hk : zs.length = m) (hz : ∀ z ∈ zs, -9223372036854775808 ≤ z ∧ z ≤ 9223372036854775807) (hm : m ≤ 9223372036854775807) :
    Calls Try.prog 3 #[.slice A n c, .slice B m d] w fun e w' => e = .returned (.bool true) ∧ Only [] w w' := by
  by_cases h : 8192 < n ∨ 60 < m
  · exact out A n c B m d w hn hm h
  · exact core A n c l B m d zs w hb hl hc hA hB hk hz (by omega) (by omega)

set_option maxRecDepth 100000 in
theorem lifted (os : Os) (started : os.Started) (H : Type) (enc : TypeId × Value → H) :
    ReturnsInHanded {} Try.checked os 3 .any (Rows.sumsPartsSpec.pre6 enc Try.prog Try.f3 Rows.sumsPartsRow.domain false)
      (Rows.sumsPartsSpec.post enc Try.prog Try.f3 false true false false) := by
  refine returnsInHanded_of_change (C := Try.checked) own_knob started (by kernel_rfl) Try.func3
    (ChangeSpec.witness6 (enc := enc) (C := Try.checked) false ⟨#[], #[.slice none 0 0, .slice none 0 0], []⟩ 8 (by kernel_rfl) (by kernel_rfl) (by kernel_rfl) (by kernel_rfl)) ?_
  intro W base args ds gs before hval0 hW hcnd _
  have hval : ∀ (j : Nat) t v, Try.f3.params[j]? = some t → args[j]? = some v → Value.okWide Try.prog W .any base t v := hval0
  have hW' := hW
  obtain ⟨p, q, hA0, hV, rfl, hfz, hnd⟩ := hW
  have hA : DataW.TrodAll enc Try.prog W 0 (fun _ => true) true Try.f3.params.toList args.toList ds p := hA0
  rw [Try.params3] at hA hval
  obtain ⟨v0, vs0, d0, ds0, p0, q0, hargs, rfl, rfl, h0, r0⟩ := trodAll_cons hA
  obtain ⟨v1, vs1, d1, ds1, p1, q1, rfl, rfl, rfl, h1, r1⟩ := trodAll_cons r0
  obtain ⟨rfl, rfl, rfl⟩ := trodAll_nil r1
  obtain rfl : args = #[v0, v1] := by cases args; simp_all
  obtain ⟨A, len, c, l, rfl, hc, cm, hnil, hl, hb⟩ := open_bytes Try.underlying22 Try.underlying5 (by kernel_rfl) (hval 0 22 v0 rfl rfl) h0
  obtain ⟨B, m, d, zs, rfl, hd, dm, _, hk, hB, hz⟩ := open_nums Try.underlying23 Try.underlying3 (by kernel_rfl) (hval 1 23 v1 rfl rfl) h1
  unfold maxLen at cm dm
  refine (walk A len c l B m d zs W hb hl hc (by omega) hnil hB hk (fun z hzm => wf_i64 (hz z hzm)) (by omega)).mono fun e W' ⟨he, ho⟩ => ?_
  subst he
  exact ⟨_, rfl, law_post rfl hW' (by intro t ht; revert t; exact of_decide_eq_true (by kernel_rfl)) rfl rfl ho⟩

theorem proved : Rows.SumsPartsSaid :=
  OpenClaim.holds_of_wide 3 Try.f3 rfl rfl rfl rfl rfl rfl rfl ⟨rfl, rfl, rfl, rfl, rfl⟩ rfl rfl rfl rfl rfl (by kernel_rfl) Try.func3 (by kernel_rfl)
    (of_decide_eq_true (by kernel_rfl)) (by unfold Func.isWrapper; first | (rw [if_pos (by decide +kernel)]; kernel_rfl) | (rw [if_neg (by decide +kernel)]; exact ⟨rfl, rfl⟩))
    (fun os started H enc _ => lifted os started H enc)
end Go.Proofs.Yteimhpjhmpdmjaa.sparts
