/-
  Proves: for all bytes, flags and numbers, InflateFronts tells true, and leaves all that was there as it was. No condition.
-/
import Derived.Test.YtglkfgpefpebmaaDoorInfV
import Derived.Test.YtglkfgpefpebmaaDoorInfW
namespace Go.Proofs.YtglkfgpefpebmaaDoor.ifronts
open Go Go.RowKit Go.ChangeShapes Go.WideShapes Go.ChangeAt

theorem tmod_lt (z : Int) (d : Nat) (hd : 0 < d) : (z.tmod (d : Int)).natAbs < d := by
  rw [Int.natAbs_tmod, Int.natAbs_natCast]
  exact Nat.mod_lt _ hd

set_option maxRecDepth 100000 in
theorem out (A : Option Addr) (n c : Nat) (fx : Bool) (z : Int) (w : World) (h : 600 < n) :
    Calls Tryd.prog 5 #[.slice A n c, .bool fx, .int .i64 z] w fun e w' => e = .returned (.bool true) ∧ Only [] w w' := by
  have HK := hide (knownI_any w)
  have h1' : (600 : Int) < (n : Int) := by omega
  clear h
  go_enter Tryd.func5, Tryd.ntmps5
  go_wp2_with fail
  refine (HK.out).mono ?_
  rintro e w1 ⟨rfl, ho⟩
  have HO := hide ho
  clear ho
  go_wp2_with fail
  go_ret
  exact ⟨rfl, HO.out⟩

set_option maxRecDepth 100000 in
set_option maxHeartbeats 8000000 in
theorem inn (A : Option Addr) (n c : Nat) (b : List UInt8) (fx : Bool) (z : Int) (w : World) (hb : Holds w 1 A n (bvals b)) (hl : b.length = n) (hn : n ≤ 600) :
    Calls Tryd.prog 5 #[.slice A n c, .bool fx, .int .i64 z] w fun e w' => e = .returned (.bool true) ∧ Only [] w w' := by
  subst hl
  have HK := hide (knownI_any w)
  have d1 : ¬ (600 : Int) < (b.length : Int) := by omega
  have HB := hide (And.intro hb hn)
  clear hb hn
  go_enter Tryd.func5, Tryd.ntmps5
  go_wp2_with fail
  refine (HK.out).mono ?_
  rintro e w1 ⟨rfl, ho1⟩
  have H1 := hide (And.intro ho1 (store_any A b.length c b w1 (HB.out.1.keep ho1 (by simp)) rfl (by have := HB.out.2; omega)))
  clear ho1
  go_wp2_with fail
  refine (H1.out.2).mono ?_
  rintro e w2 ⟨v2, rfl, hown2, ho2⟩
  have H2 := hide (And.intro (own_mono hown2 (Nat.zero_le _)) (H1.out.1.trans ho2 (S := []) (by simp)))
  clear hown2 ho2
  cases fx with
  | false =>
    obtain ⟨bs, hbs⟩ : ∃ bs, bs = storeB true b := ⟨_, rfl⟩
    have hst : IsStream b bs := .inl ⟨hbs, by have := HB.out.2; omega⟩
    rw [← hbs] at H2
    have HX := hide (And.intro H2.out.1 (And.intro H2.out.2 hst))
    obtain ⟨wx, hwx⟩ : ∃ wx, wx = w2 := ⟨_, rfl⟩
    rw [← hwx] at HX ⊢
    clear hbs hst H2 hwx
    obtain ⟨A3, c3, rfl, hc3, _⟩ := own_shape HX.out.1
    have hlen := HX.out.2.2.len_le
    have hL0 : ¬ (bs.length : Int) = 0 := by omega
    have hL1 : ((bs.length : Int) == 0) = false := beq_eq_false_iff_ne.2 (by omega)
    obtain ⟨t, ht⟩ : ∃ t, t = z.tmod (bs.length : Int) := ⟨_, rfl⟩
    obtain ⟨k, hk, hkz⟩ : ∃ k : Nat, k < bs.length ∧ ((0 ≤ t ∧ t = (k : Int)) ∨ (t < 0 ∧ t + (bs.length : Int) = (k : Int))) := by
      have h1 := tmod_lt z bs.length hlen.1
      rw [← ht] at h1
      rcases Int.lt_or_le t 0 with h | h
      · exact ⟨(t + bs.length).toNat, by omega, .inr ⟨h, by omega⟩⟩
      · exact ⟨t.toNat, by omega, .inl ⟨h, by omega⟩⟩
    have hsl := run_upto A3 bs.length c3 k (by omega)
    have hI := inflate_front b bs HX.out.2.2 A3 k c3 wx hk ((Holds.of_own HX.out.1).upto k (by omega)) (by omega) (by have := HB.out.2; omega) (by have := HB.out.2; omega)
    have HI := hide hI
    have hb1 : bs.length ≤ 1000000 := by have := HB.out.2; omega
    clear hI hc3 hlen
    generalize bs.length = L at *
    have ht' : z.tmod (L : Int) = t := ht.symm
    clear ht
    rcases hkz with ⟨h0, hkz⟩ | ⟨h0, hkz⟩
    · subst hkz
      have hkc : (0 : Int) ≤ (k : Int) := by omega
      go_wp2_with fail
      refine (HI.out).mono ?_
      rintro e w5 ⟨ho5, rfl⟩
      have HO5 := hide (HX.out.2.1.trans ho5 (S := []) (by simp))
      clear ho5
      go_wp2_with fail
      go_ret
      exact ⟨rfl, HO5.out⟩
    · go_wp2_with fail
      refine (HI.out).mono ?_
      rintro e w5 ⟨ho5, rfl⟩
      have HO5 := hide (HX.out.2.1.trans ho5 (S := []) (by simp))
      clear ho5
      go_wp2_with fail
      go_ret
      exact ⟨rfl, HO5.out⟩
  | true =>
    have HFx := hide (fixedP_any A b.length c b w2 (HB.out.1.keep H2.out.2 (by simp)) rfl (by have := HB.out.2; omega))
    go_wp2_with fail
    refine (HFx.out).mono ?_
    rintro e wx ⟨v3, bs, rfl, hfx, hown3, ho3⟩
    have HX := hide (And.intro (own_mono hown3 (Nat.zero_le _)) (And.intro (H2.out.2.trans ho3 (S := []) (by simp)) (show IsStream b bs from .inr hfx)))
    clear hfx hown3 ho3
    obtain ⟨A3, c3, rfl, hc3, _⟩ := own_shape HX.out.1
    have hlen := HX.out.2.2.len_le
    have hL0 : ¬ (bs.length : Int) = 0 := by omega
    have hL1 : ((bs.length : Int) == 0) = false := beq_eq_false_iff_ne.2 (by omega)
    obtain ⟨t, ht⟩ : ∃ t, t = z.tmod (bs.length : Int) := ⟨_, rfl⟩
    obtain ⟨k, hk, hkz⟩ : ∃ k : Nat, k < bs.length ∧ ((0 ≤ t ∧ t = (k : Int)) ∨ (t < 0 ∧ t + (bs.length : Int) = (k : Int))) := by
      have h1 := tmod_lt z bs.length hlen.1
      rw [← ht] at h1
      rcases Int.lt_or_le t 0 with h | h
      · exact ⟨(t + bs.length).toNat, by omega, .inr ⟨h, by omega⟩⟩
      · exact ⟨t.toNat, by omega, .inl ⟨h, by omega⟩⟩
    have hsl := run_upto A3 bs.length c3 k (by omega)
    have hI := inflate_front b bs HX.out.2.2 A3 k c3 wx hk ((Holds.of_own HX.out.1).upto k (by omega)) (by omega) (by have := HB.out.2; omega) (by have := HB.out.2; omega)
    have HI := hide hI
    have hb1 : bs.length ≤ 1000000 := by have := HB.out.2; omega
    clear hI hc3 hlen
    generalize bs.length = L at *
    have ht' : z.tmod (L : Int) = t := ht.symm
    clear ht
    rcases hkz with ⟨h0, hkz⟩ | ⟨h0, hkz⟩
    · subst hkz
      have hkc : (0 : Int) ≤ (k : Int) := by omega
      go_wp2_with fail
      refine (HI.out).mono ?_
      rintro e w5 ⟨ho5, rfl⟩
      have HO5 := hide (HX.out.2.1.trans ho5 (S := []) (by simp))
      clear ho5
      go_wp2_with fail
      go_ret
      exact ⟨rfl, HO5.out⟩
    · go_wp2_with fail
      refine (HI.out).mono ?_
      rintro e w5 ⟨ho5, rfl⟩
      have HO5 := hide (HX.out.2.1.trans ho5 (S := []) (by simp))
      clear ho5
      go_wp2_with fail
      go_ret
      exact ⟨rfl, HO5.out⟩

theorem core (A : Option Addr) (n c : Nat) (b : List UInt8) (fx : Bool) (z : Int) (w : World) (hb : Holds w 1 A n (bvals b)) (hl : b.length = n) :
    Calls Tryd.prog 5 #[.slice A n c, .bool fx, .int .i64 z] w fun e w' => e = .returned (.bool true) ∧ Only [] w w' := by
  by_cases h : 600 < n
  · exact out A n c fx z w h
  · exact inn A n c b fx z w hb hl (by omega)

set_option maxRecDepth 100000 in
theorem lifted (os : Os) (started : os.Started) (H : Type) (enc : TypeId × Value → H) :
    ReturnsInHanded {} Tryd.checked os 5 .any (fun w args => (Rows.inflateFrontsSpec.pre enc Tryd.prog Tryd.f5 [] false w args ∧ laidMetH Tryd.prog laidI w) ∧ sizedMet enc Tryd.prog Tryd.f5 (OpenSpec.ofChange Rows.inflateFrontsSpec) false w args)
      (Rows.inflateFrontsSpec.post enc Tryd.prog Tryd.f5 false true false false) := by
  refine returnsInHanded_of_change_and (C := Tryd.checked) (X := fun w _ => laidMetH Tryd.prog laidI w) (fun _ _ _ hh h => h.of_heap hh) own_knob started (by kernel_rfl) Tryd.func5
    (ChangeSpec.witness_shaped (enc := enc) (C := Tryd.checked) (os := os) (X := fun w _ => laidMetH Tryd.prog laidI w) false (World.doorLaid Tryd.prog 400 os) #[.slice none 0 0, .bool false, .int .i64 0] 8 rfl (World.shaped_of_RefB (by kernel_rfl) (by kernel_rfl)) (by kernel_rfl) (by kernel_rfl) (by kernel_rfl) (door_met os _)) ?_
  intro W base args ds gs before hval0 hW _ _ hL _
  have hval : ∀ (j : Nat) t v, Tryd.f5.params[j]? = some t → args[j]? = some v → Value.okWide Tryd.prog W .any base t v := hval0
  have hW' := hW
  obtain ⟨p, q, hA0, hV, rfl, hfz, hnd⟩ := hW
  have hA : DataW.TrodAll enc Tryd.prog W 0 (fun _ => true) true Tryd.f5.params.toList args.toList ds p := hA0
  rw [Tryd.params5] at hA hval
  obtain ⟨v0, vs0, d0, ds0, p0, q0, hargs, rfl, rfl, h0, r0⟩ := trodAll_cons hA
  obtain ⟨v1, vs1, d1, ds1, p1, q1, rfl, rfl, rfl, h1, r1⟩ := trodAll_cons r0
  obtain ⟨v2, vs2, d2, ds2, p2, q2, rfl, rfl, rfl, h2, r2⟩ := trodAll_cons r1
  obtain ⟨rfl, rfl, rfl⟩ := trodAll_nil r2
  obtain rfl : args = #[v0, v1, v2] := by cases args; simp_all
  obtain ⟨A, n, c, l, rfl, nc, cm, _, hn, hb⟩ := open_bytes Tryd.underlying22 Tryd.underlying5 (by kernel_rfl) (hval 0 22 v0 rfl rfl) h0
  obtain ⟨bb, rfl, rfl, rfl⟩ := open_bool Tryd.underlying4 (hval 1 4 v1 rfl rfl) h1
  obtain ⟨z, rfl, rfl, rfl, _⟩ := open_int Tryd.underlying3 (hval 2 3 v2 rfl rfl) h2
  refine (core A n c l bb z W hb hn).mono fun e W' ⟨he, ho⟩ => ?_
  subst he
  exact ⟨_, rfl, law_post rfl hW' (by intro t ht; revert t; exact of_decide_eq_true (by kernel_rfl)) rfl rfl ho⟩

theorem holds : Rows.InflateFrontsSaid :=
  OpenClaim.holds_of_wide 5 Tryd.f5 rfl rfl rfl rfl rfl rfl rfl ⟨rfl, rfl, rfl, rfl, rfl⟩ rfl rfl rfl rfl rfl (by kernel_rfl) Tryd.func5 (by kernel_rfl)
    (of_decide_eq_true (by kernel_rfl)) (by unfold Func.isWrapper; first | (rw [if_pos (by decide +kernel)]; kernel_rfl) | (rw [if_neg (by decide +kernel)]; exact ⟨rfl, rfl⟩))
    (fun os started H enc _ => lifted os started H enc)

theorem proved : Rows.InflateFrontsCardSaid :=
  Claim7.holds_tied_plain_at .later [] Rows.inflateFrontsCard.laidKinds true Rows.inflateFrontsCard.stood.harness false
    holds (fun _ h => by cases h) (by kernel_rfl) (fun _ h => by cases h) inflateFronts_row_tie rfl ⟨rfl, rfl⟩ (by kernel_rfl) rfl
    (fun f fn hf hfn => by
      obtain rfl : f = 5 := Option.some.inj ((show Tryd.prog.funcNamed "phosphor/phosphorlaw5.InflateFronts" = some 5 by kernel_rfl).symm.trans hf) |>.symm
      obtain rfl : fn = Tryd.f5 := (Option.some.inj (Tryd.func5.symm.trans hfn)).symm
      exact ⟨by kernel_rfl, fun j t ht => by
        rw [Tryd.params5] at ht
        have hm : t ∈ [22, 4, 3] := by simpa using Array.mem_of_getElem? ht
        have hall : ([22, 4, 3].all fun u => !Tryd.prog.wantsStandIn u) = true := by kernel_rfl
        exact (show Tryd.prog.wantsStandIn t = false by simpa using List.all_eq_true.1 hall t hm)⟩)
    (by kernel_rfl)
end Go.Proofs.YtglkfgpefpebmaaDoor.ifronts
