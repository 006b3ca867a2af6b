/-
  Proves: for all bytes and texts Base64Texts tells true, and leaves all that was there as it was. The two tables of package base64 hold what the program's own text lays (the card ties them).
-/
import Derived.Test.YtdnkkdpcahmngaaDoorB64K
import Derived.Test.YtdnkkdpcahmngaaDoorB64L
import Derived.Test.YtdnkkdpcahmngaaDoorB64Y
namespace Go.Proofs.YtdnkkdpcahmngaaDoor.texts
open Go Go.RowKit Go.ChangeShapes Go.WideShapes Go.ChangeAt

set_option maxRecDepth 100000 in
set_option maxHeartbeats 20000000 in
theorem core (A L : Option Addr) (n c m d : Nat) (l t : List UInt8) (w : World) (T : Tab w) (hb : Holds w 1 A n (bvals l)) (hl : l.length = n) (hc : n ≤ c) (ht : Holds w 1 L m (bvals t)) (htl : t.length = m)
    (hn0 : n ≤ 9223372036854775807) (hm0 : m ≤ 9223372036854775807) :
    Calls Tryd.prog 4 #[.slice A n c, .slice L m d] w fun e w' => e = .returned (.bool true) ∧ Only [] w w' := by
  subst hl
  subst htl
  have HK := hide (known_any w T)
  by_cases h1 : 4096 < l.length
  · clear hb ht T
    go_enter Tryd.func4, Tryd.ntmps4
    go_wp2_with fail
    refine (HK.out).mono ?_
    rintro e w1 ⟨rfl, ho⟩
    have HO := hide ho
    clear ho
    go_wp2_with fail
    go_ret
    exact ⟨rfl, HO.out⟩
  have hd1 : decide (4096 < l.length) = false := by simpa using h1
  by_cases h2 : 4096 < t.length
  · clear hb ht T
    go_enter Tryd.func4, Tryd.ntmps4
    go_wp2_with fail
    refine (HK.out).mono ?_
    rintro e w1 ⟨rfl, ho⟩
    have HO := hide ho
    clear ho
    go_wp2_with fail
    go_ret
    exact ⟨rfl, HO.out⟩
  have hd2 : decide (4096 < t.length) = false := by simpa using h2
  have HT := hide (And.intro T (And.intro hb ht))
  have HD1 := fun (W : World) (ho : Only [] w W) => hide (decode_any L t.length d t W (T.only ho (by simp) (by simp)) (ht.keep ho (by simp)) rfl (by omega))
  have HD2 := fun (W : World) (ho : Only [] w W) => hide (tDecode L t.length d t W (ht.keep ho (by simp)) rfl (by omega))
  have HE1 := fun (W : World) (ho : Only [] w W) => hide (encode_any A l.length c l W (T.only ho (by simp) (by simp)) (hb.keep ho (by simp)) rfl (by omega) hc)
  have HE2 := fun (W : World) (ho : Only [] w W) => hide (tEncode A l.length c l W (hb.keep ho (by simp)) rfl (by omega))
  generalize decode t = x at *
  obtain ⟨xo, xe⟩ := x
  generalize enc l = y at *
  clear T hb ht
  go_enter Tryd.func4, Tryd.ntmps4
  go_wp2_with fail
  refine (HK.out).mono ?_
  rintro e w1 ⟨rfl, ho1⟩
  have HO1 := hide ho1
  clear ho1
  go_wp2_with fail
  refine (HD1 w1 HO1.out).out.mono ?_
  rintro e w2 ⟨v2, rfl, hr2, ho2⟩
  obtain ⟨A2, c2, rfl, _, _⟩ := own_shape hr2
  have o2 := HO1.out.trans ho2 (by simp)
  have H2 := hide (And.intro hr2 o2)
  clear hr2 ho2 o2
  go_wp2_with fail
  refine (HD2 w2 H2.out.2).out.mono ?_
  rintro e w3 ⟨v3', rfl, hr3, ho3⟩
  obtain ⟨A3, c3, rfl, _, _⟩ := own_shape hr3
  have o3 := H2.out.2.trans ho3 (by simp)
  have hx3 := own_keep H2.out.1 ho3 (by simp)
  have hdr : Only [] w w3.drew := o3.drew
  have hx3d : w3.drew.ownsRow _ 5 1 _ _ _ := hx3
  have hy3d : w3.drew.ownsRow _ 5 1 _ _ _ := hr3
  clear hr3 ho3 o3 hx3
  go_wp2_with fail
  go_region_with (first
    | (go_at_call 19; refine (HE1 _ hdr).out.mono ?_; rintro e wA ⟨ra, rfl, hoa, hwa⟩; obtain ⟨Aa, ca, rfl, _, _⟩ := own_shape hoa;
       have hcA := own_string hoa)
    | (go_at_call 20; refine (HE2 _ (hdr.trans hwa (by simp))).out.mono ?_; rintro e wB ⟨rb, rfl, hob, hwb⟩; obtain ⟨Ab, cb, rfl, _, _⟩ := own_shape hob;
       have hcA2 := own_string (own_keep hoa hwb (by simp)); have hcB := own_string hob;
       have hcX := own_string (own_keep (own_keep hx3d hwa (by simp)) hwb (by simp)); have hcY := own_string (own_keep (own_keep hy3d hwa (by simp)) hwb (by simp))))
  all_goals (
    have hall : Only [] w wB := (hdr.trans hwa (by simp)).trans hwb (by simp)
    clear hdr hwa hwb hoa hob HD1 HD2 HE1 HE2 hcA hcA2 hcB hcX hcY hx3d hy3d
    go_wp2_with fail
    refine bodyPost_ret (v := .bool true) (by kernel_rfl) (by kernel_rfl) ⟨rfl, hall⟩)


set_option maxRecDepth 100000 in
theorem lifted (os : Os) (started : os.Started) (H : Type) (enc : TypeId × Value → H) :
    ReturnsInHanded {} Tryd.checked os 4 .any (fun w args => (Rows.base64TextsSpec.pre enc Tryd.prog Tryd.f4 [] false w args ∧ laidMetH Tryd.prog laidB w) ∧ sizedMet enc Tryd.prog Tryd.f4 (OpenSpec.ofChange Rows.base64TextsSpec) false w args)
      (Rows.base64TextsSpec.post enc Tryd.prog Tryd.f4 false true false false) := by
  refine returnsInHanded_of_change_and (C := Tryd.checked) (X := fun w _ => laidMetH Tryd.prog laidB w) (fun _ _ _ hh h => h.of_heap hh) own_knob started (by kernel_rfl) Tryd.func4
    (ChangeSpec.witness_shaped (enc := enc) (C := Tryd.checked) (os := os) (X := fun w _ => laidMetH Tryd.prog laidB w) false (World.doorLaid Tryd.prog 400 os) #[.slice none 0 0, .slice none 0 0] 8 rfl (World.shaped_of_RefB (by kernel_rfl) (by kernel_rfl)) (by kernel_rfl) (by kernel_rfl) (by kernel_rfl) (door_met os _)) ?_
  intro W base args ds gs before hval0 hW _ _ hL _
  have hval : ∀ (j : Nat) t v, Tryd.f4.params[j]? = some t → args[j]? = some v → Value.okWide Tryd.prog W .any base t v := hval0
  have hW' := hW
  obtain ⟨p, q, hA0, hV, rfl, hfz, hnd⟩ := hW
  have hA : DataW.TrodAll enc Tryd.prog W 0 (fun _ => true) true Tryd.f4.params.toList args.toList ds p := hA0
  rw [Tryd.params4] at hA hval
  obtain ⟨v0, vs0, d0, ds0, p0, q0, hargs, rfl, rfl, h0, r0⟩ := trodAll_cons hA
  obtain ⟨v1, vs1, d1, ds1, p1, q1, rfl, rfl, rfl, h1, r1⟩ := trodAll_cons r0
  obtain ⟨rfl, rfl, rfl⟩ := trodAll_nil r1
  obtain rfl : args = #[v0, v1] := by cases args; simp_all
  obtain ⟨A, n, c, l, rfl, nc, cm, _, hn, hb⟩ := open_bytes Tryd.underlying28 Tryd.underlying5 (by kernel_rfl) (hval 0 28 v0 rfl rfl) h0
  obtain ⟨L, m, d, t, rfl, md, dm, _, hm, ht⟩ := open_bytes Tryd.underlying28 Tryd.underlying5 (by kernel_rfl) (hval 1 28 v1 rfl rfl) h1
  unfold maxLen at cm dm
  refine (core A L n c m d l t W (tab_of_laid hL) hb hn nc ht hm (by omega) (by omega)).mono fun e W' ⟨he, ho⟩ => ?_
  subst he
  exact ⟨_, rfl, law_post rfl hW' (by intro t ht; revert t; exact of_decide_eq_true (by kernel_rfl)) rfl rfl ho⟩

theorem holds : Rows.Base64TextsSaid :=
  OpenClaim.holds_of_wide 4 Tryd.f4 rfl rfl rfl rfl rfl rfl rfl ⟨rfl, rfl, rfl, rfl, rfl⟩ rfl rfl rfl rfl rfl (by kernel_rfl) Tryd.func4 (by kernel_rfl)
    (of_decide_eq_true (by kernel_rfl)) (by unfold Func.isWrapper; first | (rw [if_pos (by decide +kernel)]; kernel_rfl) | (rw [if_neg (by decide +kernel)]; exact ⟨rfl, rfl⟩))
    (fun os started H enc _ => lifted os started H enc)

theorem proved : Rows.Base64TextsCardSaid :=
  Claim7.holds_tied_plain_at .later [] Rows.base64TextsCard.laidKinds true Rows.base64TextsCard.stood.harness false
    holds (fun _ h => by cases h) (by kernel_rfl) (fun _ h => by cases h) base64Texts_row_tie rfl ⟨rfl, rfl⟩ (by kernel_rfl) rfl
    (fun f fn hf hfn => by
      obtain rfl : f = 4 := Option.some.inj ((show Tryd.prog.funcNamed "phosphor/phosphorlaw3.Base64Texts" = some 4 by kernel_rfl).symm.trans hf) |>.symm
      obtain rfl : fn = Tryd.f4 := (Option.some.inj (Tryd.func4.symm.trans hfn)).symm
      exact ⟨by kernel_rfl, fun j t ht => by
        rw [Tryd.params4] at ht
        have hm : t ∈ [28, 28] := by simpa using Array.mem_of_getElem? ht
        have hall : ([28, 28].all fun u => !Tryd.prog.wantsStandIn u) = true := by kernel_rfl
        exact (show Tryd.prog.wantsStandIn t = false by simpa using List.all_eq_true.1 hall t hm)⟩)
    (by kernel_rfl)
end Go.Proofs.YtdnkkdpcahmngaaDoor.texts
