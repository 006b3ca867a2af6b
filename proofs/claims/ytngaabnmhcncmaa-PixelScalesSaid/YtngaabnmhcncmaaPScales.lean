/-
  Proves: for all numbers, PixelScales tells true, and leaves all that was there as it was.
-/
import Derived.Test.YtngaabnmhcncmaaPxK
import Derived.Test.YtngaabnmhcncmaaLaw
import Derived.Test.YtngaabnmhcncmaaOpen
namespace Go.Proofs.Ytngaabnmhcncmaa.pscales
open Go Go.RowKit Go.ChangeShapes Go.WideShapes Go.ChangeAt

set_option maxRecDepth 100000 in
set_option maxHeartbeats 8000000 in
theorem core (v f t : Int) (w : World) (hv : -9223372036854775808 ≤ v ∧ v ≤ 9223372036854775807) (hf : -9223372036854775808 ≤ f ∧ f ≤ 9223372036854775807) (ht : -9223372036854775808 ≤ t ∧ t ≤ 9223372036854775807) :
    Calls Try.prog 7 #[.int .i64 v, .int .i64 f, .int .i64 t] w fun e w' => e = .returned (.bool true) ∧ Only [] w w' := by
  have HK := hide (known_any w)
  have H1 := hide (fun w => scaleI_any v f t w hv hf ht)
  have H2 := hide (fun w => refScale_any v f t w hv hf ht)
  obtain ⟨a, ha, ha0⟩ : ∃ a, a = v % 256 ∧ 0 ≤ a ∧ a ≤ 255 := ⟨v % 256, rfl, by omega, by omega⟩
  obtain ⟨b, hb, hb0⟩ : ∃ a, a = f % 256 ∧ 0 ≤ a ∧ a ≤ 255 := ⟨f % 256, rfl, by omega, by omega⟩
  obtain ⟨c, hc, hc0⟩ : ∃ a, a = t % 256 ∧ 0 ≤ a ∧ a ≤ 255 := ⟨t % 256, rfl, by omega, by omega⟩
  obtain ⟨d, hd, hd0⟩ : ∃ a, a = v % 65536 ∧ 0 ≤ a ∧ a ≤ 65535 := ⟨v % 65536, rfl, by omega, by omega⟩
  obtain ⟨g, hg, hg0⟩ : ∃ a, a = f % 65536 ∧ 0 ≤ a ∧ a ≤ 65535 := ⟨f % 65536, rfl, by omega, by omega⟩
  obtain ⟨h, hh, hh0⟩ : ∃ a, a = t % 65536 ∧ 0 ≤ a ∧ a ≤ 65535 := ⟨t % 65536, rfl, by omega, by omega⟩
  have H3 := hide (fun w => scaleB_any a b c w ha0 hb0 hc0)
  have H4 := hide (fun w => refScale_any a b c w (by omega) (by omega) (by omega))
  have H5 := hide (fun w => scaleH_any d g h w hd0 hg0 hh0)
  have H6 := hide (fun w => refScale_any d g h w (by omega) (by omega) (by omega))
  have hs1 := scN_le (v := a) (f := b) hc0.1
  have hs2 := scN_le (v := d) (f := g) hh0.1
  have hs3 : ∃ x, x = scN v f t := ⟨_, rfl⟩
  obtain ⟨x, hx⟩ := hs3
  rw [← hx] at H1 H2
  generalize scN a b c = y at *
  generalize scN d g h = z at *
  replace ha := ha.symm
  replace hb := hb.symm
  replace hc := hc.symm
  replace hd := hd.symm
  replace hg := hg.symm
  replace hh := hh.symm
  clear hx
  have ud : IntKind.u16.wrap v = d := by rw [IntKind.wrap_u16]; exact hd
  have ug : IntKind.u16.wrap f = g := by rw [IntKind.wrap_u16]; exact hg
  have uh : IntKind.u16.wrap t = h := by rw [IntKind.wrap_u16]; exact hh
  go_enter Try.func7, Try.ntmps7
  go_wp2_with fail
  refine (HK.out).mono ?_
  rintro e w1 ⟨rfl, ho1⟩
  go_wp2_with fail
  refine (H1.out _).mono ?_
  rintro e w2 ⟨rfl, ho2⟩
  have o2 := ho1.trans ho2 (S := []) (by simp)
  clear ho1 ho2
  go_wp2_with fail
  refine (H2.out _).mono ?_
  rintro e w2 ⟨rfl, rfl⟩
  go_wp2_with fail
  refine (H4.out _).mono ?_
  rintro e w2 ⟨rfl, rfl⟩
  go_wp2_with fail
  refine (H6.out _).mono ?_
  rintro e w2 ⟨rfl, rfl⟩
  go_wp2_with fail
  refine (H3.out _).mono ?_
  rintro e w3 ⟨rfl, ho3⟩
  have o3 := o2.trans ho3 (S := []) (by simp)
  clear o2 ho3
  go_wp2_with fail
  refine (H5.out _).mono ?_
  rintro e w4 ⟨rfl, ho4⟩
  have o4 := o3.trans ho4 (S := []) (by simp)
  clear o3 ho4
  go_wp2_with fail
  go_ret

  exact ⟨rfl, o4⟩
set_option maxRecDepth 100000 in
theorem lifted (os : Os) (started : os.Started) (H : Type) (enc : TypeId × Value → H) :
    ReturnsInHanded {} Try.checked os 7 .any (Rows.pixelScalesSpec.pre6 enc Try.prog Try.f7 Rows.pixelScalesRow.domain false)
      (Rows.pixelScalesSpec.post enc Try.prog Try.f7 false true false false) := by
  refine returnsInHanded_of_change (C := Try.checked) own_knob started (by kernel_rfl) Try.func7
    (ChangeSpec.witness6 (enc := enc) (C := Try.checked) false ⟨#[], #[.int .i64 0, .int .i64 0, .int .i64 0], []⟩ 8 (by kernel_rfl) (by kernel_rfl) (by kernel_rfl) (by kernel_rfl)) ?_
  intro W base args ds gs before hval0 hW hcnd _
  have hval : ∀ (j : Nat) t v, Try.f7.params[j]? = some t → args[j]? = some v → Value.okWide Try.prog W .any base t v := hval0
  have hW' := hW
  obtain ⟨p, q, hA0, hV, rfl, hfz, hnd⟩ := hW
  have hA : DataW.TrodAll enc Try.prog W 0 (fun _ => true) true Try.f7.params.toList args.toList ds p := hA0
  rw [Try.params7] at hA hval
  obtain ⟨v0, vs0, d0, ds0, p0, q0, hargs, rfl, rfl, h0, r0⟩ := trodAll_cons hA
  obtain ⟨v1, vs1, d1, ds1, p1, q1, rfl, rfl, rfl, h1, r1⟩ := trodAll_cons r0
  obtain ⟨v2, vs2, d2, ds2, p2, q2, rfl, rfl, rfl, h2, r2⟩ := trodAll_cons r1
  obtain ⟨rfl, rfl, rfl⟩ := trodAll_nil r2
  obtain rfl : args = #[v0, v1, v2] := by cases args; simp_all
  obtain ⟨z0, rfl, rfl, rfl, wf0⟩ := open_int Try.underlying3 (hval 0 3 v0 rfl rfl) h0
  have r0' := wf_i64 wf0
  obtain ⟨z1, rfl, rfl, rfl, wf1⟩ := open_int Try.underlying3 (hval 1 3 v1 rfl rfl) h1
  have r1' := wf_i64 wf1
  obtain ⟨z2, rfl, rfl, rfl, wf2⟩ := open_int Try.underlying3 (hval 2 3 v2 rfl rfl) h2
  have r2' := wf_i64 wf2
  unfold maxLen at *
  refine (core z0 z1 z2 W r0' r1' r2').mono fun e W' ⟨he, ho⟩ => ?_
  subst he
  exact ⟨_, rfl, law_post rfl hW' (by intro t ht; revert t; exact of_decide_eq_true (by kernel_rfl)) rfl rfl ho⟩

theorem proved : Rows.PixelScalesSaid :=
  OpenClaim.holds_of_wide 7 Try.f7 rfl rfl rfl rfl rfl rfl rfl ⟨rfl, rfl, rfl, rfl, rfl⟩ rfl rfl rfl rfl rfl (by kernel_rfl) Try.func7 (by kernel_rfl)
    (of_decide_eq_true (by kernel_rfl)) (by unfold Func.isWrapper; first | (rw [if_pos (by decide +kernel)]; kernel_rfl) | (rw [if_neg (by decide +kernel)]; exact ⟨rfl, rfl⟩))
    (fun os started H enc _ => lifted os started H enc)
end Go.Proofs.Ytngaabnmhcncmaa.pscales
