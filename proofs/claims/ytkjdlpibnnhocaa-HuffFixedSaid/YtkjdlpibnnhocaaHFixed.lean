/-
  Proves: for all numbers, HuffFixed tells true, and leaves all that was there as it was.
-/
import Derived.Test.YtkjdlpibnnhocaaHufFx
import Derived.Test.YtkjdlpibnnhocaaHufU
import Derived.Test.YtkjdlpibnnhocaaHufK
import Derived.Test.YtkjdlpibnnhocaaLaw
import Derived.Test.YtkjdlpibnnhocaaOpen
import Derived.Test.YtkjdlpibnnhocaaStr
namespace Go.Proofs.Ytkjdlpibnnhocaa.hfixed
open Go Go.RowKit Go.ChangeShapes Go.WideShapes Go.ChangeAt

theorem fix_far : far fixedL = false := by decide +kernel
theorem fix_may : mayBe (cn fixedL) = true := by decide +kernel
theorem fix_sum : cmpI (Sm (cn fixedL) 16 : Nat) 32768 = 0 := by decide +kernel
theorem fixD_sum : cmpI (Sm (cn fixedD) 16 : Nat) 32768 = -1 := by decide +kernel
theorem fix_syms : Bf (cn fixedL) 16 = 288 := by decide +kernel

theorem str_any {w : World} {A : Option Addr} {n : Nat} {l : List UInt8} (h : Holds w 1 A n (bvals l)) (c : Nat) : (convert 22 9 (.slice A n c)).run Try.prog w = .ok (.string ⟨l.toArray⟩) w :=
  run_string_of h c 22 5 9 Try.underlying22 Try.underlying5 Try.underlying9

set_option maxRecDepth 100000 in
set_option maxHeartbeats 8000000 in
theorem core (n : Int) (w : World) : Calls Try.prog 5 #[.int .i64 n] w fun e w' => e = .returned (.bool true) ∧ Only [] w w' := by
  have HK := hide (known_any w)
  have hn1 := nilT
  go_enter Try.func5, Try.ntmps5
  go_wp2_with fail
  refine (HK.out).mono ?_
  rintro e w1 ⟨rfl, ho1⟩
  have HO1 := hide ho1
  clear ho1
  go_wp2_with fail
  refine (fixed_any w1).mono ?_
  rintro e w2 ⟨va, A2, c2, rfl, hva, hvb, ho2⟩
  obtain ⟨A1, c1, rfl, hc1, hA1⟩ := own_shape hva
  have H2 := hide (And.intro (Holds.of_own hva) (And.intro hvb (HO1.out.trans ho2 (S := []) (by simp))))
  clear hva hvb ho2
  go_wp2_with fail
  refine (tFixed_any w2).mono ?_
  rintro e w3 ⟨g3, g4, rfl, h3, h4, ho3⟩
  have H3 := hide (And.intro (H2.out.1.keep ho3 (by simp)) (And.intro (H2.out.2.1.keep ho3 (by simp)) (And.intro h3 (And.intro h4 (H2.out.2.2.trans ho3 (S := []) (by simp))))))
  clear h3 h4 ho3
  go_wp2_with fail
  refine (newT_any A1 288 c1 fixedL w3 H3.out.1 fixedL_len (by decide) fix_far fix_may).mono ?_
  rintro e w4 ⟨g, rfl, hg, hT, ho4⟩
  have s1 := str_any (H3.out.1.keep ho4 (by simp)) c1
  have s2 := str_any (H3.out.2.1.keep ho4 (by simp)) c2
  have s3 := str_any (H3.out.2.2.1.keep ho4 (by simp)) 288
  have s4 := str_any (H3.out.2.2.2.1.keep ho4 (by simp)) 30
  have HZ := fun w5 (ho : Only [] w4 w5) => complete_any A1 288 c1 fixedL w5 ((H3.out.1.keep ho4 (by simp)).keep ho (by simp)) fixedL_len (by decide)
  have HZ2 := fun w5 (ho : Only [] w4 w5) => complete_any A2 30 c2 fixedD w5 ((H3.out.2.1.keep ho4 (by simp)).keep ho (by simp)) fixedD_len (by decide)
  rw [fix_sum] at HZ
  rw [fixD_sum] at HZ2
  have HC := hide (And.intro HZ HZ2)
  have H4 := hide (And.intro hT (And.intro (H3.out.2.2.1.keep ho4 (by simp)) (H3.out.2.2.2.2.trans ho4 (S := []) (by simp))))
  clear hT ho4 hg HZ HZ2
  obtain ⟨sa, hsa⟩ : ∃ s : ByteArray, s = ⟨fixedL.toArray⟩ := ⟨_, rfl⟩
  obtain ⟨sb, hsb⟩ : ∃ s : ByteArray, s = ⟨fixedD.toArray⟩ := ⟨_, rfl⟩
  rw [← hsa] at s1 s3
  rw [← hsb] at s2 s4
  clear hsa hsb
  go_wp2_with fail
  refine (HC.out.1 w4 (Only.refl _ _)).mono ?_
  rintro e w5 ⟨rfl, ho5⟩
  have HO5 := hide ho5
  clear ho5 s1 s2 s3 s4
  go_wp2_with fail
  refine (HC.out.2 w5 HO5.out).mono ?_
  rintro e w6 ⟨rfl, ho6⟩
  have o46 : Only [] w4 w6 := HO5.out.trans ho6 (by simp)
  have H6 := hide (And.intro (H4.out.1.only o46 (by simp)) (And.intro (H4.out.2.1.keep o46 (by simp)) (H4.out.2.2.trans o46 (S := []) (by simp))))
  clear ho6 o46
  go_wp2_with fail
  refine (tNewT (some ⟨g3, 0, none⟩) 288 288 fixedL w6 H6.out.2.1 fixedL_len (by decide) fix_far fix_may).mono ?_
  rintro e w7 ⟨gT, rfl, _, hRT, ho7⟩
  have H7 := hide (And.intro (H6.out.1.only ho7 (by simp)) (And.intro hRT (H6.out.2.2.trans ho7 (S := []) (by simp))))
  clear hRT ho7
  have hlen : fixedL.length ≤ 320 := by rw [fixedL_len]; decide
  have HC1 := hide (code_any g fixedL n w7 H7.out.1 hlen (ln_far fix_far) (mayBe_le fix_may))
  have HC2 := hide (fun q => tCode_any gT w6.heap.size fixedL n (w7.drewN q) (H7.out.2.1.idle ((Only.refl [] w7).drewN q)) hlen (ln_far fix_far) (mayBe_le fix_may))
  have HSy := hide (fun q => symbols_any g fixedL (w7.drewN q) (H7.out.1.only ((Only.refl [] w7).drewN q) (by simp)) hlen)
  rw [fix_syms] at HSy
  generalize cvI fixedL n = cv at *
  generalize lnI fixedL n = ni at *
  clear hlen
  go_wp2_with fail
  refine (HC1.out).mono ?_
  rintro e w8 ⟨rfl, m8, rfl⟩
  go_wp2_with fail
  refine (HC2.out m8).mono ?_
  rintro e w9 ⟨rfl, m9, rfl⟩
  obtain ⟨m10, h10⟩ := drews w7 m8 m9
  rw [h10]
  clear h10
  go_wp2_with fail
  refine (HSy.out m10).mono ?_
  rintro e w11 ⟨rfl, m11, rfl⟩
  go_wp2_with fail
  go_ret
  exact ⟨rfl, H7.out.2.2.drewN (m10 + m11)⟩
set_option maxRecDepth 100000 in
theorem lifted (os : Os) (started : os.Started) (H : Type) (enc : TypeId × Value → H) :
    ReturnsInHanded {} Try.checked os 5 .any (Rows.huffFixedSpec.pre6 enc Try.prog Try.f5 Rows.huffFixedRow.domain false)
      (Rows.huffFixedSpec.post enc Try.prog Try.f5 false true false false) := by
  refine returnsInHanded_of_change (C := Try.checked) own_knob started (by kernel_rfl) Try.func5
    (ChangeSpec.witness6 (enc := enc) (C := Try.checked) false ⟨#[], #[.int .i64 0], []⟩ 8 (by kernel_rfl) (by kernel_rfl) (by kernel_rfl) (by kernel_rfl)) ?_
  intro W base args ds gs before hval0 hW hcnd _
  have hval : ∀ (j : Nat) t v, Try.f5.params[j]? = some t → args[j]? = some v → Value.okWide Try.prog W .any base t v := hval0
  have hW' := hW
  obtain ⟨p, q, hA0, hV, rfl, hfz, hnd⟩ := hW
  have hA : DataW.TrodAll enc Try.prog W 0 (fun _ => true) true Try.f5.params.toList args.toList ds p := hA0
  rw [Try.params5] at hA hval
  obtain ⟨v0, vs0, d0, ds0, p0, q0, hargs, rfl, rfl, h0, r0⟩ := trodAll_cons hA
  obtain ⟨rfl, rfl, rfl⟩ := trodAll_nil r0
  obtain rfl : args = #[v0] := by cases args; simp_all
  obtain ⟨z0, rfl, rfl, rfl, _⟩ := open_int Try.underlying3 (hval 0 3 v0 rfl rfl) h0
  refine (core z0 W).mono fun e W' ⟨he, ho⟩ => ?_
  subst he
  exact ⟨_, rfl, law_post rfl hW' (by intro t ht; revert t; exact of_decide_eq_true (by kernel_rfl)) rfl rfl ho⟩

theorem proved : Rows.HuffFixedSaid :=
  OpenClaim.holds_of_wide 5 Try.f5 rfl rfl rfl rfl rfl rfl rfl ⟨rfl, rfl, rfl, rfl, rfl⟩ rfl rfl rfl rfl rfl (by kernel_rfl) Try.func5 (by kernel_rfl)
    (of_decide_eq_true (by kernel_rfl)) (by unfold Func.isWrapper; first | (rw [if_pos (by decide +kernel)]; kernel_rfl) | (rw [if_neg (by decide +kernel)]; exact ⟨rfl, rfl⟩))
    (fun os started H enc _ => lifted os started H enc)
end Go.Proofs.Ytkjdlpibnnhocaa.hfixed
