/-
  Proves: for all lengths, HuffCodes tells true, and leaves all that was there as it was.
-/
import Derived.Test.YtkjdlpibnnhocaaHufR
import Derived.Test.YtkjdlpibnnhocaaLaw
import Derived.Test.YtkjdlpibnnhocaaOpen
namespace Go.Proofs.Ytkjdlpibnnhocaa.codes
open Go Go.RowKit Go.ChangeShapes Go.WideShapes Go.ChangeAt

/-- No code begins another, read with its first bit the lowest. -/
theorem codes_ne {l : List UInt8} (hS : Sm (cn l) 16 ≤ 32768) (h15 : ∀ i, ln l i ≤ 15) {i k : Nat} (hne : i ≠ k) (hi : ln l i ≠ 0) (hk : ln l i ≤ ln l k) : cvI l k % 2 ^ ln l i ≠ cvI l i := by
  intro h
  unfold cvI at h
  rw [lnI_nat, lnI_nat, Int.toNat_natCast, Int.toNat_natCast, if_pos hi, if_pos (by omega)] at h
  have e : ln l k = ln l i + (ln l k - ln l i) := by omega
  have h1 := rev_mod (cd l k) (ln l i) (ln l k - ln l i)
  rw [← e] at h1
  rw [h1] at h
  have hlt : cd l k / 2 ^ (ln l k - ln l i) < 2 ^ ln l i := by
    rw [Nat.div_lt_iff_lt_mul (Nat.two_pow_pos _), ← Nat.pow_add, ← e]
    exact cd_lt hS (by omega) (h15 k)
  exact hne (cd_front hi hk (rev_inj hlt (cd_lt hS hi (h15 i)) h))

theorem nilN (w : World) : (binOp .eql 24 (.pointer none) (.pointer none)).run Try.prog w = .ok (.bool true) w := by kernel_rfl

set_option maxRecDepth 100000 in
set_option maxHeartbeats 4000000 in
theorem core (A : Option Addr) (n c : Nat) (l : List UInt8) (w : World) (hb : Holds w 1 A n (bvals l)) (hl : l.length = n) (hn : n ≤ 9223372036854775807) :
    Calls Try.prog 6 #[.slice A n c] w fun e w' => e = .returned (.bool true) ∧ Only [] w w' := by
  subst hl
  have HK := hide (known_any w)
  by_cases h60 : 60 < l.length
  · clear hb
    go_enter Try.func6, Try.ntmps6
    go_wp2_with fail
    refine (HK.out).mono ?_
    rintro e w1 ⟨rfl, ho⟩
    have HO := hide ho
    clear ho
    go_wp2_with fail
    go_ret
    exact ⟨rfl, HO.out⟩
  have hlen : l.length ≤ 60 := by omega
  have hn1 := nilT
  have hn2 := nilN
  have HB := hide (fun w1 (ho : Only [] w w1) => hb.keep ho (by simp))
  clear hb h60
  by_cases hE : newE l = 0
  · have hf : far l = false := by
      unfold newE at hE
      cases h : far l with
      | false => rfl
      | true => rw [if_pos (.inr h)] at hE; cases hE
    have hm : mayBe (cn l) = true := by
      unfold newE at hE
      rw [if_neg (by rw [hf]; simp; omega)] at hE
      cases h : mayBe (cn l) with
      | true => rfl
      | false => rw [h] at hE; simp at hE
    have HS := hide (mayBe_le hm)
    have H15 := hide (ln_far hf)
    have HF := hide (And.intro hf hm)
    clear hE hf hm
    go_enter Try.func6, Try.ntmps6
    go_wp2_with fail
    refine (HK.out).mono ?_
    rintro e w1 ⟨rfl, ho1⟩
    have HO1 := hide ho1
    clear ho1
    go_wp2_with fail
    refine (newT_any A l.length c l w1 (HB.out w1 HO1.out) rfl (by omega) HF.out.1 HF.out.2).mono ?_
    rintro e W ⟨g, rfl, hg, hT, hoW⟩
    have HW := hide (And.intro hT (HO1.out.trans hoW (S := []) (by simp)))
    clear hT hoW hg
    go_wp2_with fail
    go_loopw [5] (fun v wr => ∃ i m : Nat, i ≤ l.length ∧ v = .int .i64 i ∧ wr = W.drewN m) (fun v _ => l.length - (intOf v).toNat)
    case atStart => exact ⟨0, 0, Nat.zero_le _, rfl, rfl⟩
    case round =>
      obtain ⟨i, m, hi, rfl, rfl⟩ := hrel
      by_cases hlt : i < l.length
      · have HC := hide (code_any g l i (W.drewN m) (HW.out.1.only ((Only.refl [] W).drewN m) (by simp)) (by omega) H15.out HS.out)
        obtain ⟨b, o, rfl, hc2⟩ := (HB.out (W.drewN m) (HW.out.2.drewN m)).addr (by simpa using (show 0 < l.length by omega))
        have hcell : (W.drewN m).cell? ⟨b, o + i, none⟩ = some (.int .u8 (l[i].toNat : Int)) := hc2 i _ (bvals_get l i hlt)
        have hx := ln_get hlt
        obtain ⟨x, hxx⟩ : ∃ x, x = ln l i := ⟨_, rfl⟩
        obtain ⟨a, ha⟩ : ∃ a, a = cvI l i := ⟨_, rfl⟩
        rw [← hxx] at hx
        rw [← hx] at hcell
        rw [lnI_nat, ← hxx, ← ha] at HC
        have hx15 : x ≤ 15 := by rw [hxx]; exact H15.out i
        have HXA := hide (And.intro hxx ha)
        have k1 : IntKind.i64.wrap (x : Int) = (x : Int) := wrap64 rfl (by omega)
        clear hc2 hx hxx ha
        go_wp2_with fail
        refine (HC.out).mono ?_
        rintro e w3 ⟨rfl, m3, rfl⟩
        obtain ⟨m4, h4⟩ := drews W m m3
        rw [h4]
        have hcell4 : (W.drewN m4).cell? ⟨b, o + i, none⟩ = some (.int .u8 (x : Int)) := hcell
        clear h4 hcell
        go_wp2_with fail
        go_loopw [8] (fun v wr => ∃ k m : Nat, k ≤ l.length ∧ v = .int .i64 k ∧ wr = W.drewN m) (fun v _ => l.length - (intOf v).toNat)
        case atStart => exact ⟨0, m4, Nat.zero_le _, rfl, rfl⟩
        case round =>
          obtain ⟨k, m5, hk, rfl, rfl⟩ := hrel
          by_cases hltk : k < l.length
          · have HC2 := hide (code_any g l k (W.drewN m5) (HW.out.1.only ((Only.refl [] W).drewN m5) (by simp)) (by omega) H15.out HS.out)
            obtain ⟨y, hyy⟩ : ∃ y, y = ln l k := ⟨_, rfl⟩
            obtain ⟨d, hd⟩ : ∃ d, d = cvI l k := ⟨_, rfl⟩
            rw [lnI_nat, ← hyy, ← hd] at HC2
            have hy15 : y ≤ 15 := by rw [hyy]; exact H15.out k
            have hdl : d < 32768 := by rw [hd]; exact cvI_lt HS.out H15.out _
            have HYD := hide (And.intro hyy hd)
            clear hyy hd
            by_cases hik : i = k
            · subst hik
              go_wp2_with fail
              refine (HC2.out).mono ?_
              rintro e w5 ⟨rfl, m6, rfl⟩
              obtain ⟨m7, h7⟩ := drews W m5 m6
              rw [h7]
              clear h7
              go_wp2_with fail
              go_roundw
              case rel => exact ⟨i + 1, m7, hltk, by go_num, rfl⟩
              case measure => simp [intOf]; omega
            · have hik' : ¬ (i : Int) = (k : Int) := by omega
              have hik'' : ((i : Int) == (k : Int)) = false := by simp; omega
              by_cases hx0 : x = 0
              · have hx0' : (x : Int) = 0 := by omega
                clear hx0 HXA
                generalize (x : Int) = xx at *
                subst hx0'
                clear k1 hx15 hcell4
                go_wp2_with fail
                refine (HC2.out).mono ?_
                rintro e w5 ⟨rfl, m6, rfl⟩
                obtain ⟨m7, h7⟩ := drews W m5 m6
                rw [h7]
                clear h7
                go_wp2_with fail
                go_roundw
                case rel => exact ⟨k + 1, m7, hltk, by go_num, rfl⟩
                case measure => simp [intOf]; omega
              · have hx0' : ¬ (x : Int) = 0 := by omega
                have hx0'' : ((x : Int) == 0) = false := by simpa using hx0
                by_cases hyx : y < x
                · go_wp2_with fail
                  refine (HC2.out).mono ?_
                  rintro e w5 ⟨rfl, m6, rfl⟩
                  obtain ⟨m7, h7⟩ := drews W m5 m6
                  rw [h7]
                  clear h7
                  go_wp2_with fail
                  go_roundw
                  case rel => exact ⟨k + 1, m7, hltk, by go_num, rfl⟩
                  case measure => simp [intOf]; omega
                · have hne := codes_ne HS.out H15.out hik (by rw [← HXA.out.1]; exact hx0) (by rw [← HXA.out.1, ← HYD.out.1]; omega)
                  rw [← HXA.out.1, ← HXA.out.2, ← HYD.out.2] at hne
                  have eM := u32_low' d x (by omega) (by omega)
                  obtain ⟨r, hr⟩ : ∃ r, r = d % 2 ^ x := ⟨_, rfl⟩
                  rw [← hr] at eM hne
                  have hne' : ¬ (r : Int) = (a : Int) := by omega
                  have hne'' : ((r : Int) == (a : Int)) = false := by simp; omega
                  clear hr hne
                  go_wp2_with fail
                  refine (HC2.out).mono ?_
                  rintro e w5 ⟨rfl, m6, rfl⟩
                  obtain ⟨m7, h7⟩ := drews W m5 m6
                  rw [h7]
                  clear h7
                  go_wp2_with fail
                  go_roundw
                  case rel => exact ⟨k + 1, m7, hltk, by go_num, rfl⟩
                  case measure => simp [intOf]; omega
          · obtain rfl : k = l.length := by omega
            go_wp2_with fail
            go_roundw
            case rel => exact ⟨i + 1, m5, hlt, by go_num, rfl⟩
            case measure => simp [intOf]; omega
      · obtain rfl : i = l.length := by omega
        have HZ := hide (fun w1 (ho : Only [] w w1) => complete_any A l.length c l w1 (HB.out w1 ho) rfl (by omega))
        have HZ2 := hide (fun w1 (ho : Only [] w w1) => tComplete_any A l.length c l w1 (HB.out w1 ho) rfl (by omega))
        have hz : cmpI (Sm (cn l) 16 : Nat) 32768 ≤ 0 := by
          have := HS.out
          unfold cmpI
          split
          · omega
          · split <;> omega
        generalize cmpI (Sm (cn l) 16 : Nat) 32768 = z at *
        have HO := hide (HW.out.2.drewN m)
        generalize W.drewN m = V at *
        go_wp2_with fail
        refine (HZ.out V HO.out).mono ?_
        rintro e w5 ⟨rfl, ho5⟩
        have HO5 := hide (HO.out.trans ho5 (S := []) (by simp))
        clear ho5
        go_wp2_with fail
        refine (HZ.out w5 HO5.out).mono ?_
        rintro e w6 ⟨rfl, ho6⟩
        have HO6 := hide (HO5.out.trans ho6 (S := []) (by simp))
        clear ho6
        go_wp2_with fail
        refine (HZ2.out w6 HO6.out).mono ?_
        rintro e w7 ⟨rfl, rfl⟩
        go_wp2_with fail
        go_ret
        exact ⟨rfl, HO6.out⟩
  · have HN := hide (fun w1 (ho : Only [] w w1) => newF_any A l.length c l w1 (HB.out w1 ho) rfl (by omega) hE)
    have hE' : ¬ (newE l : Int) = 0 := by omega
    clear hE
    generalize newE l = q at *
    go_enter Try.func6, Try.ntmps6
    go_wp2_with fail
    refine (HK.out).mono ?_
    rintro e w1 ⟨rfl, ho1⟩
    have HO1 := hide ho1
    clear ho1
    go_wp2_with fail
    refine (HN.out w1 HO1.out).mono ?_
    rintro e w2 ⟨rfl, ho2⟩
    have HO2 := hide (HO1.out.trans ho2 (S := []) (by simp))
    clear ho2
    go_wp2_with fail
    go_ret
    exact ⟨rfl, HO2.out⟩
set_option maxRecDepth 100000 in
theorem lifted (os : Os) (started : os.Started) (H : Type) (enc : TypeId × Value → H) :
    ReturnsInHanded {} Try.checked os 6 .any (Rows.huffCodesSpec.pre6 enc Try.prog Try.f6 Rows.huffCodesRow.domain false)
      (Rows.huffCodesSpec.post enc Try.prog Try.f6 false true false false) := by
  refine returnsInHanded_of_change (C := Try.checked) own_knob started (by kernel_rfl) Try.func6
    (ChangeSpec.witness6 (enc := enc) (C := Try.checked) false ⟨#[], #[.slice none 0 0], []⟩ 8 (by kernel_rfl) (by kernel_rfl) (by kernel_rfl) (by kernel_rfl)) ?_
  intro W base args ds gs before hval0 hW hcnd _
  have hval : ∀ (j : Nat) t v, Try.f6.params[j]? = some t → args[j]? = some v → Value.okWide Try.prog W .any base t v := hval0
  have hW' := hW
  obtain ⟨p, q, hA0, hV, rfl, hfz, hnd⟩ := hW
  have hA : DataW.TrodAll enc Try.prog W 0 (fun _ => true) true Try.f6.params.toList args.toList ds p := hA0
  rw [Try.params6] at hA hval
  obtain ⟨v0, vs0, d0, ds0, p0, q0, hargs, rfl, rfl, h0, r0⟩ := trodAll_cons hA
  obtain ⟨rfl, rfl, rfl⟩ := trodAll_nil r0
  obtain rfl : args = #[v0] := by cases args; simp_all
  obtain ⟨A0, n0, c0, l0, rfl, hc0, cm0, _, hl0, hb0⟩ := open_bytes Try.underlying22 Try.underlying5 (by kernel_rfl) (hval 0 22 v0 rfl rfl) h0
  unfold maxLen at *
  refine (core A0 n0 c0 l0 W hb0 hl0 (by omega)).mono fun e W' ⟨he, ho⟩ => ?_
  subst he
  exact ⟨_, rfl, law_post rfl hW' (by intro t ht; revert t; exact of_decide_eq_true (by kernel_rfl)) rfl rfl ho⟩

theorem proved : Rows.HuffCodesSaid :=
  OpenClaim.holds_of_wide 6 Try.f6 rfl rfl rfl rfl rfl rfl rfl ⟨rfl, rfl, rfl, rfl, rfl⟩ rfl rfl rfl rfl rfl (by kernel_rfl) Try.func6 (by kernel_rfl)
    (of_decide_eq_true (by kernel_rfl)) (by unfold Func.isWrapper; first | (rw [if_pos (by decide +kernel)]; kernel_rfl) | (rw [if_neg (by decide +kernel)]; exact ⟨rfl, rfl⟩))
    (fun os started H enc _ => lifted os started H enc)
end Go.Proofs.Ytkjdlpibnnhocaa.codes
