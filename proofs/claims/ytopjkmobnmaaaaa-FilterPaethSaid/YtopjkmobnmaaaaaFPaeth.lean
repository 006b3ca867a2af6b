/-
  Proves: for any three bytes FilterPaeth tells true, and leaves all that was there as it was.
-/
import Derived.Test.YtopjkmobnmaaaaaFiN
import Derived.Test.YtopjkmobnmaaaaaFiR
import Derived.Test.YtopjkmobnmaaaaaLaw
import Derived.Test.YtopjkmobnmaaaaaOpen
namespace Go.Proofs.Ytopjkmobnmaaaaa.fpaeth
open Go Go.RowKit Go.ChangeShapes Go.WideShapes Go.ChangeAt

theorem u8_of {z : Int} (h : 0 ≤ z ∧ z ≤ 255) : ∃ y : UInt8, z = (y.toNat : Int) :=
  ⟨UInt8.ofNat z.toNat, by rw [UInt8.toNat_ofNat']; omega⟩

set_option maxRecDepth 100000 in
set_option maxHeartbeats 4000000 in
theorem core (a b c : UInt8) (w : World) : Calls Try.prog 4 #[.int .u8 (a.toNat : Int), .int .u8 (b.toNat : Int), .int .u8 (c.toNat : Int)] w fun e w' => e = .returned (.bool true) ∧ Only [] w w' := by
  have HK := hide (known_any w)
  have H1 := hide (fun w => paeth_any a b c w)
  have H2 := hide (fun w => refPaeth_any a b c w)
  have h3 : pae a b c = a ∨ (¬ (pae a b c).toNat = a.toNat ∧ (pae a b c = b ∨ (¬ (pae a b c).toNat = b.toNat ∧ pae a b c = c))) := by
    by_cases e1 : pae a b c = a
    · exact .inl e1
    · refine .inr ⟨fun h => e1 (UInt8.toNat_inj.1 h), ?_⟩
      by_cases e2 : pae a b c = b
      · exact .inl e2
      · refine .inr ⟨fun h => e2 (UInt8.toNat_inj.1 h), ?_⟩
        rcases pae_one a b c with h | h | h
        · exact absurd h e1
        · exact absurd h e2
        · exact h
  obtain ⟨p, hp⟩ : ∃ p, p = (pae a b c).toNat := ⟨_, rfl⟩
  have h4 : p = a.toNat ∨ (((p : Int) == (a.toNat : Int)) = false ∧ ¬ (p : Int) = (a.toNat : Int) ∧ (p = b.toNat ∨ (((p : Int) == (b.toNat : Int)) = false ∧ ¬ (p : Int) = (b.toNat : Int) ∧ p = c.toNat))) := by
    rw [hp]
    rcases h3 with h | ⟨h, h' | ⟨h', h''⟩⟩
    · exact .inl (by rw [h])
    · exact .inr ⟨beq_eq_false_iff_ne.2 (by omega), by omega, .inl (by rw [h'])⟩
    · exact .inr ⟨beq_eq_false_iff_ne.2 (by omega), by omega, .inr ⟨beq_eq_false_iff_ne.2 (by omega), by omega, by rw [h'']⟩⟩
  rw [← hp] at H1 H2
  clear h3 hp
  generalize a.toNat = x at *
  generalize b.toNat = y at *
  generalize c.toNat = z at *
  rcases h4 with rfl | ⟨n1, n2, rfl | ⟨n3, n4, rfl⟩⟩
  all_goals
    go_enter Try.func4, Try.ntmps4
    go_wp2_with fail
    refine (HK.out).mono ?_
    rintro e w1 ⟨rfl, ho1⟩
    go_wp2_with fail
    refine (H1.out _).mono ?_
    rintro e w2 ⟨rfl, rfl⟩
    go_wp2_with fail
    refine (H2.out _).mono ?_
    rintro e w2 ⟨rfl, rfl⟩
    go_wp2_with fail
    go_ret
    exact ⟨rfl, ho1⟩
set_option maxRecDepth 100000 in
theorem lifted (os : Os) (started : os.Started) (H : Type) (enc : TypeId × Value → H) :
    ReturnsInHanded {} Try.checked os 4 .any (Rows.filterPaethSpec.pre6 enc Try.prog Try.f4 Rows.filterPaethRow.domain false)
      (Rows.filterPaethSpec.post enc Try.prog Try.f4 false true false false) := by
  refine returnsInHanded_of_change (C := Try.checked) own_knob started (by kernel_rfl) Try.func4
    (ChangeSpec.witness6 (enc := enc) (C := Try.checked) false ⟨#[], #[.int .u8 0, .int .u8 0, .int .u8 0], []⟩ 8 (by kernel_rfl) (by kernel_rfl) (by kernel_rfl) (by kernel_rfl)) ?_
  intro W base args ds gs before hval0 hW hcnd _
  have hval : ∀ (j : Nat) t v, Try.f4.params[j]? = some t → args[j]? = some v → Value.okWide Try.prog W .any base t v := hval0
  have hW' := hW
  obtain ⟨p, q, hA0, hV, rfl, hfz, hnd⟩ := hW
  have hA : DataW.TrodAll enc Try.prog W 0 (fun _ => true) true Try.f4.params.toList args.toList ds p := hA0
  rw [Try.params4] at hA hval
  obtain ⟨v0, vs0, d0, ds0, p0, q0, hargs, rfl, rfl, h0, r0⟩ := trodAll_cons hA
  obtain ⟨v1, vs1, d1, ds1, p1, q1, rfl, rfl, rfl, h1, r1⟩ := trodAll_cons r0
  obtain ⟨v2, vs2, d2, ds2, p2, q2, rfl, rfl, rfl, h2, r2⟩ := trodAll_cons r1
  obtain ⟨rfl, rfl, rfl⟩ := trodAll_nil r2
  obtain rfl : args = #[v0, v1, v2] := by cases args; simp_all
  obtain ⟨z0, rfl, rfl, rfl, wf0⟩ := open_int Try.underlying5 (hval 0 5 v0 rfl rfl) h0
  obtain ⟨y0, rfl⟩ := u8_of (wf_u8 wf0)
  obtain ⟨z1, rfl, rfl, rfl, wf1⟩ := open_int Try.underlying5 (hval 1 5 v1 rfl rfl) h1
  obtain ⟨y1, rfl⟩ := u8_of (wf_u8 wf1)
  obtain ⟨z2, rfl, rfl, rfl, wf2⟩ := open_int Try.underlying5 (hval 2 5 v2 rfl rfl) h2
  obtain ⟨y2, rfl⟩ := u8_of (wf_u8 wf2)
  unfold maxLen at *
  refine (core y0 y1 y2 W).mono fun e W' ⟨he, ho⟩ => ?_
  subst he
  exact ⟨_, rfl, law_post rfl hW' (by intro t ht; revert t; exact of_decide_eq_true (by kernel_rfl)) rfl rfl ho⟩

theorem proved : Rows.FilterPaethSaid :=
  OpenClaim.holds_of_wide 4 Try.f4 rfl rfl rfl rfl rfl rfl rfl ⟨rfl, rfl, rfl, rfl, rfl⟩ rfl rfl rfl rfl rfl (by kernel_rfl) Try.func4 (by kernel_rfl)
    (of_decide_eq_true (by kernel_rfl)) (by unfold Func.isWrapper; first | (rw [if_pos (by decide +kernel)]; kernel_rfl) | (rw [if_neg (by decide +kernel)]; exact ⟨rfl, rfl⟩))
    (fun os started H enc _ => lifted os started H enc)
end Go.Proofs.Ytopjkmobnmaaaaa.fpaeth
