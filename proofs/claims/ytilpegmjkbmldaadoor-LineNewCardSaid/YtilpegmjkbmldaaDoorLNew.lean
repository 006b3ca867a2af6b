/-
  LineNew: a new line of any columns; any cells: whether they are right, and mended. (Of what comes in nothing is asked.)
-/
import Derived.Test.YtilpegmjkbmldaaDoorLnO
import Derived.Test.YtilpegmjkbmldaaDoorLnN
import Derived.Test.YtilpegmjkbmldaaDoorLnJ
namespace Go.Proofs.YtilpegmjkbmldaaDoor.lnew
open Go Go.RowKit Go.ChangeShapes Go.WideShapes Go.ChangeAt

set_option maxRecDepth 100000 in
theorem out (cols : Int) (a : Lk) (A : Option Addr) (n c : Nat) (w : World) (hn : 240 < n) (hm : n ≤ 9223372036854775807) :
    Calls Tryd.prog 3 #[.int .i64 cols, a.val, .slice A n c] w fun e w' => e = .returned (.bool true) ∧ Only [] w w' := by
  show Calls Tryd.prog 3 #[.int .i64 cols, .agg #[.int .i64 a.fg, .int .i64 a.bg, .int .i64 a.fl], .slice A n c] w _
  have o0 := (Only.refl [] w).alloc (.cells #[.int .i64 a.fg, .int .i64 a.bg, .int .i64 a.fl] 23)
  have HK := hide (known_any (w.alloc (.cells #[.int .i64 a.fg, .int .i64 a.bg, .int .i64 a.fl] 23)))
  have HO := hide o0
  have hn2 : (240 : Int) < (n : Int) := by omega
  clear o0 hn hm
  go_enter Tryd.func3, Tryd.ntmps3
  go_wp2_with fail
  refine (HK.out).mono ?_
  rintro e w1 ⟨rfl, ho⟩
  go_wp2_with fail
  go_ret
  exact ⟨rfl, HO.out.trans ho (by simp)⟩

theorem same_self (L : List Ce) : sameL L L = true := by simp [sameL]
theorem newL_len (cols : Int) (a : Lk) : (newL cols a).length ≤ 1000 := by unfold newL; split <;> simp; omega

set_option maxRecDepth 100000 in
set_option maxHeartbeats 4000000 in
theorem main (cols : Int) (a : Lk) (A : Option Addr) (n c : Nat) (L : List Ce) (w : World) (h : LineAt w A n c L) (hn : n ≤ 240) :
    Calls Tryd.prog 3 #[.int .i64 cols, a.val, .slice A n c] w fun e w' => e = .returned (.bool true) ∧ Only [] w w' := by
  show Calls Tryd.prog 3 #[.int .i64 cols, .agg #[.int .i64 a.fg, .int .i64 a.bg, .int .i64 a.fl], .slice A n c] w _
  have o0 := (Only.refl [] w).alloc (.cells #[.int .i64 a.fg, .int .i64 a.bg, .int .i64 a.fl] 23)
  have hb := Has.new w 23 #[.int .i64 a.fg, .int .i64 a.bg, .int .i64 a.fl]
  have HK := hide (known_any (w.alloc (.cells #[.int .i64 a.fg, .int .i64 a.bg, .int .i64 a.fl] 23)))
  have HO := hide (And.intro o0 (And.intro hb (h.keep o0)))
  have HN := hide (new_any cols a)
  have HM := hide (fun w1 (h : LineAt w1 A n c L) => mend_any A n c L w1 h (by omega))
  have HRN := hide (rnew_any cols a)
  have hml : (mendL L).length = n := by rw [mendL_len]; exact h.len
  have HMM := hide (fun g w1 (h : LineAt w1 (some ⟨g, 0, none⟩) n n (mendL L)) => mend_any (some ⟨g, 0, none⟩) n n (mendL L) w1 h (by omega))
  rw [mendL_mend] at HMM
  have hnl := newL_len cols a
  have HS1 := hide (fun A1 A2 c2 w1 (h1 : LineAt w1 A1 (newL cols a).length (newL cols a).length (newL cols a)) (h2 : LineAt w1 A2 (newL cols a).length c2 (newL cols a)) => by
    have := same_any A1 A2 _ _ _ c2 _ _ w1 h1 h2 (by omega) (by omega)
    rw [same_self] at this
    exact this)
  have HR1 := hide (fun A1 w1 (h1 : LineAt w1 A1 (newL cols a).length (newL cols a).length (newL cols a)) => by
    have := right_any A1 _ _ _ w1 h1 (by omega)
    rw [rightL_narrow _ (newL_narrow cols a)] at this
    exact this)
  have HR2 := hide (fun w1 (h : LineAt w1 A n c L) => right_any A n c L w1 h (by omega))
  have HR3 := hide (fun w1 (h : LineAt w1 A n c L) => rright_any A n c L w1 h (by omega))
  have HRM := hide (fun w1 (h : LineAt w1 A n c L) => rmend_any A n c L w1 h (by omega))
  have HS2 := hide (fun A1 c1 A2 c2 w1 (h1 : LineAt w1 A1 n c1 (mendL L)) (h2 : LineAt w1 A2 n c2 (mendL L)) => by
    have := same_any A1 A2 n c1 n c2 _ _ w1 h1 h2 (by omega) (by omega)
    rw [same_self] at this
    exact this)
  have HR4 := hide (fun g w1 (h1 : LineAt w1 (some ⟨g, 0, none⟩) n n (mendL L)) => by
    have := right_any _ n n _ w1 h1 (by omega)
    rw [rightL_mend] at this
    exact this)
  have HS3 := hide (fun g w1 (hR : rightL L = true) (h1 : LineAt w1 (some ⟨g, 0, none⟩) n n (mendL L)) (h2 : LineAt w1 A n c L) => by
    have := same_any (some ⟨g, 0, none⟩) A n n n c _ _ w1 h1 h2 (by omega) (by omega)
    rw [show sameL (mendL L) L = true from hR] at this
    exact this)
  have HL := hide hml
  generalize (newL cols a).length = m at *
  have hRR : rightL L = true ∨ rightL L = false := by cases rightL L <;> simp
  generalize rightL L = R at *
  have HRR := hide hRR
  clear hRR
  unfold Lk.val Lk.cells at HN HRN
  clear o0 hb h hml hnl
  go_enter Tryd.func3, Tryd.ntmps3
  go_wp2_with fail
  refine (HK.out).mono ?_
  rintro e w1 ⟨rfl, ho1⟩
  obtain ⟨o0, hb, h⟩ := HO.out
  have hb1 := hb.only ho1 (by simp)
  have d0 : w1.cell? ⟨w.heap.size, 0, none⟩ = some (.int .i64 a.fg) := hb1.cell 0
  have d1 : w1.cell? ⟨w.heap.size, 1, none⟩ = some (.int .i64 a.bg) := hb1.cell 1
  have d2 : w1.cell? ⟨w.heap.size, 2, none⟩ = some (.int .i64 a.fl) := hb1.cell 2
  have H1 := hide (And.intro hb1 (And.intro (h.keep ho1) (o0.trans ho1 (S := []) (by simp))))
  clear o0 hb h hb1 ho1 HK HO
  go_wp2_with fail
  refine (HN.out _).mono ?_
  rintro e w2 ⟨A1, rfl, l1, ho2⟩
  have H2 := hide (And.intro (H1.out.1.only ho2 (by simp)) (And.intro (H1.out.2.1.keep ho2) (And.intro l1 (H1.out.2.2.trans ho2 (S := []) (by simp)))))
  clear d0 d1 d2 l1 ho2 HN H1
  go_wp2_with fail
  refine (HM.out _ H2.out.2.1).mono ?_
  rintro e w3 ⟨g, rfl, N⟩
  have lm : LineAt w3 (some ⟨g, 0, none⟩) n n (mendL L) := by have := N.at; rw [HL.out] at this; exact this
  have hb3 := H2.out.1.only N.only (by simp)
  have d0 : w3.cell? ⟨w.heap.size, 0, none⟩ = some (.int .i64 a.fg) := hb3.cell 0
  have d1 : w3.cell? ⟨w.heap.size, 1, none⟩ = some (.int .i64 a.bg) := hb3.cell 1
  have d2 : w3.cell? ⟨w.heap.size, 2, none⟩ = some (.int .i64 a.fl) := hb3.cell 2
  have H3 := hide (And.intro (H2.out.2.1.keep N.only) (And.intro (H2.out.2.2.1.keep N.only) (And.intro lm (H2.out.2.2.2.trans N.only (S := []) (by simp)))))
  clear lm hb3 N HM H2
  go_wp2_with fail
  refine (HRN.out _).mono ?_
  rintro e w4 ⟨A2, c2, rfl, l2, ho4⟩
  have H4 := hide (And.intro (H3.out.1.keep ho4) (And.intro (H3.out.2.1.keep ho4) (And.intro (H3.out.2.2.1.keep ho4) (And.intro l2 (H3.out.2.2.2.trans ho4 (S := []) (by simp))))))
  clear l2 ho4 HRN H3 d0 d1 d2
  go_wp2_with fail
  refine (HS1.out _ _ _ _ H4.out.2.1 H4.out.2.2.2.1).mono ?_
  rintro e w5 ⟨rfl, ho5⟩
  have H5 := hide (And.intro (H4.out.1.keep ho5) (And.intro (H4.out.2.1.keep ho5) (And.intro (H4.out.2.2.1.keep ho5) (H4.out.2.2.2.2.trans ho5 (S := []) (by simp)))))
  clear ho5 HS1 H4
  go_wp2_with fail
  refine (HR1.out _ _ H5.out.2.1).mono ?_
  rintro e w6 ⟨rfl, ho6⟩
  have H6 := hide (And.intro (H5.out.1.keep ho6) (And.intro (H5.out.2.2.1.keep ho6) (H5.out.2.2.2.trans ho6 (S := []) (by simp))))
  clear ho6 HR1 H5
  go_wp2_with fail
  refine (HR2.out _ H6.out.1).mono ?_
  rintro e w7 ⟨rfl, ho7⟩
  have H7 := hide (And.intro (H6.out.1.keep ho7) (And.intro (H6.out.2.1.keep ho7) (H6.out.2.2.trans ho7 (S := []) (by simp))))
  clear ho7 H6
  go_wp2_with fail
  refine (HR3.out _ H7.out.1).mono ?_
  rintro e w8 ⟨rfl, ho8⟩
  have H8 := hide (And.intro (H7.out.1.keep ho8) (And.intro (H7.out.2.1.keep ho8) (H7.out.2.2.trans ho8 (S := []) (by simp))))
  clear ho8 H7 HR3
  go_wp2_with fail
  refine (HRM.out _ H8.out.1).mono ?_
  rintro e w9 ⟨A3, c3, rfl, l3, ho9⟩
  have H9 := hide (And.intro (H8.out.1.keep ho9) (And.intro (H8.out.2.1.keep ho9) (And.intro l3 (H8.out.2.2.trans ho9 (S := []) (by simp)))))
  clear l3 ho9 HRM H8
  go_wp2_with fail
  refine (HS2.out _ _ _ _ _ H9.out.2.1 H9.out.2.2.1).mono ?_
  rintro e w10 ⟨rfl, ho10⟩
  have H10 := hide (And.intro (H9.out.1.keep ho10) (And.intro (H9.out.2.1.keep ho10) (H9.out.2.2.2.trans ho10 (S := []) (by simp))))
  clear ho10 H9
  go_wp2_with fail
  refine (HR4.out _ _ H10.out.2.1).mono ?_
  rintro e w11 ⟨rfl, ho11⟩
  have H11 := hide (And.intro (H10.out.1.keep ho11) (And.intro (H10.out.2.1.keep ho11) (H10.out.2.2.trans ho11 (S := []) (by simp))))
  clear ho11 H10 HR4
  go_wp2_with fail
  refine (HMM.out _ _ H11.out.2.1).mono ?_
  rintro e w12 ⟨g2, rfl, N2⟩
  have lm2 : LineAt w12 (some ⟨g2, 0, none⟩) n n (mendL L) := by have := N2.at; rw [HL.out] at this; exact this
  have H12 := hide (And.intro (H11.out.1.keep N2.only) (And.intro (H11.out.2.1.keep N2.only) (And.intro lm2 (H11.out.2.2.trans N2.only (S := []) (by simp)))))
  clear lm2 N2 HMM H11
  go_wp2_with fail
  refine (HS2.out _ _ _ _ _ H12.out.2.2.1 H12.out.2.1).mono ?_
  rintro e w13 ⟨rfl, ho13⟩
  have H13 := hide (And.intro (H12.out.1.keep ho13) (And.intro (H12.out.2.1.keep ho13) (H12.out.2.2.2.trans ho13 (S := []) (by simp))))
  clear ho13 H12 HS2
  go_wp2_with fail
  refine (HR2.out _ H13.out.1).mono ?_
  rintro e w14 ⟨rfl, ho14⟩
  have H14 := hide (And.intro (H13.out.1.keep ho14) (And.intro (H13.out.2.1.keep ho14) (H13.out.2.2.trans ho14 (S := []) (by simp))))
  clear ho14 H13 HR2
  rcases HRR.out with rfl | rfl
  · go_wp2_with fail
    refine (HS3.out _ _ (by trivial) H14.out.2.1 H14.out.1).mono ?_
    rintro e w15 ⟨rfl, ho15⟩
    go_wp2_with fail
    go_ret
    exact ⟨rfl, H14.out.2.2.trans ho15 (by simp)⟩
  · go_wp2_with fail
    go_ret
    exact ⟨rfl, H14.out.2.2⟩

theorem core (cols : Int) (a : Lk) (A : Option Addr) (n c : Nat) (L : List Ce) (w : World) (h : LineAt w A n c L) (hm : n ≤ 9223372036854775807) :
    Calls Tryd.prog 3 #[.int .i64 cols, a.val, .slice A n c] w fun e w' => e = .returned (.bool true) ∧ Only [] w w' := by
  by_cases hn : n ≤ 240
  · exact main cols a A n c L w h hn
  · exact out cols a A n c w (by omega) hm

set_option maxRecDepth 100000 in
theorem lifted (os : Os) (started : os.Started) (H : Type) (enc : TypeId × Value → H) :
    ReturnsInHanded {} Tryd.checked os 3 .any (fun w args => (Rows.lineNewSpec.pre enc Tryd.prog Tryd.f3 [] false w args ∧ laidMetH Tryd.prog laidB w) ∧ sizedMet enc Tryd.prog Tryd.f3 (OpenSpec.ofChange Rows.lineNewSpec) false w args)
      (Rows.lineNewSpec.post enc Tryd.prog Tryd.f3 false true false false) := by
  refine returnsInHanded_of_change_and (C := Tryd.checked) (X := fun w _ => laidMetH Tryd.prog laidB w) (fun _ _ _ hh h => h.of_heap hh) own_knob started (by kernel_rfl) Tryd.func3
    (ChangeSpec.witness_shaped (enc := enc) (C := Tryd.checked) (os := os) (X := fun w _ => laidMetH Tryd.prog laidB w) false (World.laidAll Tryd.prog os laidB) #[.int .i64 0, .agg #[.int .i64 0, .int .i64 0, .int .i64 0], .slice none 0 0] 8 (World.laidAll_os _ _ _) (World.shaped_of_ZipB (by kernel_rfl) (by kernel_rfl)) (by kernel_rfl) (by kernel_rfl) (by kernel_rfl) (start_met os _)) ?_
  intro W base args ds gs before hval0 hW _ _ hL _
  have hval : ∀ (j : Nat) t v, Tryd.f3.params[j]? = some t → args[j]? = some v → Value.okWide Tryd.prog W .any base t v := hval0
  have hW' := hW
  obtain ⟨p, q, hA0, hV, rfl, hfz, hnd⟩ := hW
  have hA : DataW.TrodAll enc Tryd.prog W 0 (fun _ => true) true Tryd.f3.params.toList args.toList ds p := hA0
  rw [Tryd.params3] at hA hval
  obtain ⟨v0, vs0, d0, ds0, p0, q0, hargs, rfl, rfl, h0, r0⟩ := trodAll_cons hA
  obtain ⟨v1, vs1, d1, ds1, p1, q1, rfl, rfl, rfl, h1, r1⟩ := trodAll_cons r0
  obtain ⟨v2, vs2, d2, ds2, p2, q2, rfl, rfl, rfl, h2, r2⟩ := trodAll_cons r1
  obtain ⟨rfl, rfl, rfl⟩ := trodAll_nil r2
  obtain rfl : args = #[v0, v1, v2] := by cases args; simp_all
  obtain ⟨z0, rfl, rfl, rfl, _⟩ := open_int Tryd.underlying3 (hval 0 3 v0 rfl rfl) h0
  obtain ⟨a1, rfl⟩ := open_lk (hval 1 23 v1 rfl rfl) h1
  obtain ⟨A2, n2, c2, L2, rfl, hl2, hm2, hr2⟩ := open_line (hval 2 25 v2 rfl rfl) h2
  unfold maxLen at hm2
  refine (core z0 a1 A2 n2 c2 L2 W hl2 hm2).mono fun e W' ⟨he, ho⟩ => ?_
  subst he
  exact ⟨_, rfl, law_post rfl hW' (by intro t ht; revert t; exact of_decide_eq_true (by kernel_rfl)) rfl rfl ho⟩

theorem holds : Rows.LineNewSaid :=
  OpenClaim.holds_of_wide 3 Tryd.f3 rfl rfl rfl rfl rfl rfl rfl ⟨rfl, rfl, rfl, rfl, rfl⟩ rfl rfl rfl rfl rfl (by kernel_rfl) Tryd.func3 (by kernel_rfl)
    (of_decide_eq_true (by kernel_rfl)) (by unfold Func.isWrapper; first | (rw [if_pos (by decide +kernel)]; kernel_rfl) | (rw [if_neg (by decide +kernel)]; exact ⟨rfl, rfl⟩))
    (fun os started H enc _ => lifted os started H enc)

theorem proved : Rows.LineNewCardSaid :=
  Claim7.holds_tied_plain_at .later [] Rows.lineNewCard.laidKinds true Rows.lineNewCard.stood.harness false
    holds (fun _ h => by cases h) (by kernel_rfl) (fun _ h => by cases h) lineNew_row_tie rfl ⟨rfl, rfl⟩ (by kernel_rfl) rfl
    (fun f fn hf hfn => by
      obtain rfl : f = 3 := Option.some.inj ((show Tryd.prog.funcNamed "phosphor/phosphorlaw13.LineNew" = some 3 by kernel_rfl).symm.trans hf) |>.symm
      obtain rfl : fn = Tryd.f3 := (Option.some.inj (Tryd.func3.symm.trans hfn)).symm
      exact ⟨by kernel_rfl, fun j t ht => by
        rw [Tryd.params3] at ht
        have hm : t ∈ [3, 23, 25] := by simpa using Array.mem_of_getElem? ht
        have hall : ([3, 23, 25].all fun u => !Tryd.prog.wantsStandIn u) = true := by kernel_rfl
        exact (show Tryd.prog.wantsStandIn t = false by simpa using List.all_eq_true.1 hall t hm)⟩)
    (by kernel_rfl)
end Go.Proofs.YtilpegmjkbmldaaDoor.lnew
