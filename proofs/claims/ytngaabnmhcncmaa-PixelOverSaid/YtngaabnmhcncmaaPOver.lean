/-
  Proves: for all colours, PixelOver tells true, and leaves all that was there as it was.
-/
import Derived.Test.YtngaabnmhcncmaaPxL
import Derived.Test.YtngaabnmhcncmaaLaw
import Derived.Test.YtngaabnmhcncmaaOpen
import Derived.Deep.DeepCutAuto
namespace Go.Proofs.Ytngaabnmhcncmaa.pover
open Go Go.RowKit Go.ChangeShapes Go.WideShapes Go.ChangeAt

theorem ov1_between (s d a : Nat) (ha : a ≤ 255) : (d ≤ s → d ≤ ov1 s d a ∧ ov1 s d a ≤ s) ∧ (s ≤ d → s ≤ ov1 s d a ∧ ov1 s d a ≤ d) ∧ (a = 255 → ov1 s d a = s) ∧ (a = 0 → ov1 s d a = d) := by
  unfold ov1
  obtain ⟨b, hb⟩ : ∃ b, b = 255 - a := ⟨_, rfl⟩
  rw [← hb]
  have e1 : s * a + s * b = s * 255 := by rw [← Nat.mul_add]; congr 1; omega
  have e2 : d * a + d * b = d * 255 := by rw [← Nat.mul_add]; congr 1; omega
  refine ⟨fun h => ?_, fun h => ?_, fun h => ?_, fun h => ?_⟩
  · have h1 : d * a ≤ s * a := Nat.mul_le_mul_right _ h
    have h2 : d * b ≤ s * b := Nat.mul_le_mul_right _ h
    omega
  · have h1 : s * a ≤ d * a := Nat.mul_le_mul_right _ h
    have h2 : s * b ≤ d * b := Nat.mul_le_mul_right _ h
    omega
  · subst h
    obtain rfl : b = 0 := by omega
    rw [Nat.mul_zero]; omega
  · subst h
    obtain rfl : b = 255 := by omega
    rw [Nat.mul_zero]; omega

/-- One part of the three colours. -/
structure Part (d s c a : Nat) : Prop where
  lo : d ≤ s → d ≤ c ∧ c ≤ s
  hi : s ≤ d → s ≤ c ∧ c ≤ d
  all : a = 255 → c = s
  no : a = 0 → c = d
theorem over_at (d s : Px) (j : Nat) (hj : j < 3) : Part (d.at j).toNat (s.at j).toNat ((over d s).at j).toNat s.a.toNat := by
  have key : ∀ x y : UInt8, Part y.toNat x.toNat (UInt8.ofNat (ov1 x.toNat y.toNat s.a.toNat)).toNat s.a.toNat := fun x y => by
    have hx := x.toNat_lt; have hy := y.toNat_lt; have ha := s.a.toNat_lt
    rw [u8_back (ov1_le (by omega) (by omega) (by omega)).2.2]
    obtain ⟨h1, h2, h3, h4⟩ := ov1_between x.toNat y.toNat s.a.toNat (by omega)
    exact ⟨h1, h2, h3, h4⟩
  rcases (show j = 0 ∨ j = 1 ∨ j = 2 by omega) with rfl | rfl | rfl
  · exact key _ _
  · exact key _ _
  · exact key _ _

set_option maxRecDepth 100000 in
set_option maxHeartbeats 8000000 in
theorem core (d s : Px) (w : World) : Calls Try.prog 6 #[d.val, s.val] w fun e w' => e = .returned (.bool true) ∧ Only [] w w' := by
  obtain ⟨c, hc⟩ : ∃ c, c = over d s := ⟨_, rfl⟩
  have hpart := over_at d s
  rw [← hc] at hpart
  have hca : c.a = 255 := by rw [hc]; rfl
  have e3 : (c.at 3).toNat = 255 := by show c.a.toNat = 255; rw [hca]; rfl
  have ec : c.cells = #[.int .u8 ((c.at 0).toNat : Int), .int .u8 ((c.at 1).toNat : Int), .int .u8 ((c.at 2).toNat : Int), .int .u8 255] := by
    have h : c.cells = #[.int .u8 ((c.at 0).toNat : Int), .int .u8 ((c.at 1).toNat : Int), .int .u8 ((c.at 2).toNat : Int), .int .u8 ((c.at 3).toNat : Int)] := rfl
    rw [h, e3]; rfl
  have HK := hide (fun w => known_any w)
  have HO : Hid (∀ w : World, Calls Try.prog 36 #[.agg #[.int .u8 ((d.at 0).toNat : Int), .int .u8 ((d.at 1).toNat : Int), .int .u8 ((d.at 2).toNat : Int), .int .u8 ((d.at 3).toNat : Int)], .agg #[.int .u8 ((s.at 0).toNat : Int), .int .u8 ((s.at 1).toNat : Int), .int .u8 ((s.at 2).toNat : Int), .int .u8 ((s.at 3).toNat : Int)]] w fun e w' => e = .returned (.agg #[.int .u8 ((c.at 0).toNat : Int), .int .u8 ((c.at 1).toNat : Int), .int .u8 ((c.at 2).toNat : Int), .int .u8 255]) ∧ Only [] w w') := hide (fun w => by
    have h := over_any d s w
    rw [← hc] at h
    show Calls Try.prog 36 #[.agg d.cells, .agg s.cells] w _
    rw [← ec]
    exact h)
  have HR : Hid (∀ w : World, Calls Try.prog 37 #[.agg #[.int .u8 ((d.at 0).toNat : Int), .int .u8 ((d.at 1).toNat : Int), .int .u8 ((d.at 2).toNat : Int), .int .u8 ((d.at 3).toNat : Int)], .agg #[.int .u8 ((s.at 0).toNat : Int), .int .u8 ((s.at 1).toNat : Int), .int .u8 ((s.at 2).toNat : Int), .int .u8 ((s.at 3).toNat : Int)]] w fun e w' => e = .returned (.agg #[.int .u8 ((c.at 0).toNat : Int), .int .u8 ((c.at 1).toNat : Int), .int .u8 ((c.at 2).toNat : Int), .int .u8 255]) ∧ Only [] w w') := hide (fun w => by
    have h := refOver_any d s w
    rw [← hc] at h
    show Calls Try.prog 37 #[.agg d.cells, .agg s.cells] w _
    rw [← ec]
    exact h)
  have hne : ∀ w, (binOp .neq 40 (.agg #[.int .u8 ((c.at 0).toNat : Int), .int .u8 ((c.at 1).toNat : Int), .int .u8 ((c.at 2).toNat : Int), .int .u8 255]) (.agg #[.int .u8 ((c.at 0).toNat : Int), .int .u8 ((c.at 1).toNat : Int), .int .u8 ((c.at 2).toNat : Int), .int .u8 255])).run Try.prog w = .ok (.bool false) w := fun w => by
    have := arr_ne c c w
    rw [pxEq_self] at this
    rw [← ec]
    exact this
  have HP := hide hpart
  have esa : (s.at 3).toNat = s.a.toNat := rfl
  have hd0 : Has ((w.alloc (.cells #[.int .u8 ((d.at 0).toNat : Int), .int .u8 ((d.at 1).toNat : Int), .int .u8 ((d.at 2).toNat : Int), .int .u8 ((d.at 3).toNat : Int)] 41)).alloc (.cells #[.int .u8 ((s.at 0).toNat : Int), .int .u8 ((s.at 1).toNat : Int), .int .u8 ((s.at 2).toNat : Int), .int .u8 ((s.at 3).toNat : Int)] 41)) w.heap.size 41 d.cells := (Has.new w _ _).alloc _
  have hs0 : Has ((w.alloc (.cells #[.int .u8 ((d.at 0).toNat : Int), .int .u8 ((d.at 1).toNat : Int), .int .u8 ((d.at 2).toNat : Int), .int .u8 ((d.at 3).toNat : Int)] 41)).alloc (.cells #[.int .u8 ((s.at 0).toNat : Int), .int .u8 ((s.at 1).toNat : Int), .int .u8 ((s.at 2).toNat : Int), .int .u8 ((s.at 3).toNat : Int)] 41)) (w.heap.size + 1) 41 s.cells := Has.new' _ _ _ _ (by simp)
  have o0 : Only [] w ((w.alloc (.cells #[.int .u8 ((d.at 0).toNat : Int), .int .u8 ((d.at 1).toNat : Int), .int .u8 ((d.at 2).toNat : Int), .int .u8 ((d.at 3).toNat : Int)] 41)).alloc (.cells #[.int .u8 ((s.at 0).toNat : Int), .int .u8 ((s.at 1).toNat : Int), .int .u8 ((s.at 2).toNat : Int), .int .u8 ((s.at 3).toNat : Int)] 41)) := ((Only.refl [] w).alloc _).alloc _
  have HE := hide (And.intro e3 (And.intro ec esa))
  clear hc hpart hca e3 ec esa
  show Calls Try.prog 6 #[.agg #[.int .u8 ((d.at 0).toNat : Int), .int .u8 ((d.at 1).toNat : Int), .int .u8 ((d.at 2).toNat : Int), .int .u8 ((d.at 3).toNat : Int)], .agg #[.int .u8 ((s.at 0).toNat : Int), .int .u8 ((s.at 1).toNat : Int), .int .u8 ((s.at 2).toNat : Int), .int .u8 ((s.at 3).toNat : Int)]] w _
  go_enter Try.func6, Try.ntmps6
  go_wp2_with fail
  refine (HK.out _).mono ?_
  rintro e w1 ⟨rfl, ho1⟩
  have hd1 := hd0.only ho1 (by simp)
  have hs1 := hs0.only ho1 (by simp)
  have o1 := o0.trans ho1 (S := []) (by simp)
  clear hd0 hs0 o0 ho1
  go_wp2_with (first | (refine wpList_load_row rfl 41 (.tmp 2) rfl w.heap.size rfl 41 #[.int .u8 ((d.at 0).toNat : Int), .int .u8 ((d.at 1).toNat : Int), .int .u8 ((d.at 2).toNat : Int), .int .u8 ((d.at 3).toNat : Int)] (0, 0) _ hd1 Try.underlying41 rfl (by kernel_rfl) ?_) | (refine wpList_load_row rfl 41 (.tmp 3) rfl (w.heap.size + 1) rfl 41 #[.int .u8 ((s.at 0).toNat : Int), .int .u8 ((s.at 1).toNat : Int), .int .u8 ((s.at 2).toNat : Int), .int .u8 ((s.at 3).toNat : Int)] (0, 0) _ hs1 Try.underlying41 rfl (by kernel_rfl) ?_))
  refine (HO.out _).mono ?_
  rintro e w2 ⟨rfl, ho2⟩
  have hd2 := (hd1.only ho2 (by simp)).alloc (.cells #[.int .u8 ((c.at 0).toNat : Int), .int .u8 ((c.at 1).toNat : Int), .int .u8 ((c.at 2).toNat : Int), .int .u8 255] 41)
  have hs2 := (hs1.only ho2 (by simp)).alloc (.cells #[.int .u8 ((c.at 0).toNat : Int), .int .u8 ((c.at 1).toNat : Int), .int .u8 ((c.at 2).toNat : Int), .int .u8 255] 41)
  have hc2 := Has.new w2 41 #[.int .u8 ((c.at 0).toNat : Int), .int .u8 ((c.at 1).toNat : Int), .int .u8 ((c.at 2).toNat : Int), .int .u8 255]
  have o2 := (o1.trans ho2 (S := []) (by simp)).alloc (.cells #[.int .u8 ((c.at 0).toNat : Int), .int .u8 ((c.at 1).toNat : Int), .int .u8 ((c.at 2).toNat : Int), .int .u8 255] 41)
  clear hd1 hs1 o1 ho2
  go_wp2_with fail
  generalize hgc : w2.heap.size = gc at *
  generalize w2.alloc (.cells #[.int .u8 ((c.at 0).toNat : Int), .int .u8 ((c.at 1).toNat : Int), .int .u8 ((c.at 2).toNat : Int), .int .u8 255] 41) = w3 at *
  have hfacts : ∀ w' : World, Only [] w3 w' → (∀ i, i < 4 → w'.cell? ⟨w.heap.size, i, none⟩ = some (.int .u8 ((d.at i).toNat : Int)) ∧ w'.cell? ⟨w.heap.size + 1, i, none⟩ = some (.int .u8 ((s.at i).toNat : Int)) ∧ w'.cell? ⟨gc, i, none⟩ = some (.int .u8 ((c.at i).toNat : Int))) := fun w' ho i hi =>
    ⟨((hd2.only ho (by simp)).cell i).trans (px_cell d i hi), ((hs2.only ho (by simp)).cell i).trans (px_cell s i hi), ((hc2.only ho (by simp)).cell i).trans (by rw [← HE.out.2.1]; exact px_cell c i hi)⟩
  have HF := hide (And.intro hfacts o2)
  have k0 := (hfacts w3.drew ((Only.refl [] w3).drew) 0 (by omega))
  have k1 := (hfacts w3.drew ((Only.refl [] w3).drew) 1 (by omega))
  have k2 := (hfacts w3.drew ((Only.refl [] w3).drew) 2 (by omega))
  have k3 := (hfacts w3.drew ((Only.refl [] w3).drew) 3 (by omega))
  rw [HE.out.1] at k3
  obtain ⟨d0, s0, c0⟩ := k0
  obtain ⟨d1, s1, c1⟩ := k1
  obtain ⟨d2, s2, c2⟩ := k2
  obtain ⟨d3, s3, c3⟩ := k3
  clear hfacts hd2 hs2 hc2 o2 hgc HO HK
  go_cut [23] (fun t wx => t = .bool false ∧ Only [] w3 wx)
  case first =>
    go_region_with (go_at_call 37; refine (HR.out _).mono ?_; rintro e w4 ⟨rfl, ho4⟩; obtain ⟨f0, g0, h0⟩ := HF.out.1 w4 (((Only.refl [] w3).drew).trans ho4 (by simp)) 0 (by omega); obtain ⟨f1, g1, h1⟩ := HF.out.1 w4 (((Only.refl [] w3).drew).trans ho4 (by simp)) 1 (by omega); obtain ⟨f2, g2, h2⟩ := HF.out.1 w4 (((Only.refl [] w3).drew).trans ho4 (by simp)) 2 (by omega); obtain ⟨f3, g3, h3⟩ := HF.out.1 w4 (((Only.refl [] w3).drew).trans ho4 (by simp)) 3 (by omega); rw [HE.out.1] at h3)
    all_goals
      go_wp2_with fail
      go_meet
      case rel => exact ⟨rfl, ((Only.refl [] w3).drew).trans ho4 (by simp)⟩
  case rest =>
    obtain ⟨rfl, o4⟩ := hcut
    have HN := hide hne
    clear d0 s0 c0 d1 s1 c1 d2 s2 c2 d3 s3 c3 hne HR
    go_wp2_with fail
    go_loopw [6] (fun i wr => ∃ (j m : Nat), j ≤ 3 ∧ i = .int .i64 j ∧ wr = wc.drewN m) (fun i _ => 3 - (intOf i).toNat)
    case atStart => exact ⟨0, 0, by omega, rfl, rfl⟩
    case round =>
      obtain ⟨j, m, hj, rfl, rfl⟩ := hrel
      by_cases hlt : j < 3
      · have hk := HF.out.1 _ o4 j (by omega)
        have hk3 := HF.out.1 _ o4 3 (by omega)
        have hq := HP.out j hlt
        rw [HE.out.2.2] at hk3
        obtain ⟨ka, kb, kc⟩ := hk
        obtain ⟨_, k3, _⟩ := hk3
        generalize hx : (d.at j).toNat = x at *
        generalize hy : (s.at j).toNat = y at *
        generalize hz : (c.at j).toNat = z at *
        generalize ha : s.a.toNat = a at *
        have HQ := hide hq
        have hle : j ≤ 2 := by omega
        have j4 : j < 4 := by omega
        have j4' : (j : Int) < 4 := by omega
        have j0' : (0 : Int) ≤ (j : Int) := by omega
        have hak : a = 255 ∨ a = 0 ∨ (a ≠ 255 ∧ a ≠ 0) := by omega
        clear hj hq hx hy hz ha
        have HL := hide hlt
        clear hlt
        by_cases hyx : y < x
        · have q1 := HQ.out.hi (by omega)
          rcases hak with rfl | rfl | ⟨a1, a2⟩
          · obtain rfl := HQ.out.all rfl
            have d1 : decide (z < z) = false := decide_eq_false (by omega)
            have d2 : decide (x < z) = false := decide_eq_false (by omega)
            clear q1 HP HE HQ
            go_wp2_with fail
            go_quiet (fail)
            go_wp2_with fail
            go_roundw
            case rel => exact ⟨j + 1, m + nq, HL.out, by go_num, rfl⟩
            case measure => simp [intOf]; omega
          · obtain rfl := HQ.out.no rfl
            have d1 : decide (z < y) = false := decide_eq_false (by omega)
            have d2 : decide (z < z) = false := decide_eq_false (by omega)
            clear q1 HP HE HQ
            go_wp2_with fail
            go_quiet (fail)
            go_wp2_with fail
            go_roundw
            case rel => exact ⟨j + 1, m + nq, HL.out, by go_num, rfl⟩
            case measure => simp [intOf]; omega
          · have g1 : ((a : Int) == 255) = false := beq_eq_false_iff_ne.2 (by omega)
            have g2 : ((a : Int) == 0) = false := beq_eq_false_iff_ne.2 (by omega)
            have g3 : ¬ (a : Int) = 255 := by omega
            have g4 : ¬ (a : Int) = 0 := by omega
            have d1 : decide (z < y) = false := decide_eq_false (by omega)
            have d2 : decide (x < z) = false := decide_eq_false (by omega)
            clear q1 HP HE HQ
            go_wp2_with fail
            go_quiet (fail)
            go_wp2_with fail
            go_roundw
            case rel => exact ⟨j + 1, m + nq, HL.out, by go_num, rfl⟩
            case measure => simp [intOf]; omega
        · have q1 := HQ.out.lo (by omega)
          rcases hak with rfl | rfl | ⟨a1, a2⟩
          · obtain rfl := HQ.out.all rfl
            have d1 : decide (z < x) = false := decide_eq_false (by omega)
            have d2 : decide (z < z) = false := decide_eq_false (by omega)
            clear q1 HP HE HQ
            go_wp2_with fail
            go_quiet (fail)
            go_wp2_with fail
            go_roundw
            case rel => exact ⟨j + 1, m + nq, HL.out, by go_num, rfl⟩
            case measure => simp [intOf]; omega
          · obtain rfl := HQ.out.no rfl
            have d1 : decide (z < z) = false := decide_eq_false (by omega)
            have d2 : decide (y < z) = false := decide_eq_false (by omega)
            clear q1 HP HE HQ
            go_wp2_with fail
            go_quiet (fail)
            go_wp2_with fail
            go_roundw
            case rel => exact ⟨j + 1, m + nq, HL.out, by go_num, rfl⟩
            case measure => simp [intOf]; omega
          · have g1 : ((a : Int) == 255) = false := beq_eq_false_iff_ne.2 (by omega)
            have g2 : ((a : Int) == 0) = false := beq_eq_false_iff_ne.2 (by omega)
            have g3 : ¬ (a : Int) = 255 := by omega
            have g4 : ¬ (a : Int) = 0 := by omega
            have d1 : decide (z < x) = false := decide_eq_false (by omega)
            have d2 : decide (y < z) = false := decide_eq_false (by omega)
            clear q1 HP HE HQ
            go_wp2_with fail
            go_quiet (fail)
            go_wp2_with fail
            go_roundw
            case rel => exact ⟨j + 1, m + nq, HL.out, by go_num, rfl⟩
            case measure => simp [intOf]; omega
      · obtain rfl : j = 3 := by omega
        go_wp2_with fail
        go_ret
        exact ⟨rfl, (HF.out.2.trans o4 (S := []) (by simp)).drewN m⟩
set_option maxRecDepth 100000 in
theorem lifted (os : Os) (started : os.Started) (H : Type) (enc : TypeId × Value → H) :
    ReturnsInHanded {} Try.checked os 6 .any (Rows.pixelOverSpec.pre6 enc Try.prog Try.f6 Rows.pixelOverRow.domain false)
      (Rows.pixelOverSpec.post enc Try.prog Try.f6 false true false false) := by
  refine returnsInHanded_of_change (C := Try.checked) own_knob started (by kernel_rfl) Try.func6
    (ChangeSpec.witness6 (enc := enc) (C := Try.checked) false ⟨#[], #[.agg #[.int .u8 0, .int .u8 0, .int .u8 0, .int .u8 0], .agg #[.int .u8 0, .int .u8 0, .int .u8 0, .int .u8 0]], []⟩ 8 (by kernel_rfl) (by kernel_rfl) (by kernel_rfl) (by kernel_rfl)) ?_
  intro W base args ds gs before hval0 hW hcnd _
  have hval : ∀ (j : Nat) t v, Try.f6.params[j]? = some t → args[j]? = some v → Value.okWide Try.prog W .any base t v := hval0
  have hW' := hW
  obtain ⟨p, q, hA0, hV, rfl, hfz, hnd⟩ := hW
  have hA : DataW.TrodAll enc Try.prog W 0 (fun _ => true) true Try.f6.params.toList args.toList ds p := hA0
  rw [Try.params6] at hA hval
  obtain ⟨v0, vs0, d0, ds0, p0, q0, hargs, rfl, rfl, h0, r0⟩ := trodAll_cons hA
  obtain ⟨v1, vs1, d1, ds1, p1, q1, rfl, rfl, rfl, h1, r1⟩ := trodAll_cons r0
  obtain ⟨rfl, rfl, rfl⟩ := trodAll_nil r1
  obtain rfl : args = #[v0, v1] := by cases args; simp_all
  obtain ⟨x0, rfl⟩ := open_col (hval 0 41 v0 rfl rfl) h0
  obtain ⟨x1, rfl⟩ := open_col (hval 1 41 v1 rfl rfl) h1
  unfold maxLen at *
  refine (core x0 x1 W).mono fun e W' ⟨he, ho⟩ => ?_
  subst he
  exact ⟨_, rfl, law_post rfl hW' (by intro t ht; revert t; exact of_decide_eq_true (by kernel_rfl)) rfl rfl ho⟩

theorem proved : Rows.PixelOverSaid :=
  OpenClaim.holds_of_wide 6 Try.f6 rfl rfl rfl rfl rfl rfl rfl ⟨rfl, rfl, rfl, rfl, rfl⟩ rfl rfl rfl rfl rfl (by kernel_rfl) Try.func6 (by kernel_rfl)
    (of_decide_eq_true (by kernel_rfl)) (by unfold Func.isWrapper; first | (rw [if_pos (by decide +kernel)]; kernel_rfl) | (rw [if_neg (by decide +kernel)]; exact ⟨rfl, rfl⟩))
    (fun os started H enc _ => lifted os started H enc)
end Go.Proofs.Ytngaabnmhcncmaa.pover
