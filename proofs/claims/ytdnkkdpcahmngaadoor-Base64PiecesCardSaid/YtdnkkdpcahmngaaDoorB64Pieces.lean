/-
  Proves: for all pieces Base64Pieces tells true, and leaves all that was there as it was. The two tables of package base64 hold what the program's own text lays (the card ties them).
-/
import Derived.Test.YtdnkkdpcahmngaaDoorB64K
import Derived.Test.YtdnkkdpcahmngaaDoorB64P
import Derived.Test.YtdnkkdpcahmngaaDoorB64W
namespace Go.Proofs.YtdnkkdpcahmngaaDoor.pieces
open Go Go.RowKit Go.ChangeShapes Go.WideShapes Go.ChangeAt

/-- Both decoders in one state. -/
structure Two (w0 w : World) (g tg : Nat) (v : Value) (s : St) : Prop where
  de : De w g s
  rf : Rf w0.heap.size w tg v s
  ok : s.Ok
  only : Only [] w0 w
  g0 : w0.heap.size ≤ g
  t0 : w0.heap.size ≤ tg

theorem has_ne {w : World} {g f : Nat} {t u : TypeId} {cs ds : Array Value} (h : Has w g t cs) (k : Has w f u ds) (hne : t ≠ u) : g ≠ f := by
  rintro rfl
  unfold Has at h k
  rw [h] at k
  injection k with k
  injection k with _ k
  exact hne k

theorem Two.ne {w0 w : World} {g tg : Nat} {v : Value} {s : St} (h : Two w0 w g tg v s) : g ≠ tg := has_ne h.de h.rf.has (by decide)
theorem Two.vg {w0 w : World} {g tg : Nat} {v : Value} {s : St} (h : Two w0 w g tg v s) : some g ≠ v.ownBlock := own_ne h.rf.own h.de (by decide)

/-- The reference behind the one's step. -/
theorem Two.mid {w0 w w1 : World} {g tg : Nat} {v : Value} {s : St} (h : Two w0 w g tg v s) (ho : Only [g] w w1) : Rf w0.heap.size w1 tg v s :=
  h.rf.only ho (by simpa using h.ne.symm) (fun b hb hm => h.vg (by rw [hb]; simp at hm; rw [hm]))

theorem Two.step {w0 w w1 w2 : World} {g tg : Nat} {v v' : Value} {s s' : St} (h : Two w0 w g tg v s) (ho : Only [g] w w1) (hd : De w1 g s') (hs : Since [tg] w1 v w2 v') (hr : Rf w0.heap.size w2 tg v' s') (hok : s'.Ok) : Two w0 w2 g tg v' s' := by
  refine ⟨Has.only hd hs.only ?_, hr, hok, (h.only.trans ho (by have := h.g0; simp; omega)).trans hs.only ?_, h.g0, h.t0⟩
  · intro hm
    rcases List.mem_append.1 hm with hm | hm
    · exact h.ne (by simpa using hm)
    · exact h.vg (by cases hv : v.ownBlock with
        | none => rw [hv] at hm; simp at hm
        | some k => rw [hv] at hm; simp at hm; rw [hm])
  · intro i hi hlt
    rcases List.mem_append.1 hi with hi | hi
    · have := h.t0; have : i = tg := by simpa using hi
      omega
    · have hb : v.ownBlock = some i := by simpa using hi
      have := (h.rf.own.lt i hb).1
      omega

theorem Two.tab {w0 w : World} {g tg : Nat} {v : Value} {s : St} (h : Two w0 w g tg v s) (T : Tab w0) : Tab w := T.only h.only (by simp) (by simp)

theorem Two.quiet {w0 w w1 : World} {g tg : Nat} {v : Value} {s : St} (h : Two w0 w g tg v s) (ho : Only [] w w1) : Two w0 w1 g tg v s :=
  ⟨Has.only h.de ho (by simp), h.rf.only ho (by simp) (by simp), h.ok, h.only.trans ho (by simp), h.g0, h.t0⟩

/-- What is told of how many signs wait. -/
theorem Two.held {w0 w : World} {g tg : Nat} {v : Value} {s : St} (h : Two w0 w g tg v s) :
    (Calls Tryd.prog 15 #[.pointer (some ⟨g, 0, none⟩)] w fun e w' => e = .returned (.int .i64 (s.held : Nat)) ∧ Two w0 w' g tg v s) ∧
    ∀ w1, Two w0 w1 g tg v s → Calls Tryd.prog 16 #[.pointer (some ⟨tg, 0, none⟩)] w1 fun e w' => e = .returned (.int .i64 (s.held : Nat)) ∧ w1 = w' := by
  have := h.ok.few
  exact ⟨(held_o g s w h.de (by omega) (by omega)).mono fun e w' ⟨he, _, ho⟩ => ⟨he, h.quiet ho⟩, fun w1 h1 => tHeld _ tg v s w1 h1.rf⟩

set_option maxRecDepth 100000 in
set_option maxHeartbeats 4000000 in
theorem core (L : Option Addr) (m d : Nat) (f : PcF) (w : World) (T : Tab w) (hP : Pcs w L m f) (hm : m ≤ 9223372036854775807) :
    Calls Tryd.prog 3 #[.slice L m d] w fun e w' => e = .returned (.bool true) ∧ Only [] w w' := by
  have hn1 : ∀ (g : Nat) (w : World), (binOp .eql 25 (.pointer (some ⟨g, 0, none⟩)) (.pointer none)).run Tryd.prog w = .ok (.bool false) w := fun g w => by kernel_rfl
  have HK := hide (known_any w T)
  have HT := hide (And.intro T hP)
  clear T hP
  go_enter Tryd.func3, Tryd.ntmps3
  go_wp2_with fail
  refine (HK.out).mono ?_
  rintro e w1 ⟨rfl, ho1⟩
  have HO1 := hide ho1
  clear ho1
  go_wp2_with fail
  refine (few_any L m d f w1 (HT.out.2.keep HO1.out) hm).mono ?_
  rintro e wx ⟨⟨fb, rfl, hfew⟩, rfl⟩
  cases fb with
  | false =>
    clear hfew
    go_wp2_with fail
    go_ret
    exact ⟨rfl, HO1.out⟩
  | true =>
    have hfe := hfew rfl
    clear hfew
    go_wp2_with fail
    refine (newDecoder_any w1).mono ?_
    rintro e w2 ⟨g, rfl, hg, hd2, ho2⟩
    have hsz := HO1.out.size
    have htwo : Two w (w2.alloc (.cells #[.slice none 0 0, .bool false, .bool false] 30)) g w2.heap.size (.slice none 0 0) St.new :=
      ⟨Has.alloc hd2 _, Rf.fresh _ _ _ rfl, St.Ok.new, (HO1.out.trans ho2 (by simp)).alloc _, by omega, Nat.le_trans hsz ho2.size⟩
    have HB := hide htwo
    clear htwo hd2 ho2 hg hsz
    go_wp2_with fail
    go_loopw [4, 5] (fun tp i wr => ∃ (j tg : Nat) (v : Value) (s : St), j ≤ m ∧ i = .int .i64 j ∧ tp = .pointer (some ⟨tg, 0, none⟩) ∧ Two w wr g tg v s) (fun _ i _ => m - (intOf i).toNat)
    case atStart => exact ⟨0, _, _, _, Nat.zero_le _, rfl, rfl, HB.out⟩
    case round =>
      obtain ⟨j, tg, v, s, hj, rfl, rfl, htw⟩ := hrel
      by_cases hlt : j < m
      · obtain ⟨b, o, rfl, hp⟩ := HT.out.2 j hlt
        have hbw := hp.lt
        have hp := hp.keep htw.only
        have d0 := hp.kind
        have d1 := hp.byt
        have hbl : (f.B j).length ≤ 4096 := by have := sumB_ge f hlt; omega
        have hblk : 0 < (f.B j).length → ∀ ad, f.BA j = some ad → ad.block < w.heap.size := fun h0 ad ha => by
          obtain ⟨b2, o2, _, hp0⟩ := HT.out.2 j hlt
          exact hp0.holds.blk h0 ad ha
        have HP := hide (And.intro htw (And.intro hp.holds hblk))
        clear htw hp hblk
        generalize f.K j = kk at *
        generalize f.BA j = BA at *
        generalize f.BC j = BC at *
        generalize f.B j = bl at *
        by_cases hk1 : kk = 1
        focus
          subst hk1
          have hE := end_any g s wr HP.out.1.de HP.out.1.ok
          have hF := fun w1 (h : Rf w.heap.size w1 tg v s) => tEnd w.heap.size tg v s w1 h HP.out.1.ok
          have hok := @fin_ok s
          generalize s.fin = x at *
          obtain ⟨xo, xe, xt⟩ := x
          have HE := hide hE
          have HF := hide hF
          clear hE hF d1
          go_wp2_with fail
          refine (HE.out).mono ?_
          rintro e w3 ⟨v3, rfl, ho3, hd3, hon3⟩
          obtain ⟨A3, c3, rfl, _, _⟩ := own_shape ho3
          have H3 := hide (And.intro ho3 (And.intro hd3 hon3))
          clear ho3 hd3 hon3
          go_wp2_with fail
          refine (HF.out w3 (HP.out.1.mid H3.out.2.2)).mono ?_
          rintro e w4 ⟨A4, m4, c4, v4, rfl, hh4, hr4, hs4, ho4⟩
          have ht4 := HP.out.1.step H3.out.2.2 H3.out.2.1 hs4 hr4 hok
          have hne := own_ne H3.out.1 (HP.out.1.mid H3.out.2.2).has (by decide)
          have s3 := own_string (own_keep H3.out.1 ho4 (fun b hb hm => hne (hb.trans (congrArg some (by simpa using hm))).symm))
          have s4 := holds_string c4 hh4
          have H4 := hide (And.intro ht4 ht4.held)
          clear hh4 hr4 hs4 ho4 ht4 hne hok
          go_wp2_with fail
        rotate_left 1
        by_cases hk2 : kk = 2
        focus
          subst hk2
          have HE := hide (reset_any g s wr HP.out.1.de)
          clear d1 hk1
          go_wp2_with fail
          refine (HE.out).mono ?_
          rintro e w3 ⟨rfl, hd3, hon3⟩
          have ht4 : Two w (w3.alloc (.cells #[.slice none 0 0, .bool false, .bool false] 30)) g w3.heap.size (.slice none 0 0) St.new :=
            ⟨Has.alloc hd3 _, Rf.fresh _ _ _ rfl, St.Ok.new, (HP.out.1.only.trans hon3 (by have := HP.out.1.g0; simp; omega)).alloc _, HP.out.1.g0, by have := HP.out.1.only.size; have := hon3.size; omega⟩
          have H4 := hide (And.intro ht4 ht4.held)
          clear hd3 hon3 ht4
          go_wp2_with fail
        rotate_left 1
        have hE := write_any g s BA bl.length BC bl wr (HP.out.1.tab HT.out.1) HP.out.1.de HP.out.1.ok HP.out.2.1 rfl (by omega) (fun h0 ad ha => by have := HP.out.2.2 h0 ad ha; have := HP.out.1.g0; omega)
        have hF := fun w1 (ho : Only [g] wr w1) => tWrite w.heap.size tg v s BA bl.length BC bl w1 (HP.out.1.mid ho) HP.out.1.ok (by have := HP.out.1.only.size; have := ho.size; omega)
          (HP.out.2.1.keepPos ho (fun h0 ad ha _ hm => by have := HP.out.2.2 h0 ad ha; have := HP.out.1.g0; simp at hm; omega)) rfl (by omega)
          (fun h0 ad ha => ⟨by have := HP.out.2.2 h0 ad ha; have := HP.out.1.t0; omega, fun hv => by have := HP.out.2.2 h0 ad ha; have := (HP.out.1.rf.own.lt _ hv).1; omega⟩)
        have hok := write_ok HP.out.1.ok bl
        generalize s.write bl = x at *
        obtain ⟨xo, xe, xt⟩ := x
        have HE := hide hE
        have HF := hide hF
        clear hE hF
        go_wp2_with fail
        refine (HE.out).mono ?_
        rintro e w3 ⟨v3, rfl, ho3, hd3, hon3⟩
        obtain ⟨A3, c3, rfl, _, _⟩ := own_shape ho3
        have d3 : w3.cell? ⟨b, o + j * 2 + 1, none⟩ = some (.slice BA bl.length BC) := by
          have hlt2 := HP.out.1.only.size
          have := HP.out.1.g0
          rw [hon3.cell (p := ⟨b, o + j * 2 + 1, none⟩) (by show b < wr.heap.size; omega) (by simp; omega)]
          exact d1
        have H3 := hide (And.intro ho3 (And.intro hd3 hon3))
        clear ho3 hd3 hon3
        go_wp2_with fail
        refine (HF.out w3 H3.out.2.2).mono ?_
        rintro e w4 ⟨r4, v4, rfl, hh4, hr4, hs4⟩
        obtain ⟨A4, c4, rfl, _, _⟩ := own_shape hh4
        have ht4 := HP.out.1.step H3.out.2.2 H3.out.2.1 hs4 hr4 hok
        have hne := own_ne H3.out.1 (HP.out.1.mid H3.out.2.2).has (by decide)
        have s3 := own_string (own_keep H3.out.1 hs4.only (fun b hb hm => by
          rcases List.mem_append.1 hm with hm | hm
          · exact hne (hb.trans (congrArg some (by simpa using hm))).symm
          · have hv : v.ownBlock = some b := by simpa using hm
            have h1 := (HP.out.1.rf.own.lt b hv).2
            have h2 := (H3.out.1.lt b hb).1
            omega))
        have s4 := own_string hh4
        have H4 := hide (And.intro ht4 ht4.held)
        clear hh4 hr4 hs4 ht4 hne hok hk1 hk2 d3
        focus go_wp2_with fail
        all_goals
          clear hp
          refine (H4.out.2.1).mono ?_
          rintro e w5 ⟨rfl, ht5⟩
          have H5 := hide ht5
          clear ht5
          focus go_wp2_with fail
          refine (H4.out.2.2 w5 H5.out).mono ?_
          rintro e w6 ⟨rfl, rfl⟩
          focus go_wp2_with fail
          go_roundw
          case rel => exact ⟨j + 1, _, _, _, hlt, by go_num, rfl, H5.out⟩
          case measure => simp [intOf]; omega
      · obtain rfl : j = m := by omega
        have HP := hide htw
        clear htw hlt
        go_wp2_with fail
        go_ret
        exact ⟨rfl, HP.out.only⟩

set_option maxRecDepth 100000 in
theorem lifted (os : Os) (started : os.Started) (H : Type) (enc : TypeId × Value → H) :
    ReturnsInHanded {} Tryd.checked os 3 .any (fun w args => (Rows.base64PiecesSpec.pre enc Tryd.prog Tryd.f3 [] false w args ∧ laidMetH Tryd.prog laidB w) ∧ sizedMet enc Tryd.prog Tryd.f3 (OpenSpec.ofChange Rows.base64PiecesSpec) false w args)
      (Rows.base64PiecesSpec.post enc Tryd.prog Tryd.f3 false true false false) := by
  refine returnsInHanded_of_change_and (C := Tryd.checked) (X := fun w _ => laidMetH Tryd.prog laidB w) (fun _ _ _ hh h => h.of_heap hh) own_knob started (by kernel_rfl) Tryd.func3
    (ChangeSpec.witness_shaped (enc := enc) (C := Tryd.checked) (os := os) (X := fun w _ => laidMetH Tryd.prog laidB w) false (World.doorLaid Tryd.prog 400 os) #[.slice none 0 0] 8 rfl (World.shaped_of_RefB (by kernel_rfl) (by kernel_rfl)) (by kernel_rfl) (by kernel_rfl) (by kernel_rfl) (door_met os _)) ?_
  intro W base args ds gs before hval0 hW _ _ hL _
  have hval : ∀ (j : Nat) t v, Tryd.f3.params[j]? = some t → args[j]? = some v → Value.okWide Tryd.prog W .any base t v := hval0
  have hW' := hW
  obtain ⟨p, q, hA0, hV, rfl, hfz, hnd⟩ := hW
  have hA : DataW.TrodAll enc Tryd.prog W 0 (fun _ => true) true Tryd.f3.params.toList args.toList ds p := hA0
  rw [Tryd.params3] at hA hval
  obtain ⟨v0, vs0, d0, ds0, p0, q0, hargs, rfl, rfl, h0, r0⟩ := trodAll_cons hA
  obtain ⟨rfl, rfl, rfl⟩ := trodAll_nil r0
  obtain rfl : args = #[v0] := by cases args; simp_all
  obtain ⟨A, m, c, f, rfl, cm, hP, _⟩ := open_pieces (hval 0 22 v0 rfl rfl) h0
  unfold maxLen at cm
  refine (core A m c f W (tab_of_laid hL) hP (by omega)).mono fun e W' ⟨he, ho⟩ => ?_
  subst he
  exact ⟨_, rfl, law_post rfl hW' (by intro t ht; revert t; exact of_decide_eq_true (by kernel_rfl)) rfl rfl ho⟩

theorem holds : Rows.Base64PiecesSaid :=
  OpenClaim.holds_of_wide 3 Tryd.f3 rfl rfl rfl rfl rfl rfl rfl ⟨rfl, rfl, rfl, rfl, rfl⟩ rfl rfl rfl rfl rfl (by kernel_rfl) Tryd.func3 (by kernel_rfl)
    (of_decide_eq_true (by kernel_rfl)) (by unfold Func.isWrapper; first | (rw [if_pos (by decide +kernel)]; kernel_rfl) | (rw [if_neg (by decide +kernel)]; exact ⟨rfl, rfl⟩))
    (fun os started H enc _ => lifted os started H enc)

theorem proved : Rows.Base64PiecesCardSaid :=
  Claim7.holds_tied_plain_at .later [] [.data, .data] true Rows.base64PiecesCard.stood.harness false
    holds (fun _ h => by cases h) (by kernel_rfl) (fun _ h => by cases h) base64Pieces_row_tie rfl ⟨rfl, rfl⟩ (by kernel_rfl) rfl
    (fun f fn hf hfn => by
      obtain rfl : f = 3 := Option.some.inj ((show Tryd.prog.funcNamed "phosphor/phosphorlaw3.Base64Pieces" = some 3 by kernel_rfl).symm.trans hf) |>.symm
      obtain rfl : fn = Tryd.f3 := (Option.some.inj (Tryd.func3.symm.trans hfn)).symm
      exact ⟨by kernel_rfl, fun j t ht => by
        rw [Tryd.params3] at ht
        have hm : t ∈ [22] := by simpa using Array.mem_of_getElem? ht
        have hall : ([22].all fun u => !Tryd.prog.wantsStandIn u) = true := by kernel_rfl
        exact (show Tryd.prog.wantsStandIn t = false by simpa using List.all_eq_true.1 hall t hm)⟩)
    (by kernel_rfl)
end Go.Proofs.YtdnkkdpcahmngaaDoor.pieces
