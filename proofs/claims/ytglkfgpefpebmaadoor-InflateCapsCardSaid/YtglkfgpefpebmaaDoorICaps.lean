/-
  Proves: for all bytes, flags and numbers, InflateCaps tells true, and leaves all that was there as it was. No condition.
-/
import Derived.Test.YtglkfgpefpebmaaDoorInfV
import Derived.Test.YtglkfgpefpebmaaDoorInfW
namespace Go.Proofs.YtglkfgpefpebmaaDoor.icaps
open Go Go.RowKit Go.ChangeShapes Go.WideShapes Go.ChangeAt

theorem str_any {w : World} {A : Option Addr} {n : Nat} {l : List UInt8} (h : Holds w 1 A n (bvals l)) (c : Nat) : (convert 22 9 (.slice A n c)).run Tryd.prog w = .ok (.string ⟨l.toArray⟩) w :=
  run_string_of h c 22 5 9 Tryd.underlying22 Tryd.underlying5 Tryd.underlying9

set_option maxRecDepth 100000 in
theorem out (A : Option Addr) (n c : Nat) (fx : Bool) (z : Int) (w : World) (h : 600 < n ∨ z < 0 ∨ 1048576 < z) :
    Calls Tryd.prog 4 #[.slice A n c, .bool fx, .int .i64 z] w fun e w' => e = .returned (.bool true) ∧ Only [] w w' := by
  have HK := hide (knownI_any w)
  by_cases h1 : 600 < n
  · have h1' : (600 : Int) < (n : Int) := by omega
    clear h
    go_enter Tryd.func4, Tryd.ntmps4
    go_wp2_with fail
    refine (HK.out).mono ?_
    rintro e w1 ⟨rfl, ho⟩
    have HO := hide ho
    clear ho
    go_wp2_with fail
    go_ret
    exact ⟨rfl, HO.out⟩
  · have h1' : ¬ (600 : Int) < (n : Int) := by omega
    by_cases h2 : z < 0
    · clear h
      go_enter Tryd.func4, Tryd.ntmps4
      go_wp2_with fail
      refine (HK.out).mono ?_
      rintro e w1 ⟨rfl, ho⟩
      have HO := hide ho
      clear ho
      go_wp2_with fail
      go_ret
      exact ⟨rfl, HO.out⟩
    · have h3 : 1048576 < z := by omega
      clear h
      go_enter Tryd.func4, Tryd.ntmps4
      go_wp2_with fail
      refine (HK.out).mono ?_
      rintro e w1 ⟨rfl, ho⟩
      have HO := hide ho
      clear ho
      go_wp2_with fail
      go_ret
      exact ⟨rfl, HO.out⟩

set_option maxRecDepth 100000 in
set_option maxHeartbeats 8000000 in
theorem inn (A : Option Addr) (n c : Nat) (b : List UInt8) (fx : Bool) (m : Nat) (w : World) (hb : Holds w 1 A n (bvals b)) (hl : b.length = n) (hn : n ≤ 600) (hm : m ≤ 1048576) :
    Calls Tryd.prog 4 #[.slice A n c, .bool fx, .int .i64 (m : Int)] w fun e w' => e = .returned (.bool true) ∧ Only [] w w' := by
  subst hl
  have HK := hide (knownI_any w)
  have d1 : ¬ (600 : Int) < (b.length : Int) := by omega
  have d2 : ¬ (m : Int) < 0 := by omega
  have d3 : ¬ (1048576 : Int) < (m : Int) := by omega
  have HB := hide (And.intro hb (And.intro hn hm))
  clear hb hn hm
  go_enter Tryd.func4, Tryd.ntmps4
  go_wp2_with fail
  refine (HK.out).mono ?_
  rintro e w1 ⟨rfl, ho1⟩
  have H1 := hide (And.intro ho1 (store_any A b.length c b w1 (HB.out.1.keep ho1 (by simp)) rfl (by have := HB.out.2.1; omega)))
  clear ho1
  go_wp2_with fail
  refine (H1.out.2).mono ?_
  rintro e w2 ⟨v2, rfl, hown2, ho2⟩
  have H2 := hide (And.intro (own_mono hown2 (Nat.zero_le _)) (H1.out.1.trans ho2 (S := []) (by simp)))
  clear hown2 ho2
  cases fx with
  | false =>
    obtain ⟨bs, hbs⟩ : ∃ bs, bs = storeB true b := ⟨_, rfl⟩
    have hst : IsStream b bs := .inl ⟨hbs, by have := HB.out.2.1; omega⟩
    rw [← hbs] at H2
    have HX := hide (And.intro H2.out.1 (And.intro H2.out.2 hst))
    obtain ⟨wx, hwx⟩ : ∃ wx, wx = w2 := ⟨_, rfl⟩
    rw [← hwx] at HX ⊢
    clear hbs hst H2 hwx
    obtain ⟨A3, c3, rfl, hc3, _⟩ := own_shape HX.out.1
    have hI := inflate_whole b bs [] HX.out.2.2 A3 bs.length c3 m wx (by rw [List.append_nil]) (by rw [List.append_nil]; exact Holds.of_own HX.out.1) hc3 (by have := HX.out.2.2.len_le; have := HB.out.2.1; omega) (by have := HB.out.2.2; omega)
    have HI := hide hI
    clear hI hc3
    go_wp2_with fail
    refine (HI.out).mono ?_
    rintro e w5 ⟨ho5, hcase⟩
    have HO5 := hide (HX.out.2.1.trans ho5 (S := []) (by simp))
    rcases hcase with ⟨hle, v5, rfl, hown5⟩ | ⟨hgt, rfl⟩
    · have hlt : ¬ (m : Int) < (b.length : Int) := by omega
      obtain ⟨A5, c5, rfl, _, _⟩ := own_shape hown5
      have s1 := str_any (Holds.of_own hown5) c5
      have s2 := str_any (HB.out.1.keep HO5.out (by simp)) c
      obtain ⟨sb, hsb⟩ : ∃ s : ByteArray, s = ⟨b.toArray⟩ := ⟨_, rfl⟩
      rw [← hsb] at s1 s2
      clear hsb hown5 ho5 hle
      go_wp2_with fail
      go_ret
      exact ⟨rfl, HO5.out⟩
    · have hlt : (m : Int) < (b.length : Int) := by omega
      clear ho5 hgt
      go_wp2_with fail
      go_ret
      exact ⟨rfl, HO5.out⟩
  | true =>
    have HFx := hide (fixedP_any A b.length c b w2 (HB.out.1.keep H2.out.2 (by simp)) rfl (by have := HB.out.2.1; omega))
    go_wp2_with fail
    refine (HFx.out).mono ?_
    rintro e wx ⟨v3, bs, rfl, hfx, hown3, ho3⟩
    have HX := hide (And.intro (own_mono hown3 (Nat.zero_le _)) (And.intro (H2.out.2.trans ho3 (S := []) (by simp)) (show IsStream b bs from .inr hfx)))
    clear hfx hown3 ho3
    obtain ⟨A3, c3, rfl, hc3, _⟩ := own_shape HX.out.1
    have hI := inflate_whole b bs [] HX.out.2.2 A3 bs.length c3 m wx (by rw [List.append_nil]) (by rw [List.append_nil]; exact Holds.of_own HX.out.1) hc3 (by have := HX.out.2.2.len_le; have := HB.out.2.1; omega) (by have := HB.out.2.2; omega)
    have HI := hide hI
    clear hI hc3
    go_wp2_with fail
    refine (HI.out).mono ?_
    rintro e w5 ⟨ho5, hcase⟩
    have HO5 := hide (HX.out.2.1.trans ho5 (S := []) (by simp))
    rcases hcase with ⟨hle, v5, rfl, hown5⟩ | ⟨hgt, rfl⟩
    · have hlt : ¬ (m : Int) < (b.length : Int) := by omega
      obtain ⟨A5, c5, rfl, _, _⟩ := own_shape hown5
      have s1 := str_any (Holds.of_own hown5) c5
      have s2 := str_any (HB.out.1.keep HO5.out (by simp)) c
      obtain ⟨sb, hsb⟩ : ∃ s : ByteArray, s = ⟨b.toArray⟩ := ⟨_, rfl⟩
      rw [← hsb] at s1 s2
      clear hsb hown5 ho5 hle
      go_wp2_with fail
      go_ret
      exact ⟨rfl, HO5.out⟩
    · have hlt : (m : Int) < (b.length : Int) := by omega
      clear ho5 hgt
      go_wp2_with fail
      go_ret
      exact ⟨rfl, HO5.out⟩

theorem core (A : Option Addr) (n c : Nat) (b : List UInt8) (fx : Bool) (z : Int) (w : World) (hb : Holds w 1 A n (bvals b)) (hl : b.length = n) :
    Calls Tryd.prog 4 #[.slice A n c, .bool fx, .int .i64 z] w fun e w' => e = .returned (.bool true) ∧ Only [] w w' := by
  by_cases h : 600 < n ∨ z < 0 ∨ 1048576 < z
  · exact out A n c fx z w h
  · obtain ⟨m, rfl⟩ := Int.eq_ofNat_of_zero_le (show 0 ≤ z by omega)
    exact inn A n c b fx m w hb hl (by omega) (by omega)

set_option maxRecDepth 100000 in
theorem lifted (os : Os) (started : os.Started) (H : Type) (enc : TypeId × Value → H) :
    ReturnsInHanded {} Tryd.checked os 4 .any (fun w args => (Rows.inflateCapsSpec.pre enc Tryd.prog Tryd.f4 [] false w args ∧ laidMetH Tryd.prog laidI w) ∧ sizedMet enc Tryd.prog Tryd.f4 (OpenSpec.ofChange Rows.inflateCapsSpec) false w args)
      (Rows.inflateCapsSpec.post enc Tryd.prog Tryd.f4 false true false false) := by
  refine returnsInHanded_of_change_and (C := Tryd.checked) (X := fun w _ => laidMetH Tryd.prog laidI w) (fun _ _ _ hh h => h.of_heap hh) own_knob started (by kernel_rfl) Tryd.func4
    (ChangeSpec.witness_shaped (enc := enc) (C := Tryd.checked) (os := os) (X := fun w _ => laidMetH Tryd.prog laidI w) false (World.doorLaid Tryd.prog 400 os) #[.slice none 0 0, .bool false, .int .i64 0] 8 rfl (World.shaped_of_RefB (by kernel_rfl) (by kernel_rfl)) (by kernel_rfl) (by kernel_rfl) (by kernel_rfl) (door_met os _)) ?_
  intro W base args ds gs before hval0 hW _ _ hL _
  have hval : ∀ (j : Nat) t v, Tryd.f4.params[j]? = some t → args[j]? = some v → Value.okWide Tryd.prog W .any base t v := hval0
  have hW' := hW
  obtain ⟨p, q, hA0, hV, rfl, hfz, hnd⟩ := hW
  have hA : DataW.TrodAll enc Tryd.prog W 0 (fun _ => true) true Tryd.f4.params.toList args.toList ds p := hA0
  rw [Tryd.params4] at hA hval
  obtain ⟨v0, vs0, d0, ds0, p0, q0, hargs, rfl, rfl, h0, r0⟩ := trodAll_cons hA
  obtain ⟨v1, vs1, d1, ds1, p1, q1, rfl, rfl, rfl, h1, r1⟩ := trodAll_cons r0
  obtain ⟨v2, vs2, d2, ds2, p2, q2, rfl, rfl, rfl, h2, r2⟩ := trodAll_cons r1
  obtain ⟨rfl, rfl, rfl⟩ := trodAll_nil r2
  obtain rfl : args = #[v0, v1, v2] := by cases args; simp_all
  obtain ⟨A, n, c, l, rfl, nc, cm, _, hn, hb⟩ := open_bytes Tryd.underlying22 Tryd.underlying5 (by kernel_rfl) (hval 0 22 v0 rfl rfl) h0
  obtain ⟨bb, rfl, rfl, rfl⟩ := open_bool Tryd.underlying4 (hval 1 4 v1 rfl rfl) h1
  obtain ⟨z, rfl, rfl, rfl, _⟩ := open_int Tryd.underlying3 (hval 2 3 v2 rfl rfl) h2
  refine (core A n c l bb z W hb hn).mono fun e W' ⟨he, ho⟩ => ?_
  subst he
  exact ⟨_, rfl, law_post rfl hW' (by intro t ht; revert t; exact of_decide_eq_true (by kernel_rfl)) rfl rfl ho⟩

theorem holds : Rows.InflateCapsSaid :=
  OpenClaim.holds_of_wide 4 Tryd.f4 rfl rfl rfl rfl rfl rfl rfl ⟨rfl, rfl, rfl, rfl, rfl⟩ rfl rfl rfl rfl rfl (by kernel_rfl) Tryd.func4 (by kernel_rfl)
    (of_decide_eq_true (by kernel_rfl)) (by unfold Func.isWrapper; first | (rw [if_pos (by decide +kernel)]; kernel_rfl) | (rw [if_neg (by decide +kernel)]; exact ⟨rfl, rfl⟩))
    (fun os started H enc _ => lifted os started H enc)

theorem proved : Rows.InflateCapsCardSaid :=
  Claim7.holds_tied_plain_at .later [] Rows.inflateCapsCard.laidKinds true Rows.inflateCapsCard.stood.harness false
    holds (fun _ h => by cases h) (by kernel_rfl) (fun _ h => by cases h) inflateCaps_row_tie rfl ⟨rfl, rfl⟩ (by kernel_rfl) rfl
    (fun f fn hf hfn => by
      obtain rfl : f = 4 := Option.some.inj ((show Tryd.prog.funcNamed "phosphor/phosphorlaw5.InflateCaps" = some 4 by kernel_rfl).symm.trans hf) |>.symm
      obtain rfl : fn = Tryd.f4 := (Option.some.inj (Tryd.func4.symm.trans hfn)).symm
      exact ⟨by kernel_rfl, fun j t ht => by
        rw [Tryd.params4] at ht
        have hm : t ∈ [22, 4, 3] := by simpa using Array.mem_of_getElem? ht
        have hall : ([22, 4, 3].all fun u => !Tryd.prog.wantsStandIn u) = true := by kernel_rfl
        exact (show Tryd.prog.wantsStandIn t = false by simpa using List.all_eq_true.1 hall t hm)⟩)
    (by kernel_rfl)
end Go.Proofs.YtglkfgpefpebmaaDoor.icaps
