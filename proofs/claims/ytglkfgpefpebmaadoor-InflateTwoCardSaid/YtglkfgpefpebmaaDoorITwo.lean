/-
  Proves: for all bytes and flags, InflateTwo tells true, and leaves all that was there as it was. No condition.
-/
import Derived.Test.YtglkfgpefpebmaaDoorMInfU
import Derived.Test.YtglkfgpefpebmaaDoorInfT
import Derived.Test.YtglkfgpefpebmaaDoorInfW
import Derived.Test.YtglkfgpefpebmaaDoorJoin
namespace Go.Proofs.YtglkfgpefpebmaaDoor.itwo
open Go Go.RowKit Go.ChangeShapes Go.WideShapes Go.ChangeAt

theorem str_any {w : World} {A : Option Addr} {n : Nat} {l : List UInt8} (h : Holds w 1 A n (bvals l)) (c : Nat) : (convert 22 9 (.slice A n c)).run Tryd.prog w = .ok (.string ⟨l.toArray⟩) w :=
  run_string_of h c 22 5 9 Tryd.underlying22 Tryd.underlying5 Tryd.underlying9

set_option maxRecDepth 100000 in
theorem out (A C : Option Addr) (n c m d : Nat) (fx : Bool) (w : World) (h : 600 < n ∨ 600 < m) :
    Calls Tryd.prog 6 #[.slice A n c, .slice C m d, .bool fx] w fun e w' => e = .returned (.bool true) ∧ Only [] w w' := by
  have HK := hide (knownI_any w)
  by_cases h1 : 600 < n
  · have h1' : (600 : Int) < (n : Int) := by omega
    clear h
    go_enter Tryd.func6, Tryd.ntmps6
    go_wp2_with fail
    refine (HK.out).mono ?_
    rintro e w1 ⟨rfl, ho⟩
    have HO := hide ho
    clear ho
    go_wp2_with fail
    go_ret
    exact ⟨rfl, HO.out⟩
  · have h1' : ¬ (600 : Int) < (n : Int) := by omega
    have h2' : (600 : Int) < (m : Int) := by omega
    clear h
    go_enter Tryd.func6, Tryd.ntmps6
    go_wp2_with fail
    refine (HK.out).mono ?_
    rintro e w1 ⟨rfl, ho⟩
    have HO := hide ho
    clear ho
    go_wp2_with fail
    go_ret
    exact ⟨rfl, HO.out⟩

theorem storeB_zero (a : List UInt8) : (bvals (storeB true a)).set 0 (.int .u8 0) = bvals (storeB false a) := rfl

set_option maxRecDepth 100000 in
set_option maxHeartbeats 8000000 in
theorem inn (A C : Option Addr) (n c m d : Nat) (a b : List UInt8) (fx : Bool) (w : World) (ha : Holds w 1 A n (bvals a)) (hl : a.length = n) (hc : n ≤ c) (hb : Holds w 1 C m (bvals b)) (hml : b.length = m) (hn : n ≤ 600) (hm : m ≤ 600) :
    Calls Tryd.prog 6 #[.slice A n c, .slice C m d, .bool fx] w fun e w' => e = .returned (.bool true) ∧ Only [] w w' := by
  subst hl hml
  have HK := hide (knownI_any w)
  have d1 : ¬ (600 : Int) < (a.length : Int) := by omega
  have d2 : ¬ (600 : Int) < (b.length : Int) := by omega
  have HB := hide (And.intro ha (And.intro hb (And.intro hn hm)))
  clear ha hb hn hm
  go_enter Tryd.func6, Tryd.ntmps6
  go_wp2_with fail
  refine (HK.out).mono ?_
  rintro e w1 ⟨rfl, ho1⟩
  have H1 := hide (And.intro ho1 (tStore_any A a.length c a w1 (HB.out.1.keep ho1 (by simp)) rfl (by have := HB.out.2.2.1; omega) hc))
  clear ho1
  go_wp2_with fail
  refine (H1.out.2).mono ?_
  rintro e w2 ⟨v2, rfl, hown2, ho2⟩
  obtain ⟨A2, c2, rfl, _, _⟩ := own_shape hown2
  obtain ⟨g2, rfl, hg2, hg2lt, hfr2, hcell2⟩ := own_open hown2 (by rw [storeB_length]; omega)
  have k0 : w2.cell? ⟨g2, 0, none⟩ = some (.int .u8 1) := hcell2 0 _ rfl
  have f0 := hfr2 0
  have hset := own_set hown2 0 (.int .u8 0)
  rw [storeB_zero] at hset
  have hsl : (storeB true a).length = (storeB false a).length := by rw [storeB_length, storeB_length]
  rw [hsl] at hset
  have hx0 : (0 : Int) < ((storeB true a).length : Int) := by rw [storeB_length]; omega
  have o02 : Only [] w (w2.setCell ⟨g2, 0, none⟩ (.int .u8 0)) := (H1.out.1.trans ho2 (S := []) (by simp)).setCell (by intro h; exfalso; have h1 : g2 < w.heap.size := h; have := H1.out.1.size; omega) _
  have H2 := hide (And.intro (own_mono hset (Nat.zero_le _)) (And.intro o02 (store_any C b.length d b _ (HB.out.2.1.keep o02 (by simp)) rfl (by have := HB.out.2.2.2; omega))))
  rw [hsl] at hx0 ⊢
  obtain ⟨xs, hxs⟩ : ∃ xs, xs = storeB false a := ⟨_, rfl⟩
  rw [← hxs] at H2 hx0 ⊢
  have HXS := hide hxs
  clear hown2 ho2 hset o02 hsl hfr2 hcell2 hg2 hg2lt hxs
  go_wp2_with fail
  refine (H2.out.2.2).mono ?_
  rintro e w3 ⟨v3, rfl, hown3, ho3⟩
  have H3 := hide (And.intro (own_keep H2.out.1 ho3 (by simp)) (And.intro (own_mono hown3 (Nat.zero_le _)) (H2.out.2.1.trans ho3 (S := []) (by simp))))
  clear hown3 ho3 H2 H1 k0 f0
  cases fx with
  | false =>
    obtain ⟨bs, hbs⟩ : ∃ bs, bs = storeB true b := ⟨_, rfl⟩
    have hst : IsStream b bs := .inl ⟨hbs, by have := HB.out.2.2.2; omega⟩
    rw [← hbs] at H3
    have HX := hide (And.intro H3.out.1 (And.intro H3.out.2.1 (And.intro H3.out.2.2 hst)))
    obtain ⟨wx, hwx⟩ : ∃ wx, wx = w3 := ⟨_, rfl⟩
    rw [← hwx] at HX ⊢
    clear hbs hst H3 hwx
    obtain ⟨A4, c4, rfl, hc4, _⟩ := own_shape HX.out.2.1
    have hlen := HX.out.2.2.2.len_le
    have hbl := HB.out.2.2
    have hxl : xs.length = 5 + a.length := by rw [HXS.out, storeB_length]
    have hr1 : xs.length ≤ 140737488355328 := by omega
    have hr2 : xs.length + bs.length ≤ 140737488355328 := by omega
    have hbx := Holds.of_own HX.out.1
    have HR := hide (And.intro hlen (And.intro hbl hxl))
    have hab : (a.length : Int) + (b.length : Int) = ((a.length + b.length : Nat) : Int) := by omega
    obtain ⟨most, hmost⟩ : ∃ q, q = a.length + b.length := ⟨_, rfl⟩
    rw [← hmost] at hab
    have hlb : (xs.length : Int) + (bs.length : Int) = ((xs.length + bs.length : Nat) : Int) := by omega
    obtain ⟨tot, htot⟩ : ∃ q, q = xs.length + bs.length := ⟨_, rfl⟩
    rw [← htot] at hlb
    have HM := hide (And.intro hmost htot)
    have hx6 : (xs.length : Int) ≤ 1000000 := by omega
    have hx7 : (bs.length : Int) ≤ 1000000 := by omega
    clear hlen hbl hxl hmost htot
    go_wp2_with (first
      | (at_builtin; refine list_fresh rfl (.tmp 32) (.tmp 33) rfl wx rfl hbx hr1 _ rfl rfl rfl ?_; intro A5 c5 w5 hown5 ho5; have hmo5 := Holds.of_own (own_keep HX.out.2.1 ho5 (fun _ _ => List.not_mem_nil)))
      | (at_builtin; refine list_more rfl (.tmp 34) (.tmp 35) rfl wx w5 rfl hmo5 hr2 hown5 ho5 rfl rfl ?_; intro A6 c6 w6 hown6 ho6))
    have H6 := hide (And.intro hown6 (HX.out.2.2.1.trans ho6 (S := []) (by simp)))
    have hc6 : tot ≤ c6 := by
      obtain ⟨A', c', hv, hnc, _⟩ := own_shape H6.out.1
      have := HM.out.2
      injection hv with _ _ hc
      all_goals omega
    have hI := inflate_two a b bs HX.out.2.2.2 (by have := HR.out.2.1; omega) A6 tot c6 most w6 (by rw [← HXS.out, List.length_append]; exact HM.out.2) (by rw [← HXS.out, HM.out.2]; exact Holds.of_own H6.out.1) hc6 (by have := HR.out; have := HM.out.2; omega) HM.out.1 (by have := HR.out; have := HM.out.1; omega)
    rw [HM.out.2] at hI
    have HI := hide hI
    clear hown5 ho5 hmo5 hown6 ho6 hc6 hbx hI
    refine (HI.out).mono ?_
    rintro e w7 ⟨ho7, v7, rfl, hown7⟩
    obtain ⟨A7, c7, rfl, _, _⟩ := own_shape hown7
    have o07 : Only [] w w7 := H6.out.2.trans ho7 (S := []) (by simp)
    have s3 := str_any (Holds.of_own hown7) c7
    have s4 := str_any (HB.out.1.keep o07 (by simp)) c
    have s5 := str_any (HB.out.2.1.keep o07 (by simp)) d
    have HO7 := hide o07
    have he : (⟨(a ++ b).toArray⟩ : ByteArray) = ⟨a.toArray⟩ ++ ⟨b.toArray⟩ := by apply ByteArray.ext; simp
    rw [he, List.length_append] at s3
    have hsz1 : (⟨a.toArray⟩ : ByteArray).size ≤ 600 := by show a.toArray.size ≤ 600; rw [List.size_toArray]; exact HB.out.2.2.1
    have hsz2 : (⟨b.toArray⟩ : ByteArray).size ≤ 600 := by show b.toArray.size ≤ 600; rw [List.size_toArray]; exact HB.out.2.2.2
    have hsum : (⟨a.toArray⟩ : ByteArray).size + (⟨b.toArray⟩ : ByteArray).size ≤ 9223372036854775807 := by omega
    obtain ⟨sa, hsa⟩ : ∃ s : ByteArray, s = ⟨a.toArray⟩ := ⟨_, rfl⟩
    obtain ⟨sb, hsb⟩ : ∃ s : ByteArray, s = ⟨b.toArray⟩ := ⟨_, rfl⟩
    rw [← hsa] at s3 s4 hsz1 hsum
    rw [← hsb] at s3 s5 hsz2 hsum
    rw [← HM.out.2]
    clear hsa hsb he hown7 ho7 o07 HI
    go_wp2_with fail
    go_ret
    exact ⟨rfl, HO7.out⟩
  | true =>
    have HFx := hide (fixedP_any C b.length d b w3 (HB.out.2.1.keep H3.out.2.2 (by simp)) rfl (by have := HB.out.2.2.2; omega))
    go_wp2_with fail
    refine (HFx.out).mono ?_
    rintro e wx ⟨v4, bs, rfl, hfx, hown4, ho4⟩
    have HX := hide (And.intro (own_keep H3.out.1 ho4 (by simp)) (And.intro (own_mono hown4 (Nat.zero_le _)) (And.intro (H3.out.2.2.trans ho4 (S := []) (by simp)) (show IsStream b bs from .inr hfx))))
    clear hfx hown4 ho4 H3
    obtain ⟨A4, c4, rfl, hc4, _⟩ := own_shape HX.out.2.1
    have hlen := HX.out.2.2.2.len_le
    have hbl := HB.out.2.2
    have hxl : xs.length = 5 + a.length := by rw [HXS.out, storeB_length]
    have hr1 : xs.length ≤ 140737488355328 := by omega
    have hr2 : xs.length + bs.length ≤ 140737488355328 := by omega
    have hbx := Holds.of_own HX.out.1
    have HR := hide (And.intro hlen (And.intro hbl hxl))
    have hab : (a.length : Int) + (b.length : Int) = ((a.length + b.length : Nat) : Int) := by omega
    obtain ⟨most, hmost⟩ : ∃ q, q = a.length + b.length := ⟨_, rfl⟩
    rw [← hmost] at hab
    have hlb : (xs.length : Int) + (bs.length : Int) = ((xs.length + bs.length : Nat) : Int) := by omega
    obtain ⟨tot, htot⟩ : ∃ q, q = xs.length + bs.length := ⟨_, rfl⟩
    rw [← htot] at hlb
    have HM := hide (And.intro hmost htot)
    have hx6 : (xs.length : Int) ≤ 1000000 := by omega
    have hx7 : (bs.length : Int) ≤ 1000000 := by omega
    clear hlen hbl hxl hmost htot
    go_wp2_with (first
      | (at_builtin; refine list_fresh rfl (.tmp 32) (.tmp 33) rfl wx rfl hbx hr1 _ rfl rfl rfl ?_; intro A5 c5 w5 hown5 ho5; have hmo5 := Holds.of_own (own_keep HX.out.2.1 ho5 (fun _ _ => List.not_mem_nil)))
      | (at_builtin; refine list_more rfl (.tmp 34) (.tmp 35) rfl wx w5 rfl hmo5 hr2 hown5 ho5 rfl rfl ?_; intro A6 c6 w6 hown6 ho6))
    have H6 := hide (And.intro hown6 (HX.out.2.2.1.trans ho6 (S := []) (by simp)))
    have hc6 : tot ≤ c6 := by
      obtain ⟨A', c', hv, hnc, _⟩ := own_shape H6.out.1
      have := HM.out.2
      injection hv with _ _ hc
      all_goals omega
    have hI := inflate_two a b bs HX.out.2.2.2 (by have := HR.out.2.1; omega) A6 tot c6 most w6 (by rw [← HXS.out, List.length_append]; exact HM.out.2) (by rw [← HXS.out, HM.out.2]; exact Holds.of_own H6.out.1) hc6 (by have := HR.out; have := HM.out.2; omega) HM.out.1 (by have := HR.out; have := HM.out.1; omega)
    rw [HM.out.2] at hI
    have HI := hide hI
    clear hown5 ho5 hmo5 hown6 ho6 hc6 hbx hI
    refine (HI.out).mono ?_
    rintro e w7 ⟨ho7, v7, rfl, hown7⟩
    obtain ⟨A7, c7, rfl, _, _⟩ := own_shape hown7
    have o07 : Only [] w w7 := H6.out.2.trans ho7 (S := []) (by simp)
    have s3 := str_any (Holds.of_own hown7) c7
    have s4 := str_any (HB.out.1.keep o07 (by simp)) c
    have s5 := str_any (HB.out.2.1.keep o07 (by simp)) d
    have HO7 := hide o07
    have he : (⟨(a ++ b).toArray⟩ : ByteArray) = ⟨a.toArray⟩ ++ ⟨b.toArray⟩ := by apply ByteArray.ext; simp
    rw [he, List.length_append] at s3
    have hsz1 : (⟨a.toArray⟩ : ByteArray).size ≤ 600 := by show a.toArray.size ≤ 600; rw [List.size_toArray]; exact HB.out.2.2.1
    have hsz2 : (⟨b.toArray⟩ : ByteArray).size ≤ 600 := by show b.toArray.size ≤ 600; rw [List.size_toArray]; exact HB.out.2.2.2
    have hsum : (⟨a.toArray⟩ : ByteArray).size + (⟨b.toArray⟩ : ByteArray).size ≤ 9223372036854775807 := by omega
    obtain ⟨sa, hsa⟩ : ∃ s : ByteArray, s = ⟨a.toArray⟩ := ⟨_, rfl⟩
    obtain ⟨sb, hsb⟩ : ∃ s : ByteArray, s = ⟨b.toArray⟩ := ⟨_, rfl⟩
    rw [← hsa] at s3 s4 hsz1 hsum
    rw [← hsb] at s3 s5 hsz2 hsum
    rw [← HM.out.2]
    clear hsa hsb he hown7 ho7 o07 HI
    go_wp2_with fail
    go_ret
    exact ⟨rfl, HO7.out⟩

theorem core (A C : Option Addr) (n c m d : Nat) (a b : List UInt8) (fx : Bool) (w : World) (ha : Holds w 1 A n (bvals a)) (hl : a.length = n) (hc : n ≤ c) (hb : Holds w 1 C m (bvals b)) (hml : b.length = m) :
    Calls Tryd.prog 6 #[.slice A n c, .slice C m d, .bool fx] w fun e w' => e = .returned (.bool true) ∧ Only [] w w' := by
  by_cases h : 600 < n ∨ 600 < m
  · exact out A C n c m d fx w h
  · exact inn A C n c m d a b fx w ha hl hc hb hml (by omega) (by omega)

set_option maxRecDepth 100000 in
theorem lifted (os : Os) (started : os.Started) (H : Type) (enc : TypeId × Value → H) :
    ReturnsInHanded {} Tryd.checked os 6 .any (fun w args => (Rows.inflateTwoSpec.pre enc Tryd.prog Tryd.f6 [] false w args ∧ laidMetH Tryd.prog laidI w) ∧ sizedMet enc Tryd.prog Tryd.f6 (OpenSpec.ofChange Rows.inflateTwoSpec) false w args)
      (Rows.inflateTwoSpec.post enc Tryd.prog Tryd.f6 false true false false) := by
  refine returnsInHanded_of_change_and (C := Tryd.checked) (X := fun w _ => laidMetH Tryd.prog laidI w) (fun _ _ _ hh h => h.of_heap hh) own_knob started (by kernel_rfl) Tryd.func6
    (ChangeSpec.witness_shaped (enc := enc) (C := Tryd.checked) (os := os) (X := fun w _ => laidMetH Tryd.prog laidI w) false (World.doorLaid Tryd.prog 400 os) #[.slice none 0 0, .slice none 0 0, .bool false] 8 rfl (World.shaped_of_RefB (by kernel_rfl) (by kernel_rfl)) (by kernel_rfl) (by kernel_rfl) (by kernel_rfl) (door_met os _)) ?_
  intro W base args ds gs before hval0 hW _ _ hL _
  have hval : ∀ (j : Nat) t v, Tryd.f6.params[j]? = some t → args[j]? = some v → Value.okWide Tryd.prog W .any base t v := hval0
  have hW' := hW
  obtain ⟨p, q, hA0, hV, rfl, hfz, hnd⟩ := hW
  have hA : DataW.TrodAll enc Tryd.prog W 0 (fun _ => true) true Tryd.f6.params.toList args.toList ds p := hA0
  rw [Tryd.params6] at hA hval
  obtain ⟨v0, vs0, d0, ds0, p0, q0, hargs, rfl, rfl, h0, r0⟩ := trodAll_cons hA
  obtain ⟨v1, vs1, d1, ds1, p1, q1, rfl, rfl, rfl, h1, r1⟩ := trodAll_cons r0
  obtain ⟨v2, vs2, d2, ds2, p2, q2, rfl, rfl, rfl, h2, r2⟩ := trodAll_cons r1
  obtain ⟨rfl, rfl, rfl⟩ := trodAll_nil r2
  obtain rfl : args = #[v0, v1, v2] := by cases args; simp_all
  obtain ⟨A, n, c, l, rfl, nc, cm, _, hn, hb⟩ := open_bytes Tryd.underlying22 Tryd.underlying5 (by kernel_rfl) (hval 0 22 v0 rfl rfl) h0
  obtain ⟨C, m, d, t, rfl, md, dm, _, hm, hmb⟩ := open_bytes Tryd.underlying22 Tryd.underlying5 (by kernel_rfl) (hval 1 22 v1 rfl rfl) h1
  obtain ⟨bb, rfl, rfl, rfl⟩ := open_bool Tryd.underlying4 (hval 2 4 v2 rfl rfl) h2
  refine (core A C n c m d l t bb W hb hn nc hmb hm).mono fun e W' ⟨he, ho⟩ => ?_
  subst he
  exact ⟨_, rfl, law_post rfl hW' (by intro t ht; revert t; exact of_decide_eq_true (by kernel_rfl)) rfl rfl ho⟩

theorem holds : Rows.InflateTwoSaid :=
  OpenClaim.holds_of_wide 6 Tryd.f6 rfl rfl rfl rfl rfl rfl rfl ⟨rfl, rfl, rfl, rfl, rfl⟩ rfl rfl rfl rfl rfl (by kernel_rfl) Tryd.func6 (by kernel_rfl)
    (of_decide_eq_true (by kernel_rfl)) (by unfold Func.isWrapper; first | (rw [if_pos (by decide +kernel)]; kernel_rfl) | (rw [if_neg (by decide +kernel)]; exact ⟨rfl, rfl⟩))
    (fun os started H enc _ => lifted os started H enc)

theorem proved : Rows.InflateTwoCardSaid :=
  Claim7.holds_tied_plain_at .later [] Rows.inflateTwoCard.laidKinds true Rows.inflateTwoCard.stood.harness false
    holds (fun _ h => by cases h) (by kernel_rfl) (fun _ h => by cases h) inflateTwo_row_tie rfl ⟨rfl, rfl⟩ (by kernel_rfl) rfl
    (fun f fn hf hfn => by
      obtain rfl : f = 6 := Option.some.inj ((show Tryd.prog.funcNamed "phosphor/phosphorlaw5.InflateTwo" = some 6 by kernel_rfl).symm.trans hf) |>.symm
      obtain rfl : fn = Tryd.f6 := (Option.some.inj (Tryd.func6.symm.trans hfn)).symm
      exact ⟨by kernel_rfl, fun j t ht => by
        rw [Tryd.params6] at ht
        have hm : t ∈ [22, 22, 4] := by simpa using Array.mem_of_getElem? ht
        have hall : ([22, 22, 4].all fun u => !Tryd.prog.wantsStandIn u) = true := by kernel_rfl
        exact (show Tryd.prog.wantsStandIn t = false by simpa using List.all_eq_true.1 hall t hm)⟩)
    (by kernel_rfl)
end Go.Proofs.YtglkfgpefpebmaaDoor.itwo
