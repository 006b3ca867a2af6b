/-
  Proves: for all bytes, bytes behind and flags, InflateBack tells true, and leaves all that was there as it was. No condition.
-/
import Derived.Test.YtglkfgpefpebmaaDoorMInfU
import Derived.Test.YtglkfgpefpebmaaDoorInfT
import Derived.Test.YtglkfgpefpebmaaDoorInfW
import Derived.Test.YtglkfgpefpebmaaDoorJoin
namespace Go.Proofs.YtglkfgpefpebmaaDoor.iback
open Go Go.RowKit Go.ChangeShapes Go.WideShapes Go.ChangeAt

theorem str_any {w : World} {A : Option Addr} {n : Nat} {l : List UInt8} (h : Holds w 1 A n (bvals l)) (c : Nat) : (convert 22 9 (.slice A n c)).run Tryd.prog w = .ok (.string ⟨l.toArray⟩) w :=
  run_string_of h c 22 5 9 Tryd.underlying22 Tryd.underlying5 Tryd.underlying9

set_option maxRecDepth 100000 in
theorem out (A C : Option Addr) (n c m d : Nat) (fx : Bool) (w : World) (h : 4096 < n ∨ 4096 < m) :
    Calls Tryd.prog 3 #[.slice A n c, .slice C m d, .bool fx] w fun e w' => e = .returned (.bool true) ∧ Only [] w w' := by
  have HK := hide (knownI_any w)
  by_cases h1 : 4096 < n
  · have h1' : (4096 : Int) < (n : Int) := by omega
    clear h
    go_enter Tryd.func3, Tryd.ntmps3
    go_wp2_with fail
    refine (HK.out).mono ?_
    rintro e w1 ⟨rfl, ho⟩
    have HO := hide ho
    clear ho
    go_wp2_with fail
    go_ret
    exact ⟨rfl, HO.out⟩
  · have h1' : ¬ (4096 : Int) < (n : Int) := by omega
    have h2' : (4096 : Int) < (m : Int) := by omega
    clear h
    go_enter Tryd.func3, Tryd.ntmps3
    go_wp2_with fail
    refine (HK.out).mono ?_
    rintro e w1 ⟨rfl, ho⟩
    have HO := hide ho
    clear ho
    go_wp2_with fail
    go_ret
    exact ⟨rfl, HO.out⟩

set_option maxRecDepth 100000 in
set_option maxHeartbeats 8000000 in
theorem inn (A C : Option Addr) (n c m d : Nat) (b more : List UInt8) (fx : Bool) (w : World) (hb : Holds w 1 A n (bvals b)) (hl : b.length = n) (hc : n ≤ c) (hmo : Holds w 1 C m (bvals more)) (hml : more.length = m) (hn : n ≤ 4096) (hm : m ≤ 4096) :
    Calls Tryd.prog 3 #[.slice A n c, .slice C m d, .bool fx] w fun e w' => e = .returned (.bool true) ∧ Only [] w w' := by
  subst hl hml
  have HK := hide (knownI_any w)
  have d1 : ¬ (4096 : Int) < (b.length : Int) := by omega
  have d2 : ¬ (4096 : Int) < (more.length : Int) := by omega
  have HB := hide (And.intro hb (And.intro hmo (And.intro hn hm)))
  clear hb hmo hn hm
  go_enter Tryd.func3, Tryd.ntmps3
  go_wp2_with fail
  refine (HK.out).mono ?_
  rintro e w1 ⟨rfl, ho1⟩
  have H1 := hide (And.intro ho1 (store_any A b.length c b w1 (HB.out.1.keep ho1 (by simp)) rfl (by have := HB.out.2.2.1; omega)))
  clear ho1
  go_wp2_with fail
  refine (H1.out.2).mono ?_
  rintro e w2 ⟨v2, rfl, hown2, ho2⟩
  have o02 : Only [] w w2 := H1.out.1.trans ho2 (S := []) (by simp)
  have H2 := hide (And.intro (own_mono hown2 (Nat.zero_le _)) (And.intro o02 (tStore_any A b.length c b w2 (HB.out.1.keep o02 (by simp)) rfl (by have := HB.out.2.2.1; omega) hc)))
  clear hown2 ho2 o02
  go_wp2_with fail
  refine (H2.out.2.2).mono ?_
  rintro e w3 ⟨v3, rfl, hown3, ho3⟩
  have H3 := hide (And.intro (own_keep H2.out.1 ho3 (by simp)) (And.intro (own_mono hown3 (Nat.zero_le _)) (H2.out.2.1.trans ho3 (S := []) (by simp))))
  clear hown3 ho3 H2 H1
  cases fx with
  | false =>
    obtain ⟨bs, hbs⟩ : ∃ bs, bs = storeB true b := ⟨_, rfl⟩
    have hst : IsStream b bs := .inl ⟨hbs, by have := HB.out.2.2.1; omega⟩
    rw [← hbs] at H3
    have HX := hide (And.intro H3.out.1 (And.intro H3.out.2.1 (And.intro H3.out.2.2 hst)))
    obtain ⟨wx, hwx⟩ : ∃ wx, wx = w3 := ⟨_, rfl⟩
    rw [← hwx] at HX ⊢
    clear hbs hst H3 hwx
    obtain ⟨A3, c3, rfl, hc3, _⟩ := own_shape HX.out.1
    obtain ⟨Ay, cy, rfl, _, _⟩ := own_shape HX.out.2.1
    have hlen := HX.out.2.2.2.len_le
    have hbl := HB.out.2.2
    have hbx := Holds.of_own HX.out.1
    have hr1 : bs.length ≤ 140737488355328 := by omega
    have hr2 : bs.length + more.length ≤ 140737488355328 := by omega
    have HR := hide (And.intro hlen hbl)
    clear hlen hbl
    go_wp2_with (first
      | (at_builtin; refine list_fresh rfl (.tmp 32) (.tmp 33) rfl wx rfl hbx hr1 _ rfl rfl rfl ?_; intro A4 c4 w4 hown4 ho4; have hmo4 := (HB.out.2.1.keep (HX.out.2.2.1.trans ho4 (S := []) (fun _ hi _ => hi)) (fun _ _ _ => List.not_mem_nil)))
      | (at_builtin; refine list_more rfl (.tmp 34) (.tmp 35) rfl wx w4 rfl hmo4 hr2 hown4 ho4 rfl rfl ?_; intro A5 c5 w5 hown5 ho5))
    have H5 := hide (And.intro hown5 (HX.out.2.2.1.trans ho5 (S := []) (by simp)))
    have hc5 : bs.length + more.length ≤ c5 := by
      obtain ⟨A', c', hv, hnc, _⟩ := own_shape H5.out.1
      injection hv with _ _ hc
      all_goals omega
    have HI := hide (inflate_whole b bs more HX.out.2.2.2 A5 (bs.length + more.length) c5 b.length w5 (by rw [List.length_append]) (Holds.of_own H5.out.1) hc5 (by have := HR.out; omega) (by have := HR.out; omega))
    have hbxk := HX.out.1
    have hkeep5 : Only [] wx w5 := ho5
    have HK5 := hide hkeep5
    clear hown4 ho4 hmo4 hown5 ho5 hc5 hbxk hkeep5 hbx
    refine (HI.out).mono ?_
    rintro e w6 ⟨ho6, hcase⟩
    obtain ⟨v6, rfl, hown6⟩ : ∃ v, e = .returned (.tuple #[v, .int .i64 (bs.length : Int), .int .i64 0]) ∧ w6.ownsRow 0 5 1 v b.length (bvals b) := by
      rcases hcase with ⟨_, v, h1, h2⟩ | ⟨h1, _⟩
      · exact ⟨v, h1, h2⟩
      · omega
    obtain ⟨A6, c6, rfl, _, _⟩ := own_shape hown6
    have o06 : Only [] w w6 := H5.out.2.trans ho6 (S := []) (by simp)
    have ox6 : Only [] wx w6 := HK5.out.trans ho6 (S := []) (by simp)
    have s1 := str_any (Holds.of_own (own_keep HX.out.1 ox6 (by simp))) c3
    have s2 := str_any (Holds.of_own (own_keep HX.out.2.1 ox6 (by simp))) cy
    have s3 := str_any (Holds.of_own hown6) c6
    have s4 := str_any (HB.out.1.keep o06 (by simp)) c
    have HO6 := hide o06
    obtain ⟨sb, hsb⟩ : ∃ s : ByteArray, s = ⟨b.toArray⟩ := ⟨_, rfl⟩
    obtain ⟨sx, hsx⟩ : ∃ s : ByteArray, s = ⟨bs.toArray⟩ := ⟨_, rfl⟩
    rw [← hsb] at s3 s4
    rw [← hsx] at s1 s2
    clear hsb hsx hown6 hcase ho6 o06 ox6
    go_wp2_with fail
    go_ret
    exact ⟨rfl, HO6.out⟩
  | true =>
    have HFx := hide (fixedP_any A b.length c b w3 (HB.out.1.keep H3.out.2.2 (by simp)) rfl (by have := HB.out.2.2.1; omega))
    go_wp2_with fail
    refine (HFx.out).mono ?_
    rintro e w4 ⟨v4, bs, rfl, hfx, hown4, ho4⟩
    have o04 : Only [] w w4 := H3.out.2.2.trans ho4 (S := []) (by simp)
    have H4 := hide (And.intro (own_mono hown4 (Nat.zero_le _)) (And.intro o04 (And.intro (tFixedP_any A b.length c b w4 (HB.out.1.keep o04 (by simp)) rfl (by have := HB.out.2.2.1; omega)) hfx)))
    clear hown4 ho4 o04 hfx HFx
    go_wp2_with fail
    refine (H4.out.2.2.1).mono ?_
    rintro e wx ⟨v5, bs5, rfl, hfx5, hown5, ho5⟩
    obtain rfl := H4.out.2.2.2.inj hfx5
    have HX := hide (And.intro (own_keep H4.out.1 ho5 (by simp)) (And.intro (own_mono hown5 (Nat.zero_le _)) (And.intro (H4.out.2.1.trans ho5 (S := []) (by simp)) (show IsStream b bs from .inr hfx5))))
    clear hfx5 hown5 ho5 H4 H3
    obtain ⟨A3, c3, rfl, hc3, _⟩ := own_shape HX.out.1
    obtain ⟨Ay, cy, rfl, _, _⟩ := own_shape HX.out.2.1
    have hlen := HX.out.2.2.2.len_le
    have hbl := HB.out.2.2
    have hbx := Holds.of_own HX.out.1
    have hr1 : bs.length ≤ 140737488355328 := by omega
    have hr2 : bs.length + more.length ≤ 140737488355328 := by omega
    have HR := hide (And.intro hlen hbl)
    clear hlen hbl
    go_wp2_with (first
      | (at_builtin; refine list_fresh rfl (.tmp 32) (.tmp 33) rfl wx rfl hbx hr1 _ rfl rfl rfl ?_; intro A4 c4 w4 hown4 ho4; have hmo4 := (HB.out.2.1.keep (HX.out.2.2.1.trans ho4 (S := []) (fun _ hi _ => hi)) (fun _ _ _ => List.not_mem_nil)))
      | (at_builtin; refine list_more rfl (.tmp 34) (.tmp 35) rfl wx w4 rfl hmo4 hr2 hown4 ho4 rfl rfl ?_; intro A5 c5 w5 hown5 ho5))
    have H5 := hide (And.intro hown5 (HX.out.2.2.1.trans ho5 (S := []) (by simp)))
    have hc5 : bs.length + more.length ≤ c5 := by
      obtain ⟨A', c', hv, hnc, _⟩ := own_shape H5.out.1
      injection hv with _ _ hc
      all_goals omega
    have HI := hide (inflate_whole b bs more HX.out.2.2.2 A5 (bs.length + more.length) c5 b.length w5 (by rw [List.length_append]) (Holds.of_own H5.out.1) hc5 (by have := HR.out; omega) (by have := HR.out; omega))
    have hbxk := HX.out.1
    have hkeep5 : Only [] wx w5 := ho5
    have HK5 := hide hkeep5
    clear hown4 ho4 hmo4 hown5 ho5 hc5 hbxk hkeep5 hbx
    refine (HI.out).mono ?_
    rintro e w6 ⟨ho6, hcase⟩
    obtain ⟨v6, rfl, hown6⟩ : ∃ v, e = .returned (.tuple #[v, .int .i64 (bs.length : Int), .int .i64 0]) ∧ w6.ownsRow 0 5 1 v b.length (bvals b) := by
      rcases hcase with ⟨_, v, h1, h2⟩ | ⟨h1, _⟩
      · exact ⟨v, h1, h2⟩
      · omega
    obtain ⟨A6, c6, rfl, _, _⟩ := own_shape hown6
    have o06 : Only [] w w6 := H5.out.2.trans ho6 (S := []) (by simp)
    have ox6 : Only [] wx w6 := HK5.out.trans ho6 (S := []) (by simp)
    have s1 := str_any (Holds.of_own (own_keep HX.out.1 ox6 (by simp))) c3
    have s2 := str_any (Holds.of_own (own_keep HX.out.2.1 ox6 (by simp))) cy
    have s3 := str_any (Holds.of_own hown6) c6
    have s4 := str_any (HB.out.1.keep o06 (by simp)) c
    have HO6 := hide o06
    obtain ⟨sb, hsb⟩ : ∃ s : ByteArray, s = ⟨b.toArray⟩ := ⟨_, rfl⟩
    obtain ⟨sx, hsx⟩ : ∃ s : ByteArray, s = ⟨bs.toArray⟩ := ⟨_, rfl⟩
    rw [← hsb] at s3 s4
    rw [← hsx] at s1 s2
    clear hsb hsx hown6 hcase ho6 o06 ox6
    go_wp2_with fail
    go_ret
    exact ⟨rfl, HO6.out⟩

theorem core (A C : Option Addr) (n c m d : Nat) (b more : List UInt8) (fx : Bool) (w : World) (hb : Holds w 1 A n (bvals b)) (hl : b.length = n) (hc : n ≤ c) (hmo : Holds w 1 C m (bvals more)) (hml : more.length = m) :
    Calls Tryd.prog 3 #[.slice A n c, .slice C m d, .bool fx] w fun e w' => e = .returned (.bool true) ∧ Only [] w w' := by
  by_cases h : 4096 < n ∨ 4096 < m
  · exact out A C n c m d fx w h
  · exact inn A C n c m d b more fx w hb hl hc hmo hml (by omega) (by omega)

set_option maxRecDepth 100000 in
theorem lifted (os : Os) (started : os.Started) (H : Type) (enc : TypeId × Value → H) :
    ReturnsInHanded {} Tryd.checked os 3 .any (fun w args => (Rows.inflateBackSpec.pre enc Tryd.prog Tryd.f3 [] false w args ∧ laidMetH Tryd.prog laidI w) ∧ sizedMet enc Tryd.prog Tryd.f3 (OpenSpec.ofChange Rows.inflateBackSpec) false w args)
      (Rows.inflateBackSpec.post enc Tryd.prog Tryd.f3 false true false false) := by
  refine returnsInHanded_of_change_and (C := Tryd.checked) (X := fun w _ => laidMetH Tryd.prog laidI w) (fun _ _ _ hh h => h.of_heap hh) own_knob started (by kernel_rfl) Tryd.func3
    (ChangeSpec.witness_shaped (enc := enc) (C := Tryd.checked) (os := os) (X := fun w _ => laidMetH Tryd.prog laidI w) false (World.doorLaid Tryd.prog 400 os) #[.slice none 0 0, .slice none 0 0, .bool false] 8 rfl (World.shaped_of_RefB (by kernel_rfl) (by kernel_rfl)) (by kernel_rfl) (by kernel_rfl) (by kernel_rfl) (door_met os _)) ?_
  intro W base args ds gs before hval0 hW _ _ hL _
  have hval : ∀ (j : Nat) t v, Tryd.f3.params[j]? = some t → args[j]? = some v → Value.okWide Tryd.prog W .any base t v := hval0
  have hW' := hW
  obtain ⟨p, q, hA0, hV, rfl, hfz, hnd⟩ := hW
  have hA : DataW.TrodAll enc Tryd.prog W 0 (fun _ => true) true Tryd.f3.params.toList args.toList ds p := hA0
  rw [Tryd.params3] at hA hval
  obtain ⟨v0, vs0, d0, ds0, p0, q0, hargs, rfl, rfl, h0, r0⟩ := trodAll_cons hA
  obtain ⟨v1, vs1, d1, ds1, p1, q1, rfl, rfl, rfl, h1, r1⟩ := trodAll_cons r0
  obtain ⟨v2, vs2, d2, ds2, p2, q2, rfl, rfl, rfl, h2, r2⟩ := trodAll_cons r1
  obtain ⟨rfl, rfl, rfl⟩ := trodAll_nil r2
  obtain rfl : args = #[v0, v1, v2] := by cases args; simp_all
  obtain ⟨A, n, c, l, rfl, nc, cm, _, hn, hb⟩ := open_bytes Tryd.underlying22 Tryd.underlying5 (by kernel_rfl) (hval 0 22 v0 rfl rfl) h0
  obtain ⟨C, m, d, t, rfl, md, dm, _, hm, hmb⟩ := open_bytes Tryd.underlying22 Tryd.underlying5 (by kernel_rfl) (hval 1 22 v1 rfl rfl) h1
  obtain ⟨bb, rfl, rfl, rfl⟩ := open_bool Tryd.underlying4 (hval 2 4 v2 rfl rfl) h2
  refine (core A C n c m d l t bb W hb hn nc hmb hm).mono fun e W' ⟨he, ho⟩ => ?_
  subst he
  exact ⟨_, rfl, law_post rfl hW' (by intro t ht; revert t; exact of_decide_eq_true (by kernel_rfl)) rfl rfl ho⟩

theorem holds : Rows.InflateBackSaid :=
  OpenClaim.holds_of_wide 3 Tryd.f3 rfl rfl rfl rfl rfl rfl rfl ⟨rfl, rfl, rfl, rfl, rfl⟩ rfl rfl rfl rfl rfl (by kernel_rfl) Tryd.func3 (by kernel_rfl)
    (of_decide_eq_true (by kernel_rfl)) (by unfold Func.isWrapper; first | (rw [if_pos (by decide +kernel)]; kernel_rfl) | (rw [if_neg (by decide +kernel)]; exact ⟨rfl, rfl⟩))
    (fun os started H enc _ => lifted os started H enc)

theorem proved : Rows.InflateBackCardSaid :=
  Claim7.holds_tied_plain_at .later [] Rows.inflateBackCard.laidKinds true Rows.inflateBackCard.stood.harness false
    holds (fun _ h => by cases h) (by kernel_rfl) (fun _ h => by cases h) inflateBack_row_tie rfl ⟨rfl, rfl⟩ (by kernel_rfl) rfl
    (fun f fn hf hfn => by
      obtain rfl : f = 3 := Option.some.inj ((show Tryd.prog.funcNamed "phosphor/phosphorlaw5.InflateBack" = some 3 by kernel_rfl).symm.trans hf) |>.symm
      obtain rfl : fn = Tryd.f3 := (Option.some.inj (Tryd.func3.symm.trans hfn)).symm
      exact ⟨by kernel_rfl, fun j t ht => by
        rw [Tryd.params3] at ht
        have hm : t ∈ [22, 22, 4] := by simpa using Array.mem_of_getElem? ht
        have hall : ([22, 22, 4].all fun u => !Tryd.prog.wantsStandIn u) = true := by kernel_rfl
        exact (show Tryd.prog.wantsStandIn t = false by simpa using List.all_eq_true.1 hall t hm)⟩)
    (by kernel_rfl)
end Go.Proofs.YtglkfgpefpebmaaDoor.iback
