/-
  Proves: for any bytes, any bytes behind, either way to pack them and any bit ZlibBack tells true, and leaves all that was there as it was.
-/
import Derived.Test.YtopjkmobnmaaaaaDoorMFlM
import Derived.Test.YtopjkmobnmaaaaaDoorMZlY
namespace Go.Proofs.YtopjkmobnmaaaaaDoor.zback
open Go Go.RowKit Go.ChangeShapes Go.WideShapes Go.ChangeAt

theorem i64_and31 (n : Int) : bits .and .i64 n 31 = n % 32 := by
  have h7 : (BitVec.ofInt 64 31).toNat = 2 ^ 5 - 1 := by decide
  have key : (BitVec.ofInt 64 n &&& BitVec.ofInt 64 31).toNat = (n % ((2 ^ 64 : Nat) : Int)).toNat % 2 ^ 5 := by
    rw [BitVec.toNat_and, BitVec.toNat_ofInt, h7, Nat.and_two_pow_sub_one_eq_mod]
  show IntKind.i64.wrap ((BitVec.ofInt 64 n &&& BitVec.ofInt 64 31).toNat : Nat) = n % 32
  rw [key, IntKind.wrap_i64]
  omega
theorem xor_ne (x k : Nat) : x ^^^ 2 ^ k ≠ x := fun h => by
  have h2 := congrArg (fun z => x ^^^ z) h
  simp only [← Nat.xor_assoc, Nat.xor_self, Nat.zero_xor] at h2
  have := Nat.two_pow_pos k
  omega

set_option maxRecDepth 100000 in
set_option maxHeartbeats 8000000 in
theorem out (A B : Option Addr) (n c m d : Nat) (fx : Bool) (bit : Int) (w : World) (hT : Tab w) (h : 4096 < n ∨ (¬ 4096 < n ∧ 4096 < m)) :
    Calls Tryd.prog 3 #[.slice A n c, .slice B m d, .bool fx, .int .i64 bit] w fun e w' => e = .returned (.bool true) ∧ Only [] w w' := by
  have HK := hide (knownZ_any w hT)
  rcases h with h | ⟨h, h1⟩
  · have hn : (4096 : Int) < (n : Int) := by omega
    go_enter Tryd.func3, Tryd.ntmps3
    go_wp2_with fail
    refine (HK.out).mono ?_
    rintro e w1 ⟨rfl, ho1⟩
    go_wp2_with fail
    go_ret
    exact ⟨rfl, ho1⟩
  · have hn : ¬ (4096 : Int) < (n : Int) := by omega
    have hm : (4096 : Int) < (m : Int) := by omega
    go_enter Tryd.func3, Tryd.ntmps3
    go_wp2_with fail
    refine (HK.out).mono ?_
    rintro e w1 ⟨rfl, ho1⟩
    go_wp2_with fail
    go_ret
    exact ⟨rfl, ho1⟩

set_option maxRecDepth 100000 in
set_option maxHeartbeats 16000000 in
theorem core (A B : Option Addr) (n c m d : Nat) (l more : List UInt8) (fx : Bool) (bit : Int) (w : World) (hT : Tab w) (hb : Holds w 1 A n (bvals l)) (hl : l.length = n) (hc : n ≤ c) (hmo : Holds w 1 B m (bvals more)) (hml : more.length = m) :
    Calls Tryd.prog 3 #[.slice A n c, .slice B m d, .bool fx, .int .i64 bit] w fun e w' => e = .returned (.bool true) ∧ Only [] w w' := by
  by_cases h0 : 4096 < n ∨ (¬ 4096 < n ∧ 4096 < m)
  · exact out A B n c m d fx bit w hT h0
  have hn : ¬ (4096 : Int) < (n : Int) := by omega
  have hm : ¬ (4096 : Int) < (m : Int) := by omega
  have hn6 : n ≤ 4096 := by omega
  have hm6 : m ≤ 4096 := by omega
  have HK := hide (knownZ_any w hT)
  have HB := hide (And.intro hT (And.intro hb (And.intro hl (And.intro hmo hml))))
  have HP : Hid (∀ w', Only [] w w' → _) := hide (fun w' (ho : Only [] w w') => pack_any fx A n c l w' (hb.keep ho (by simp)) hl hc hn6)
  have hand := i64_and31 bit
  obtain ⟨z, hz⟩ : ∃ z : Nat, (z : Int) = bit % 32 := ⟨(bit % 32).toNat, by omega⟩
  have hz32 : z < 32 := by omega
  rw [← hz] at hand
  clear hT hb hl hc h0 hmo hml hz
  go_enter Tryd.func3, Tryd.ntmps3
  go_wp2_with fail
  refine (HK.out).mono ?_
  rintro e w1 ⟨rfl, ho1⟩
  have O1 := hide ho1
  clear ho1
  go_wp2_with fail
  refine (HP.out _ O1.out).mono ?_
  rintro e w2 ⟨v, s, rfl, hpk, hs9, how, ho⟩
  obtain ⟨A1, c1, rfl, hc1, hA1⟩ := own_shape how
  have h6 := hpk.six
  obtain ⟨p, hp⟩ : ∃ p, p = s.length := ⟨_, rfl⟩
  have O2 := hide (And.intro (O1.out.trans ho (S := []) (by simp)) (And.intro (show w2.ownsRow w1.heap.size 5 1 (.slice A1 p c1) p (bvals s) by rw [hp]; exact how) (And.intro hpk (And.intro hp hc1))))
  rw [← hp] at hs9 h6 hc1 ⊢
  clear how ho hpk hA1 hp O1
  have hb2 := Holds.of_own O2.out.2.1
  have hr1 : p ≤ 140737488355328 := by omega
  have hr2 : p + m ≤ 140737488355328 := by omega
  have hlen := O2.out.2.2.2.1.symm
  have hp6 : ¬ (p : Int) < 6 := by omega
  obtain ⟨wx, hwx⟩ : ∃ wx, wx = w2 := ⟨_, rfl⟩
  rw [← hwx] at O2 hb2 ⊢
  clear hwx
  have hml := HB.out.2.2.2.2
  go_wp2_with (first
    | (at_builtin; refine list_fresh rfl (.tmp 34) (.tmp 35) rfl wx hlen hb2 hr1 _ rfl rfl rfl ?_; intro A4 c4 w4 hown4 ho4; have hmo4 := (HB.out.2.2.2.1.keep (O2.out.1.trans ho4 (S := []) (fun _ hi _ => hi)) (fun _ _ _ => List.not_mem_nil)))
    | (at_builtin; refine list_more rfl (.tmp 36) (.tmp 37) rfl wx w4 hml hmo4 hr2 hown4 ho4 rfl rfl ?_; intro A5 c5 w5 hown5 ho5))
  have hc5 : p + m ≤ c5 ∧ (A5 = none → c5 = 0) := by
    obtain ⟨A', c', hv, hnc, hnn⟩ := own_shape hown5
    injection hv with hA hn hc
    subst hA
    subst hc
    exact ⟨by omega, hnn⟩
  have O5 := hide (And.intro (O2.out.1.trans ho5 (S := []) (by simp)) (And.intro (Holds.of_own hown5) (And.intro ho5 hc5)))
  clear hown4 ho4 hmo4 hown5 ho5 hc5 hb2
  have HU1 := hide (unpack_whole O2.out.2.2.1 more A5 (p + m) c5 n w5 (HB.out.1.only O5.out.1 (by simp)) (by rw [hlen, hml]) O5.out.2.1 O5.out.2.2.2.1 O5.out.2.2.2.2 (by omega) (by rw [HB.out.2.2.1]; omega) (by omega))
  refine (HU1.out).mono ?_
  rintro e w6 ⟨ho6, v, rfl, how6⟩
  rw [HB.out.2.2.1] at how6
  rw [hlen]
  obtain ⟨A6, c6, rfl, _, _⟩ := own_shape how6
  have O6 := hide (And.intro (O5.out.1.trans ho6 (S := []) (by simp)) (And.intro (own_keep O2.out.2.1 (O5.out.2.2.1.trans ho6 (S := []) (by simp)) (by simp)) (Holds.of_own how6)))
  clear how6 ho6 HU1
  have hb6 := Holds.of_own O6.out.2.1
  obtain ⟨wy, hwy⟩ : ∃ wy, wy = w6 := ⟨_, rfl⟩
  rw [← hwy] at O6 hb6 ⊢
  clear hwy
  obtain ⟨j, hj⟩ : ∃ j, j = z / 8 := ⟨_, rfl⟩
  obtain ⟨k, hk⟩ : ∃ k, k = z % 8 := ⟨_, rfl⟩
  obtain ⟨q, hq⟩ : ∃ q, q = p - 4 := ⟨_, rfl⟩
  obtain ⟨a, ha⟩ : ∃ a, a = q + j := ⟨_, rfl⟩
  have hap : a < p := by omega
  have hxl := (s.getD a 0).toNat_lt
  obtain ⟨x, hx⟩ : ∃ x, x = (s.getD a 0).toNat := ⟨_, rfl⟩
  rw [← hx] at hxl
  have hp2 : 2 ^ k < 256 := Nat.pow_lt_pow_right (a := 2) (by omega) (n := 8) (by omega)
  obtain ⟨y, hy⟩ : ∃ y, y = x ^^^ 2 ^ k := ⟨_, rfl⟩
  have hy8 : y < 256 := by rw [hy]; exact Nat.xor_lt_two_pow (n := 8) (by omega) hp2
  have hyx : y ≠ x := by rw [hy]; exact xor_ne x k
  have eX : bits .xor .u8 (x : Int) ((2 ^ k : Nat) : Int) = (y : Int) := by rw [hy]; exact u8_xor_nat _ _ (by omega) hp2
  have W7 : Hid (IntKind.u8.wrap ((2 : Int) ^ k) = ((2 ^ k : Nat) : Int)) := hide (by rw [← two_pow_cast, IntKind.wrap_u8]; generalize 2 ^ k = p at hp2 ⊢; omega)
  have W8 : Hid ((2 : Int) ^ k % 256 = ((2 ^ k : Nat) : Int)) := hide (by rw [← two_pow_cast]; generalize 2 ^ k = p at hp2 ⊢; omega)
  obtain ⟨P, hP⟩ : ∃ P, P = 2 ^ k := ⟨_, rfl⟩
  rw [← hP] at eX W7 W8
  have W1 : Hid (Go.RowKit.wrap64 ((p : Int) - 4) = (q : Int) ∧ IntKind.i64.wrap ((p : Int) - 4) = (q : Int)) := hide ⟨by rw [show (p : Int) - 4 = (q : Int) by omega]; exact IntWalk.wrap64_in _ ⟨by omega, by omega⟩, by rw [show (p : Int) - 4 = (q : Int) by omega, IntKind.wrap_i64]; omega⟩
  have W2 : Hid (Go.RowKit.wrap64 ((q : Int) + (j : Int)) = (a : Int) ∧ IntKind.i64.wrap ((q : Int) + (j : Int)) = (a : Int)) := hide ⟨by rw [show (q : Int) + (j : Int) = (a : Int) by omega]; exact IntWalk.wrap64_in _ ⟨by omega, by omega⟩, by rw [show (q : Int) + (j : Int) = (a : Int) by omega, IntKind.wrap_i64]; omega⟩
  have W3 : Hid ((z : Int).tdiv 8 = (j : Int)) := hide (by rw [hj]; exact (Int.ofNat_tdiv z 8).symm)
  have W4 : Hid ((z : Int).tmod 8 = (k : Int)) := hide (by rw [hk]; exact (Int.ofNat_tmod z 8).symm)
  have W5 : Hid (IntKind.u64.wrap (k : Int) = (k : Int)) := hide (IntWalk.u64_in _ ⟨by omega, by omega⟩)
  have W6 : Hid (Go.RowKit.wrap64 (j : Int) = (j : Int) ∧ IntKind.i64.wrap (j : Int) = (j : Int)) := hide ⟨IntWalk.wrap64_in _ ⟨by omega, by omega⟩, by rw [IntKind.wrap_i64]; omega⟩
  have m1 : min k 64 = k := by omega
  have m2 : min k 8 = k := by omega
  have hk0 : ¬ (k : Int) < 0 := by omega
  have apI : (a : Int) < (p : Int) := by omega
  have haq : a = (p - 4) + j ∧ j < 4 := by omega
  have hap0 : 0 < p := by omega
  have HY := hide (And.intro hy8 (And.intro hyx (And.intro hx (And.intro haq (And.intro hap hap0)))))
  clear hj hk hq ha hx hxl hp2 hy hy8 hyx hP haq hz32 hap hap0
  obtain ⟨v1, u1⟩ := W1.out
  obtain ⟨v2, u2⟩ := W2.out
  have v3 := W3.out
  have v4 := W4.out
  have v5 := W5.out
  obtain ⟨v6, u6⟩ := W6.out
  have v7 := W7.out
  have v8 := W8.out
  clear W1 W2 W3 W4 W5 W6 W7 W8
  have HF : Hid (∀ (w7 : World) (A7 : Option Addr) (c7 : Nat), w7.ownsRow wy.heap.size 5 1 (.slice A7 p c7) p (bvals s) → ∃ g7, A7 = some ⟨g7, 0, none⟩ ∧ wy.heap.size ≤ g7 ∧ w7.cell? ⟨g7, a, none⟩ = some (.int .u8 (x : Int)) ∧ w7.frozen? ⟨g7, a, none⟩ = false) := hide (fun w7 A7 c7 how => by
    obtain ⟨g7, rfl, hg7, _, hfr, hcell⟩ := own_open how HY.out.2.2.2.2.2
    refine ⟨g7, rfl, hg7, hcell a _ ?_, hfr a⟩
    have hal : a < s.length := by rw [hlen]; exact HY.out.2.2.2.2.1
    rw [bvals_get s a hal, HY.out.2.2.1, List.getD_eq_getElem?_getD, List.getElem?_eq_getElem hal]
    rfl)
  go_wp2_with (at_builtin; refine list_fresh rfl (.tmp 47) (.tmp 48) rfl wy hlen hb6 hr1 _ rfl rfl rfl ?_; intro A7 c7 w7 hown7 ho7; obtain ⟨g7, rfl, hg7, k1, f1⟩ := HF.out _ _ _ hown7; have H7 := hide (And.intro hown7 (And.intro ho7 hg7)); clear hown7 ho7 hg7)
  clear v1 u1 v2 u2 v3 v4 v5 v6 u6 v7 v8 eX m1 m2
  have hset : s.set a (UInt8.ofNat y) = s.take (s.length - 4) ++ (s.drop (s.length - 4)).set j (UInt8.ofNat y) := by
    obtain ⟨_, _, _, ⟨h1, h2⟩, _, _⟩ := HY.out
    conv => lhs; rw [← List.take_append_drop (s.length - 4) s]
    rw [List.set_append, if_neg (by rw [List.length_take, hlen, h1]; omega)]
    congr 2
    rw [List.length_take, hlen, h1]
    omega
  have hne : (s.drop (s.length - 4)).set j (UInt8.ofNat y) ≠ s.drop (s.length - 4) := fun h => by
    obtain ⟨q1, q2, q3, ⟨h1, h2⟩, h3, _⟩ := HY.out
    have hjl : j < (s.drop (s.length - 4)).length := by rw [List.length_drop, hlen]; omega
    have h4 := congrArg (fun z => z[j]?) h
    simp only [List.getElem?_set_self hjl, List.getElem?_drop] at h4
    have e : s.length - 4 + j = a := by rw [hlen, h1]
    rw [e] at h4
    have h5 : (s.getD a 0) = UInt8.ofNat y := by rw [List.getD_eq_getElem?_getD, ← h4]; rfl
    rw [h5, UInt8.toNat_ofNat'] at q3
    exact q2 (by rw [q3]; exact (Nat.mod_eq_of_lt q1).symm)
  have htl : ((s.drop (s.length - 4)).set j (UInt8.ofNat y)).length = 4 := by rw [List.length_set, List.length_drop, hlen]; have := h6; omega
  have o7 : Only [] wy (w7.setCell ⟨g7, a, none⟩ (.int .u8 (y : Int))) := H7.out.2.1.setCell (by show g7 < wy.heap.size → _; have := H7.out.2.2; omega) _
  have how7 := own_set H7.out.1 a (.int .u8 (y : Int))
  rw [bvals_set _ _ _ HY.out.1, hset] at how7
  have hc7 : p ≤ c7 := by
    obtain ⟨A', c', hv, hnc, _⟩ := own_shape how7
    injection hv with _ _ hc
    rw [hc]
    exact hnc
  have O7 := hide (And.intro (O6.out.1.trans o7 (S := []) (by simp)) (O6.out.2.2.keep o7 (by simp)))
  have HU2 := hide (unpack_turned O2.out.2.2.1 _ htl hne (some ⟨g7, 0, none⟩) p c7 n _ (HB.out.1.only O7.out.1 (by simp)) hlen.symm (Holds.of_own how7) hc7 (by simp) (by omega) (by rw [HB.out.2.2.1]; omega) (by omega))
  clear hset hne htl o7 how7 hc7 k1 f1 HF
  refine (HU2.out).mono ?_
  rintro e w8 ⟨ho8, rfl⟩
  have O8 := hide (O7.out.1.trans ho8 (S := []) (by simp))
  have s1 := str_of (O7.out.2.keep ho8 (by simp)) c6
  have s2 := str_of (HB.out.2.1.keep O8.out (by simp)) c
  clear ho8 HU2
  go_wp2_with fail
  go_ret
  exact ⟨rfl, O8.out⟩
set_option maxRecDepth 100000 in
theorem lifted (os : Os) (started : os.Started) (H : Type) (enc : TypeId × Value → H) :
    ReturnsInHanded {} Tryd.checked os 3 .any (fun w args => (Rows.zlibBackSpec.pre enc Tryd.prog Tryd.f3 [] false w args ∧ laidMetH Tryd.prog laidI w) ∧ sizedMet enc Tryd.prog Tryd.f3 (OpenSpec.ofChange Rows.zlibBackSpec) false w args)
      (Rows.zlibBackSpec.post enc Tryd.prog Tryd.f3 false true false false) := by
  refine returnsInHanded_of_change_and (C := Tryd.checked) (X := fun w _ => laidMetH Tryd.prog laidI w) (fun _ _ _ hh h => h.of_heap hh) own_knob started (by kernel_rfl) Tryd.func3
    (ChangeSpec.witness_shaped (enc := enc) (C := Tryd.checked) (os := os) (X := fun w _ => laidMetH Tryd.prog laidI w) false (World.doorLaid Tryd.prog 400 os) #[.slice none 0 0, .slice none 0 0, .bool false, .int .i64 0] 8 rfl (World.shaped_of_RefB (by kernel_rfl) (by kernel_rfl)) (by kernel_rfl) (by kernel_rfl) (by kernel_rfl) (door_met os _)) ?_
  intro W base args ds gs before hval0 hW _ _ hL _
  have hval : ∀ (j : Nat) t v, Tryd.f3.params[j]? = some t → args[j]? = some v → Value.okWide Tryd.prog W .any base t v := hval0
  have hW' := hW
  obtain ⟨p, q, hA0, hV, rfl, hfz, hnd⟩ := hW
  have hA : DataW.TrodAll enc Tryd.prog W 0 (fun _ => true) true Tryd.f3.params.toList args.toList ds p := hA0
  rw [Tryd.params3] at hA hval
  obtain ⟨v0, vs0, d0, ds0, p0, q0, hargs, rfl, rfl, h0, r0⟩ := trodAll_cons hA
  obtain ⟨v1, vs1, d1, ds1, p1, q1, rfl, rfl, rfl, h1, r1⟩ := trodAll_cons r0
  obtain ⟨v2, vs2, d2, ds2, p2, q2, rfl, rfl, rfl, h2, r2⟩ := trodAll_cons r1
  obtain ⟨v3, vs3, d3, ds3, p3, q3, rfl, rfl, rfl, h3, r3⟩ := trodAll_cons r2
  obtain ⟨rfl, rfl, rfl⟩ := trodAll_nil r3
  obtain rfl : args = #[v0, v1, v2, v3] := by cases args; simp_all
  obtain ⟨A0, n0, c0, l0, rfl, hc0, cm0, _, hl0, hb0⟩ := open_bytes Tryd.underlying22 Tryd.underlying5 (by kernel_rfl) (hval 0 22 v0 rfl rfl) h0
  obtain ⟨A1, n1, c1, l1, rfl, hc1, cm1, _, hl1, hb1⟩ := open_bytes Tryd.underlying22 Tryd.underlying5 (by kernel_rfl) (hval 1 22 v1 rfl rfl) h1
  obtain ⟨fx, rfl, rfl, rfl⟩ := open_bool Tryd.underlying4 (hval 2 4 v2 rfl rfl) h2
  obtain ⟨z3, rfl, rfl, rfl, _⟩ := open_int Tryd.underlying3 (hval 3 3 v3 rfl rfl) h3
  refine (core A0 A1 n0 c0 n1 c1 l0 l1 fx z3 W (tab_of_laid hL) hb0 hl0 hc0 hb1 hl1).mono fun e W' ⟨he, ho⟩ => ?_
  subst he
  exact ⟨_, rfl, law_post rfl hW' (by intro t ht; revert t; exact of_decide_eq_true (by kernel_rfl)) rfl rfl ho⟩

theorem holds : Rows.ZlibBackSaid :=
  OpenClaim.holds_of_wide 3 Tryd.f3 rfl rfl rfl rfl rfl rfl rfl ⟨rfl, rfl, rfl, rfl, rfl⟩ rfl rfl rfl rfl rfl (by kernel_rfl) Tryd.func3 (by kernel_rfl)
    (of_decide_eq_true (by kernel_rfl)) (by unfold Func.isWrapper; first | (rw [if_pos (by decide +kernel)]; kernel_rfl) | (rw [if_neg (by decide +kernel)]; exact ⟨rfl, rfl⟩))
    (fun os started H enc _ => lifted os started H enc)

theorem proved : Rows.ZlibBackCardSaid :=
  Claim7.holds_tied_plain_at .later [] Rows.zlibBackCard.laidKinds true Rows.zlibBackCard.stood.harness false
    holds (fun _ h => by cases h) (by kernel_rfl) (fun _ h => by cases h) zlibBack_row_tie rfl ⟨rfl, rfl⟩ (by kernel_rfl) rfl
    (fun f fn hf hfn => by
      obtain rfl : f = 3 := Option.some.inj ((show Tryd.prog.funcNamed "phosphor/phosphorlaw6.ZlibBack" = some 3 by kernel_rfl).symm.trans hf) |>.symm
      obtain rfl : fn = Tryd.f3 := (Option.some.inj (Tryd.func3.symm.trans hfn)).symm
      exact ⟨by kernel_rfl, fun j t ht => by
        rw [Tryd.params3] at ht
        have hm : t ∈ [22, 22, 4, 3] := by simpa using Array.mem_of_getElem? ht
        have hall : ([22, 22, 4, 3].all fun u => !Tryd.prog.wantsStandIn u) = true := by kernel_rfl
        exact (show Tryd.prog.wantsStandIn t = false by simpa using List.all_eq_true.1 hall t hm)⟩)
    (by kernel_rfl)
end Go.Proofs.YtopjkmobnmaaaaaDoor.zback
