/-
  Proves: for all numbers, bytes, and a number of some bits BitsNumbers tells true, and leaves all that was there as it was. No condition.
-/
import Derived.Test.YtheipfcbpjfohaaOpen
namespace Go.Proofs.Ytheipfcbpjfohaa.numbers
open Go Go.RowKit Go.ChangeShapes Go.WideShapes Go.ChangeAt

theorem revI_out {v : Nat} {k : Int} (h : k < 1 ∨ 32 < k) : revI v k = 0 := by
  unfold revI
  by_cases h2 : 0 ≤ k ∧ k ≤ 32
  · obtain rfl : k = 0 := by omega
    rfl
  · rw [if_neg h2]

theorem revI_lt (v : Nat) (k : Int) : revI v k < 4294967296 := by
  unfold revI
  split
  · rename_i h
    exact Nat.lt_of_lt_of_le (rev_lt v k.toNat) (Nat.pow_le_pow_right (n := 2) (i := k.toNat) (j := 32) (by omega) (by omega))
  · decide

theorem revI_twice {v k : Nat} (h : k ≤ 32) (hv : v < 2 ^ k) : revI (revI v k) k = v := by
  unfold revI
  rw [if_pos (by omega), if_pos (by omega), Int.toNat_natCast, rev_rev, Nat.mod_eq_of_lt hv]

set_option maxHeartbeats 2000000 in
theorem core (A B : Option Addr) (n c m d : Nat) (zs : List Int) (bs : List UInt8) (v : Nat) (k : Int) (w : World) (hA : Holds w 1 A n (ivals zs)) (hB : Holds w 1 B m (bvals bs)) (hn : zs.length = n) (hm : bs.length = m)
    (hz : ∀ z ∈ zs, -9223372036854775808 ≤ z ∧ z ≤ 9223372036854775807) (hv : v < 4294967296) (hk : -9223372036854775808 ≤ k ∧ k ≤ 9223372036854775807) (hn0 : n ≤ 9223372036854775807) (hm0 : m ≤ 9223372036854775807) :
    Calls Try.prog 6 #[.slice A n c, .slice B m d, .int .u32 v, .int .i64 k] w fun e w' => e = .returned (.bool true) ∧ Only [] w w' := by
  by_cases h1 : 400 < n
  · clear hn hm hA hB hz
    go_enter Try.func6, Try.ntmps6
    go_wp2_with fail
    refine (known_any w).mono ?_
    rintro e w1 ⟨rfl, ho⟩
    go_wp2_with fail
    go_ret
    exact ⟨rfl, ho⟩
  by_cases h2 : 400 < m
  · clear hn hm hA hB hz
    go_enter Try.func6, Try.ntmps6
    go_wp2_with fail
    refine (known_any w).mono ?_
    rintro e w1 ⟨rfl, ho⟩
    go_wp2_with fail
    go_ret
    exact ⟨rfl, ho⟩
  have HH := hide (And.intro hn (And.intro hm (And.intro hz (And.intro hA hB))))
  clear hn hm hA hB hz
  go_enter Try.func6, Try.ntmps6
  go_wp2_with fail
  refine (known_any w).mono ?_
  rintro e w1 ⟨rfl, ho⟩
  go_wp2_with fail
  refine (mul_any A n c zs w1 (HH.out.2.2.2.1.keep ho (by simp)) HH.out.1 (by omega) HH.out.2.2.1).mono ?_
  rintro e w2 ⟨rfl, rfl⟩
  go_wp2_with fail
  refine (refMul_any A n c zs w1 (HH.out.2.2.2.1.keep ho (by simp)) HH.out.1 (by omega) HH.out.2.2.1).mono ?_
  rintro e w2 ⟨rfl, q, rfl⟩
  generalize mulGo 1 zs = r
  obtain ⟨x, ok⟩ := r
  go_wp2_with fail
  refine (big_any B m d bs _ ((HH.out.2.2.2.2.keep ho (by simp)).keep ((Only.refl [] _).drewN q) (by simp)) HH.out.2.1).mono ?_
  rintro e w2 ⟨rfl, q2, rfl⟩
  go_wp2_with fail
  refine (refBig_any B m d bs _ ((HH.out.2.2.2.2.keep ho (by simp)).keep ((Only.refl [] _).drewN _) (by simp)) HH.out.2.1).mono ?_
  rintro e w2 ⟨rfl, q3, rfl⟩
  go_wp2_with fail
  refine (reverse_any v k _ hv).mono ?_
  rintro e w2 ⟨rfl, rfl⟩
  go_wp2_with fail
  refine (refReverse_any v k _ hv).mono ?_
  rintro e w2 ⟨rfl, rfl⟩
  have hend : ∀ q, Only [] w (w1.drewN q) := fun q => ho.drewN q
  have hR := revI_lt v k
  by_cases hlo : k < 1
  · have hR0 := hide (revI_out (v := v) (k := k) (.inl hlo))
    clear hR
    generalize revI v k = R at *
    go_wp2_with fail
    refine (reverse_any v k _ hv).mono ?_
    rintro e w2 ⟨rfl, rfl⟩
    rw [revI_out (.inl hlo)]
    go_wp2_with fail
    go_ret
    exact ⟨rfl, hend _⟩
  by_cases hhi : 32 < k
  · have hR0 := hide (revI_out (v := v) (k := k) (.inr hhi))
    clear hR
    generalize revI v k = R at *
    go_wp2_with fail
    refine (reverse_any v k _ hv).mono ?_
    rintro e w2 ⟨rfl, rfl⟩
    rw [revI_out (.inr hhi)]
    go_wp2_with fail
    go_ret
    exact ⟨rfl, hend _⟩
  obtain ⟨k, rfl⟩ := Int.eq_ofNat_of_zero_le (show 0 ≤ k by omega)
  clear hR
  by_cases h32 : k < 32
  · have hl := u32_low' v k hv h32
    have hv' : v % 2 ^ k < 2 ^ k := Nat.mod_lt _ (Nat.two_pow_pos k)
    have hvl : v % 2 ^ k ≤ v := Nat.mod_le _ _
    have htw := hide (revI_twice (show k ≤ 32 by omega) hv')
    have hlt := revI_lt (v % 2 ^ k) k
    obtain ⟨u, hu⟩ : ∃ u, u = v % 2 ^ k := ⟨_, rfl⟩
    rw [← hu] at hl hvl htw hlt
    clear hu hv'
    generalize revI v k = R at *
    go_wp2_with fail
    refine (reverse_any u k _ (by omega)).mono ?_
    rintro e w2 ⟨rfl, rfl⟩
    go_wp2_with fail
    refine (reverse_any (revI u k) k _ hlt).mono ?_
    rintro e w2 ⟨rfl, rfl⟩
    rw [htw.out]
    go_wp2_with fail
    go_ret
    exact ⟨rfl, hend _⟩
  · obtain rfl : k = 32 := by omega
    have htw := hide (revI_twice (show 32 ≤ 32 by omega) (show v < 2 ^ 32 by omega))
    have hlt := revI_lt v 32
    have hR := hide (rfl : revI v 32 = revI v 32)
    go_wp2_with fail
    refine (reverse_any v 32 _ (by omega)).mono ?_
    rintro e w2 ⟨rfl, rfl⟩
    go_wp2_with fail
    refine (reverse_any (revI v 32) 32 _ hlt).mono ?_
    rintro e w2 ⟨rfl, rfl⟩
    have e32 : revI (revI v 32) 32 = v := htw.out
    rw [e32]
    go_wp2_with fail
    go_ret
    exact ⟨rfl, hend _⟩

set_option maxRecDepth 100000 in
theorem lifted (os : Os) (started : os.Started) (H : Type) (enc : TypeId × Value → H) :
    ReturnsInHanded {} Try.checked os 6 .any (Rows.bitsNumbersSpec.pre6 enc Try.prog Try.f6 Rows.bitsNumbersRow.domain false)
      (Rows.bitsNumbersSpec.post enc Try.prog Try.f6 false true false false) := by
  refine returnsInHanded_of_change (C := Try.checked) own_knob started (by kernel_rfl) Try.func6
    (ChangeSpec.witness6 (enc := enc) (C := Try.checked) false ⟨#[], #[.slice none 0 0, .slice none 0 0, .int .u32 0, .int .i64 0], []⟩ 8 (by kernel_rfl) (by kernel_rfl) (by kernel_rfl) (by kernel_rfl)) ?_
  intro W base args ds gs before hval0 hW hcnd _
  have hval : ∀ (j : Nat) t v, Try.f6.params[j]? = some t → args[j]? = some v → Value.okWide Try.prog W .any base t v := hval0
  have hW' := hW
  obtain ⟨p, q, hA0, hV, rfl, hfz, hnd⟩ := hW
  have hA : DataW.TrodAll enc Try.prog W 0 (fun _ => true) true Try.f6.params.toList args.toList ds p := hA0
  rw [Try.params6] at hA hval
  obtain ⟨v0, vs0, d0, ds0, p0, q0, hargs, rfl, rfl, h0, r0⟩ := trodAll_cons hA
  obtain ⟨v1, vs1, d1, ds1, p1, q1, rfl, rfl, rfl, h1, r1⟩ := trodAll_cons r0
  obtain ⟨v2, vs2, d2, ds2, p2, q2, rfl, rfl, rfl, h2, r2⟩ := trodAll_cons r1
  obtain ⟨v3, vs3, d3, ds3, p3, q3, rfl, rfl, rfl, h3, r3⟩ := trodAll_cons r2
  obtain ⟨rfl, rfl, rfl⟩ := trodAll_nil r3
  obtain rfl : args = #[v0, v1, v2, v3] := by cases args; simp_all
  obtain ⟨A, n, c, zs, rfl, nc, cm, _, hn, hz, hwz⟩ := open_nums Try.underlying52 Try.underlying3 (by kernel_rfl) (hval 0 52 v0 rfl rfl) h0
  obtain ⟨B, m, d, bs, rfl, md, dm, _, hm, hb⟩ := open_bytes Try.underlying22 Try.underlying5 (by kernel_rfl) (hval 1 22 v1 rfl rfl) h1
  obtain ⟨v, rfl, rfl, rfl, wv⟩ := open_int Try.underlying32 (hval 2 32 v2 rfl rfl) h2
  obtain ⟨k, rfl, rfl, rfl, wk⟩ := open_int Try.underlying3 (hval 3 3 v3 rfl rfl) h3
  have bv := wf_u32 wv
  have bk := wf_i64 wk
  obtain ⟨v, rfl⟩ := Int.eq_ofNat_of_zero_le bv.1
  unfold maxLen at cm dm
  refine (core A B n c m d zs bs v k W hz hb hn hm (fun z h => wf_i64 (hwz z h)) (by omega) bk (by omega) (by omega)).mono fun e W' ⟨he, ho⟩ => ?_
  subst he
  exact ⟨_, rfl, law_post rfl hW' (by intro t ht; revert t; exact of_decide_eq_true (by kernel_rfl)) rfl rfl ho⟩

theorem proved : Rows.BitsNumbersSaid :=
  OpenClaim.holds_of_wide 6 Try.f6 rfl rfl rfl rfl rfl rfl rfl ⟨rfl, rfl, rfl, rfl, rfl⟩ rfl rfl rfl rfl rfl (by kernel_rfl) Try.func6 (by kernel_rfl)
    (of_decide_eq_true (by kernel_rfl)) (by unfold Func.isWrapper; first | (rw [if_pos (by decide +kernel)]; kernel_rfl) | (rw [if_neg (by decide +kernel)]; exact ⟨rfl, rfl⟩))
    (fun os started H enc _ => lifted os started H enc)
end Go.Proofs.Ytheipfcbpjfohaa.numbers
