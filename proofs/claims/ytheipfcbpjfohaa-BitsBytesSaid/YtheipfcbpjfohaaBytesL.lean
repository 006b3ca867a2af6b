/-
  Proves: for all numbers, bytes and counts of bits BitsBytes tells true, and leaves all that was there as it was. No condition.
-/
import Derived.Test.YtheipfcbpjfohaaOpen
namespace Go.Proofs.Ytheipfcbpjfohaa.bytesl
open Go Go.RowKit Go.ChangeShapes Go.WideShapes Go.ChangeAt

theorem wBitsN (g : Nat) (v : Value) (N n x k : Nat) (w : World) (hW : Wr w g v N n) (hx : x < 4294967296) (hn : n + 32 ≤ 140737488355328) (hk0 : 1 ≤ k) (hk1 : k ≤ 32) :
    Calls Try.prog 24 #[.pointer (some ⟨g, 0, none⟩), .int .u32 x, .int .i64 k] w fun e w' =>
      e = .returned (.tuple #[]) ∧ ∃ v', Wr w' g v' (N + (x % 2 ^ k) * 2 ^ n) (n + k) ∧ WSince w g v w' v' := by
  obtain ⟨l, rest, cnt, h, hc⟩ := hW
  exact wbits_any g v l rest cnt N n x k w h hc hx hk0 hk1 (by omega)

theorem xor_low (w m : Nat) (hm : m ≤ 32) : ((w % 2 ^ m) ^^^ w) * 2 ^ (32 - m) % 4294967296 = 0 := by
  have h : ((w % 2 ^ m) ^^^ w) % 2 ^ m = 0 := by
    rw [Nat.xor_mod_two_pow, Nat.mod_mod, Nat.xor_self]
  have hp : 2 ^ m * 2 ^ (32 - m) = 4294967296 := by
    rw [← Nat.pow_add, show m + (32 - m) = 32 from by omega]
  obtain ⟨q, hq⟩ := Nat.dvd_of_mod_eq_zero h
  have e : 2 ^ m * q * 2 ^ (32 - m) = q * 4294967296 := by rw [Nat.mul_comm (2 ^ m) q, Nat.mul_assoc, hp]
  rw [hq, e]; exact Nat.mul_mod_left _ _

/-- What stands at the next byte's begin. -/
theorem laid_bytes {bs l : List UInt8} {N1 P R : Nat} (hP : P % 8 = 0) (hN1 : N1 < 2 ^ P) (hnum : num bs = N1 + num l * 2 ^ P + R * 2 ^ (P + 8 * l.length)) (hlen : l.length ≤ bs.length - P / 8) :
    (bs.drop (P / 8)).take l.length = l := by
  apply num_inj
  · rw [List.length_take, List.length_drop]; omega
  · have hl := num_lt l
    have e8 : 8 * (P / 8) = P := by omega
    rw [num_take, num_drop, hnum, pow_256 (P / 8), e8, pow_256]
    rw [pow_256] at hl
    have e : N1 + num l * 2 ^ P + R * 2 ^ (P + 8 * l.length) = N1 + (num l + R * 2 ^ (8 * l.length)) * 2 ^ P := by
      rw [Nat.pow_add, Nat.add_mul, Nat.mul_comm (2 ^ P), Nat.mul_assoc]; omega
    rw [e, Nat.add_mul_div_right _ _ (Nat.two_pow_pos P), Nat.div_eq_of_lt hN1, Nat.zero_add, Nat.add_mul_mod_self_right, Nat.mod_eq_of_lt hl]

theorem laid_bits {N2 T k x : Nat} (hN : N2 < 2 ^ T) : bitsOf (N2 + (x % 2 ^ k) * 2 ^ T) T k = x % 2 ^ k := by
  unfold bitsOf
  rw [Nat.add_mul_div_right _ _ (Nat.two_pow_pos T), Nat.div_eq_of_lt hN, Nat.zero_add, Nat.mod_mod]

set_option maxRecDepth 100000 in
set_option maxHeartbeats 4000000 in
theorem out (A : Option Addr) (len c : Nat) (v u : Nat) (n m : Int) (w : World) (hlen : len ≤ 9223372036854775807) (h : n < 1 ∨ 32 < n ∨ m < 1 ∨ 32 < m ∨ 400 < len) :
    Calls Try.prog 7 #[.int .u32 v, .int .i64 n, .slice A len c, .int .u32 u, .int .i64 m] w fun e w' => e = .returned (.bool true) ∧ Only [] w w' := by
  by_cases h1 : n < 1
  · clear h
    go_enter Try.func7, Try.ntmps7
    go_wp2_with fail
    refine (known_any w).mono ?_
    rintro e w1 ⟨rfl, ho⟩
    go_wp2_with fail
    go_ret
    exact ⟨rfl, ho⟩
  by_cases h2 : 32 < n
  · clear h
    go_enter Try.func7, Try.ntmps7
    go_wp2_with fail
    refine (known_any w).mono ?_
    rintro e w1 ⟨rfl, ho⟩
    go_wp2_with fail
    go_ret
    exact ⟨rfl, ho⟩
  by_cases h3 : m < 1
  · clear h
    go_enter Try.func7, Try.ntmps7
    go_wp2_with fail
    refine (known_any w).mono ?_
    rintro e w1 ⟨rfl, ho⟩
    go_wp2_with fail
    go_ret
    exact ⟨rfl, ho⟩
  by_cases h4 : 32 < m
  · clear h
    go_enter Try.func7, Try.ntmps7
    go_wp2_with fail
    refine (known_any w).mono ?_
    rintro e w1 ⟨rfl, ho⟩
    go_wp2_with fail
    go_ret
    exact ⟨rfl, ho⟩
  · have h5 : 400 < len := by omega
    clear h
    go_enter Try.func7, Try.ntmps7
    go_wp2_with fail
    refine (known_any w).mono ?_
    rintro e w1 ⟨rfl, ho⟩
    go_wp2_with fail
    go_ret
    exact ⟨rfl, ho⟩

set_option maxRecDepth 100000 in
set_option maxHeartbeats 4000000 in
theorem core (A : Option Addr) (len c : Nat) (l : List UInt8) (v u n m : Nat) (w : World) (hb : Holds w 1 A len (bvals l)) (hl : l.length = len) (hv : v < 4294967296) (hu : u < 4294967296)
    (hn0 : 1 ≤ n) (hn1 : n ≤ 32) (hm0 : 1 ≤ m) (hm1 : m ≤ 32) (h400 : len ≤ 400) :
    Calls Try.prog 7 #[.int .u32 v, .int .i64 n, .slice A len c, .int .u32 u, .int .i64 m] w fun e w' => e = .returned (.bool true) ∧ Only [] w w' := by
  subst hl
  have hN1 : ∀ (g : Nat) (w : World), (binOp .eql 25 (.pointer (some ⟨g, 0, none⟩)) (.pointer none)).run Try.prog w = .ok (.bool false) w := fun g w => by kernel_rfl
  have hN2 : ∀ (g : Nat) (w : World), (binOp .eql 41 (.pointer (some ⟨g, 0, none⟩)) (.pointer none)).run Try.prog w = .ok (.bool false) w := fun g w => by kernel_rfl
  go_enter Try.func7, Try.ntmps7
  go_wp2_with fail
  refine (known_any w).mono ?_
  rintro e w1 ⟨rfl, ho⟩
  have hb1 := hb.keep ho (by simp)
  go_wp2_with fail
  refine (newWriter_any w1).mono ?_
  rintro e w2 ⟨g, rfl, hg, hW, ho2⟩
  have hb2 := hb1.keep ho2 (by simp)
  go_wp2_with fail
  refine (wBitsN g _ 0 0 v n w2 hW hv (by omega) hn0 hn1).mono ?_
  rintro e w3 ⟨rfl, v3, hW3, hs3⟩
  simp only [Nat.zero_add, Nat.pow_zero, Nat.mul_one] at hW3
  have hbg : ∀ h0 : 0 < l.length, ∀ ad, A = some ad → ad.block < w1.heap.size := fun h0 ad ha => by
    obtain ⟨ad', ha', hlt, _⟩ := hb1.2 h0
    rw [ha] at ha'; injection ha' with ha'; rw [ha']; exact hlt
  have hb3 : Holds w3 1 A l.length (bvals l) := by
    rcases Nat.eq_zero_or_pos l.length with h0 | h0
    · exact ⟨hb2.1, fun hp => absurd hp (by omega)⟩
    · refine hb2.keep hs3.1 (fun ad ha _ => ?_)
      have := hbg h0 ad ha
      simp [Value.ownBlock]; omega
  have hsz2 := ho2.size
  have hA3 : 0 < l.length → ∀ ad, A = some ad → ad.block < w3.heap.size → ad.block ∉ g :: v3.ownBlock.toList := fun h0 ad ha _ hmem => by
    have hlt := hbg h0 ad ha
    rcases List.mem_cons.1 hmem with h | h
    · omega
    · have hv : v3.ownBlock = some ad.block := by cases hv : v3.ownBlock with
        | none => rw [hv] at h; simp at h
        | some j => rw [hv] at h; simp at h; rw [h]
      rcases hs3.2 _ hv with h2 | h2
      · simp [Value.ownBlock] at h2
      · omega
  obtain ⟨P, hP⟩ : ∃ P, P = n + padOf n := ⟨_, rfl⟩
  have hP7 : n ≤ P ∧ P ≤ n + 7 ∧ P % 8 = 0 ∧ (n % 8 = 0 → P = n) := by rw [hP]; unfold padOf; omega
  go_wp2_with fail
  refine (wBytes g v3 _ n A l.length c l w3 hW3 hb3 rfl (by omega) hA3).mono ?_
  rintro e w4 ⟨rfl, v4, hW4, hs4⟩
  rw [← hP] at hW4
  have HP := hide hP
  clear hP
  go_wp2_with fail
  refine (wBitsN g v4 _ _ u m w4 hW4 hu (by omega) hm0 hm1).mono ?_
  rintro e w5 ⟨rfl, v5, hW5, hs5⟩
  go_wp2_with fail
  refine (wDone g v5 _ _ w5 hW5 (by omega)).mono ?_
  rintro e w6 ⟨rv, bs, rfl, hown6, ho6, hlen6, hnum6⟩
  obtain ⟨A6, c6, rfl, _, hnil6⟩ := own_shape hown6
  have hbl : bs.length ≤ 1000 := by omega
  have hbl2 : P + 8 * l.length + m ≤ 8 * bs.length := by omega
  have H6 := hide (And.intro hlen6 hnum6)
  clear hlen6 hnum6
  go_wp2_with fail
  refine (newReader_any A6 bs.length c6 bs w6 (Holds.of_own hown6) rfl (by omega) (fun h => ⟨hnil6 h, by have := hnil6 h; omega⟩)).mono ?_
  rintro e w7 ⟨gr, vr, rfl, hgr, hvr, hR7, ho7⟩
  have hend : Only [] w w7 := by
    have h2 : Only [] w w2 := ho.trans ho2 (by simp)
    have hs := ((hs3.trans hs4).trans hs5).1
    have h5 : Only [] w w5 := h2.trans hs (by
      intro i hi hlt
      have := ho.size
      simp [Value.ownBlock] at hi
      omega)
    exact (h5.trans ho6 (by simp)).trans ho7 (by simp)
  have hgrw : w.heap.size ≤ gr := by
    have h5 : w5.heap.size ≤ w6.heap.size := ho6.size
    have h25 : w2.heap.size ≤ w5.heap.size := ((hs3.trans hs4).trans hs5).1.size
    have := ho.size
    omega
  have hkeep : ∀ x, Only [] w x → Holds x 1 A l.length (bvals l) := fun x hx => hb.keep hx (by simp)
  clear hW hW3 hW4 hW5 hb1 hb2 hb3 hA3 hs3 hs4 hs5 hown6 hbg hb ho ho2 ho6 ho7
  have HE := hide (And.intro hend (And.intro hgrw hkeep))
  clear hend hgrw hkeep
  obtain ⟨T, hT⟩ : ∃ T, T = P + 8 * l.length := ⟨_, rfl⟩
  rw [← hT] at H6 hbl2
  have hp1 : v % 2 ^ n < 2 ^ P := Nat.lt_of_lt_of_le (Nat.mod_lt _ (Nat.two_pow_pos n)) (Nat.pow_le_pow_right (n := 2) (by omega) hP7.1)
  have hN2 : v % 2 ^ n + num l * 2 ^ P < 2 ^ T := by
    have h1 := num_lt l
    rw [pow_256] at h1
    rw [hT, Nat.pow_add, Nat.mul_comm (2 ^ P)]
    have h2 : (num l + 1) * 2 ^ P ≤ 2 ^ (8 * l.length) * 2 ^ P := Nat.mul_le_mul_right _ h1
    rw [Nat.add_mul] at h2; omega
  have okb1 : okBits bs.length 0 n = true := by simp only [okBits, decide_eq_true_eq]; omega
  have HQ := hide (And.intro hT (And.intro hP7 (And.intro hp1 hN2)))
  clear hP7 hT hp1 hN2
  by_cases h8 : n % 8 = 0
  · have hPn : P = n := (HQ.out.2.1).2.2.2 h8
    have okb2 : okBytes bs.length n 1 = true := by
      have := HQ.out.1
      simp only [okBytes, decide_eq_true_eq]; omega
    have e8 : ((n : Int) % 8 == 0) = true := by simp; omega
    have HPn := hide hPn
    clear hPn
    have HA := hide (bits_any gr vr bs 0 n w7 hR7)
    rw [okb1] at HA
    go_wp2_with fail
    refine (HA.out).mono ?_
    rintro e w8 ⟨rfl, ho8, hR8⟩
    simp only [if_true, Int.toNat_natCast, Nat.zero_add] at hR8
    have HB := hide (bytes_any gr vr bs n 1 w8 hR8)
    rw [okb2] at HB
    go_wp2_with fail
    refine (HB.out).mono ?_
    rintro e w9 ⟨r9, rfl, hown9, ho9, hR9⟩
    generalize n + 8 * (gotBytes bs n 1).length = k9 at *
    go_wp2_with fail
    refine (align_any gr vr bs k9 w9 hR9).mono ?_
    rintro e w10 ⟨rfl, ho10, hR10⟩
    generalize k9 + toByte k9 = k10 at *
    go_wp2_with fail
    refine (bytes_any gr vr bs k10 _ w10 hR10).mono ?_
    rintro e w11 ⟨r11, rfl, hown11, ho11, hR11⟩
    generalize k10 + 8 * (gotBytes bs k10 _).length = k11 at *
    go_wp2_with fail
    refine (peek_any gr vr bs k11 m w11 hR11).mono ?_
    rintro e w12 ⟨rfl, q, rfl⟩
    go_wp2_with fail
    refine (bits_any gr vr bs k11 m _ (hR11.drewN q)).mono ?_
    rintro e w13 ⟨rfl, ho13, hR13⟩
    clear okb1 okb2 HA HB
    go_wp2_with fail
    go_ret
    have hg := HE.out.2.1
    have h8' := HE.out.1.trans ho8 (by simp; omega)
    have h9' := h8'.trans ho9 (by simp; omega)
    have h10' := h9'.trans ho10 (by simp; omega)
    have h11' := h10'.trans ho11 (by simp; omega)
    exact ⟨rfl, (h11'.drewN q).trans ho13 (by simp; omega)⟩
  · have hTe : P + 8 * l.length = T := HQ.out.1.symm
    have hPe : n + toByte n = P := by have := HP.out; unfold padOf at this; unfold toByte; omega
    have hP8 : P % 8 = 0 := (HQ.out.2.1).2.2.1
    have okb2 : okBytes bs.length n 1 = false := by simp only [okBytes, decide_eq_false_iff_not]; omega
    have hg2 : gotBytes bs n 1 = [] := by rw [gotBytes, okb2]; rfl
    have okb3 : okBytes bs.length P (l.length : Nat) = true := by simp only [okBytes, decide_eq_true_eq]; omega
    have hg3 : gotBytes bs P (l.length : Nat) = l := by
      rw [gotBytes, if_pos okb3, Int.toNat_natCast]
      exact laid_bytes hP8 HQ.out.2.2.1 (by rw [hTe]; exact H6.out.2) (by omega)
    have okb4 : okBits bs.length T m = true := by simp only [okBits, decide_eq_true_eq]; omega
    have hg4 : gotBits bs T m = u % 2 ^ m := by
      rw [gotBits, if_pos okb4, Int.toNat_natCast, H6.out.2]
      exact laid_bits HQ.out.2.2.2
    have hq : ((toByte n : Nat) : Int) = 8 - (n : Int) % 8 := by unfold toByte; omega
    have e8 : ((n : Int) % 8 == 0) = false := by simp; omega
    have HA := hide (bits_any gr vr bs 0 n w7 hR7)
    rw [okb1] at HA
    have HB := fun w h => hide (bytes_any gr vr bs n 1 w h)
    rw [okb2, hg2] at HB
    have HC := fun w h => hide (align_any gr vr bs n w h)
    rw [hq, hPe] at HC
    have HD := fun w h => hide (bytes_any gr vr bs P (l.length : Nat) w h)
    rw [okb3, hg3, hTe] at HD
    have HE2 := fun w h => hide (peek_any gr vr bs T m w h)
    rw [okb4, hg4] at HE2
    have HF := fun w h => hide (bits_any gr vr bs T m w h)
    rw [okb4, hg4] at HF
    obtain ⟨z, hz⟩ : ∃ z, z = u % 2 ^ m := ⟨_, rfl⟩
    rw [← hz] at HE2 HF
    have hzx := xor_low u m hm1
    rw [← hz] at hzx
    have hzu : z ≤ u := by rw [hz]; exact Nat.mod_le _ _
    have ex := u32_xor_nat z u (by omega) hu
    have hXlt : z ^^^ u < 2 ^ 32 := Nat.xor_lt_two_pow (by omega) (by omega)
    generalize z ^^^ u = X at *
    have HX := hide hzx
    have HM := hide (And.intro hTe (And.intro hPe (And.intro hP8 hm1)))
    clear hTe hPe hP8 okb1 okb2 hg2 okb3 hg3 okb4 hg4 hq hz hzx h8
    go_wp2_with fail
    refine (HA.out).mono ?_
    rintro e w8 ⟨rfl, ho8, hR8⟩
    simp only [if_true, Int.toNat_natCast, Nat.zero_add] at hR8
    go_wp2_with fail
    refine ((HB w8 hR8).out).mono ?_
    rintro e w9 ⟨r9, rfl, hown9, ho9, hR9⟩
    go_wp2_with fail
    refine ((HC w9 hR9).out).mono ?_
    rintro e w10 ⟨rfl, ho10, hR10⟩
    go_wp2_with fail
    refine ((HD w10 hR10).out).mono ?_
    rintro e w11 ⟨r11, rfl, hown11, ho11, hR11⟩
    obtain ⟨A11, c11, rfl, _, _⟩ := own_shape hown11
    go_wp2_with fail
    refine ((HE2 w11 hR11).out).mono ?_
    rintro e w12 ⟨rfl, q, rfl⟩
    go_wp2_with fail
    refine ((HF _ (hR11.drewN q)).out).mono ?_
    rintro e w13 ⟨rfl, ho13, hR13⟩
    have hg := HE.out.2.1
    have h8' := HE.out.1.trans ho8 (by simp; omega)
    have h9' := h8'.trans ho9 (by simp; omega)
    have h10' := h9'.trans ho10 (by simp; omega)
    have h11' := h10'.trans ho11 (by simp; omega)
    have h13' := (h11'.drewN q).trans ho13 (by simp; omega)
    have glt := hR10.1.lt
    have hs1 := run_string_of (Holds.of_own (own_keep (own_keep hown11 ((Only.refl [] _).drewN q) (by simp)) ho13 (fun b hb => by have := (hown11.lt b hb).1; simp; omega))) c11 22 5 9 Try.underlying22 Try.underlying5 Try.underlying9
    have hs2 := run_string_of (HE.out.2.2 w13 h13') c 22 5 9 Try.underlying22 Try.underlying5 Try.underlying9
    clear HA HB HC HD HE2 HF
    go_wp2_with fail
    go_ret
    refine ⟨ret_bool ?_, h13'⟩
    have hx : ((X * 2 ^ (32 - m) % 4294967296 : Nat) : Int) = 0 := by rw [HX.out]; rfl
    rw [beq_iff_eq, ← hx]
    simp

theorem walk (A : Option Addr) (len c : Nat) (l : List UInt8) (v u : Nat) (n m : Int) (w : World) (hb : Holds w 1 A len (bvals l)) (hl : l.length = len) (hv : v < 4294967296) (hu : u < 4294967296) (hlen : len ≤ 9223372036854775807) :
    Calls Try.prog 7 #[.int .u32 v, .int .i64 n, .slice A len c, .int .u32 u, .int .i64 m] w fun e w' => e = .returned (.bool true) ∧ Only [] w w' := by
  by_cases h : n < 1 ∨ 32 < n ∨ m < 1 ∨ 32 < m ∨ 400 < len
  · exact out A len c v u n m w hlen h
  · obtain ⟨n, rfl⟩ := Int.eq_ofNat_of_zero_le (show 0 ≤ n by omega)
    obtain ⟨m, rfl⟩ := Int.eq_ofNat_of_zero_le (show 0 ≤ m by omega)
    exact core A len c l v u n m w hb hl hv hu (by omega) (by omega) (by omega) (by omega) (by omega)

set_option maxRecDepth 100000 in
theorem lifted (os : Os) (started : os.Started) (H : Type) (enc : TypeId × Value → H) :
    ReturnsInHanded {} Try.checked os 7 .any (Rows.bitsBytesSpec.pre6 enc Try.prog Try.f7 Rows.bitsBytesRow.domain false)
      (Rows.bitsBytesSpec.post enc Try.prog Try.f7 false true false false) := by
  refine returnsInHanded_of_change (C := Try.checked) own_knob started (by kernel_rfl) Try.func7
    (ChangeSpec.witness6 (enc := enc) (C := Try.checked) false ⟨#[], #[.int .u32 0, .int .i64 0, .slice none 0 0, .int .u32 0, .int .i64 0], []⟩ 8 (by kernel_rfl) (by kernel_rfl) (by kernel_rfl) (by kernel_rfl)) ?_
  intro W base args ds gs before hval0 hW hcnd _
  have hval : ∀ (j : Nat) t v, Try.f7.params[j]? = some t → args[j]? = some v → Value.okWide Try.prog W .any base t v := hval0
  have hW' := hW
  obtain ⟨p, q, hA0, hV, rfl, hfz, hnd⟩ := hW
  have hA : DataW.TrodAll enc Try.prog W 0 (fun _ => true) true Try.f7.params.toList args.toList ds p := hA0
  rw [Try.params7] at hA hval
  obtain ⟨v0, vs0, d0, ds0, p0, q0, hargs, rfl, rfl, h0, r0⟩ := trodAll_cons hA
  obtain ⟨v1, vs1, d1, ds1, p1, q1, rfl, rfl, rfl, h1, r1⟩ := trodAll_cons r0
  obtain ⟨v2, vs2, d2, ds2, p2, q2, rfl, rfl, rfl, h2, r2⟩ := trodAll_cons r1
  obtain ⟨v3, vs3, d3, ds3, p3, q3, rfl, rfl, rfl, h3, r3⟩ := trodAll_cons r2
  obtain ⟨v4, vs4, d4, ds4, p4, q4, rfl, rfl, rfl, h4, r4⟩ := trodAll_cons r3
  obtain ⟨rfl, rfl, rfl⟩ := trodAll_nil r4
  obtain rfl : args = #[v0, v1, v2, v3, v4] := by cases args; simp_all
  obtain ⟨v, rfl, rfl, rfl, wv⟩ := open_int Try.underlying32 (hval 0 32 v0 rfl rfl) h0
  obtain ⟨n, rfl, rfl, rfl, wn⟩ := open_int Try.underlying3 (hval 1 3 v1 rfl rfl) h1
  obtain ⟨A, len, c, l, rfl, _, cm, _, hl, hb⟩ := open_bytes Try.underlying22 Try.underlying5 (by kernel_rfl) (hval 2 22 v2 rfl rfl) h2
  obtain ⟨u, rfl, rfl, rfl, wu⟩ := open_int Try.underlying32 (hval 3 32 v3 rfl rfl) h3
  obtain ⟨m, rfl, rfl, rfl, wm⟩ := open_int Try.underlying3 (hval 4 3 v4 rfl rfl) h4
  have bv := wf_u32 wv
  have bu := wf_u32 wu
  obtain ⟨v, rfl⟩ := Int.eq_ofNat_of_zero_le bv.1
  obtain ⟨u, rfl⟩ := Int.eq_ofNat_of_zero_le bu.1
  unfold maxLen at cm
  refine (walk A len c l v u n m W hb hl (by omega) (by omega) (by omega)).mono fun e W' ⟨he, ho⟩ => ?_
  subst he
  exact ⟨_, rfl, law_post rfl hW' (by intro t ht; revert t; exact of_decide_eq_true (by kernel_rfl)) rfl rfl ho⟩

theorem proved : Rows.BitsBytesSaid :=
  OpenClaim.holds_of_wide 7 Try.f7 rfl rfl rfl rfl rfl rfl rfl ⟨rfl, rfl, rfl, rfl, rfl⟩ rfl rfl rfl rfl rfl (by kernel_rfl) Try.func7 (by kernel_rfl)
    (of_decide_eq_true (by kernel_rfl)) (by unfold Func.isWrapper; first | (rw [if_pos (by decide +kernel)]; kernel_rfl) | (rw [if_neg (by decide +kernel)]; exact ⟨rfl, rfl⟩))
    (fun os started H enc _ => lifted os started H enc)
end Go.Proofs.Ytheipfcbpjfohaa.bytesl
