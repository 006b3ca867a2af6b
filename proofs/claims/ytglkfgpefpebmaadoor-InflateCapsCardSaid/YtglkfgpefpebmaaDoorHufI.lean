/-
  Package huff: Read.
-/
import Derived.Test.YtglkfgpefpebmaaDoorHufH
import Derived.Test.YtglkfgpefpebmaaDoorHufN
namespace Go.Proofs.YtglkfgpefpebmaaDoor
open Go Go.RowKit

theorem i64_or1 (a b : Nat) (hb : b < 2) (h : a < 1073741824) : bits .or .i64 ((a : Int) * 2) (b : Int) = 2 * (a : Int) + (b : Int) := by
  have h1 : (BitVec.ofInt 64 ((a : Int) * 2)).toNat = a * 2 ^ 1 := by rw [BitVec.toNat_ofInt]; omega
  have h2 : (BitVec.ofInt 64 (b : Int)).toNat = b := by rw [BitVec.toNat_ofInt]; omega
  have key : (BitVec.ofInt 64 ((a : Int) * 2) ||| BitVec.ofInt 64 (b : Int)).toNat = 2 * a + b := by
    rw [BitVec.toNat_or, h1, h2, Nat.or_comm, or_of_lt (by omega)]; omega
  show IntKind.i64.wrap ((BitVec.ofInt 64 ((a : Int) * 2) ||| BitVec.ofInt 64 (b : Int)).toNat : Nat) = _
  rw [key, IntKind.wrap_i64]
  omega

theorem Has.ne {w : World} {g g' : Nat} {t t' : TypeId} {cs cs' : Array Value} (h : Has w g t cs) (h' : Has w g' t' cs') (ht : t ≠ t') : g ≠ g' := by
  rintro rfl
  unfold Has at h h'
  rw [h] at h'
  injection h' with h'
  injection h' with _ h'
  exact ht h'

/-- What the loop of Read has when it has seen j bits. -/
structure Seen (l : List UInt8) (N k left j : Nat) (R : Nat × Nat × Nat) : Prop where
  le : j ≤ Lg (cn l) 15
  have_ : j ≤ left
  all : scan l N k left (Lg (cn l) 15 - j) (j + 1) = R
  past : Fs (cn l) j + cn l j ≤ bc N k j

theorem Seen.start (l : List UInt8) (N k left : Nat) : Seen l N k left 0 (readM l N k left) := ⟨Nat.zero_le _, Nat.zero_le _, rfl, Nat.le_refl _⟩

theorem Seen.done {l : List UInt8} {N k left : Nat} {R : Nat × Nat × Nat} (h : Seen l N k left (Lg (cn l) 15) R) : R = (0, 3, 0) := by
  have := h.all
  rw [Nat.sub_self] at this
  exact this.symm
theorem Seen.short {l : List UInt8} {N k left j : Nat} {R : Nat × Nat × Nat} (h : Seen l N k left j R) (h1 : j < Lg (cn l) 15) (h2 : left < j + 1) : R = (0, 2, 0) := by
  have := h.all
  obtain ⟨r, hr⟩ : ∃ r, Lg (cn l) 15 - j = r + 1 := ⟨Lg (cn l) 15 - j - 1, by omega⟩
  rw [hr, scan_short h2] at this
  exact this.symm
theorem Seen.hit {l : List UInt8} {N k left j : Nat} {R : Nat × Nat × Nat} (h : Seen l N k left j R) (h1 : j < Lg (cn l) 15) (h2 : ¬ left < j + 1) (h3 : bc N k (j + 1) < Fs (cn l) (j + 1) + cn l (j + 1)) : R = (sy l (j + 1) (bc N k (j + 1) - Fs (cn l) (j + 1)), 0, j + 1) := by
  have := h.all
  obtain ⟨r, hr⟩ : ∃ r, Lg (cn l) 15 - j = r + 1 := ⟨Lg (cn l) 15 - j - 1, by omega⟩
  rw [hr, scan_hit h2 h3] at this
  exact this.symm
theorem Seen.next {l : List UInt8} {N k left j : Nat} {R : Nat × Nat × Nat} (h : Seen l N k left j R) (h1 : j < Lg (cn l) 15) (h2 : ¬ left < j + 1) (h3 : ¬ bc N k (j + 1) < Fs (cn l) (j + 1) + cn l (j + 1)) : Seen l N k left (j + 1) R := by
  refine ⟨h1, by omega, ?_, by omega⟩
  have := h.all
  obtain ⟨r, hr⟩ : ∃ r, Lg (cn l) 15 - j = r + 1 := ⟨Lg (cn l) 15 - j - 1, by omega⟩
  rw [hr, scan_next h2 h3] at this
  rw [show Lg (cn l) 15 - (j + 1) = r by omega]
  exact this
theorem Seen.ge {l : List UInt8} {N k left j : Nat} {R : Nat × Nat × Nat} (h : Seen l N k left j R) : Fs (cn l) (j + 1) ≤ bc N k (j + 1) := by
  have := h.past
  rw [Fs_succ, bc_succ]; omega

/-- The symbol that was dealt there. -/
theorem dealt_sy {l : List UInt8} {S : Nat → Nat} (h : Dealt l l.length S) {n j : Nat} (hn : n ≠ 0) (hj : j < cn l n) : S (Bf (cn l) n + j) = sy l n j ∧ sy l n j < l.length ∧ Bf (cn l) n + j < l.length := by
  obtain ⟨i, hi, rfl, rfl⟩ := rk_sur hn hj
  have h1 := h i hi hn
  have h2 := sy_eq hn
  unfold pl at h1
  rw [h1, h2]
  exact ⟨rfl, hi, pl_lt hn⟩

set_option maxRecDepth 100000 in
set_option maxHeartbeats 4000000 in
theorem read_any (g gr : Nat) (v : Value) (l b : List UInt8) (k : Nat) (w : World) (hT : Tb w g l) (hR : Rd w gr v b k) (hn : l.length ≤ 320) (_ : ∀ i, ln l i ≤ 15) (_ : Sm (cn l) 16 ≤ 32768) (x e n : Nat) (hs : readM l (num b) k (8 * b.length - k) = (x, e, n)) :
    Calls Tryd.prog 93 #[.pointer (some ⟨g, 0, none⟩), .pointer (some ⟨gr, 0, none⟩)] w fun o w' => o = .returned (.tuple #[.int .i64 x, .int .i64 e]) ∧ Only [gr] w w' ∧ Rd w' gr v b (k + n) := by
  have hk := hR.2.2.2
  have hbl := hR.2.2.1
  obtain ⟨A, c, rfl, hc, hA⟩ := own_shape hR.2.1
  have HL := hide (left_any gr b.length c A k w hR.1 hbl hk)
  obtain ⟨left, hleft⟩ : ∃ q, q = 8 * b.length - k := ⟨_, rfl⟩
  rw [← hleft] at hs HL
  have HLE := hide hleft
  have h0 := Seen.start l (num b) k left
  rw [hs] at h0
  obtain ⟨S, hD, hTT⟩ := hT
  obtain ⟨L, hLg⟩ : ∃ L, L = Lg (cn l) 15 := ⟨_, rfl⟩
  have hL15 : L ≤ 15 := by rw [hLg]; exact Lg_le _ _
  have cL : ∀ w1, Only [gr] w w1 → w1.cell? ⟨g, 1008, none⟩ = some (.int .i64 (L : Int)) := fun w1 ho => by
    rw [(hTT.only ho (by simpa using Has.ne hTT hR.1 (by decide))).cell (by omega), TF.at_lng, hLg]; rfl
  have HLL := hide hLg
  have HC := hide cL
  have HT := hide (And.intro hD (And.intro hTT (And.intro hR h0)))
  obtain ⟨m, hm1, hm4, hm2, hm3⟩ : ∃ m : Nat, (if L < left then (L : Int) else (left : Int)) = (m : Int) ∧ (if L < left then Value.int .i64 (L : Int) else Value.int .i64 (left : Int)) = Value.int .i64 (m : Int) ∧ (m ≤ L ∧ m ≤ left) ∧ (m = L ∨ m = left) := by
    by_cases h : L < left
    · exact ⟨L, by rw [if_pos h], by rw [if_pos h], by omega, by omega⟩
    · exact ⟨left, by rw [if_neg h], by rw [if_neg h], by omega, by omega⟩
  have hleq : (8 * b.length - k : Nat) = left := hleft.symm
  have HP := hide (fun w1 (h : Rd w1 gr (.slice A b.length c) b k) => peek_any gr _ b k (m : Int) w1 h)
  have hok : okBits b.length k (m : Int) = true := by unfold okBits; rw [decide_eq_true_eq, hleq]; omega
  have hgot : gotBits b k (m : Int) = bitsOf (num b) k m := by unfold gotBits; rw [if_pos hok, Int.toNat_natCast]
  rw [hok, hgot] at HP
  have HM := hide (And.intro hm2 hm3)
  clear hD hTT hR h0 cL hLg hs hm2 hm3 hok hgot hleq hleft
  have c0 := HC.out w (Only.refl _ _)
  go_enter Tryd.func93, Tryd.ntmps93
  go_wp2_with fail
  refine (HL.out).mono ?_
  rintro o w1 ⟨rfl, m1, rfl⟩
  go_wp2_with fail
  refine (HP.out _ (HT.out.2.2.1.drewN m1)).mono ?_
  rintro o w1 ⟨rfl, m2, rfl⟩
  obtain ⟨m3, h3⟩ := drews w m1 m2
  rw [h3]
  have HD : Tbl (w.drewN m3) g (TF.dl l l.length S) ∧ Rd (w.drewN m3) gr (.slice A b.length c) b k ∧ Only [] w (w.drewN m3) := ⟨HT.out.2.1.only ((Only.refl [] w).drewN m3) (by simp), HT.out.2.2.1.drewN m3, (Only.refl [] w).drewN m3⟩
  have HW := hide HD
  have hT1 := HD.1
  clear h3 HL HP c0 HD
  generalize w.drewN m3 = W at *
  have cL : W.cell? ⟨g, 1008, none⟩ = some (.int .i64 (L : Int)) := by rw [hT1.cell (by omega), TF.at_lng, HLL.out]; rfl
  have HT1 := hide hT1
  clear hT1 hm1 hm4
  obtain ⟨y0, hy0⟩ : ∃ y, y = bitsOf (num b) k m := ⟨_, rfl⟩
  rw [← hy0]
  have HY := hide hy0
  have hy32 : y0 < 4294967296 := by rw [hy0]; exact bitsOf_lt32 _ _ _ (by have := HM.out.1; omega)
  clear hy0
  go_wp2_with fail
  go_loop [7, 9, 10] (fun v7 v9 v10 => ∃ j : Nat, Seen l (num b) k left j (x, e, n) ∧ v7 = .int .u32 ((y0 / 2 ^ j : Nat) : Int) ∧ v9 = .int .i64 (bc (num b) k j : Nat) ∧ v10 = .int .i64 ((j + 1 : Nat) : Int)) (fun _ _ v10 => 17 - (intOf v10).toNat)
  case atStart => exact ⟨0, HT.out.2.2.2, by simp, rfl, rfl⟩
  case round =>
    obtain ⟨j, hSn, rfl, rfl, rfl⟩ := hrel
    have hjL := hSn.le
    rw [← HLL.out] at hjL
    by_cases hlt : j < L
    · have hlt' : j < Lg (cn l) 15 := by rw [← HLL.out]; exact hlt
      have HS := hide hSn
      by_cases hsh : left < j + 1
      · have hR := hSn.short hlt' hsh
        injection hR with hx hR
        injection hR with he hn0
        subst hx he hn0
        have hnL : j + 1 ≤ L := hlt
        clear hSn hlt'
        generalize hnn : j + 1 = nn at *
        clear hnn
        go_wp2_with fail
        go_ret2
        exact ⟨rfl, HW.out.2.2.of_nil, HW.out.2.1⟩
      · have hjm : j < m := by rcases HM.out.2 with h | h <;> omega
        have hge := hSn.ge
        have hzl := bc_lt (num b) k j
        have hz15 : 2 ^ j ≤ 2 ^ 15 := Nat.pow_le_pow_right (by decide) (by omega)
        have hbs := bc_succ (num b) k j
        obtain ⟨y, hy⟩ : ∃ y, y = y0 / 2 ^ j := ⟨_, rfl⟩
        have hyl : y < 4294967296 := by rw [hy]; exact Nat.lt_of_le_of_lt (Nat.div_le_self _ _) hy32
        have hbit : y % 2 = num b / 2 ^ (k + j) % 2 := by
          have h1 := mod_div_mod (num b / 2 ^ k) m j 1 (by omega)
          rw [Nat.pow_one] at h1
          rw [hy, HY.out]
          unfold bitsOf
          rw [h1, Nat.div_div_eq_div_mul, ← Nat.pow_add]
        have hy2 : y / 2 = y0 / 2 ^ (j + 1) := by rw [hy, Nat.div_div_eq_div_mul, Nat.pow_succ]
        rw [← hbit] at hbs
        obtain ⟨C, hC⟩ : ∃ C, C = bc (num b) k (j + 1) := ⟨_, rfl⟩
        rw [← hC] at hbs hge
        obtain ⟨F, hF⟩ : ∃ F, F = Fs (cn l) (j + 1) := ⟨_, rfl⟩
        rw [← hF] at hge
        obtain ⟨K, hK⟩ : ∃ K, K = cn l (j + 1) := ⟨_, rfl⟩
        obtain ⟨I, hI⟩ : ∃ I, I = C - F := ⟨_, rfl⟩
        have cF : W.cell? ⟨g, 976 + (j + 1), none⟩ = some (.int .i64 (F : Int)) := by
          rw [HT1.out.cell (by omega), TF.at_fst _ (by omega)]
          show some (Value.int .i64 ((if j + 1 ≤ 15 then Fs (cn l) (j + 1) else 0 : Nat) : Int)) = _
          rw [if_pos (by omega), hF]
        have cK : W.cell? ⟨g, 960 + (j + 1), none⟩ = some (.int .i64 (K : Int)) := by
          rw [HT1.out.cell (by omega), TF.at_cnt _ (by omega), hK]; rfl
        obtain ⟨z, hz⟩ : ∃ z, z = bc (num b) k j := ⟨_, rfl⟩
        rw [← hz] at hbs hzl ⊢
        rw [← hy]
        obtain ⟨t, ht⟩ : ∃ t, t = y % 2 := ⟨_, rfl⟩
        have ht2 : t < 2 := by omega
        have eA := u32_and1 y hyl
        rw [← ht] at eA hbs
        have eW : IntKind.i64.wrap (t : Int) = (t : Int) := wrap64 rfl (by omega)
        have eO := i64_or1 z t ht2 (by omega)
        have eC : 2 * (z : Int) + (t : Int) = (C : Int) := by omega
        rw [eC] at eO
        have eI : (C : Int) - (F : Int) = (I : Int) := by omega
        obtain ⟨Y2, hY2⟩ : ∃ q, q = y / 2 := ⟨_, rfl⟩
        rw [← hY2] at hy2
        have eH : (y : Int) / 2 = (Y2 : Int) := by omega
        have hz64 : z < 32768 := by omega
        have q1 : ((j + 1 : Nat) : Int) < 16 := by omega
        have q0 : (0 : Int) ≤ ((j + 1 : Nat) : Int) := by omega
        have hnL : j + 1 ≤ L := hlt
        have hnl : j + 1 ≤ left := by omega
        have hn0 : j + 1 ≠ 0 := by omega
        have hI63 : I < 65536 := by omega
        have hC63 : C < 65536 := by omega
        by_cases hhit : I < K
        · have hR := hSn.hit hlt' hsh (by rw [← hC, ← hF, ← hK]; omega)
          rw [← hC, ← hF, ← hI] at hR
          obtain ⟨d1, d2, d3⟩ := dealt_sy HT.out.1 (n := j + 1) (by omega) (show I < cn l (j + 1) by omega)
          have hok : okBits b.length k ((j + 1 : Nat) : Int) = true := by unfold okBits; rw [decide_eq_true_eq]; have := HLE.out; omega
          have HB := hide (bits_any gr _ b k ((j + 1 : Nat) : Int) W HW.out.2.1)
          rw [hok, if_pos rfl, Int.toNat_natCast] at HB
          injection hR with hx hR
          injection hR with he hn0'
          obtain ⟨B, hB⟩ : ∃ B, B = Bf (cn l) (j + 1) := ⟨_, rfl⟩
          rw [← hB] at d1 d3
          rw [← hx] at d1 d2
          subst he hn0'
          have HZ := hide (And.intro hB (And.intro d1 hn0))
          have hj15 : j + 1 ≤ 15 := by omega
          clear hSn hlt' hsh hy hbit hy2 hC hF hK hI hz hbs hge ht hzl hz15 hjm hok hx hB d1 eC hn0 hlt hjL hY2
          generalize hnn : j + 1 = nn at *
          have HNN := hide hnn
          clear hnn
          go_wp2_with fail
          refine (HB.out).mono ?_
          rintro o w5 ⟨rfl, ho5, hR5⟩
          have hT5 : Tbl w5 g (TF.dl l l.length S) := HT1.out.only ho5 (by simpa using Has.ne HT1.out HW.out.2.1.1 (by decide))
          have a1 : w5.cell? ⟨g, 992 + nn, none⟩ = some (.int .i64 (B : Int)) := by
            rw [hT5.cell (by omega), TF.at_bef _ (by omega)]
            show some (Value.int .i64 ((if nn ≤ 15 then Bf (cn l) nn else 0 : Nat) : Int)) = _
            rw [if_pos hj15, HZ.out.1]
          have a2 : w5.cell? ⟨g, 640 + (B + I), none⟩ = some (.int .i16 (x : Int)) := by
            rw [hT5.cell (by omega), TF.at_sym _ (by omega)]
            show some (Value.int .i16 ((S (B + I) : Nat) : Int)) = _
            rw [HZ.out.2.1]
          have H5 := hide (And.intro hR5 ho5)
          clear hR5 ho5 hT5
          have k1 : IntKind.i64.wrap ((B : Int) + (I : Int)) = (B : Int) + (I : Int) := by have := wrap64 (z := (B : Int) + (I : Int)) (n := B + I) (by omega) (by omega); omega
          have k2 : IntKind.i64.wrap (x : Int) = (x : Int) := wrap64 rfl (by omega)
          have k3 : (0 : Int) ≤ (B : Int) + (I : Int) := by omega
          have k4 : (B : Int) + (I : Int) < 320 := by omega
          go_wp2_with fail
          go_quiet (fail)
          go_wp2_with fail
          go_ret2
          rw [HNN.out]
          exact ⟨rfl, (HW.out.2.2.of_nil.trans H5.out.2 (fun i hi _ => hi)).drewN nq, H5.out.1.drewN nq⟩
        · have hnx := hSn.next hlt' hsh (by rw [← hC, ← hF, ← hK]; omega)
          have HX := hide (And.intro hnx (And.intro hC (And.intro hy2 hz)))
          clear hSn hnx hlt' hsh hy hbit hy2 hC hF hK hI hz hbs hge ht hzl hz15 hjm eC hlt hY2
          generalize hnn : j + 1 = nn at *
          have HNN := hide hnn
          clear hnn
          go_wp2_with fail
          go_round
          case rel =>
            exact ⟨nn, HX.out.1, by rw [← HX.out.2.2.1], by rw [← HX.out.2.1], by go_num⟩
          case measure => simp [intOf]; omega
    · obtain rfl : j = L := by omega
      rw [HLL.out] at hSn
      have hR := hSn.done
      injection hR with hx hR
      injection hR with he hn0
      subst hx he hn0
      clear hSn hlt
      generalize y0 / 2 ^ j = y at *
      generalize bc (num b) k j = z at *
      go_wp2_with fail
      go_ret2
      exact ⟨rfl, HW.out.2.2.of_nil, HW.out.2.1⟩
end Go.Proofs.YtglkfgpefpebmaaDoor
