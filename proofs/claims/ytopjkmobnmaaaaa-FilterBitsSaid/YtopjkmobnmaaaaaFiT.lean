/-
  The document's samples.
-/
import Derived.Test.YtopjkmobnmaaaaaFiR
import Derived.Test.YtopjkmobnmaaaaaFiH
import Derived.BigRegion
namespace Go.Proofs.Ytopjkmobnmaaaaa
open Go Go.RowKit

theorem i64_one (v : Nat) (hv : v < 256) : bits .and .i64 (v : Int) 1 = ((v % 2 : Nat) : Int) := by
  have := i64_low v 1 hv (by omega)
  simpa using this

/-- Where the loops stand: k bits of sample i. -/
structure TmSt (w : World) (g n i k d : Nat) (l : List UInt8) (wr : World) : Prop where
  own : wr.ownsRow w.heap.size 3 1 (.slice (some ⟨g, 0, none⟩) n n) n (svals (fillN (smps l d i ++ [smp l d i k]) n))
  only : Only [] w wr
theorem SmSt.begin {w : World} {g n i d : Nat} {l : List UInt8} {wr : World} (h : SmSt w g n i d l wr) (hi : i < n) : TmSt w g n i 0 d l wr := by
  refine ⟨?_, h.only⟩
  have := h.own
  rw [fillN_one _ _ (by rw [smps_length]; exact hi)] at this
  exact this
theorem TmSt.whole {w : World} {g n i d : Nat} {l : List UInt8} {wr : World} (h : TmSt w g n i d d l wr) : SmSt w g n (i + 1) d l wr := by
  refine ⟨?_, h.only⟩
  rw [smps_succ]
  exact h.own

set_option maxRecDepth 100000 in
set_option maxHeartbeats 8000000 in
theorem refSamples_any (d n : Int) (A : Option Addr) (m c : Nat) (l : List UInt8) (w : World) (hb : Holds w 1 A m (bvals l)) (hl : l.length = m) (hm : m ≤ 1000000) :
    Calls Try.prog 15 #[.slice A m c, .int .i64 d, .int .i64 n] w fun e w' => ∃ v, e = .returned (.tuple #[v, .int .i64 (sErr d n m : Nat)]) ∧ w'.ownsRow w.heap.size 3 1 v (smR l d n).length (svals (smR l d n)) ∧ Only [] w w' := by
  have HD := hide (fun w => refDepth_any d w)
  by_cases hd : isDep d = true
  · have hd4 := (isDep_iff d).1 hd
    obtain ⟨x, rfl⟩ := Int.eq_ofNat_of_zero_le (show 0 ≤ d by omega)
    rw [hd] at HD
    have W1 := hide (wr64 (z := 8 * (m : Int)) (n := 8 * m) (by omega) (by omega))
    have hq : 8 * m / x ≤ 8 * m := Nat.div_le_self _ _
    have hq2 : ((8 * m : Nat) : Int).tdiv (x : Int) = ((8 * m / x : Nat) : Int) := (Int.ofNat_tdiv (8 * m) x).symm
    obtain ⟨q, hqe⟩ : ∃ q, q = 8 * m / x := ⟨_, rfl⟩
    have W2 := hide (wr64 (z := (q : Int)) (n := q) rfl (by omega))
    obtain ⟨t, ht⟩ : ∃ t, t = 8 * m := ⟨_, rfl⟩
    have x0 : ¬ (x : Int) = 0 := by omega
    have x1 : ((x : Int) == 0) = false := beq_eq_false_iff_ne.2 x0
    by_cases hn : 0 ≤ n
    · obtain ⟨y, rfl⟩ := Int.eq_ofNat_of_zero_le hn
      by_cases hy : y ≤ q
      · have hE : sErr (x : Int) (y : Int) m = 0 := by
          unfold sErr
          rw [if_pos ⟨hd, hn⟩, Int.toNat_natCast, Int.toNat_natCast, if_neg (by omega)]
        have hR : smR l (x : Int) (y : Int) = smps l x y := by unfold smR; rw [hl, hE, if_pos rfl, Int.toNat_natCast, Int.toNat_natCast]
        rw [hE, hR, smps_length]
        have hyx : y * x ≤ 8 * m := by
          have h2 := Nat.mul_le_mul_right x hy
          have h3 := Nat.div_mul_le_self (8 * m) x
          rw [← hqe] at h3
          omega
        have hmk := run_makeN y (by omega)
        have hd5 : x = 1 ∨ x = 2 ∨ x = 4 ∨ x = 8 ∨ x = 16 := by omega
        have HB := hide (And.intro hb (And.intro hl (And.intro hm (And.intro hyx (And.intro hd5 (show y ≤ 8000000 by omega))))))
        have hyq : ¬ (q : Int) < (y : Int) := by omega
        have dy : decide ((y : Int) < 0) = false := decide_eq_false (by omega)
        have dq : decide (q < y) = false := decide_eq_false (by omega)
        have hy9 : y ≤ 8000000 := by omega
        have hx9 : x ≤ 16 := by omega
        rw [← hqe, ← ht] at hq2
        rw [← ht] at W1
        clear hb hl hm hyx hd5 hE hR hq hqe hn hy hd hd4 ht
        obtain ⟨v1, u1⟩ := W1.out
        obtain ⟨v2, u2⟩ := W2.out
        clear W1 W2
        go_enter Try.func15, Try.ntmps15
        go_wp2_with fail
        refine (HD.out _).mono ?_
        rintro e w1 ⟨rfl, rfl⟩
        go_wp2_with fail
        have H0 := hide (show SmSt w1 w1.heap.size y 0 x l (w1.alloc (.cells (svals (List.replicate y 0)).toArray 3)) from ⟨by
          rw [show smps l x 0 = [] from rfl, fillN_nil]
          exact own_madeN w1 3 (List.replicate y 0) y (by simp) (by omega), (Only.refl [] w1).alloc _⟩)
        clear v1 u1 v2 u2
        go_loopw [9] (fun i wr => ∃ j : Nat, j ≤ y ∧ i = .int .i64 j ∧ SmSt w1 w1.heap.size y j x l wr) (fun i _ => y - (intOf i).toNat)
        case atStart => exact ⟨0, Nat.zero_le _, rfl, H0.out⟩
        case round =>
          obtain ⟨j, hj, rfl, S⟩ := hrel
          by_cases hlt : j < y
          · have HS0 := hide (And.intro (S.begin hlt) hlt)
            clear S
            go_wp2_with fail
            go_loopw [10] (fun k wb => ∃ p : Nat, p ≤ x ∧ k = .int .i64 p ∧ TmSt w1 w1.heap.size y j p x l wb) (fun k _ => x - (intOf k).toNat)
            case atStart => exact ⟨0, Nat.zero_le _, rfl, HS0.out.1⟩
            case round =>
              obtain ⟨p, hp, rfl, S⟩ := hrel
              by_cases hpx : p < x
              · obtain ⟨hb, hl, hm, hyx, hd5, _⟩ := HB.out
                have hjx : j * x + x ≤ 8 * m := by
                  have h2 := Nat.mul_le_mul_right x (show j + 1 ≤ y by omega)
                  rw [Nat.add_mul] at h2
                  omega
                obtain ⟨f, hf⟩ : ∃ f, f = j * x := ⟨_, rfl⟩
                obtain ⟨z, hz⟩ : ∃ z, z = f + p := ⟨_, rfl⟩
                obtain ⟨h, hh⟩ : ∃ h, h = z / 8 := ⟨_, rfl⟩
                obtain ⟨r, hr⟩ : ∃ r, r = z % 8 := ⟨_, rfl⟩
                obtain ⟨b, hb7⟩ : ∃ b, b = 7 - r := ⟨_, rfl⟩
                obtain ⟨bb, oo, rfl, hc⟩ := (hb.keep S.only (by simp)).addr (by rw [bvals_length]; omega)
                have c0 := cell8 hc (i := h) (by omega)
                obtain ⟨g', hg', _, _, hfr, hcell⟩ := own_open S.own (by omega)
                obtain rfl : w1.heap.size = g' := by injection hg' with h; injection h
                have hlen : (fillN (smps l x j ++ [smp l x j p]) y).length = y := fillN_length _ _ (by simp [smps_length]; omega)
                have c1 := hcell j _ (svals_get _ j (by rw [hlen]; omega))
                rw [fillN_at _ _ _ _ (smps_length l x j).symm] at c1
                have f1 := hfr j
                have hbit : bitAt l (j * x + p) = (l.getD h 0).toNat / 2 ^ b % 2 := by unfold bitAt; rw [← hf, ← hz, ← hh, ← hr, ← hb7]
                obtain ⟨v, hv⟩ : ∃ v, v = smp l x j p := ⟨_, rfl⟩
                have hvlt : v < 65536 := by
                  have h1 := smp_lt l x j p
                  have h2 : 2 ^ p ≤ 2 ^ 16 := Nat.pow_le_pow_right (by omega) (by omega)
                  omega
                rw [← hv] at c1
                have hx8 := (l.getD h 0).toNat_lt
                obtain ⟨e, he⟩ : ∃ e, e = (l.getD h 0).toNat := ⟨_, rfl⟩
                rw [← he] at c0 hbit hx8
                obtain ⟨s, hs⟩ : ∃ s, s = e / 2 ^ b := ⟨_, rfl⟩
                have hse : s ≤ e := by rw [hs]; exact Nat.div_le_self _ _
                have eD : (e : Int) / 2 ^ b = (s : Int) := by rw [hs]; simp
                rw [← hs] at hbit
                obtain ⟨o, ho⟩ : ∃ o, o = s % 2 := ⟨_, rfl⟩
                have hand := i64_one s (by omega)
                rw [← ho] at hbit hand
                obtain ⟨u, hu⟩ : ∃ u, u = 2 * v := ⟨_, rfl⟩
                obtain ⟨a, ha⟩ : ∃ a, a = u + o := ⟨_, rfl⟩
                have hsm : smp l x j (p + 1) = a := by rw [smp_succ, hbit, ← hv, ha, hu]
                have hS : TmSt w1 w1.heap.size y j (p + 1) x l (wr.setCell ⟨w1.heap.size, j, none⟩ (.int .i64 (a : Int))) := ⟨by
                  have h := own_set S.own j (.int .i64 (a : Int))
                  rw [svals_set, fillN_set2 _ _ _ _ _ (smps_length l x j).symm] at h
                  rw [hsm]
                  exact h, S.only.setCell (by intro h; exact absurd h (Nat.lt_irrefl _)) _⟩
                have HS := hide (And.intro hS hpx)
                have W1 := hide (wr64 (z := (j : Int) * (x : Int)) (n := f) (by rw [hf]; exact (Int.natCast_mul j x).symm) (by omega))
                have W2 := hide (wr64 (z := (f : Int) + (p : Int)) (n := z) (by omega) (by omega))
                have W3 := hide (wr64 (z := (h : Int)) (n := h) rfl (by omega))
                have W4 : Hid ((z : Int).tdiv 8 = (h : Int)) := hide (by rw [hh]; exact (Int.ofNat_tdiv z 8).symm)
                have W5 : Hid ((z : Int).tmod 8 = (r : Int)) := hide (by rw [hr]; exact (Int.ofNat_tmod z 8).symm)
                have W6 := hide (wr64 (z := 7 - (r : Int)) (n := b) (by omega) (by omega))
                have W7 : Hid (IntKind.u64.wrap (b : Int) = (b : Int)) := hide (IntWalk.u64_in _ ⟨by omega, by omega⟩)
                have W8 := hide (wr64 (z := (s : Int)) (n := s) rfl (by omega))
                have W9 := hide (wr64 (z := 2 * (v : Int)) (n := u) (by omega) (by omega))
                have W10 := hide (wr64 (z := (u : Int) + (o : Int)) (n := a) (by omega) (by omega))
                have W11 : Hid (IntKind.u8.wrap (s : Int) = (s : Int)) := hide (by rw [IntKind.wrap_u8]; omega)
                have m1 : min b 64 = b := by omega
                have m2 : min b 8 = b := by omega
                have i0 : h < m := by omega
                have i1 : j < y := by omega
                have hbn : ¬ (b : Int) < 0 := by omega
                clear hb hl hm hyx hd5 hjx hf hz hh hr hb7 hc hfr hcell hlen hg' hbit hv hvlt hx8 he hs hse ho hu ha hsm hS S
                clear x0 x1 dy dq hyq hq2
                obtain ⟨v1, u1⟩ := W1.out
                obtain ⟨v2, u2⟩ := W2.out
                obtain ⟨v3, u3⟩ := W3.out
                have v4 := W4.out
                have v5 := W5.out
                obtain ⟨v6, u6⟩ := W6.out
                have v7 := W7.out
                obtain ⟨v8, u8⟩ := W8.out
                obtain ⟨v9, u9⟩ := W9.out
                obtain ⟨v10, u10⟩ := W10.out
                have v11 := W11.out
                clear W1 W2 W3 W4 W5 W6 W7 W8 W9 W10 W11
                go_wp2_with fail
                go_region
                go_wp2_with fail
                go_roundw
                case rel => exact ⟨p + 1, HS.out.2, by go_num, ⟨HS.out.1.own, HS.out.1.only.drew⟩⟩
                case measure => simp [intOf]; omega
              · obtain rfl : p = x := by omega
                have HS := hide S.whole
                clear S
                go_wp2_with fail
                go_roundw
                case rel => exact ⟨j + 1, HS0.out.2, by go_num, HS.out⟩
                case measure => simp [intOf]; omega
          · obtain rfl : j = y := by omega
            go_wp2_with fail
            go_ret2
            refine ⟨_, rfl, ?_, S.only⟩
            have h := S.own
            rw [fillN_all _ _ (smps_length _ _ _)] at h
            exact h
      · have hE : sErr (x : Int) (y : Int) m = 2 := by
          unfold sErr
          rw [if_pos ⟨hd, hn⟩, Int.toNat_natCast, Int.toNat_natCast, if_pos (by omega)]
        have hR : smR l (x : Int) (y : Int) = [] := by unfold smR; rw [hl, hE, if_neg (by omega)]
        rw [hE, hR]
        have hyq : (q : Int) < (y : Int) := by omega
        rw [← hqe, ← ht] at hq2
        rw [← ht] at W1
        clear hb hl hm hE hR hq hqe hn hy hd hd4 ht
        obtain ⟨v1, u1⟩ := W1.out
        obtain ⟨v2, u2⟩ := W2.out
        clear W1 W2
        go_enter Try.func15, Try.ntmps15
        go_wp2_with fail
        refine (HD.out _).mono ?_
        rintro e w1 ⟨rfl, rfl⟩
        go_wp2_with fail
        go_ret2
        exact ⟨_, rfl, ⟨rfl, .inl ⟨rfl, rfl⟩⟩, Only.refl [] _⟩
    · have hE : sErr (x : Int) n m = 1 := by
        unfold sErr
        rw [if_neg (fun h => hn h.2)]
      have hR : smR l (x : Int) n = [] := by unfold smR; rw [hl, hE, if_neg (by omega)]
      rw [hE, hR]
      clear hb hl hm hE hR hq hq2 hqe hd hd4 ht W1 W2
      go_enter Try.func15, Try.ntmps15
      go_wp2_with fail
      refine (HD.out _).mono ?_
      rintro e w1 ⟨rfl, rfl⟩
      go_wp2_with fail
      go_ret2
      exact ⟨_, rfl, ⟨rfl, .inl ⟨rfl, rfl⟩⟩, Only.refl [] _⟩
  · have hdf : isDep d = false := by cases h : isDep d with
      | true => exact absurd h hd
      | false => rfl
    rw [hdf] at HD
    have hE : sErr d n m = 1 := by
      unfold sErr
      rw [if_neg (fun h => hd h.1)]
    have hR : smR l d n = [] := by unfold smR; rw [hl, hE, if_neg (by omega)]
    rw [hE, hR]
    clear hb hl hm hE hR hd hdf
    go_enter Try.func15, Try.ntmps15
    go_wp2_with fail
    refine (HD.out _).mono ?_
    rintro e w1 ⟨rfl, rfl⟩
    go_wp2_with fail
    go_ret2
    exact ⟨_, rfl, ⟨rfl, .inl ⟨rfl, rfl⟩⟩, Only.refl [] _⟩
end Go.Proofs.Ytopjkmobnmaaaaa
