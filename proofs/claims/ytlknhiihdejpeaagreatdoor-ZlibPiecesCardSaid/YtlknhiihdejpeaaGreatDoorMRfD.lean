/-
  The document's inflate: a length and a distance.
-/
import Derived.Test.YtlknhiihdejpeaaGreatDoorMRfA
import Derived.StillTailTactics
namespace Go.Proofs.YtlknhiihdejpeaaGreatDoor
open Go Go.RowKit

theorem lenB_le (s : Nat) (h1 : 257 ≤ s) (h2 : s ≤ 285) : lenB s ≤ 5 ∧ lenM s ≤ 258 ∧ 1 ≤ lenM s := by
  unfold lenB lenM
  by_cases h3 : s = 285
  · rw [if_pos (.inl h3), if_pos h3]; omega
  · by_cases h4 : s < 265
    · rw [if_pos (.inr h4), if_neg h3, if_pos h4]; omega
    · rw [if_neg (by omega), if_neg h3, if_neg h4]
      have hp : 2 ^ ((s - 257) / 4 - 1) ≤ 2 ^ 5 := Nat.pow_le_pow_right (by omega) (by omega)
      have hm : (4 + (s - 257) % 4) * 2 ^ ((s - 257) / 4 - 1) ≤ 7 * 2 ^ 5 := Nat.mul_le_mul (by omega) hp
      omega
theorem dstB_le (s : Nat) (h2 : s ≤ 29) : dstB s ≤ 13 ∧ dstM s + 2 ^ dstB s ≤ 32769 ∧ 1 ≤ dstM s := by
  have key : ∀ s, s ≤ 29 → dstB s ≤ 13 ∧ dstM s + 2 ^ dstB s ≤ 32769 ∧ 1 ≤ dstM s := by decide
  exact key s h2

/-- Where the copying loop stands. -/
structure CopSt (w : World) (b0 gs gr c p : Nat) (A : Option Addr) (B : List UInt8) (v : Value) (most : Nat) (out : List UInt8) (far m j : Nat) (wr : World) (v' : Value) : Prop where
  since : Since [gs, gr] w v wr v'
  rs : Rs wr b0 gs gr A c B p v' (again out far j) most

set_option maxRecDepth 100000 in
set_option maxHeartbeats 16000000 in
theorem rCopied {w : World} {b0 gs gr c p most bd gd sym : Nat} {A : Option Addr} {B D : List UInt8} {v : Value} {out : List UInt8} (h : Rs w b0 gs gr A c B p v out most) (hb0 : b0 ≤ w.heap.size)
    (hD : ∀ w' v', Since [gs, gr] w v w' v' → RT w' bd gd D) (hDl : D.length ≤ 320) (hD15 : ∀ i, ln D i ≤ 15) (hDm : mayBe (cn D) = true)
    (h257 : 257 ≤ sym) (h285 : sym ≤ 285) (s : GSt) (hk : s.k = 8) (hsp : s.p = p) (hso : s.out = out) (hss : s.sym = sym) (hsD : s.D = D) :
    Calls Tryz.prog 72 #[.pointer (some ⟨gs, 0, none⟩), .int .i64 (sym : Int), .pointer (some ⟨gd, 0, none⟩)] w fun e w' => ∃ ec p' v' out', e = .returned (.int .i64 (ec : Nat)) ∧ Since [gs, gr] w v w' v' ∧ Rs w' b0 gs gr A c B p' v' out' most ∧ RK (num B) B.length most s ec p' out' := by
  have HL := hide (fun w => rLength sym w h257 h285)
  obtain ⟨l1, l2, l3⟩ := lenB_le sym h257 h285
  have hn8 := GSt.nx_8 (L0 := fixedL) (D0 := fixedD2) (N := num B) (most := most) hk
  rw [hss, hsp] at hn8
  obtain ⟨lb, hlb⟩ : ∃ x, x = lenB sym := ⟨_, rfl⟩
  obtain ⟨lm, hlm⟩ : ∃ x, x = lenM sym := ⟨_, rfl⟩
  rw [← hlb, ← hlm] at HL hn8
  rw [← hlb] at l1
  rw [← hlm] at l2 l3
  obtain ⟨k0, k1, k2⟩ := rs_cells h
  have H0 := hide h
  have HS := hide (And.intro hk (And.intro hsp (And.intro hso (And.intro hsD hb0))))
  have HD := hide (And.intro hD (And.intro hDl (And.intro hD15 hDm)))
  clear hk hsp hso hss hsD h hb0 hD hDl hD15 hDm h257 h285 hlb hlm
  by_cases hp1 : p + lb ≤ 8 * B.length
  · have HX := hide (rBits_yes H0.out lb (by omega) hp1)
    obtain ⟨x, hx⟩ : ∃ x, x = num B / 2 ^ p % 2 ^ lb := ⟨_, rfl⟩
    have hx5 : x < 32 := by
      have h1 : x < 2 ^ lb := by rw [hx]; exact Nat.mod_lt _ (Nat.two_pow_pos _)
      have h2 : 2 ^ lb ≤ 2 ^ 5 := Nat.pow_le_pow_right (by omega) l1
      omega
    rw [← hx] at HX hn8
    obtain ⟨m, hm⟩ : ∃ m, m = lm + x := ⟨_, rfl⟩
    rw [← hm] at hn8
    have HT1 := hide (Steps.one (a := B.length) (by rw [HS.out.1]; decide) hn8 hp1)
    obtain ⟨t1, ht1⟩ : ∃ t1, t1 = ({ s with k := 9, len := m, p := p + lb, sym := sym } : GSt) := ⟨_, rfl⟩
    have HT1 : Hid (Steps fixedL fixedD2 (num B) B.length most s t1) := by rw [ht1]; exact HT1
    have hq1 : t1.k = 9 ∧ t1.len = m ∧ t1.p = p + lb ∧ t1.out = out ∧ t1.D = D ∧ t1.T = s.T ∧ t1.last = s.last := by rw [ht1]; exact ⟨rfl, rfl, rfl, HS.out.2.2.1, HS.out.2.2.2.1, rfl, rfl⟩
    have HQ1 := hide hq1
    clear ht1 hq1 hn8 hx
    have W1 := hide (wr6 (z := (x : Int)) (n := x) rfl (by omega))
    have W2 := hide (wr6 (z := (lm : Int) + (x : Int)) (n := m) (by omega) (by omega))
    have hm9 : m ≤ 300 := by omega
    have hm1 : 1 ≤ m := by omega
    obtain ⟨v1, u1⟩ := W1.out
    obtain ⟨v2, u2⟩ := W2.out
    clear W1 W2 hm
    have hn9 := GSt.nx_9 (L0 := fixedL) (D0 := fixedD2) (N := num B) (most := most) HQ1.out.1
    rw [HQ1.out.2.2.1, HQ1.out.2.2.2.2.1] at hn9
    by_cases hp2 : p + lb + needN D (num B) (p + lb) ≤ 8 * B.length
    · have HN9 := hide hn9
      have hneed : (huffN D (num B) (p + lb)).2.1 = 0 → needN D (num B) (p + lb) = (huffN D (num B) (p + lb)).2.2 := fun h => by unfold needN; rw [if_pos h]
      obtain ⟨R, hR⟩ : ∃ R, R = huffN D (num B) (p + lb) := ⟨_, rfl⟩
      have hRe := huffN_err D (num B) (p + lb)
      rw [← hR] at hRe hneed
      have HRd : Hid (∀ w2, Rs w2 b0 gs gr A c B (p + lb) v out most → Since [gs, gr] w v w2 v → Calls Tryz.prog 71 #[.pointer (some ⟨gd, 0, none⟩), .pointer (some ⟨gr, 0, none⟩)] w2 fun e w' => e = .returned (.tuple #[.int .i64 (R.1 : Nat), .int .i64 (R.2.1 : Nat)]) ∧ Rs w' b0 gs gr A c B (p + lb + R.2.2) v out most ∧ Since [gs, gr] w2 v w' v) := hide (fun w2 hr hs => by
        rw [hR]
        exact rRead_yes hr (HD.out.1 _ _ hs) HD.out.2.1 HD.out.2.2.1 HD.out.2.2.2 hp2)
      have hn9 := HN9.out
      rw [← hR] at hn9
      clear HN9
      by_cases hbad : R.2.1 ≠ 0 ∨ 29 < R.1
      · rw [if_pos hbad] at hn9
        have HN9 := hide hn9
        have hcase : (R.1 = 0 ∧ R.2.1 = 3) ∨ (R.2.1 = 0 ∧ 29 < R.1) := by
          rcases hRe with h | h
          · exact .inr ⟨h, by rcases hbad with h2 | h2; exact absurd h h2; exact h2⟩
          · exact .inl (by rw [h]; exact ⟨rfl, rfl⟩)
        clear hn9 hbad hRe hneed hR
        rcases hcase with ⟨c1, c2⟩ | ⟨c1, c2⟩
        · rw [c1, c2] at HRd
          clear c1 c2
          go_enter Tryz.func72, Tryz.ntmps72
          go_wp2_with fail
          refine (HL.out _).mono ?_
          rintro e w1 ⟨rfl, h1⟩
          rw [h1]
          clear h1
          go_wp2_with fail
          refine (HX.out).mono ?_
          rintro e w2 ⟨rfl, hr2, hs2⟩
          have HV := hide (HRd.out w2 hr2 hs2)
          have H2 := hide (And.intro hr2 hs2)
          clear hr2 hs2 k0 k1 k2 HX
          obtain ⟨k0, k1, k2⟩ := rs_cells H2.out.1
          go_wp2_with fail
          refine (HV.out).mono ?_
          rintro e w3 ⟨rfl, hr3, hs3⟩
          have H3 := hide (And.intro hr3 (H2.out.2.trans hs3 (by simp)))
          clear hr3 hs3 HV k0 k1 k2
          go_wp2_with fail
          go_ret
          exact ⟨3, _, _, _, rfl, H3.out.2, H3.out.1, .inr (RE.bad HT1.out (by rw [HQ1.out.1]; decide) HN9.out hp2 (by decide) ⟨[], by rw [HQ1.out.2.2.2.1]; simp⟩)⟩
        · rw [c1] at HRd
          have c3 : (30 : Int) ≤ (R.1 : Int) := by omega
          clear c1
          go_enter Tryz.func72, Tryz.ntmps72
          go_wp2_with fail
          refine (HL.out _).mono ?_
          rintro e w1 ⟨rfl, h1⟩
          rw [h1]
          clear h1
          go_wp2_with fail
          refine (HX.out).mono ?_
          rintro e w2 ⟨rfl, hr2, hs2⟩
          have HV := hide (HRd.out w2 hr2 hs2)
          have H2 := hide (And.intro hr2 hs2)
          clear hr2 hs2 k0 k1 k2 HX
          obtain ⟨k0, k1, k2⟩ := rs_cells H2.out.1
          go_wp2_with fail
          refine (HV.out).mono ?_
          rintro e w3 ⟨rfl, hr3, hs3⟩
          have H3 := hide (And.intro hr3 (H2.out.2.trans hs3 (by simp)))
          clear hr3 hs3 HV k0 k1 k2
          go_wp2_with fail
          go_ret
          exact ⟨3, _, _, _, rfl, H3.out.2, H3.out.1, .inr (RE.bad HT1.out (by rw [HQ1.out.1]; decide) HN9.out hp2 (by decide) ⟨[], by rw [HQ1.out.2.2.2.1]; simp⟩)⟩
      · rw [if_neg hbad] at hn9
        have he0 : R.2.1 = 0 := by omega
        have h29 : R.1 ≤ 29 := by omega
        rw [hneed he0] at hp2 hn9
        rw [he0] at HRd
        obtain ⟨kx, hkx⟩ : ∃ kx, kx = R.1 := ⟨_, rfl⟩
        obtain ⟨nb, hnb⟩ : ∃ nb, nb = R.2.2 := ⟨_, rfl⟩
        rw [← hkx, ← hnb] at HRd hn9
        rw [← hkx] at h29
        rw [← hnb] at hp2
        have HT2 := hide (HT1.out.snoc (by rw [HQ1.out.1]; decide) hn9 hp2)
        obtain ⟨t2, ht2⟩ : ∃ t2, t2 = ({ t1 with k := 10, sym := kx, p := p + lb + nb, D := D } : GSt) := ⟨_, rfl⟩
        have HT2 : Hid (Steps fixedL fixedD2 (num B) B.length most s t2) := by rw [ht2]; exact HT2
        have HQ2 : Hid (t2.k = 10 ∧ t2.len = m ∧ t2.p = p + lb + nb ∧ t2.out = out ∧ t2.D = D ∧ t2.T = s.T ∧ t2.last = s.last ∧ t2.sym = kx) := hide (by rw [ht2]; exact ⟨rfl, HQ1.out.2.1, rfl, HQ1.out.2.2.2.1, rfl, HQ1.out.2.2.2.2.2.1, HQ1.out.2.2.2.2.2.2, rfl⟩)
        have hn10 := GSt.nx_10 (L0 := fixedL) (D0 := fixedD2) (N := num B) (most := most) (s := t2) (by rw [HQ2.out.1]; decide)
        rw [HQ2.out.2.2.1, HQ2.out.2.2.2.2.2.2.2, HQ2.out.2.2.2.1, HQ2.out.2.1] at hn10
        clear hn9 hbad hRe hneed hR he0 hkx hnb ht2 HT1 HQ1
        clear hn9
        have HDi := hide (fun w => rDistance kx w h29)
        obtain ⟨d1, d2, d3⟩ := dstB_le kx h29
        obtain ⟨db, hdb⟩ : ∃ x, x = dstB kx := ⟨_, rfl⟩
        obtain ⟨dm, hdm⟩ : ∃ x, x = dstM kx := ⟨_, rfl⟩
        rw [← hdb, ← hdm] at HDi hn10 d2
        rw [← hdb] at d1
        rw [← hdm] at d3
        have c3 : ¬ (30 : Int) ≤ (kx : Int) := by omega
        have c4 : decide (30 ≤ kx) = false := decide_eq_false (by omega)
        clear hdb hdm h29
        obtain ⟨q, hq⟩ : ∃ q, q = p + lb + nb := ⟨_, rfl⟩
        rw [← hq] at HRd hn10 hp2 HQ2
        by_cases hp3 : q + db ≤ 8 * B.length
        · obtain ⟨x2, hx2⟩ : ∃ x, x = num B / 2 ^ q % 2 ^ db := ⟨_, rfl⟩
          have hx2l : x2 < 2 ^ db := by rw [hx2]; exact Nat.mod_lt _ (Nat.two_pow_pos _)
          rw [← hx2] at hn10
          obtain ⟨far, hfar⟩ : ∃ far, far = dm + x2 := ⟨_, rfl⟩
          rw [← hfar] at hn10
          have W3 := hide (wr6 (z := (x2 : Int)) (n := x2) rfl (by omega))
          have W4 := hide (wr6 (z := (dm : Int) + (x2 : Int)) (n := far) (by omega) (by omega))
          have hf1 : ¬ (32768 : Int) < (far : Int) := by omega
          have hf2 : 1 ≤ far := by omega
          have df1 : decide ((32768 : Int) < (far : Int)) = false := decide_eq_false (by omega)
          clear hfar hx2l d2 d3
          go_enter Tryz.func72, Tryz.ntmps72
          go_wp2_with fail
          refine (HL.out _).mono ?_
          rintro e w1 ⟨rfl, h1⟩
          rw [h1]
          clear h1
          go_wp2_with fail
          refine (HX.out).mono ?_
          rintro e w2 ⟨rfl, hr2, hs2⟩
          have HV := hide (HRd.out w2 hr2 hs2)
          have H2 := hide (And.intro hr2 hs2)
          clear hr2 hs2 k0 k1 k2 HX
          obtain ⟨k0, k1, k2⟩ := rs_cells H2.out.1
          go_wp2_with fail
          refine (HV.out).mono ?_
          rintro e w3 ⟨rfl, hr3, hs3⟩
          have H3 := hide (And.intro hr3 (H2.out.2.trans hs3 (by simp)))
          clear hr3 hs3 HV k0 k1 k2
          obtain ⟨k0, k1, k2⟩ := rs_cells H3.out.1
          have HV := hide (rBits_yes H3.out.1 db (by omega) hp3)
          rw [← hx2] at HV
          clear hx2 hq
          go_wp2_with fail
          refine (HDi.out _).mono ?_
          rintro e w4 ⟨rfl, h4⟩
          rw [h4]
          clear h4
          go_wp2_with fail
          refine (HV.out).mono ?_
          rintro e w5 ⟨rfl, hr5, hs5⟩
          have hss5 := H3.out.2.trans hs5 (by simp)
          obtain ⟨A5, c5, rfl, _, _⟩ := own_shape hr5.own
          obtain ⟨n, hn⟩ : ∃ n, n = out.length := ⟨_, rfl⟩
          have H5 := hide (And.intro hr5 (And.intro hss5 hn))
          clear hr5 hs5 hss5 HV k0 k1 k2 HD HRd H0 H2 H3
          obtain ⟨k0, k1, k2⟩ := rs_cells H5.out.1
          rw [← hn] at k1 hn10
          clear hn
          clear v1 u1 v2 u2
          by_cases hfn : n < far
          · rw [if_pos hfn] at hn10
            have HN10 := hide hn10
            have hfI : (n : Int) < (far : Int) := by omega
            obtain ⟨v3, u3⟩ := W3.out
            obtain ⟨v4, u4⟩ := W4.out
            clear W3 W4 hn10
            go_wp2_with fail
            go_ret
            exact ⟨3, _, _, _, rfl, H5.out.2.1, H5.out.1, .inr (RE.bad HT2.out (by rw [HQ2.out.1]; decide) HN10.out hp3 (by decide) ⟨[], by rw [HQ2.out.2.2.2.1]; simp⟩)⟩
          · rw [if_neg hfn] at hn10
            have HN10 := hide hn10
            have hfI : ¬ (n : Int) < (far : Int) := by omega
            have dfn : decide (n < far) = false := decide_eq_false (by omega)
            obtain ⟨v3, u3⟩ := W3.out
            obtain ⟨v4, u4⟩ := W4.out
            clear W3 W4 hn10
            go_wp2_with fail
            clear v3 u3 v4 u4
            go_loopw [15] (fun i wr => ∃ j : Nat, ∃ v', j ≤ m ∧ i = .int .i64 (j : Nat) ∧ CopSt w b0 gs gr c (q + db) A B (.slice A5 out.length c5) most out far m j wr v') (fun i _ => m - (intOf i).toNat)
            case atStart => exact ⟨0, _, Nat.zero_le _, rfl, H5.out.2.1, H5.out.1⟩
            case round =>
              obtain ⟨j, v', hj, rfl, S⟩ := hrel
              clear k0 k1 k2
              obtain ⟨k0, k1, k2⟩ := rs_cells S.rs
              by_cases hlt : j < m
              · obtain ⟨A6, c6, rfl, _, _⟩ := own_shape S.rs.own
                obtain ⟨nn, hnn⟩ : ∃ nn, nn = (again out far j).length := ⟨_, rfl⟩
                have hlen := S.rs.sml
                rw [← hnn] at k1 hlen
                have hnj : nn = n + j := by rw [hnn, again_length, H5.out.2.2]
                have HJ := hide (And.intro S (And.intro hlt (And.intro hnn hnj)))
                clear S hnn
                by_cases hm : nn < most
                · have dmm : decide (most ≤ nn) = false := decide_eq_false (by omega)
                  have hmI : ¬ (most : Int) ≤ (nn : Int) := by omega
                  have W5 := hide (wr6 (z := (nn : Int) - (far : Int)) (n := nn - far) (by omega) (by omega))
                  obtain ⟨g6, hg6, _, _, hfr, hcell⟩ := own_open HJ.out.1.rs.own (by rw [← HJ.out.2.2.1]; omega)
                  subst hg6
                  obtain ⟨b, hb⟩ : ∃ b, b = (again out far j).getD (nn - far) 0 := ⟨_, rfl⟩
                  have hil : nn - far < (again out far j).length := by rw [← HJ.out.2.2.1]; omega
                  have c9 : wr.cell? ⟨g6, nn - far, none⟩ = some (.int .u8 (b.toNat : Int)) := hcell _ _ (by rw [bvals_get _ _ hil, hb, List.getD_eq_getElem?_getD, List.getElem?_eq_getElem hil]; rfl)
                  obtain ⟨ix, hix⟩ : ∃ ix, ix = nn - far := ⟨_, rfl⟩
                  rw [← hix] at c9 W5
                  have hxn : ix < nn := by omega
                  have hxI : (ix : Int) < (nn : Int) := by omega
                  have HBb := hide (And.intro hb hix)
                  obtain ⟨v5, u5⟩ := W5.out
                  clear hb hix hil hcell hfr hnj
                  go_wp2_with fail
                  go_quiet (fail)
                  have H7 := hide (And.intro (HJ.out.1.rs.idle ((Only.refl [] wr).drewN nq)) (HJ.out.1.since.trans (Rs.since_idle (gs := gs) (gr := gr) ((Only.refl [] wr).drewN nq)) (by simp)))
                  have c10 : (wr.drewN nq).cell? ⟨g6, ix, none⟩ = some (.int .u8 (b.toNat : Int)) := c9
                  clear k0 k1 k2 c9 v5 u5
                  obtain ⟨k0, k1, k2⟩ := rs_cells H7.out.1
                  rw [← HJ.out.2.2.1] at k1
                  have hown7 : (wr.drewN nq).ownsRow b0 5 1 (.slice (some ⟨g6, 0, none⟩) nn c6) nn (bvals (again out far j)) := by rw [HJ.out.2.2.1]; exact H7.out.1.own
                  have hB7 : b0 ≤ (wr.drewN nq).heap.size := Nat.le_trans HS.out.2.2.2.2 H7.out.2.only.size
                  have glt := H7.out.1.has.lt
                  have g6lt : g6 < (wr.drewN nq).heap.size := World.block_lt_of_cell? _ _ c10
                  have hal : (again out far j).length = nn := HJ.out.2.2.1.symm
                  have hroom : nn + 1 ≤ 140737488355328 := by omega
                  have HH := hide (And.intro hown7 (And.intro hB7 (And.intro hal hroom)))
                  have HE : Hid (∀ w8 v8, Pushed (wr.drewN nq) b0 (.slice (some ⟨g6, 0, none⟩) nn c6) (again out far j) b w8 v8 → CopSt w b0 gs gr c (q + db) A B (.slice A5 out.length c5) most out far m (j + 1) (w8.setCell ⟨gs, 1, none⟩ v8) v8) := hide (fun w8 v8 hp => by
                    have e1 : again out far (j + 1) = again out far j ++ [b] := by rw [again_succ, HBb.out.1, ← HJ.out.2.2.1]
                    have hp' := hp
                    rw [HJ.out.2.2.1] at hp'
                    refine ⟨H7.out.2.trans (Rs.since_push (gs := gs) (gr := gr) hp') (by simp), ?_⟩
                    rw [e1]
                    exact H7.out.1.push hp' (by rw [← HJ.out.2.2.1]; exact hm))
                  obtain ⟨v5, u5⟩ := W5.out
                  clear hown7 hB7 hal hroom W5
                  generalize wr.drewN nq = w7 at *
                  go_wp2_with fail
                  go_region_law ((refine step_push rfl (.tmp 100) (.tmp 114) rfl w7 HH.out.2.1 b HH.out.2.2.1 HH.out.1 HH.out.2.2.2 w7.heap.size rfl rfl rfl ?_; intro A8 c8 w8 hp; have f0 := (hp.has H7.out.1.has (fun e => (H7.out.1.vs gs e.symm).1 rfl)).cell 1; simp only [List.getElem?_toArray, List.getElem?_cons_zero, List.getElem?_cons_succ] at f0; have f1 := (hp.has H7.out.1.has (fun e => (H7.out.1.vs gs e.symm).1 rfl)).free 1; have HP := hide hp; clear hp))
                  all_goals
                    have hE := HE.out _ _ HP.out
                    clear f0 f1 k0 k1 k2 v5 u5 c10
                    generalize w8.setCell ⟨gs, 1, none⟩ (.slice A8 (nn + 1) c8) = w9 at *
                    go_wp2_with fail
                    go_roundw
                    case rel => exact ⟨j + 1, _, HJ.out.2.1, by go_num, hE⟩
                    case measure => simp [intOf]; omega
                · have dmm : decide (most ≤ nn) = true := decide_eq_true (by omega)
                  have hmI : (most : Int) ≤ (nn : Int) := by omega
                  clear hnj
                  go_wp2_with fail
                  go_quiet (fail)
                  go_wp2_with fail
                  go_ret
                  obtain ⟨S, hlt, hnn, hnj⟩ := HJ.out
                  have hn10 := HN10.out
                  rw [if_pos (by omega)] at hn10
                  have ho : ∃ y, again out far j = t2.out ++ y := by rw [HQ2.out.2.2.2.1]; exact again_front far j out
                  exact ⟨5, _, _, _, rfl, S.since.trans (Rs.since_idle (gs := gs) (gr := gr) ((Only.refl [] wr).drewN nq)) (by simp), S.rs.idle ((Only.refl [] wr).drewN nq), .inr (RE.bad HT2.out (by rw [HQ2.out.1]; decide) hn10 hp3 (by decide) ho)⟩
              · obtain rfl : j = m := by omega
                have hn10 := HN10.out
                have hs := S.rs.sml.1
                rw [again_length, ← H5.out.2.2] at hs
                rw [if_neg (by omega)] at hn10
                have HT3 := hide (HT2.out.snoc (by rw [HQ2.out.1]; decide) hn10 hp3)
                clear hn10 hs
                go_wp2_with fail
                go_ret
                exact ⟨0, _, _, _, rfl, S.since, S.rs, .inl ⟨rfl, _, HT3.out, rfl, HQ2.out.2.2.2.2.2.1, HQ2.out.2.2.2.2.1.trans HS.out.2.2.2.1.symm, HQ2.out.2.2.2.2.2.2.1, rfl, rfl⟩⟩
        · have HN10 := hide hn10
          clear hn10 hq
          go_enter Tryz.func72, Tryz.ntmps72
          go_wp2_with fail
          refine (HL.out _).mono ?_
          rintro e w1 ⟨rfl, h1⟩
          rw [h1]
          clear h1
          go_wp2_with fail
          refine (HX.out).mono ?_
          rintro e w2 ⟨rfl, hr2, hs2⟩
          have HV := hide (HRd.out w2 hr2 hs2)
          have H2 := hide (And.intro hr2 hs2)
          clear hr2 hs2 k0 k1 k2 HX
          obtain ⟨k0, k1, k2⟩ := rs_cells H2.out.1
          go_wp2_with fail
          refine (HV.out).mono ?_
          rintro e w3 ⟨rfl, hr3, hs3⟩
          have H3 := hide (And.intro hr3 (H2.out.2.trans hs3 (by simp)))
          clear hr3 hs3 HV k0 k1 k2
          obtain ⟨k0, k1, k2⟩ := rs_cells H3.out.1
          have HV := hide (rBits_no H3.out.1 db (by omega))
          go_wp2_with fail
          refine (HDi.out _).mono ?_
          rintro e w4 ⟨rfl, h4⟩
          rw [h4]
          clear h4
          go_wp2_with fail
          refine (HV.out).mono ?_
          rintro e w5 ⟨rfl, hr5, hs5⟩
          have H5 := hide (And.intro hr5 (H3.out.2.trans hs5 (by simp)))
          clear hr5 hs5 HV k0 k1 k2
          go_wp2_with fail
          go_ret
          exact ⟨2, _, _, _, rfl, H5.out.2, H5.out.1, .inr (RE.short HT2.out (by rw [HQ2.out.1]; decide) (by rw [HN10.out]; show 8 * B.length < q + db; omega) HQ2.out.2.2.2.1.symm)⟩
    · have HN9 := hide hn9
      clear hn9
      go_enter Tryz.func72, Tryz.ntmps72
      go_wp2_with fail
      refine (HL.out _).mono ?_
      rintro e w1 ⟨rfl, h1⟩
      rw [h1]
      clear h1
      go_wp2_with fail
      refine (HX.out).mono ?_
      rintro e w2 ⟨rfl, hr2, hs2⟩
      have HV := hide (rRead_no hr2 (HD.out.1 _ _ hs2) HD.out.2.1 HD.out.2.2.1 HD.out.2.2.2 (by omega))
      have H2 := hide (And.intro hr2 hs2)
      clear hr2 hs2 k0 k1 k2 HX
      obtain ⟨k0, k1, k2⟩ := rs_cells H2.out.1
      go_wp2_with fail
      refine (HV.out).mono ?_
      rintro e w3 ⟨rfl, hr3, hs3⟩
      have H3 := hide (And.intro hr3 (H2.out.2.trans hs3 (by simp)))
      clear hr3 hs3 HV k0 k1 k2
      go_wp2_with fail
      go_ret
      exact ⟨2, _, _, _, rfl, H3.out.2, H3.out.1, .inr (RE.short HT1.out (by rw [HQ1.out.1]; decide) (by rw [HN9.out]; show 8 * B.length < p + lb + needN D (num B) (p + lb); omega) HQ1.out.2.2.2.1.symm)⟩
  · have HX := hide (rBits_no H0.out lb (by omega))
    have HN8 := hide hn8
    clear hn8
    go_enter Tryz.func72, Tryz.ntmps72
    go_wp2_with fail
    refine (HL.out _).mono ?_
    rintro e w1 ⟨rfl, h1⟩
    rw [h1]
    clear h1
    go_wp2_with fail
    refine (HX.out).mono ?_
    rintro e w2 ⟨rfl, hr2, hs2⟩
    have H2 := hide (And.intro hr2 hs2)
    clear hr2 hs2 k0 k1 k2 HX
    go_wp2_with fail
    go_ret
    exact ⟨2, _, _, _, rfl, H2.out.2, H2.out.1, .inr (RE.short (.refl s) (by rw [HS.out.1]; decide) (by rw [HN8.out]; show 8 * B.length < p + lb; omega) HS.out.2.2.1.symm)⟩
end Go.Proofs.YtlknhiihdejpeaaGreatDoor

