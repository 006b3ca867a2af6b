/-
  The document's inflate: a block of codes.
-/
import Derived.Test.YtlknhiihdejpeaaGreatDoorMRfD
namespace Go.Proofs.YtlknhiihdejpeaaGreatDoor
open Go Go.RowKit

/-- How far a reader is. -/
def rPos (w : World) (gr : Nat) : Nat := match w.cell? ⟨gr, 1, none⟩ with
  | some (.int _ z) => z.toNat
  | _ => 0
theorem rPos_eq {w : World} {b0 gs gr c p most : Nat} {A : Option Addr} {B : List UInt8} {v : Value} {out : List UInt8} (h : Rs w b0 gs gr A c B p v out most) : rPos w gr = p := by
  have h1 : w.cell? ⟨gr, 1, none⟩ = some (.int .i64 (p : Int)) := h.rd.has.cell 1
  unfold rPos
  rw [h1]
  rfl

/-- Where the loop of codes stands. -/
structure CodSt (w : World) (b0 gs gr c : Nat) (A : Option Addr) (B : List UInt8) (v : Value) (most : Nat) (s : GSt) (wr : World) (p : Nat) (v' : Value) (out' : List UInt8) (t : GSt) : Prop where
  since : Since [gs, gr] w v wr v'
  rs : Rs wr b0 gs gr A c B p v' out' most
  steps : Steps fixedL fixedD2 (num B) B.length most s t
  k : t.k = 7
  p : t.p = p
  out : t.out = out'
  T : t.T = s.T
  D : t.D = s.D
  last : t.last = s.last

set_option maxRecDepth 100000 in
set_option maxHeartbeats 16000000 in
theorem rCodes {w : World} {b0 gs gr c p most bt gt bd gd : Nat} {A : Option Addr} {B T D : List UInt8} {v : Value} {out : List UInt8} (h : Rs w b0 gs gr A c B p v out most) (hb0 : b0 ≤ w.heap.size)
    (hTD : ∀ w' v', Since [gs, gr] w v w' v' → RT w' bt gt T ∧ RT w' bd gd D) (hTp : T.length ≤ 320 ∧ (∀ i, ln T i ≤ 15) ∧ mayBe (cn T) = true) (hDp : D.length ≤ 320 ∧ (∀ i, ln D i ≤ 15) ∧ mayBe (cn D) = true)
    (s : GSt) (hk : s.k = 7) (hsp : s.p = p) (hso : s.out = out) (hsT : s.T = T) (hsD : s.D = D) :
    Calls Tryz.prog 59 #[.pointer (some ⟨gs, 0, none⟩), .pointer (some ⟨gt, 0, none⟩), .pointer (some ⟨gd, 0, none⟩)] w fun e w' => ∃ ec p' v' out', e = .returned (.int .i64 (ec : Nat)) ∧ Since [gs, gr] w v w' v' ∧ Rs w' b0 gs gr A c B p' v' out' most ∧ RO (num B) B.length most s ec p' out' := by
  have HS := hide (And.intro hTD (And.intro hTp (And.intro hDp (And.intro hsT (And.intro hsD hb0)))))
  have H0 := hide (show CodSt w b0 gs gr c A B v most s w p v out s from ⟨Since.refl _ _ _, h, .refl s, hk, hsp, hso, rfl, rfl, rfl⟩)
  clear hTD hTp hDp hsT hsD hb0 h hk hsp hso
  go_enter Tryz.func59, Tryz.ntmps59
  go_wp2_with fail
  go_loopw [7] (fun _ wr => ∃ p' v' out' t, CodSt w b0 gs gr c A B v most s wr p' v' out' t) (fun _ wr => 8 * B.length - rPos wr gr)
  case atStart => exact ⟨_, _, _, _, H0.out⟩
  case round =>
    obtain ⟨p', v', out', t, S⟩ := hrel
    have hpos := rPos_eq S.rs
    rw [hpos]
    obtain ⟨k0, k1, k2⟩ := rs_cells S.rs
    have htT : t.T = T := S.T.trans HS.out.2.2.2.1
    have htD : t.D = D := S.D.trans HS.out.2.2.2.2.1
    have hn7 := GSt.nx_7 (L0 := fixedL) (D0 := fixedD2) (N := num B) (most := most) S.k
    rw [htT, S.p] at hn7
    by_cases hp1 : p' + needN T (num B) p' ≤ 8 * B.length
    · have HX := hide (rRead_yes S.rs (HS.out.1 _ _ S.since).1 HS.out.2.1.1 HS.out.2.1.2.1 HS.out.2.1.2.2 hp1)
      have hneed : (huffN T (num B) p').2.1 = 0 → needN T (num B) p' = (huffN T (num B) p').2.2 := fun h => by unfold needN; rw [if_pos h]
      obtain ⟨R, hR⟩ : ∃ R, R = huffN T (num B) p' := ⟨_, rfl⟩
      have hRe := huffN_err T (num B) p'
      have hRp := huffN_pos T (num B) p'
      rw [← hR] at hRe hneed HX hn7 hRp
      clear hR hpos
      by_cases hbad : R.2.1 ≠ 0 ∨ 285 < R.1
      · rw [if_pos hbad] at hn7
        have HJ := hide (And.intro S (And.intro hn7 (And.intro htT htD)))
        have hcase : (R.1 = 0 ∧ R.2.1 = 3) ∨ (R.2.1 = 0 ∧ 285 < R.1) := by
          rcases hRe with h | h
          · exact .inr ⟨h, by rcases hbad with h2 | h2; exact absurd h h2; exact h2⟩
          · exact .inl (by rw [h]; exact ⟨rfl, rfl⟩)
        clear S hn7 htT htD hbad hRe hneed hRp
        rcases hcase with ⟨c1, c2⟩ | ⟨c1, c2⟩
        · rw [c1, c2] at HX
          clear c1 c2
          go_wp2_with fail
          refine (HX.out).mono ?_
          rintro e w2 ⟨rfl, hr2, hs2⟩
          have H2 := hide (And.intro hr2 (HJ.out.1.since.trans hs2 (by simp)))
          clear hr2 hs2 k0 k1 k2 HX
          go_wp2_with fail
          go_ret
          exact ⟨3, _, _, _, rfl, H2.out.2, H2.out.1, RO.bad HJ.out.1.steps (by rw [HJ.out.1.k]; decide) HJ.out.2.1 hp1 (by decide) ⟨[], by rw [HJ.out.1.out]; simp⟩⟩
        · rw [c1] at HX
          have c3 : (285 : Int) < (R.1 : Int) := by omega
          have c4 : ¬ (R.1 : Int) = 256 := by omega
          have c5 : ((R.1 : Int) == 256) = false := beq_eq_false_iff_ne.2 c4
          clear c1 c2
          generalize R.1 = x at *
          go_wp2_with fail
          refine (HX.out).mono ?_
          rintro e w2 ⟨rfl, hr2, hs2⟩
          have H2 := hide (And.intro hr2 (HJ.out.1.since.trans hs2 (by simp)))
          clear hr2 hs2 k0 k1 k2 HX
          go_wp2_with fail
          go_ret
          exact ⟨3, _, _, _, rfl, H2.out.2, H2.out.1, RO.bad HJ.out.1.steps (by rw [HJ.out.1.k]; decide) HJ.out.2.1 hp1 (by decide) ⟨[], by rw [HJ.out.1.out]; simp⟩⟩
      · rw [if_neg hbad] at hn7
        have he0 : R.2.1 = 0 := by omega
        have h285 : R.1 ≤ 285 := by omega
        have hpos := hRp he0
        rw [hneed he0] at hp1 hn7
        rw [he0] at HX
        clear hbad hRe hneed hRp he0
        generalize R.1 = x at *
        generalize R.2.2 = nb at *
        clear R
        by_cases h256 : x < 256
        · rw [if_pos h256] at hn7
          have x1 : ¬ (x : Int) = 256 := by omega
          have x2 : ((x : Int) == 256) = false := beq_eq_false_iff_ne.2 x1
          have x3 : ¬ (285 : Int) < (x : Int) := by omega
          have x4 : (x : Int) < 256 := by omega
          obtain ⟨b, hb⟩ : ∃ b : UInt8, b = UInt8.ofNat x := ⟨_, rfl⟩
          have hbx : b.toNat = x := by rw [hb, UInt8.toNat_ofNat']; omega
          have hwb : IntKind.u8.wrap (x : Int) = ((b.toNat : Nat) : Int) := by rw [hbx, IntKind.wrap_u8]; omega
          have HJ := hide (And.intro S (And.intro hn7 (And.intro htT (And.intro htD (And.intro hb hpos)))))
          clear S hn7 htT htD hb hbx h285 h256 hpos
          go_wp2_with fail
          refine (HX.out).mono ?_
          rintro e w4 ⟨rfl, hr4, hs4⟩
          have hlen := hr4.sml
          obtain ⟨A4, c4, rfl, _, _⟩ := own_shape hr4.own
          obtain ⟨n, hn⟩ : ∃ n, n = out'.length := ⟨_, rfl⟩
          have H4 := hide (And.intro hr4 (And.intro (HJ.out.1.since.trans hs4 (by simp)) hn))
          clear k0 k1 k2
          obtain ⟨k0, k1, k2⟩ := rs_cells hr4
          rw [← hn] at k1 hlen
          clear hr4 hs4 HX hn
          by_cases hm : n < most
          · have dm : decide (most ≤ n) = false := decide_eq_false (by omega)
            have hmI : ¬ (most : Int) ≤ (n : Int) := by omega
            go_wp2_with fail
            go_quiet (fail)
            have HD := hide (Rs.idle H4.out.1 ((Only.refl [] w4).drewN nq))
            have HD2 : Hid (Since [gs, gr] w v (w4.drewN nq) (.slice A4 out'.length c4)) := hide (H4.out.2.1.trans (Rs.since_idle (gs := gs) (gr := gr) ((Only.refl [] w4).drewN nq)) (by simp))
            rw [← H4.out.2.2] at HD HD2
            have HN := hide (And.intro (show (w4.drewN nq).ownsRow b0 5 1 (.slice A4 n c4) n (bvals out') by rw [H4.out.2.2]; rw [H4.out.2.2] at HD; exact HD.out.own) (And.intro (Nat.le_trans HS.out.2.2.2.2.2 HD2.out.only.size) (And.intro (H4.out.2.2.symm) (show n + 1 ≤ 140737488355328 by omega))))
            clear k0 k1 k2
            generalize w4.drewN nq = w5 at *
            obtain ⟨k0, k1, k2⟩ := rs_cells HD.out
            go_wp2_with (at_builtin; refine list_push rfl (.tmp 52) (.tmp 55) rfl w5 HN.out.2.1 b HN.out.2.2.1 HN.out.1 HN.out.2.2.2 _ rfl rfl rfl ?_; intro A6 c6 w6 hp; have f0 := (hp.has HD.out.has (fun e => (HD.out.vs gs e.symm).1 rfl)).cell 1; simp only [List.getElem?_toArray, List.getElem?_cons_zero, List.getElem?_cons_succ] at f0; have f1 := (hp.has HD.out.has (fun e => (HD.out.vs gs e.symm).1 rfl)).free 1; have HP := hide hp; clear hp)
            have hpush := hide (HD.out.push HP.out (by rw [HN.out.2.2.1]; exact hm))
            have hsin := hide (HD2.out.trans (Rs.since_push (gs := gs) (gr := gr) HP.out) (by simp))
            go_roundw
            case rel =>
              obtain ⟨S, hn7, htT, htD, hb, hpos⟩ := HJ.out
              have e3 : t.out.length < most := by rw [S.out, HN.out.2.2.1]; exact hm
              rw [if_pos e3] at hn7
              exact ⟨_, _, _, _, hsin.out, hpush.out, S.steps.snoc (by rw [S.k]; decide) hn7 hp1, S.k, rfl, by show t.out ++ [UInt8.ofNat x] = _; rw [S.out, hb], HS.out.2.2.2.1.symm, S.D, S.last⟩
            case measure =>
              rw [rPos_eq hpush.out]
              have := HJ.out.2.2.2.2.2
              omega
          · have dm : decide (most ≤ n) = true := decide_eq_true (by omega)
            have hmI : (most : Int) ≤ (n : Int) := by omega
            go_wp2_with fail
            go_quiet (fail)
            go_wp2_with fail
            go_ret
            obtain ⟨S, hn7, htT, htD, hb, hpos⟩ := HJ.out
            have e3 : ¬ t.out.length < most := by rw [S.out, ← H4.out.2.2]; exact hm
            rw [if_neg e3] at hn7
            exact ⟨5, _, _, _, rfl, H4.out.2.1.trans (Rs.since_idle (gs := gs) (gr := gr) ((Only.refl [] w4).drewN nq)) (by simp), H4.out.1.idle ((Only.refl [] w4).drewN nq), RO.bad S.steps (by rw [S.k]; decide) hn7 hp1 (by decide) ⟨[], by rw [S.out]; simp⟩⟩
        · rw [if_neg h256] at hn7
          by_cases h257 : x = 256
          · subst h257
            rw [if_pos rfl] at hn7
            have HJ := hide (And.intro S hn7)
            clear S hn7 htT htD h285 h256 hpos
            go_wp2_with fail
            refine (HX.out).mono ?_
            rintro e w4 ⟨rfl, hr4, hs4⟩
            have H4 := hide (And.intro hr4 (HJ.out.1.since.trans hs4 (by simp)))
            clear hr4 hs4 HX k0 k1 k2
            go_wp2_with fail
            go_ret
            obtain ⟨S, hn7⟩ := HJ.out
            exact ⟨0, _, _, _, rfl, H4.out.2, H4.out.1, .inl ⟨rfl, _, S.steps.snoc (by rw [S.k]; decide) hn7 hp1, by show behindK t.last = _; rw [S.last], S.last, rfl, S.out⟩⟩
          · rw [if_neg h257] at hn7
            have x1 : ¬ (x : Int) = 256 := by omega
            have x2 : ((x : Int) == 256) = false := beq_eq_false_iff_ne.2 x1
            have x3 : ¬ (285 : Int) < (x : Int) := by omega
            have x4 : ¬ (x : Int) < 256 := by omega
            have HT1 := hide (S.steps.snoc (by rw [S.k]; decide) hn7 hp1)
            obtain ⟨t1, ht1⟩ : ∃ t1, t1 = ({ t with k := 8, sym := x, p := p' + nb, T := T } : GSt) := ⟨_, rfl⟩
            have HT1 : Hid (Steps fixedL fixedD2 (num B) B.length most s t1) := by rw [ht1]; exact HT1
            have HQ1 : Hid (t1.k = 8 ∧ t1.p = p' + nb ∧ t1.out = out' ∧ t1.sym = x ∧ t1.D = D ∧ t1.T = T ∧ t1.last = s.last) := hide (by rw [ht1]; exact ⟨rfl, rfl, S.out, rfl, htD, rfl, S.last⟩)
            have hx57 : 257 ≤ x := by omega
            have HJ := hide (And.intro S (And.intro hx57 (And.intro h285 hpos)))
            clear S hn7 htT htD h285 h256 h257 ht1 hx57 hpos
            go_wp2_with fail
            refine (HX.out).mono ?_
            rintro e w4 ⟨rfl, hr4, hs4⟩
            have hsi4 := HJ.out.1.since.trans hs4 (by simp)
            have HC := hide (rCopied hr4 (Nat.le_trans HS.out.2.2.2.2.2 hsi4.only.size) (fun w' v'' hw' => (HS.out.1 _ _ (hsi4.trans hw' (by simp))).2) HS.out.2.2.1.1 HS.out.2.2.1.2.1 HS.out.2.2.1.2.2 HJ.out.2.1 HJ.out.2.2.1 t1 HQ1.out.1 HQ1.out.2.1 HQ1.out.2.2.1 HQ1.out.2.2.2.1 HQ1.out.2.2.2.2.1)
            have H4 := hide (And.intro hr4 hsi4)
            clear hr4 hs4 hsi4 HX k0 k1 k2
            go_wp2_with fail
            refine (HC.out).mono ?_
            rintro e w5 ⟨ec, p5, v5, out5, rfl, hs5, hr5, hk5⟩
            have H5 := hide (And.intro hr5 (H4.out.2.trans hs5 (by simp)))
            clear hr5 hs5 HC
            rcases hk5 with ⟨rfl, t5, q1, q2, q3, q4, q5, q6, q7⟩ | hre
            · have HS5 := hide (show CodSt w b0 gs gr c A B v most s w5 p5 v5 out5 t5 from ⟨H5.out.2, H5.out.1, HT1.out.trans q1, q2, q6, q7, by rw [q3, HQ1.out.2.2.2.2.2.1]; exact HS.out.2.2.2.1.symm, by rw [q4, HQ1.out.2.2.2.2.1]; exact HS.out.2.2.2.2.1.symm, q5.trans HQ1.out.2.2.2.2.2.2⟩)
              have hp5 : p' + nb ≤ p5 := by
                have := (q1.on (by rw [HQ1.out.2.1]; exact hp1)).1
                rw [HQ1.out.2.1, q6] at this
                exact this
              have HP5 := hide hp5
              clear q1 q2 q3 q4 q5 q6 q7 hp5
              go_wp2_with fail
              go_roundw
              case rel => exact ⟨_, _, _, _, HS5.out⟩
              case measure =>
                rw [rPos_eq H5.out.1]
                have := HJ.out.2.2.2
                have := HP5.out
                omega
            · have he := hre.1
              have heI : ¬ (ec : Int) = 0 := by omega
              have heb : ((ec : Int) == 0) = false := beq_eq_false_iff_ne.2 heI
              have HR := hide hre
              clear hre he
              go_wp2_with fail
              go_ret
              exact ⟨ec, _, _, _, rfl, H5.out.2, H5.out.1, .inr (HR.out.from HT1.out)⟩
    · have HX := hide (rRead_no S.rs (HS.out.1 _ _ S.since).1 HS.out.2.1.1 HS.out.2.1.2.1 HS.out.2.1.2.2 (by omega))
      have HJ := hide (And.intro S hn7)
      clear S hn7 hpos htT htD
      go_wp2_with fail
      refine (HX.out).mono ?_
      rintro e w4 ⟨rfl, hr4, hs4⟩
      have H4 := hide (And.intro hr4 (HJ.out.1.since.trans hs4 (by simp)))
      clear hr4 hs4 HX k0 k1 k2
      go_wp2_with fail
      go_ret
      exact ⟨2, _, _, _, rfl, H4.out.2, H4.out.1, RO.short HJ.out.1.steps (by rw [HJ.out.1.k]; decide) (by rw [HJ.out.2]; show 8 * B.length < p' + needN T (num B) p'; omega) HJ.out.1.out.symm⟩
end Go.Proofs.YtlknhiihdejpeaaGreatDoor

