/-
  Package pixel: Same.
-/
import Derived.Test.YtngaabnmhcncmaaPxFl
namespace Go.Proofs.Ytngaabnmhcncmaa
open Go Go.RowKit

/-- Two rows, pixel by pixel. -/
theorem eq_by4 {s t : List UInt8} (hl : s.length = t.length) : s = t ↔ at4 s 0 = at4 t 0 ∧ s.drop 4 = t.drop 4 := by
  constructor
  · intro h; rw [h]; exact ⟨rfl, rfl⟩
  · rintro ⟨h1, h2⟩
    refine ext_getD hl fun q _ => ?_
    by_cases hq : q < 4
    · rw [← at4_at s q, ← at4_at t q, show q / 4 = 0 by omega, h1]
    · have := congrArg (fun l => l.getD (q - 4) 0) h2
      simp only [getD_drop] at this
      rwa [show 4 + (q - 4) = q by omega] at this
theorem pxEq_iff {c d : Px} : pxEq c d = true ↔ c = d := by unfold pxEq; rw [decide_eq_true_iff]; exact px_inj.symm

/-- Where Same's loop stands. -/
structure SameSt (w : World) (l l' : List UInt8) (av bv : Value) (wr : World) (k c c' : Nat) (X Y : Option Addr) (s t : List UInt8) : Prop where
  aval : av = .slice X (4 * k) c
  bval : bv = .slice Y (4 * k) c'
  ha : Holds wr 1 X (4 * k) (bvals s)
  hb : Holds wr 1 Y (4 * k) (bvals t)
  ca : 4 * k ≤ c
  cb : 4 * k ≤ c'
  la : s.length = 4 * k
  lb : t.length = 4 * k
  same : l = l' ↔ s = t
  only : Only [] w wr

set_option maxRecDepth 100000 in
set_option maxHeartbeats 4000000 in
theorem same_any (W H W' H' : Nat) (A A' : Option Addr) (n n' c c' : Nat) (l l' : List UInt8) (w : World) (hb : Holds w 1 A n (bvals l)) (hb' : Holds w 1 A' n' (bvals l')) (hl : l.length = n) (hl' : l'.length = n') (hok : okM W H n) (hok' : okM W' H' n') (hc : n ≤ c) (hc' : n' ≤ c') :
    Calls Try.prog 34 #[mval W H A n c, mval W' H' A' n' c'] w fun e w' => e = .returned (.bool (sameB W H W' H' l l')) ∧ Only [] w w' := by
  show Calls Try.prog 34 #[.agg #[.int .i64 W, .int .i64 H, .slice A n c], .agg #[.int .i64 W', .int .i64 H', .slice A' n' c']] w _
  obtain ⟨w0, hw0⟩ : ∃ w0, w0 = (w.alloc (.cells #[.int .i64 (W : Int), .int .i64 (H : Int), .slice A n c] 24)).alloc (.cells #[.int .i64 (W' : Int), .int .i64 (H' : Int), .slice A' n' c'] 24) := ⟨_, rfl⟩
  have o0 : Only [] w w0 := by rw [hw0]; exact ((Only.refl [] w).alloc _).alloc _
  have h0 : Has w0 w.heap.size 24 #[.int .i64 (W : Int), .int .i64 (H : Int), .slice A n c] := by rw [hw0]; exact (Has.new w _ _).alloc _
  have h1 : Has w0 (w.heap.size + 1) 24 #[.int .i64 (W' : Int), .int .i64 (H' : Int), .slice A' n' c'] := by rw [hw0]; exact Has.new' _ _ _ _ (by simp)
  have HR := hide (right_any W H A n c)
  have HR' := hide (right_any W' H' A' n' c')
  rw [hok.right] at HR
  rw [hok'.right] at HR'
  have e0 : sameB W H W' H' l l' = (decide (W = W') && decide (H = H') && decide (l = l')) := by
    unfold sameB
    rw [show decide ((W : Int) = (W' : Int)) = decide (W = W') by rw [decide_eq_decide]; omega, show decide ((H : Int) = (H' : Int)) = decide (H = H') by rw [decide_eq_decide]; omega]
    congr 1
    by_cases h : l = l'
    · rw [decide_eq_true h]; exact beq_iff_eq.2 h
    · rw [decide_eq_false h]; exact beq_eq_false_iff_ne.2 h
  rw [e0]
  clear e0
  have a0 := h0.cell 0
  have a1 := h0.cell 1
  have b0 := h1.cell 0
  have b1 := h1.cell 1
  simp only [List.getElem?_toArray, List.getElem?_cons_zero, List.getElem?_cons_succ] at a0 a1 b0 b1
  have HI := hide (And.intro o0 (And.intro h0 (And.intro h1 (And.intro hb (And.intro hb' (And.intro hl (And.intro hl' (And.intro hc (And.intro hc' (And.intro hok hok'))))))))))
  clear o0 h0 h1 hb hb' hl hl' hc hc' hok hok'
  by_cases e1 : W = W'
  · by_cases e2 : H = H'
    · rw [decide_eq_true e1, decide_eq_true e2]
      subst e1; subst e2
      obtain rfl : n = n' := by have := HI.out.2.2.2.2.2.2.2.2.2; exact this.1.2.trans this.2.2.symm
      rw [Bool.true_and]
      go_enter Try.func34, Try.ntmps34
      go_wp2_with fail
      rw [← hw0]
      refine (HR.out _).mono ?_
      rintro e w1 ⟨rfl, ho1⟩
      have k1 := HI.out.2.2.1.only ho1 (by simp)
      have b0 := k1.cell 0
      have b1 := k1.cell 1
      have b2 := k1.cell 2
      simp only [List.getElem?_toArray, List.getElem?_cons_zero, List.getElem?_cons_succ] at b0 b1 b2
      have K1 := hide (And.intro ho1 k1)
      clear ho1 k1 a0 a1
      go_wp2_with fail
      refine (HR'.out _).mono ?_
      rintro e w2 ⟨rfl, ho2⟩
      have k0 := (HI.out.2.1.only K1.out.1 (by simp)).only ho2 (by simp)
      have k1 := K1.out.2.only ho2 (by simp)
      have b2 := k1.cell 2
      have a2 := k0.cell 2
      simp only [List.getElem?_toArray, List.getElem?_cons_zero, List.getElem?_cons_succ] at a2 b2
      have K2 := hide ((HI.out.1.trans K1.out.1 (S := []) (by simp)).trans ho2 (S := []) (by simp))
      clear k0 k1 ho2 K1 b0 b1 hw0
      go_wp2_with fail
      go_quiet (fail)
      go_wp2_with fail
      go_loopw [5, 6] (fun av bv wr => ∃ (k ca cb : Nat) (X Y : Option Addr) (s t : List UInt8), SameSt w l l' av bv wr k ca cb X Y s t) (fun av _ _ => slen av)
      case atStart =>
        obtain ⟨_, _, _, hb, hb', hl, hl', hc, hc', hok, _⟩ := HI.out
        have o2 := K2.out.drewN nq
        have hn := hok.2
        rw [hn] at hb hb' hl hl' hc hc' 
        refine ⟨W * H, c, c', A, A', l, l', ?_, ?_, hb.keep o2 (by simp), hb'.keep o2 (by simp), hc, hc', hl, hl', Iff.rfl, o2⟩
        · rw [hn]
        · rw [hn]
      case round =>
        obtain ⟨k, ca, cb, X, Y, s, t, S⟩ := hrel
        have hav := S.aval
        have hbv := S.bval
        by_cases hk : 0 < k
        · obtain ⟨X', ca', hrunA, hA', hca', _⟩ := run_from S.ha S.la S.ca 4 (by omega)
          obtain ⟨Y', cb', hrunB, hB', hcb', _⟩ := run_from S.hb S.lb S.cb 4 (by omega)
          have HA := hide (first_any X (4 * k) ca s wr S.ha S.la (by omega))
          have HB := hide (fun w' (h : Only [] wr w') => first_any Y (4 * k) cb t w' (S.hb.keep h (by simp)) S.lb (by omega))
          have hpx := hide (eq_by4 (S.la.trans S.lb.symm))
          obtain ⟨N, hN⟩ : ∃ N, N = 4 * k := ⟨_, rfl⟩
          have HS := hide (And.intro S (And.intro hA' (And.intro hB' (And.intro hca' (And.intro hcb' (And.intro hk hN))))))
          rw [← hN] at hav hbv HA HB hrunA hrunB
          have hN0 : 0 < N := by omega
          generalize at4 s 0 = p at *
          generalize at4 t 0 = q at *
          have hne := col_ne p q
          have hgd : ∀ w', (eqGuard .neq 41 (.tmp 41) (.tmp 43) p.val q.val).run Try.prog w' = .ok () w' := fun w' => run_eqGuard_agg w' .neq 41 (.tmp 41) (.tmp 43) p.cells q.cells (by kernel_rfl)
          have hrunA : ∀ w' : World, (Instr.slice 22 (.slice X N ca) (some (.int .i64 4)) none none).run Try.prog w' = .ok (.slice X' (N - 4) ca') w' := hrunA
          have hrunB : ∀ w' : World, (Instr.slice 22 (.slice Y N cb) (some (.int .i64 4)) none none).run Try.prog w' = .ok (.slice Y' (N - 4) cb') w' := hrunB
          subst hav
          subst hbv
          clear S hA' hB' hca' hcb' hk hN
          cases hpq : pxEq p q with
          | false =>
            rw [hpq] at hne
            have hw0 : decide (l = l') = false := decide_eq_false fun h => by
              have h1 := hpx.out.1 (HS.out.1.same.1 h)
              rw [pxEq_iff.2 h1.1] at hpq; cases hpq
            have HF := hide (And.intro HS.out.1.only hw0)
            clear HS hpx hpq hw0 hrunA hrunB
            go_wp2_with fail
            refine (HA.out).mono ?_
            rintro e w3 ⟨rfl, ho3⟩
            go_wp2_with fail
            refine (HB.out _ ho3).mono ?_
            rintro e w4 ⟨rfl, ho4⟩
            go_wp2_with fail
            go_ret
            exact ⟨by rw [HF.out.2]; rfl, (HF.out.1.trans ho3 (S := []) (by simp)).trans ho4 (S := []) (by simp)⟩
          | true =>
            rw [hpq] at hne
            have HQ := hide (pxEq_iff.1 hpq)
            clear hpq
            go_wp2_with fail
            refine (HA.out).mono ?_
            rintro e w3 ⟨rfl, ho3⟩
            go_wp2_with fail
            refine (HB.out _ ho3).mono ?_
            rintro e w4 ⟨rfl, ho4⟩
            have HO := hide (ho3.trans ho4 (S := []) (by simp))
            clear ho3 ho4 HA HB
            go_wp2_with fail
            go_quiet (fail)
            go_roundw
            case rel =>
              obtain ⟨S, hA', hB', hca', hcb', hk, hN⟩ := HS.out
              have o4 := HO.out.drewN nq
              have e4 : 4 * k - 4 = 4 * (k - 1) := by omega
              rw [e4] at hA' hB' hca' hcb'
              refine ⟨_, _, _, _, _, _, _, _, _, _, _, _, _, _, _, ?_, rfl⟩
              refine ⟨k - 1, ca', cb', X', Y', s.drop 4, t.drop 4, by rw [hN, e4], by rw [hN, e4], hA'.keep o4 (by simp), hB'.keep o4 (by simp), hca', hcb', by rw [List.length_drop, S.la]; omega, by rw [List.length_drop, S.lb]; omega, S.same.trans (hpx.out.trans ⟨fun h => h.2, fun h => ⟨HQ.out, h⟩⟩), S.only.trans o4 (by simp)⟩
            case measure => simp [slen]; omega
        · obtain rfl : k = 0 := by omega
          have hs : decide (l = l') = true := decide_eq_true (S.same.2 (by rw [List.length_eq_zero_iff.1 S.la, List.length_eq_zero_iff.1 S.lb]))
          have HF := hide (And.intro S.only hs)
          subst hav
          subst hbv
          clear S hs hk
          go_wp2_with fail
          go_ret
          exact ⟨by rw [HF.out.2]; rfl, HF.out.1⟩
    · rw [decide_eq_true e1, decide_eq_false e2]
      subst e1
      have h2' : ((H : Int) == (H' : Int)) = false := int_eq_nat e2
      go_enter Try.func34, Try.ntmps34
      go_wp2_with fail
      go_ret
      exact ⟨rfl, hw0 ▸ HI.out.1⟩
  · rw [decide_eq_false e1]
    have h1' : ((W : Int) == (W' : Int)) = false := int_eq_nat e1
    go_enter Try.func34, Try.ntmps34
    go_wp2_with fail
    go_ret
    exact ⟨rfl, hw0 ▸ HI.out.1⟩
end Go.Proofs.Ytngaabnmhcncmaa
