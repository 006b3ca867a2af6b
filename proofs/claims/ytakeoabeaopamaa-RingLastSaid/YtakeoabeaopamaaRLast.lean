/-
  Statement RingLast: of things that were pushed the last ones are there, as many as there may be, in order; the others have gone, the first one first.
  Conditions: none.
-/
import Derived.Test.YtakeoabeaopamaaRows
import Derived.Test.YtakeoabeaopamaaLaw
import Derived.Test.YtakeoabeaopamaaOpen
import Derived.Test.YtakeoabeaopamaaRnL
namespace Go.Proofs.Ytakeoabeaopamaa.rlast
open Go Go.RowKit Go.ChangeShapes Go.WideShapes Go.ChangeAt

set_option maxRecDepth 100000 in
set_option maxHeartbeats 8000000 in
theorem core (z : Int) (A : Option Addr) (n c : Nat) (L : List Int) (w : World) (hb : Holds w 1 A n (ivals L)) (hl : L.length = n) (hn0 : n ≤ 9223372036854775807) :
    Calls Try.prog 4 #[.int .i64 z, .slice A n c] w fun e w' => e = .returned (.bool true) ∧ Only [] w w' := by
  by_cases h1 : 300 < n
  · clear hb
    go_enter Try.func4, Try.ntmps4
    go_wp2_with fail
    refine (known_any w).mono ?_
    rintro e w1 ⟨rfl, ho⟩
    go_wp2_with fail
    go_ret
    exact ⟨rfl, ho⟩
  have hd1 : decide (300 < n) = false := by simpa using h1
  by_cases h2 : z < 0
  · clear hb
    go_enter Try.func4, Try.ntmps4
    go_wp2_with fail
    refine (known_any w).mono ?_
    rintro e w1 ⟨rfl, ho⟩
    go_wp2_with fail
    go_ret
    exact ⟨rfl, ho⟩
  have hd2 : decide (z < 0) = false := by simpa using h2
  by_cases h3 : z > 65536
  · clear hb
    go_enter Try.func4, Try.ntmps4
    go_wp2_with fail
    refine (known_any w).mono ?_
    rintro e w1 ⟨rfl, ho⟩
    go_wp2_with fail
    go_ret
    exact ⟨rfl, ho⟩
  have hd3 : decide (z > 65536) = false := by simpa using h3
  obtain ⟨M, rfl⟩ : ∃ M : Nat, z = (M : Int) := ⟨z.toNat, by omega⟩
  have hM : M ≤ 65536 := by omega
  have hp : ∀ (g : Nat) (w : World), (binOp .eql 24 (.pointer (some ⟨g, 0, none⟩)) (.pointer none)).run Try.prog w = .ok (.bool false) w := fun g w => by kernel_rfl
  have HN := hide (fun w => new_v M hM w)
  have HL := hide hl
  have HB := hide hb
  have h1 : n ≤ 300 := by omega
  clear hb hl
  go_enter Try.func4, Try.ntmps4
  go_wp2_with fail
  refine (known_any w).mono ?_
  rintro e w1 ⟨rfl, ho⟩
  have H1 := hide ho
  clear ho
  go_wp2_with fail
  refine (HN.out w1).mono ?_
  rintro e w2 ⟨v0, rfl, hR, ho⟩
  have H2 := hide (And.intro hR (H1.out.trans ho (S := []) (by simp)))
  have hB := H1.out.size
  clear hR ho HN
  go_wp2_with fail
  go_loopw [7, 8] (fun nv iv wr => ∃ (i : Nat) (v : Value), i ≤ n ∧ iv = .int .i64 i ∧ nv = .int .i64 (i - M : Nat) ∧ RgV_ri wr w1.heap.size w1.heap.size M v (lastV (ivals L) M i) (i - M) ∧ Only [] w wr) (fun _ iv _ => n - (intOf iv).toNat)
  case atStart => exact ⟨0, v0, Nat.zero_le _, rfl, by simp, by simpa [lastV] using H2.out.1, H2.out.2⟩
  case round =>
    obtain ⟨i, v, hi, rfl, rfl, hR, hO⟩ := hrel
    by_cases hlt : i < n
    · have hL := HL.out
      have hu := ivals_some (L := L) (i := i) (by omega)
      obtain ⟨b, o, rfl, hc⟩ := HB.out.addr (by rw [ivals_len']; omega)
      have c1 : wr.cell? ⟨b, o + i, none⟩ = some (.int .i64 L[i]) := by rw [hO.cell (World.block_lt_of_cell? w _ (hc _ _ hu)) (by simp)]; exact hc _ _ hu
      have hlen : (lastV (ivals L) M i).length = min i M := lastV_len _ _ _ (by rw [ivals_len']; omega)
      by_cases him : i < M
      · have hi0 : i - M = 0 := by omega
        generalize L[i] = x at *
        have HP := hide (push_room_ri hR x (by omega))
        have hst := lastV_room hu him
        have hfin : ∀ (v' : Value) (w' : World), RgV_ri w' w1.heap.size w1.heap.size M v' (lastV (ivals L) M i ++ [Value.int .i64 x]) (i - M) → Tn [w1.heap.size] wr v w' v' → RgV_ri w' w1.heap.size w1.heap.size M v' (lastV (ivals L) M (i + 1)) (i + 1 - M) ∧ Only [] w w' := by
          intro v' w' h hT
          rw [hst] at h
          exact ⟨by rw [show i + 1 - M = i - M by omega]; exact h, hR.after hT hO hB⟩
        have HF := hide hfin
        have k1 : ¬ ((i : Int) ≥ (M : Int)) := by omega
        have k3 : (i : Int) < (n : Int) := by omega
        rw [hi0]
        clear hfin hst hR hO hu hc hlen hL him
        go_wp2_with fail
        refine (HP.out).mono ?_
        rintro e w3 ⟨v', rfl, hR', hT'⟩
        have HE := hide (HF.out _ _ hR' hT')
        clear hR' hT' HP HF
        go_wp2_with fail
        go_roundw
        case rel => exact ⟨i + 1, v', by omega, by go_num, by rw [show i + 1 - M = 0 by omega]; rfl, HE.out.1, HE.out.2⟩
        case measure => simp [intOf]; omega
      · have hu2 := ivals_some (L := L) (i := i - M) (by omega)
        have c2 : w.cell? ⟨b, o + (i - M), none⟩ = some (.int .i64 L[i - M]) := hc _ _ hu2
        generalize L[i] = x at *
        generalize L[i - M] = y at *
        have HP := hide (push_out_ri hR x (.int .i64 y) (by omega) ((lastV_head hu (by omega)).trans hu2) (by omega))
        have hst := lastV_out hu (M := M) (by omega)
        have hfin : ∀ (v' : Value) (w' : World), RgV_ri w' w1.heap.size w1.heap.size M v' (lastV (ivals L) M i ++ [Value.int .i64 x]).tail (i - M + 1) → Tn [w1.heap.size] wr v w' v' → RgV_ri w' w1.heap.size w1.heap.size M v' (lastV (ivals L) M (i + 1)) (i + 1 - M) ∧ Only [] w w' ∧ w'.cell? ⟨b, o + (i - M), none⟩ = some (.int .i64 y) := by
          intro v' w' h hT
          rw [hst] at h
          have ho := hR.after hT hO hB
          exact ⟨by rw [show i + 1 - M = i - M + 1 by omega]; exact h, ho, by rw [ho.cell (World.block_lt_of_cell? w _ c2) (by simp)]; exact c2⟩
        have HF := hide hfin
        have k1 : ((i : Int) ≥ (M : Int)) := by omega
        have k3 : (i : Int) < (n : Int) := by omega
        have k4 : i + 1 - M = i - M + 1 := by omega
        have k5 : i - M < n := by omega
        have k6 : i - M ≤ 300 := by omega
        clear hfin hst hR hO hu hu2 hc hlen hL him c2
        generalize i - M = d at *
        have k7 : (d : Int) < (n : Int) := by omega
        go_wp2_with fail
        refine (HP.out).mono ?_
        rintro e w3 ⟨v', rfl, hR', hT'⟩
        obtain ⟨hE, hO3, c3⟩ := HF.out _ _ hR' hT'
        have HE := hide (And.intro hE hO3)
        clear hR' hT' HP HF hE hO3
        go_wp2_with fail
        go_roundw
        case rel => exact ⟨i + 1, v', by omega, by go_num, by rw [k4]; go_num, HE.out.1, HE.out.2⟩
        case measure => simp [intOf]; omega
    · obtain rfl : i = n := by omega
      have hL := HL.out
      have hVl : (ivals L).length = i := by rw [ivals_len']; exact hL
      have hlen : (lastV (ivals L) M i).length = min i M := lastV_len _ _ _ (by omega)
      have k2 : i - M + min i M = i := by omega
      have k5 : min i M ≤ 300 := by omega
      have k6 : i - M ≤ 300 := by omega
      have hat : ∀ j, j < min i M → (lastV (ivals L) M i)[j]? = (ivals L)[i - M + j]? := by
        intro j hj
        have := lastV_at (V := ivals L) (M := M) (j := j) (by rw [hVl]; exact hj)
        rwa [hVl] at this
      generalize i - M = d at *
      generalize min i M = m at *
      have HAT := hide hat
      have HR := hide (And.intro hR hO)
      have HVL := hide hVl
      have HLe := hide hlen
      clear hR hO hL hVl hat hlen
      go_wp2_with fail
      go_loopw [11] (fun jv wr => ∃ (j : Nat), j ≤ m ∧ jv = .int .i64 j ∧ RgV_ri wr w1.heap.size w1.heap.size M v (lastV (ivals L) M i) d ∧ Only [] w wr) (fun jv _ => m - (intOf jv).toNat)
      case atStart => exact ⟨0, Nat.zero_le _, rfl, HR.out⟩
      case round =>
        obtain ⟨j, hj, rfl, hR, hO⟩ := hrel
        have HLn := hide (len_v hR)
        have HA := hide (And.intro hR hO)
        rw [HLe.out] at HLn
        clear hR hO
        by_cases hjm : j < m
        · have hV : (ivals L).length = i := HVL.out
          have hin : d + j < i := by omega
          have hin' : d + j < L.length := by rw [← ivals_len', hV]; exact hin
          have hu := ivals_some hin'
          obtain ⟨b, o, rfl, hc⟩ := HB.out.addr (by omega)
          have hat := HAT.out j hjm
          have hcu := hc _ _ hu
          generalize L[d + j] = y at *
          have HAt := hide (fun (w3 : World) (ho : Only [] wr w3) => at_v (HA.out.1.only ho) j (.int .i64 y) (hat.trans hu))
          have HC := hide (fun (w3 : World) (ho : Only [] w w3) => (ho.cell (World.block_lt_of_cell? w _ hcu) (by simp)).trans hcu)
          clear hu hc hat hcu
          have k7 : (j : Int) < (m : Int) := by omega
          have k8 : IntKind.i64.wrap ((d : Int) + (j : Int)) = ((d + j : Nat) : Int) := by rw [IntWalk.i64_in _ ⟨by omega, by omega⟩]; omega
          have k9 : ((d + j : Nat) : Int) < (i : Int) := by omega
          go_wp2_with fail
          refine (HLn.out).mono ?_
          rintro e w3 ⟨rfl, ho3⟩
          have H3 := hide ho3
          clear ho3 HLn
          go_wp2_with fail
          refine (HAt.out _ H3.out).mono ?_
          rintro e w4 ⟨rfl, ho4⟩
          have ho5 := (HA.out.2.trans H3.out (S := []) (by simp)).trans ho4 (S := []) (by simp)
          have c4 := HC.out _ ho5
          have H4 := hide (And.intro ((HA.out.1.only H3.out).only ho4) ho5)
          clear ho4 ho5 HAt HC H3 HA
          have k10 : (d : Int) + (j : Int) = ((d + j : Nat) : Int) := by omega
          generalize d + j = q at *
          go_wp2_with fail
          go_roundw
          case rel => exact ⟨j + 1, by omega, by go_num, H4.out⟩
          case measure => simp [intOf]; omega
        · obtain rfl : j = m := by omega
          have hLn2 := hide (fun (w3 : World) (ho : Only [] wr w3) => len_v (HA.out.1.only ho))
          have hGn := hide (fun (w3 : World) (ho : Only [] wr w3) => gone_v (HA.out.1.only ho))
          rw [HLe.out] at hLn2
          have k7 : ¬ ((j : Int) < (j : Int)) := by omega
          have k8 : IntKind.i64.wrap ((d : Int) + (j : Int)) = (i : Int) := by rw [IntWalk.i64_in _ ⟨by omega, by omega⟩]; omega
          have k10 : (d : Int) + (j : Int) = (i : Int) := by omega
          go_wp2_with fail
          refine (HLn.out).mono ?_
          rintro e w3 ⟨rfl, ho3⟩
          have H3 := hide ho3
          clear ho3 HLn
          go_wp2_with fail
          refine (hLn2.out _ H3.out).mono ?_
          rintro e w4 ⟨rfl, ho4⟩
          have H4 := hide (H3.out.trans ho4 (S := []) (by simp))
          clear ho4 hLn2 H3
          go_wp2_with fail
          refine (hGn.out _ H4.out).mono ?_
          rintro e w5 ⟨rfl, ho5⟩
          have H5 := hide (H4.out.trans ho5 (S := []) (by simp))
          clear ho5 hGn H4
          go_wp2_with fail
          go_ret
          exact ⟨by first | rfl | (congr 2; simp; omega), HA.out.2.trans H5.out (S := []) (by simp)⟩
set_option maxRecDepth 100000 in
theorem lifted (os : Os) (started : os.Started) (H : Type) (enc : TypeId × Value → H) :
    ReturnsInHanded {} Try.checked os 4 .any (Rows.ringLastSpec.pre6 enc Try.prog Try.f4 Rows.ringLastRow.domain false)
      (Rows.ringLastSpec.post enc Try.prog Try.f4 false true false false) := by
  refine returnsInHanded_of_change (C := Try.checked) own_knob started (by kernel_rfl) Try.func4
    (ChangeSpec.witness6 (enc := enc) (C := Try.checked) false ⟨#[], #[.int .i64 0, .slice none 0 0], []⟩ 8 (by kernel_rfl) (by kernel_rfl) (by kernel_rfl) (by kernel_rfl)) ?_
  intro W base args ds gs before hval0 hW hcnd _
  have hval : ∀ (j : Nat) t v, Try.f4.params[j]? = some t → args[j]? = some v → Value.okWide Try.prog W .any base t v := hval0
  have hW' := hW
  obtain ⟨p, q, hA0, hV, rfl, hfz, hnd⟩ := hW
  have hA : DataW.TrodAll enc Try.prog W 0 (fun _ => true) true Try.f4.params.toList args.toList ds p := hA0
  rw [Try.params4] at hA hval
  obtain ⟨v0, vs0, d0, ds0, p0, q0, hargs, rfl, rfl, h0, r0⟩ := trodAll_cons hA
  obtain ⟨v1, vs1, d1, ds1, p1, q1, rfl, rfl, rfl, h1, r1⟩ := trodAll_cons r0
  obtain ⟨rfl, rfl, rfl⟩ := trodAll_nil r1
  obtain rfl : args = #[v0, v1] := by cases args; simp_all
  obtain ⟨z0, rfl, rfl, rfl, _⟩ := open_int Try.underlying3 (hval 0 3 v0 rfl rfl) h0
  obtain ⟨A1, n1, c1, l1, rfl, hc1, cm1, _, hl1, hb1, hwf1⟩ := open_nums Try.underlying37 Try.underlying3 (by kernel_rfl) (hval 1 37 v1 rfl rfl) h1
  unfold maxLen at *
  refine (core z0 A1 n1 c1 l1 W hb1 hl1 (by omega)).mono fun e W' ⟨he, ho⟩ => ?_
  subst he
  exact ⟨_, rfl, law_post rfl hW' (by intro t ht; revert t; exact of_decide_eq_true (by kernel_rfl)) rfl rfl ho⟩

theorem proved : Rows.RingLastSaid :=
  OpenClaim.holds_of_wide 4 Try.f4 rfl rfl rfl rfl rfl rfl rfl ⟨rfl, rfl, rfl, rfl, rfl⟩ rfl rfl rfl rfl rfl (by kernel_rfl) Try.func4 (by kernel_rfl)
    (of_decide_eq_true (by kernel_rfl)) (by unfold Func.isWrapper; first | (rw [if_pos (by decide +kernel)]; kernel_rfl) | (rw [if_neg (by decide +kernel)]; exact ⟨rfl, rfl⟩))
    (fun os started H enc _ => lifted os started H enc)
end Go.Proofs.Ytakeoabeaopamaa.rlast
