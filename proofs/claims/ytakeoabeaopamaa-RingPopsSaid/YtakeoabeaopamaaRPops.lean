/-
  Statement RingPops: what is pushed, and popped as often, is there the other way round, as far as it had not gone.
  Conditions: none.
-/
import Derived.Test.YtakeoabeaopamaaRows
import Derived.Test.YtakeoabeaopamaaLaw
import Derived.Test.YtakeoabeaopamaaOpen
import Derived.Test.YtakeoabeaopamaaRnF
namespace Go.Proofs.Ytakeoabeaopamaa.rpops
open Go Go.RowKit Go.ChangeShapes Go.WideShapes Go.ChangeAt

theorem take_pop {V : List Value} {d m j : Nat} (hV : d + m = V.length) (hj : j < m) {u : Value} (hu : V[d + m - 1 - j]? = some u) : (V.drop d).take (m - (j + 1)) ++ [u] = (V.drop d).take (m - j) := by
  rw [show m - j = m - (j + 1) + 1 by omega, List.take_add_one, List.getElem?_drop, show d + (m - (j + 1)) = d + m - 1 - j by omega, hu]
  rfl

set_option maxRecDepth 100000 in
set_option maxHeartbeats 8000000 in
theorem core (z : Int) (A : Option Addr) (n c : Nat) (L : List Int) (w : World) (hb : Holds w 1 A n (ivals L)) (hl : L.length = n) (hn0 : n ≤ 9223372036854775807) :
    Calls Try.prog 5 #[.int .i64 z, .slice A n c] w fun e w' => e = .returned (.bool true) ∧ Only [] w w' := by
  by_cases h1 : 300 < n
  · clear hb
    go_enter Try.func5, Try.ntmps5
    go_wp2_with fail
    refine (known_any w).mono ?_
    rintro e w1 ⟨rfl, ho⟩
    go_wp2_with fail
    go_ret
    exact ⟨rfl, ho⟩
  have hd1 : decide (300 < n) = false := by simpa using h1
  by_cases h2 : z < 0
  · clear hb
    go_enter Try.func5, Try.ntmps5
    go_wp2_with fail
    refine (known_any w).mono ?_
    rintro e w1 ⟨rfl, ho⟩
    go_wp2_with fail
    go_ret
    exact ⟨rfl, ho⟩
  have hd2 : decide (z < 0) = false := by simpa using h2
  by_cases h3 : z > 65536
  · clear hb
    go_enter Try.func5, Try.ntmps5
    go_wp2_with fail
    refine (known_any w).mono ?_
    rintro e w1 ⟨rfl, ho⟩
    go_wp2_with fail
    go_ret
    exact ⟨rfl, ho⟩
  have hd3 : decide (z > 65536) = false := by simpa using h3
  obtain ⟨M, rfl⟩ : ∃ M : Nat, z = (M : Int) := ⟨z.toNat, by omega⟩
  have hM : M ≤ 65536 := by omega
  have hp : ∀ (g : Nat) (w : World), (binOp .eql 24 (.pointer (some ⟨g, 0, none⟩)) (.pointer none)).run Try.prog w = .ok (.bool false) w := fun g w => by kernel_rfl
  have HN := hide (fun w => new_v M hM w)
  have HL := hide hl
  have HB := hide hb
  have h1 : n ≤ 300 := by omega
  clear hb hl
  go_enter Try.func5, Try.ntmps5
  go_wp2_with fail
  refine (known_any w).mono ?_
  rintro e w1 ⟨rfl, ho⟩
  have H1 := hide ho
  clear ho
  go_wp2_with fail
  refine (HN.out w1).mono ?_
  rintro e w2 ⟨v0, rfl, hR, ho⟩
  have H2 := hide (And.intro hR (H1.out.trans ho (S := []) (by simp)))
  have hB := H1.out.size
  clear hR ho HN
  go_wp2_with fail
  go_loopw [7] (fun iv wr => ∃ (i : Nat) (v : Value), i ≤ n ∧ iv = .int .i64 i ∧ RgV_ri wr w1.heap.size w1.heap.size M v (lastV (ivals L) M i) (i - M) ∧ Only [] w wr) (fun iv _ => n - (intOf iv).toNat)
  case atStart => exact ⟨0, v0, Nat.zero_le _, rfl, by simpa [lastV] using H2.out.1, H2.out.2⟩
  case round =>
    obtain ⟨i, v, hi, rfl, hR, hO⟩ := hrel
    by_cases hlt : i < n
    · have hL := HL.out
      have hu := ivals_some (L := L) (i := i) (by omega)
      obtain ⟨b, o, rfl, hc⟩ := HB.out.addr (by rw [ivals_len']; omega)
      have c1 : wr.cell? ⟨b, o + i, none⟩ = some (.int .i64 L[i]) := by rw [hO.cell (World.block_lt_of_cell? w _ (hc _ _ hu)) (by simp)]; exact hc _ _ hu
      have hlen : (lastV (ivals L) M i).length = min i M := lastV_len _ _ _ (by rw [ivals_len']; omega)
      have hP : Calls Try.prog 9 #[.pointer (some ⟨w1.heap.size, 0, none⟩), (Value.int .i64 L[i])] wr fun e w' => ∃ v' r, e = .returned r ∧ RgV_ri w' w1.heap.size w1.heap.size M v' (lastV (ivals L) M (i + 1)) (i + 1 - M) ∧ Only [] w w' := by
        by_cases him : i < M
        · refine (push_room_ri hR L[i] (by omega)).mono ?_
          rintro e w' ⟨v', rfl, hR', hT⟩
          rw [lastV_room hu him] at hR'
          exact ⟨v', _, rfl, by rw [show i + 1 - M = i - M by omega]; exact hR', hR.after hT hO hB⟩
        · have hu2 := ivals_some (L := L) (i := i - M) (by omega)
          refine (push_out_ri hR L[i] _ (by omega) ((lastV_head hu (by omega)).trans hu2) (by omega)).mono ?_
          rintro e w' ⟨v', rfl, hR', hT⟩
          rw [lastV_out hu (by omega)] at hR'
          exact ⟨v', _, rfl, by rw [show i + 1 - M = i - M + 1 by omega]; exact hR', hR.after hT hO hB⟩
      have HP := hide hP
      generalize L[i] = x at *
      have k3 : (i : Int) < (n : Int) := by omega
      clear hR hO hu hc hlen hL hP
      go_wp2_with fail
      refine (HP.out).mono ?_
      rintro e w3 ⟨v', r, rfl, hR', hO'⟩
      have HE := hide (And.intro hR' hO')
      clear hR' hO' HP
      go_wp2_with fail
      go_roundw
      case rel => exact ⟨i + 1, v', by omega, by go_num, HE.out.1, HE.out.2⟩
      case measure => simp [intOf]; omega
    · obtain rfl : i = n := by omega
      have hL := HL.out
      have hVl : (ivals L).length = i := by rw [ivals_len']; exact hL
      have hlist : lastV (ivals L) M i = (ivals L).drop (i - M) := by unfold lastV; rw [List.take_of_length_le (by omega)]
      rw [hlist] at hR
      obtain ⟨m, hm, hm1⟩ : ∃ m, i - M + m = i ∧ m = min i M := ⟨min i M, by omega, rfl⟩
      have hd : i - M + m = (ivals L).length := by omega
      have hr0 : RgV_ri wr w1.heap.size w1.heap.size M v (((ivals L).drop (i - M)).take (m - 0)) (i - M) := by
        rw [List.take_of_length_le (by rw [List.length_drop]; omega)]
        exact hR
      have HR := hide (And.intro hr0 hO)
      have HVL := hide (And.intro hVl hd)
      generalize i - M = d at *
      have hm3 : m ≤ 300 := by omega
      clear hR hO hL hVl hlist hd hr0
      by_cases hMi : i > M
      · have k1 : (i : Int) > (M : Int) := by omega
        obtain rfl : m = M := by omega
        clear hm1 hm
        go_wp2_with fail
        go_loopw [9] (fun jv wr => ∃ (j : Nat) (v : Value), j ≤ m ∧ jv = .int .i64 j ∧ RgV_ri wr w1.heap.size w1.heap.size m v (((ivals L).drop d).take (m - j)) d ∧ Only [] w wr) (fun jv _ => m - (intOf jv).toNat)
        case atStart => exact ⟨0, v, Nat.zero_le _, rfl, HR.out⟩
        case round =>
          obtain ⟨j, v', hj, rfl, hR, hO⟩ := hrel
          by_cases hjm : j < m
          · obtain ⟨hV, hd⟩ := HVL.out
            have hin : d + m - 1 - j < L.length := by rw [← ivals_len']; omega
            have hu := ivals_some hin
            obtain ⟨b, o, rfl, hc⟩ := HB.out.addr (by omega)
            have hcu := hc _ _ hu
            rw [← take_pop hd hjm hu] at hR
            generalize L[d + m - 1 - j] = y at *
            have HP := hide (pop_v (.int .i64 y) hR)
            have HAf := hide (fun v2 w2 hT => hR.after (w' := w2) (v' := v2) hT hO hB)
            have HC := hide (fun (w3 : World) (ho : Only [] w w3) => (ho.cell (World.block_lt_of_cell? w _ hcu) (by simp)).trans hcu)
            have hi : (d : Int) + (m : Int) = (i : Int) := by omega
            clear hR hO hu hc hcu hd hV
            have k7 : (j : Int) < (m : Int) := by omega
            have k8 : IntKind.i64.wrap ((i : Int) - 1) = (i : Int) - 1 := IntWalk.i64_in _ ⟨by omega, by omega⟩
            have k9 : IntKind.i64.wrap ((i : Int) - 1 - (j : Int)) = ((d + m - 1 - j : Nat) : Int) := by rw [IntWalk.i64_in _ ⟨by omega, by omega⟩]; omega
            have k10 : (i : Int) - 1 - (j : Int) = ((d + m - 1 - j : Nat) : Int) := by omega
            have k11 : ((d + m - 1 - j : Nat) : Int) < (i : Int) := by omega
            generalize d + m - 1 - j = q at *
            clear hi
            go_wp2_with fail
            refine (HP.out).mono ?_
            rintro e w3 ⟨v2, rfl, hR', hT'⟩
            have hO' := HAf.out _ _ hT'
            have c4 := HC.out _ hO'
            have H4 := hide (And.intro hR' hO')
            clear hR' hT' hO' HP HAf HC
            go_wp2_with fail
            go_roundw
            case rel => exact ⟨j + 1, v2, by omega, by go_num, H4.out⟩
            case measure => simp [intOf]; omega
          · obtain rfl : j = m := by omega
            obtain ⟨hV, hd⟩ := HVL.out
            rw [Nat.sub_self, List.take_zero] at hR
            have HP := hide (popNone_v hR)
            have HLn := hide (fun (w3 : World) (ho : Only [] wr w3) => len_v (hR.only ho))
            have HG := hide (fun (w3 : World) (ho : Only [] wr w3) => gone_v (hR.only ho))
            rw [show (([] : List Value).length : Int) = 0 from rfl] at HLn
            have HO := hide hO
            have hi : (d : Int) + (j : Int) = (i : Int) := by omega
            have k7 : ¬ ((j : Int) < (j : Int)) := by omega
            have k8 : IntKind.i64.wrap ((i : Int) - (j : Int)) = (d : Int) := by rw [IntWalk.i64_in _ ⟨by omega, by omega⟩]; omega
            have k10 : (i : Int) - (j : Int) = (d : Int) := by omega
            clear hR hO hd hV hi
            go_wp2_with fail
            refine (HP.out).mono ?_
            rintro e w3 ⟨rfl, ho3⟩
            have H3 := hide ho3
            clear ho3 HP
            go_wp2_with fail
            refine (HLn.out _ H3.out).mono ?_
            rintro e w4 ⟨rfl, ho4⟩
            have H4 := hide (H3.out.trans ho4 (S := []) (by simp))
            clear ho4 HLn H3
            go_wp2_with fail
            refine (HG.out _ H4.out).mono ?_
            rintro e w5 ⟨rfl, ho5⟩
            have H5 := hide (H4.out.trans ho5 (S := []) (by simp))
            clear ho5 HG H4
            go_wp2_with fail
            go_ret
            exact ⟨by first | rfl | (congr 2; simp; omega), HO.out.trans H5.out (S := []) (by simp)⟩
      · have k1 : ¬ ((i : Int) > (M : Int)) := by omega
        obtain rfl : m = i := by omega
        clear hm1 hm
        go_wp2_with fail
        go_loopw [9] (fun jv wr => ∃ (j : Nat) (v : Value), j ≤ m ∧ jv = .int .i64 j ∧ RgV_ri wr w1.heap.size w1.heap.size M v (((ivals L).drop d).take (m - j)) d ∧ Only [] w wr) (fun jv _ => m - (intOf jv).toNat)
        case atStart => exact ⟨0, v, Nat.zero_le _, rfl, HR.out⟩
        case round =>
          obtain ⟨j, v', hj, rfl, hR, hO⟩ := hrel
          by_cases hjm : j < m
          · obtain ⟨hV, hd⟩ := HVL.out
            have hin : d + m - 1 - j < L.length := by rw [← ivals_len']; omega
            have hu := ivals_some hin
            obtain ⟨b, o, rfl, hc⟩ := HB.out.addr (by omega)
            have hcu := hc _ _ hu
            rw [← take_pop hd hjm hu] at hR
            generalize L[d + m - 1 - j] = y at *
            have HP := hide (pop_v (.int .i64 y) hR)
            have HAf := hide (fun v2 w2 hT => hR.after (w' := w2) (v' := v2) hT hO hB)
            have HC := hide (fun (w3 : World) (ho : Only [] w w3) => (ho.cell (World.block_lt_of_cell? w _ hcu) (by simp)).trans hcu)
            have hi : (d : Int) + (m : Int) = (m : Int) := by omega
            clear hR hO hu hc hcu hd hV
            have k7 : (j : Int) < (m : Int) := by omega
            have k8 : IntKind.i64.wrap ((m : Int) - 1) = (m : Int) - 1 := IntWalk.i64_in _ ⟨by omega, by omega⟩
            have k9 : IntKind.i64.wrap ((m : Int) - 1 - (j : Int)) = ((d + m - 1 - j : Nat) : Int) := by rw [IntWalk.i64_in _ ⟨by omega, by omega⟩]; omega
            have k10 : (m : Int) - 1 - (j : Int) = ((d + m - 1 - j : Nat) : Int) := by omega
            have k11 : ((d + m - 1 - j : Nat) : Int) < (m : Int) := by omega
            generalize d + m - 1 - j = q at *
            clear hi
            go_wp2_with fail
            refine (HP.out).mono ?_
            rintro e w3 ⟨v2, rfl, hR', hT'⟩
            have hO' := HAf.out _ _ hT'
            have c4 := HC.out _ hO'
            have H4 := hide (And.intro hR' hO')
            clear hR' hT' hO' HP HAf HC
            go_wp2_with fail
            go_roundw
            case rel => exact ⟨j + 1, v2, by omega, by go_num, H4.out⟩
            case measure => simp [intOf]; omega
          · obtain rfl : j = m := by omega
            obtain ⟨hV, hd⟩ := HVL.out
            rw [Nat.sub_self, List.take_zero] at hR
            have HP := hide (popNone_v hR)
            have HLn := hide (fun (w3 : World) (ho : Only [] wr w3) => len_v (hR.only ho))
            have HG := hide (fun (w3 : World) (ho : Only [] wr w3) => gone_v (hR.only ho))
            rw [show (([] : List Value).length : Int) = 0 from rfl] at HLn
            have HO := hide hO
            have hi : (d : Int) + (j : Int) = (j : Int) := by omega
            have k7 : ¬ ((j : Int) < (j : Int)) := by omega
            have k8 : IntKind.i64.wrap ((j : Int) - (j : Int)) = (d : Int) := by rw [IntWalk.i64_in _ ⟨by omega, by omega⟩]; omega
            have k10 : (j : Int) - (j : Int) = (d : Int) := by omega
            clear hR hO hd hV hi
            go_wp2_with fail
            refine (HP.out).mono ?_
            rintro e w3 ⟨rfl, ho3⟩
            have H3 := hide ho3
            clear ho3 HP
            go_wp2_with fail
            refine (HLn.out _ H3.out).mono ?_
            rintro e w4 ⟨rfl, ho4⟩
            have H4 := hide (H3.out.trans ho4 (S := []) (by simp))
            clear ho4 HLn H3
            go_wp2_with fail
            refine (HG.out _ H4.out).mono ?_
            rintro e w5 ⟨rfl, ho5⟩
            have H5 := hide (H4.out.trans ho5 (S := []) (by simp))
            clear ho5 HG H4
            go_wp2_with fail
            go_ret
            exact ⟨by first | rfl | (congr 2; simp; omega), HO.out.trans H5.out (S := []) (by simp)⟩
set_option maxRecDepth 100000 in
theorem lifted (os : Os) (started : os.Started) (H : Type) (enc : TypeId × Value → H) :
    ReturnsInHanded {} Try.checked os 5 .any (Rows.ringPopsSpec.pre6 enc Try.prog Try.f5 Rows.ringPopsRow.domain false)
      (Rows.ringPopsSpec.post enc Try.prog Try.f5 false true false false) := by
  refine returnsInHanded_of_change (C := Try.checked) own_knob started (by kernel_rfl) Try.func5
    (ChangeSpec.witness6 (enc := enc) (C := Try.checked) false ⟨#[], #[.int .i64 0, .slice none 0 0], []⟩ 8 (by kernel_rfl) (by kernel_rfl) (by kernel_rfl) (by kernel_rfl)) ?_
  intro W base args ds gs before hval0 hW hcnd _
  have hval : ∀ (j : Nat) t v, Try.f5.params[j]? = some t → args[j]? = some v → Value.okWide Try.prog W .any base t v := hval0
  have hW' := hW
  obtain ⟨p, q, hA0, hV, rfl, hfz, hnd⟩ := hW
  have hA : DataW.TrodAll enc Try.prog W 0 (fun _ => true) true Try.f5.params.toList args.toList ds p := hA0
  rw [Try.params5] at hA hval
  obtain ⟨v0, vs0, d0, ds0, p0, q0, hargs, rfl, rfl, h0, r0⟩ := trodAll_cons hA
  obtain ⟨v1, vs1, d1, ds1, p1, q1, rfl, rfl, rfl, h1, r1⟩ := trodAll_cons r0
  obtain ⟨rfl, rfl, rfl⟩ := trodAll_nil r1
  obtain rfl : args = #[v0, v1] := by cases args; simp_all
  obtain ⟨z0, rfl, rfl, rfl, _⟩ := open_int Try.underlying3 (hval 0 3 v0 rfl rfl) h0
  obtain ⟨A1, n1, c1, l1, rfl, hc1, cm1, _, hl1, hb1, hwf1⟩ := open_nums Try.underlying37 Try.underlying3 (by kernel_rfl) (hval 1 37 v1 rfl rfl) h1
  unfold maxLen at *
  refine (core z0 A1 n1 c1 l1 W hb1 hl1 (by omega)).mono fun e W' ⟨he, ho⟩ => ?_
  subst he
  exact ⟨_, rfl, law_post rfl hW' (by intro t ht; revert t; exact of_decide_eq_true (by kernel_rfl)) rfl rfl ho⟩

theorem proved : Rows.RingPopsSaid :=
  OpenClaim.holds_of_wide 5 Try.f5 rfl rfl rfl rfl rfl rfl rfl ⟨rfl, rfl, rfl, rfl, rfl⟩ rfl rfl rfl rfl rfl (by kernel_rfl) Try.func5 (by kernel_rfl)
    (of_decide_eq_true (by kernel_rfl)) (by unfold Func.isWrapper; first | (rw [if_pos (by decide +kernel)]; kernel_rfl) | (rw [if_neg (by decide +kernel)]; exact ⟨rfl, rfl⟩))
    (fun os started H enc _ => lifted os started H enc)
end Go.Proofs.Ytakeoabeaopamaa.rpops
