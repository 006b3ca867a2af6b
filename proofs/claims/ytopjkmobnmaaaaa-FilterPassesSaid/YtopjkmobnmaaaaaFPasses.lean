/-
  Proves: for any pass and any sides FilterPasses tells true, and leaves all that was there as it was.
-/
import Derived.Test.YtopjkmobnmaaaaaFiN
import Derived.Test.YtopjkmobnmaaaaaFiU
import Derived.Test.YtopjkmobnmaaaaaLaw
import Derived.Test.YtopjkmobnmaaaaaOpen
import Derived.Lib.SmallJoins
namespace Go.Proofs.Ytopjkmobnmaaaaa.fpasses
open Go Go.RowKit Go.ChangeShapes Go.WideShapes Go.ChangeAt

section
variable {H : Type} {enc : TypeId × Value → H} {W : World}
theorem field_i64 {fuel : Nat} {u : Value} {y : DataW H × List MemPlace} (h : DataW.trod enc Try.prog W 0 (fun _ => true) true fuel 3 [u] = some y) : ∃ n, u = .int .i64 n ∧ (Lit.int .i64 n).wf = true := by
  obtain ⟨n, h1, _, h2⟩ := DataW.trod_int Try.underlying3 h
  simp at h1
  exact ⟨n, h1, h2⟩
set_option maxRecDepth 100000 in
theorem open_pass {r : Reach} {b0 : Nat} {v : Value} {d : DataW H} {p : List MemPlace} (hval : Value.okWide Try.prog W r b0 40 v) (h : DataW.Trod enc Try.prog W 0 (fun _ => true) true 40 v d p) :
    ∃ x y dx dy : Int, v = .agg #[.int .i64 x, .int .i64 y, .int .i64 dx, .int .i64 dy] ∧ x ≤ 9223372036854775807 ∧ y ≤ 9223372036854775807 ∧ dx ≤ 9223372036854775807 ∧ dy ≤ 9223372036854775807 := by
  obtain ⟨v0, v1, v2, v3, y0, y1, y2, y3, n, rfl, _, _, h0, h1, h2, h3⟩ := Go.Joins.open_agg4 Try.underlying40 (by kernel_rfl) (by kernel_rfl) hval h
  obtain ⟨a, rfl, ha⟩ := field_i64 h0
  obtain ⟨b, rfl, hb⟩ := field_i64 h1
  obtain ⟨c, rfl, hc⟩ := field_i64 h2
  obtain ⟨e, rfl, he⟩ := field_i64 h3
  exact ⟨a, b, c, e, rfl, (wf_i64 ha).2, (wf_i64 hb).2, (wf_i64 hc).2, (wf_i64 he).2⟩
end

theorem adSum_le (w h : Int) : ∀ i, 0 ≤ adSum w h i ∧ adSum w h i ≤ (i : Int) * 268435456
  | 0 => by simp [adSum]
  | i + 1 => by
    have ih := adSum_le w h i
    have hr := size_range (adX i) (adY i) (adW i) (adH i) w h
    have h1 : 0 * 0 ≤ sizeW (adX i) (adY i) (adW i) (adH i) w h * sizeH (adX i) (adY i) (adW i) (adH i) w h := Int.mul_le_mul hr.1.1 hr.2.1 (by omega) (by omega)
    have h2 : sizeW (adX i) (adY i) (adW i) (adH i) w h * sizeH (adX i) (adY i) (adW i) (adH i) w h ≤ 16384 * 16384 := Int.mul_le_mul hr.1.2 hr.2.2 (by omega) (by omega)
    rw [adSum]
    omega
theorem step_le (w h : Int) (i : Nat) : 0 ≤ sizeW (adX i) (adY i) (adW i) (adH i) w h * sizeH (adX i) (adY i) (adW i) (adH i) w h ∧ sizeW (adX i) (adY i) (adW i) (adH i) w h * sizeH (adX i) (adY i) (adW i) (adH i) w h ≤ 268435456 := by
  have hr := size_range (adX i) (adY i) (adW i) (adH i) w h
  have h1 : 0 * 0 ≤ sizeW (adX i) (adY i) (adW i) (adH i) w h * sizeH (adX i) (adY i) (adW i) (adH i) w h := Int.mul_le_mul hr.1.1 hr.2.1 (by omega) (by omega)
  have h2 : sizeW (adX i) (adY i) (adW i) (adH i) w h * sizeH (adX i) (adY i) (adW i) (adH i) w h ≤ 16384 * 16384 := Int.mul_le_mul hr.1.2 hr.2.2 (by omega) (by omega)
  omega

set_option maxRecDepth 100000 in
set_option maxHeartbeats 16000000 in
theorem core (x y dx dy p q : Int) (w : World) (hx : x ≤ 9223372036854775807) (hy : y ≤ 9223372036854775807) (hdx : dx ≤ 9223372036854775807) (hdy : dy ≤ 9223372036854775807) :
    Calls Try.prog 6 #[.agg #[.int .i64 x, .int .i64 y, .int .i64 dx, .int .i64 dy], .int .i64 p, .int .i64 q] w fun e w' => e = .returned (.bool true) ∧ Only [] w w' := by
  have HK : Hid (∀ w, Calls Try.prog 8 #[] w fun e w' => e = .returned (.bool true) ∧ Only [] w w') := hide (fun w => known_any w)
  have H1 := hide (fun w => size_any x y dx dy p q w hx hy hdx hdy)
  have H2 := hide (fun w => refSize_any x y dx dy p q w hx hy hdx hdy)
  have HP := hide passes_any
  have HR := hide refPasses_any
  have HZ := hide (fun (a b c d : Int) (w : World) (hc : a ≤ 8 ∧ b ≤ 8 ∧ c ≤ 8 ∧ d ≤ 8) => size_any a b c d p q w (by omega) (by omega) (by omega) (by omega))
  have o0 : Only [] w (w.alloc (.cells #[.int .i64 x, .int .i64 y, .int .i64 dx, .int .i64 dy] 40)) := (Only.refl [] w).alloc _
  have hz : Has (w.alloc (.cells #[.int .i64 x, .int .i64 y, .int .i64 dx, .int .i64 dy] 40)) w.heap.size 40 #[.int .i64 x, .int .i64 y, .int .i64 dx, .int .i64 dy] := Has.new w _ _
  have H0 := hide (And.intro o0 hz)
  generalize sizeW x y dx dy p q = R at *
  generalize sizeH x y dx dy p q = S at *
  clear o0 hz hx hy hdx hdy
  go_enter Try.func6, Try.ntmps6
  go_wp2_with fail
  refine (HK.out _).mono ?_
  rintro e w1 ⟨rfl, ho⟩
  have O1 := hide (And.intro (H0.out.1.trans ho (S := []) (by simp)) (H0.out.2.only ho (by simp)))
  clear ho H0
  have a0 := O1.out.2.cell 0
  have a1 := O1.out.2.cell 1
  have a2 := O1.out.2.cell 2
  have a3 := O1.out.2.cell 3
  simp only [List.getElem?_toArray, List.getElem?_cons_zero, List.getElem?_cons_succ] at a0 a1 a2 a3
  go_wp2_with fail
  refine (H1.out _).mono ?_
  rintro e w2 ⟨rfl, ho⟩
  have O2 := hide (And.intro (O1.out.1.trans ho (S := []) (by simp)) (O1.out.2.only ho (by simp)))
  clear ho O1 a0 a1 a2 a3
  have a0 := O2.out.2.cell 0
  have a1 := O2.out.2.cell 1
  have a2 := O2.out.2.cell 2
  have a3 := O2.out.2.cell 3
  simp only [List.getElem?_toArray, List.getElem?_cons_zero, List.getElem?_cons_succ] at a0 a1 a2 a3
  go_wp2_with fail
  refine (H2.out _).mono ?_
  rintro e w3 ⟨rfl, ho⟩
  have O3 := hide (O2.out.1.trans ho (S := []) (by simp))
  clear ho O2 a0 a1 a2 a3
  go_wp2_with fail
  refine (HP.out _).mono ?_
  rintro e w4 ⟨v, rfl, how, ho⟩
  obtain ⟨A1, c1, rfl, _, _⟩ := own_shape how
  have O4 := hide (And.intro (O3.out.trans ho (S := []) (by simp)) (Holds.of_own how))
  clear ho how O3
  go_wp2_with fail
  refine (HR.out _).mono ?_
  rintro e w5 ⟨A2, c2, rfl, hh, ho⟩
  obtain ⟨b1, o1, rfl, _⟩ := O4.out.2.addr (by rw [pvals_length]; omega)
  obtain ⟨b2, o2, rfl, _⟩ := hh.addr (by rw [pvals_length]; omega)
  have O5 := hide (And.intro (O4.out.1.trans ho (S := []) (by simp)) (And.intro (O4.out.2.keep ho (by simp)) hh))
  clear ho hh O4
  go_wp2_with fail
  go_loopw [13, 14] (fun n i wr => ∃ j : Nat, j ≤ 7 ∧ i = .int .i64 j ∧ n = .int .i64 (adSum p q j) ∧ Only [] w5 wr) (fun _ i _ => 7 - (intOf i).toNat)
  case atStart => exact ⟨0, by omega, rfl, rfl, Only.refl [] _⟩
  case round =>
    obtain ⟨j, hj, rfl, rfl, ho⟩ := hrel
    by_cases hlt : j < 7
    · have l1 := (O5.out.2.1.keep ho (by simp)).at_ _ rfl
      have l2 := (O5.out.2.2.keep ho (by simp)).at_ _ rfl
      simp only [add_none] at l1 l2
      have HS := hide ho
      clear ho
      rcases (show j = 0 ∨ j = 1 ∨ j = 2 ∨ j = 3 ∨ j = 4 ∨ j = 5 ∨ j = 6 by omega) with rfl | rfl | rfl | rfl | rfl | rfl | rfl
      · have a0 := l1 0 _ (show (pvals 7)[0]? = some (.int .i64 0) from rfl)
        have a1 := l1 1 _ (show (pvals 7)[1]? = some (.int .i64 0) from rfl)
        have a2 := l1 2 _ (show (pvals 7)[2]? = some (.int .i64 8) from rfl)
        have a3 := l1 3 _ (show (pvals 7)[3]? = some (.int .i64 8) from rfl)
        have b0 := l2 0 _ (show (pvals 7)[0]? = some (.int .i64 0) from rfl)
        have b1 := l2 1 _ (show (pvals 7)[1]? = some (.int .i64 0) from rfl)
        have b2 := l2 2 _ (show (pvals 7)[2]? = some (.int .i64 8) from rfl)
        have b3 := l2 3 _ (show (pvals 7)[3]? = some (.int .i64 8) from rfl)
        clear l1 l2
        rw [Nat.add_zero] at a0 b0
        have hs := adSum_le p q 0
        have ht := step_le p q 0
        have hn : adSum p q (0 + 1) = adSum p q 0 + sizeW 0 0 8 8 p q * sizeH 0 0 8 8 p q := rfl
        have ht : 0 ≤ sizeW 0 0 8 8 p q * sizeH 0 0 8 8 p q ∧ sizeW 0 0 8 8 p q * sizeH 0 0 8 8 p q ≤ 268435456 := ht
        have HQ := hide (fun w => HZ.out 0 0 8 8 w (by omega))
        generalize sizeW 0 0 8 8 p q = U at *
        generalize sizeH 0 0 8 8 p q = V at *
        generalize adSum p q 0 = n0 at *
        obtain ⟨m, hm⟩ : ∃ m, m = U * V := ⟨_, rfl⟩
        rw [← hm] at ht hn
        obtain ⟨n1, hn1⟩ : ∃ n1, n1 = n0 + m := ⟨_, rfl⟩
        have HN := hide (hn.trans hn1.symm)
        have W1 : Hid (wrap64 (U * V) = m ∧ IntKind.i64.wrap (U * V) = m) := hide ⟨by rw [← hm]; exact IntWalk.wrap64_in _ ⟨by omega, by omega⟩, by rw [← hm, IntKind.wrap_i64]; omega⟩
        have W2 : Hid (wrap64 (n0 + m) = n1 ∧ IntKind.i64.wrap (n0 + m) = n1) := hide ⟨by rw [← hn1]; exact IntWalk.wrap64_in _ ⟨by omega, by omega⟩, by rw [← hn1, IntKind.wrap_i64]; omega⟩
        clear hs ht hn hm hn1
        obtain ⟨v1, u1⟩ := W1.out
        obtain ⟨v2, u2⟩ := W2.out
        clear W1 W2
        go_wp2_with fail
        go_quiet (fail)
        go_wp2_with fail
        refine (HQ.out _).mono ?_
        rintro e w6 ⟨rfl, ho6⟩
        go_wp2_with fail
        go_roundw
        case rel => exact ⟨0 + 1, by omega, rfl, by rw [HN.out], (HS.out.drewN nq).trans ho6 (S := []) (by simp)⟩
        case measure => simp [intOf]
      · have a0 := l1 4 _ (show (pvals 7)[4]? = some (.int .i64 4) from rfl)
        have a1 := l1 5 _ (show (pvals 7)[5]? = some (.int .i64 0) from rfl)
        have a2 := l1 6 _ (show (pvals 7)[6]? = some (.int .i64 8) from rfl)
        have a3 := l1 7 _ (show (pvals 7)[7]? = some (.int .i64 8) from rfl)
        have b0 := l2 4 _ (show (pvals 7)[4]? = some (.int .i64 4) from rfl)
        have b1 := l2 5 _ (show (pvals 7)[5]? = some (.int .i64 0) from rfl)
        have b2 := l2 6 _ (show (pvals 7)[6]? = some (.int .i64 8) from rfl)
        have b3 := l2 7 _ (show (pvals 7)[7]? = some (.int .i64 8) from rfl)
        clear l1 l2
        have hs := adSum_le p q 1
        have ht := step_le p q 1
        have hn : adSum p q (1 + 1) = adSum p q 1 + sizeW 4 0 8 8 p q * sizeH 4 0 8 8 p q := rfl
        have ht : 0 ≤ sizeW 4 0 8 8 p q * sizeH 4 0 8 8 p q ∧ sizeW 4 0 8 8 p q * sizeH 4 0 8 8 p q ≤ 268435456 := ht
        have HQ := hide (fun w => HZ.out 4 0 8 8 w (by omega))
        generalize sizeW 4 0 8 8 p q = U at *
        generalize sizeH 4 0 8 8 p q = V at *
        generalize adSum p q 1 = n0 at *
        obtain ⟨m, hm⟩ : ∃ m, m = U * V := ⟨_, rfl⟩
        rw [← hm] at ht hn
        obtain ⟨n1, hn1⟩ : ∃ n1, n1 = n0 + m := ⟨_, rfl⟩
        have HN := hide (hn.trans hn1.symm)
        have W1 : Hid (wrap64 (U * V) = m ∧ IntKind.i64.wrap (U * V) = m) := hide ⟨by rw [← hm]; exact IntWalk.wrap64_in _ ⟨by omega, by omega⟩, by rw [← hm, IntKind.wrap_i64]; omega⟩
        have W2 : Hid (wrap64 (n0 + m) = n1 ∧ IntKind.i64.wrap (n0 + m) = n1) := hide ⟨by rw [← hn1]; exact IntWalk.wrap64_in _ ⟨by omega, by omega⟩, by rw [← hn1, IntKind.wrap_i64]; omega⟩
        clear hs ht hn hm hn1
        obtain ⟨v1, u1⟩ := W1.out
        obtain ⟨v2, u2⟩ := W2.out
        clear W1 W2
        go_wp2_with fail
        go_quiet (fail)
        go_wp2_with fail
        refine (HQ.out _).mono ?_
        rintro e w6 ⟨rfl, ho6⟩
        go_wp2_with fail
        go_roundw
        case rel => exact ⟨1 + 1, by omega, rfl, by rw [HN.out], (HS.out.drewN nq).trans ho6 (S := []) (by simp)⟩
        case measure => simp [intOf]
      · have a0 := l1 8 _ (show (pvals 7)[8]? = some (.int .i64 0) from rfl)
        have a1 := l1 9 _ (show (pvals 7)[9]? = some (.int .i64 4) from rfl)
        have a2 := l1 10 _ (show (pvals 7)[10]? = some (.int .i64 4) from rfl)
        have a3 := l1 11 _ (show (pvals 7)[11]? = some (.int .i64 8) from rfl)
        have b0 := l2 8 _ (show (pvals 7)[8]? = some (.int .i64 0) from rfl)
        have b1 := l2 9 _ (show (pvals 7)[9]? = some (.int .i64 4) from rfl)
        have b2 := l2 10 _ (show (pvals 7)[10]? = some (.int .i64 4) from rfl)
        have b3 := l2 11 _ (show (pvals 7)[11]? = some (.int .i64 8) from rfl)
        clear l1 l2
        have hs := adSum_le p q 2
        have ht := step_le p q 2
        have hn : adSum p q (2 + 1) = adSum p q 2 + sizeW 0 4 4 8 p q * sizeH 0 4 4 8 p q := rfl
        have ht : 0 ≤ sizeW 0 4 4 8 p q * sizeH 0 4 4 8 p q ∧ sizeW 0 4 4 8 p q * sizeH 0 4 4 8 p q ≤ 268435456 := ht
        have HQ := hide (fun w => HZ.out 0 4 4 8 w (by omega))
        generalize sizeW 0 4 4 8 p q = U at *
        generalize sizeH 0 4 4 8 p q = V at *
        generalize adSum p q 2 = n0 at *
        obtain ⟨m, hm⟩ : ∃ m, m = U * V := ⟨_, rfl⟩
        rw [← hm] at ht hn
        obtain ⟨n1, hn1⟩ : ∃ n1, n1 = n0 + m := ⟨_, rfl⟩
        have HN := hide (hn.trans hn1.symm)
        have W1 : Hid (wrap64 (U * V) = m ∧ IntKind.i64.wrap (U * V) = m) := hide ⟨by rw [← hm]; exact IntWalk.wrap64_in _ ⟨by omega, by omega⟩, by rw [← hm, IntKind.wrap_i64]; omega⟩
        have W2 : Hid (wrap64 (n0 + m) = n1 ∧ IntKind.i64.wrap (n0 + m) = n1) := hide ⟨by rw [← hn1]; exact IntWalk.wrap64_in _ ⟨by omega, by omega⟩, by rw [← hn1, IntKind.wrap_i64]; omega⟩
        clear hs ht hn hm hn1
        obtain ⟨v1, u1⟩ := W1.out
        obtain ⟨v2, u2⟩ := W2.out
        clear W1 W2
        go_wp2_with fail
        go_quiet (fail)
        go_wp2_with fail
        refine (HQ.out _).mono ?_
        rintro e w6 ⟨rfl, ho6⟩
        go_wp2_with fail
        go_roundw
        case rel => exact ⟨2 + 1, by omega, rfl, by rw [HN.out], (HS.out.drewN nq).trans ho6 (S := []) (by simp)⟩
        case measure => simp [intOf]
      · have a0 := l1 12 _ (show (pvals 7)[12]? = some (.int .i64 2) from rfl)
        have a1 := l1 13 _ (show (pvals 7)[13]? = some (.int .i64 0) from rfl)
        have a2 := l1 14 _ (show (pvals 7)[14]? = some (.int .i64 4) from rfl)
        have a3 := l1 15 _ (show (pvals 7)[15]? = some (.int .i64 4) from rfl)
        have b0 := l2 12 _ (show (pvals 7)[12]? = some (.int .i64 2) from rfl)
        have b1 := l2 13 _ (show (pvals 7)[13]? = some (.int .i64 0) from rfl)
        have b2 := l2 14 _ (show (pvals 7)[14]? = some (.int .i64 4) from rfl)
        have b3 := l2 15 _ (show (pvals 7)[15]? = some (.int .i64 4) from rfl)
        clear l1 l2
        have hs := adSum_le p q 3
        have ht := step_le p q 3
        have hn : adSum p q (3 + 1) = adSum p q 3 + sizeW 2 0 4 4 p q * sizeH 2 0 4 4 p q := rfl
        have ht : 0 ≤ sizeW 2 0 4 4 p q * sizeH 2 0 4 4 p q ∧ sizeW 2 0 4 4 p q * sizeH 2 0 4 4 p q ≤ 268435456 := ht
        have HQ := hide (fun w => HZ.out 2 0 4 4 w (by omega))
        generalize sizeW 2 0 4 4 p q = U at *
        generalize sizeH 2 0 4 4 p q = V at *
        generalize adSum p q 3 = n0 at *
        obtain ⟨m, hm⟩ : ∃ m, m = U * V := ⟨_, rfl⟩
        rw [← hm] at ht hn
        obtain ⟨n1, hn1⟩ : ∃ n1, n1 = n0 + m := ⟨_, rfl⟩
        have HN := hide (hn.trans hn1.symm)
        have W1 : Hid (wrap64 (U * V) = m ∧ IntKind.i64.wrap (U * V) = m) := hide ⟨by rw [← hm]; exact IntWalk.wrap64_in _ ⟨by omega, by omega⟩, by rw [← hm, IntKind.wrap_i64]; omega⟩
        have W2 : Hid (wrap64 (n0 + m) = n1 ∧ IntKind.i64.wrap (n0 + m) = n1) := hide ⟨by rw [← hn1]; exact IntWalk.wrap64_in _ ⟨by omega, by omega⟩, by rw [← hn1, IntKind.wrap_i64]; omega⟩
        clear hs ht hn hm hn1
        obtain ⟨v1, u1⟩ := W1.out
        obtain ⟨v2, u2⟩ := W2.out
        clear W1 W2
        go_wp2_with fail
        go_quiet (fail)
        go_wp2_with fail
        refine (HQ.out _).mono ?_
        rintro e w6 ⟨rfl, ho6⟩
        go_wp2_with fail
        go_roundw
        case rel => exact ⟨3 + 1, by omega, rfl, by rw [HN.out], (HS.out.drewN nq).trans ho6 (S := []) (by simp)⟩
        case measure => simp [intOf]
      · have a0 := l1 16 _ (show (pvals 7)[16]? = some (.int .i64 0) from rfl)
        have a1 := l1 17 _ (show (pvals 7)[17]? = some (.int .i64 2) from rfl)
        have a2 := l1 18 _ (show (pvals 7)[18]? = some (.int .i64 2) from rfl)
        have a3 := l1 19 _ (show (pvals 7)[19]? = some (.int .i64 4) from rfl)
        have b0 := l2 16 _ (show (pvals 7)[16]? = some (.int .i64 0) from rfl)
        have b1 := l2 17 _ (show (pvals 7)[17]? = some (.int .i64 2) from rfl)
        have b2 := l2 18 _ (show (pvals 7)[18]? = some (.int .i64 2) from rfl)
        have b3 := l2 19 _ (show (pvals 7)[19]? = some (.int .i64 4) from rfl)
        clear l1 l2
        have hs := adSum_le p q 4
        have ht := step_le p q 4
        have hn : adSum p q (4 + 1) = adSum p q 4 + sizeW 0 2 2 4 p q * sizeH 0 2 2 4 p q := rfl
        have ht : 0 ≤ sizeW 0 2 2 4 p q * sizeH 0 2 2 4 p q ∧ sizeW 0 2 2 4 p q * sizeH 0 2 2 4 p q ≤ 268435456 := ht
        have HQ := hide (fun w => HZ.out 0 2 2 4 w (by omega))
        generalize sizeW 0 2 2 4 p q = U at *
        generalize sizeH 0 2 2 4 p q = V at *
        generalize adSum p q 4 = n0 at *
        obtain ⟨m, hm⟩ : ∃ m, m = U * V := ⟨_, rfl⟩
        rw [← hm] at ht hn
        obtain ⟨n1, hn1⟩ : ∃ n1, n1 = n0 + m := ⟨_, rfl⟩
        have HN := hide (hn.trans hn1.symm)
        have W1 : Hid (wrap64 (U * V) = m ∧ IntKind.i64.wrap (U * V) = m) := hide ⟨by rw [← hm]; exact IntWalk.wrap64_in _ ⟨by omega, by omega⟩, by rw [← hm, IntKind.wrap_i64]; omega⟩
        have W2 : Hid (wrap64 (n0 + m) = n1 ∧ IntKind.i64.wrap (n0 + m) = n1) := hide ⟨by rw [← hn1]; exact IntWalk.wrap64_in _ ⟨by omega, by omega⟩, by rw [← hn1, IntKind.wrap_i64]; omega⟩
        clear hs ht hn hm hn1
        obtain ⟨v1, u1⟩ := W1.out
        obtain ⟨v2, u2⟩ := W2.out
        clear W1 W2
        go_wp2_with fail
        go_quiet (fail)
        go_wp2_with fail
        refine (HQ.out _).mono ?_
        rintro e w6 ⟨rfl, ho6⟩
        go_wp2_with fail
        go_roundw
        case rel => exact ⟨4 + 1, by omega, rfl, by rw [HN.out], (HS.out.drewN nq).trans ho6 (S := []) (by simp)⟩
        case measure => simp [intOf]
      · have a0 := l1 20 _ (show (pvals 7)[20]? = some (.int .i64 1) from rfl)
        have a1 := l1 21 _ (show (pvals 7)[21]? = some (.int .i64 0) from rfl)
        have a2 := l1 22 _ (show (pvals 7)[22]? = some (.int .i64 2) from rfl)
        have a3 := l1 23 _ (show (pvals 7)[23]? = some (.int .i64 2) from rfl)
        have b0 := l2 20 _ (show (pvals 7)[20]? = some (.int .i64 1) from rfl)
        have b1 := l2 21 _ (show (pvals 7)[21]? = some (.int .i64 0) from rfl)
        have b2 := l2 22 _ (show (pvals 7)[22]? = some (.int .i64 2) from rfl)
        have b3 := l2 23 _ (show (pvals 7)[23]? = some (.int .i64 2) from rfl)
        clear l1 l2
        have hs := adSum_le p q 5
        have ht := step_le p q 5
        have hn : adSum p q (5 + 1) = adSum p q 5 + sizeW 1 0 2 2 p q * sizeH 1 0 2 2 p q := rfl
        have ht : 0 ≤ sizeW 1 0 2 2 p q * sizeH 1 0 2 2 p q ∧ sizeW 1 0 2 2 p q * sizeH 1 0 2 2 p q ≤ 268435456 := ht
        have HQ := hide (fun w => HZ.out 1 0 2 2 w (by omega))
        generalize sizeW 1 0 2 2 p q = U at *
        generalize sizeH 1 0 2 2 p q = V at *
        generalize adSum p q 5 = n0 at *
        obtain ⟨m, hm⟩ : ∃ m, m = U * V := ⟨_, rfl⟩
        rw [← hm] at ht hn
        obtain ⟨n1, hn1⟩ : ∃ n1, n1 = n0 + m := ⟨_, rfl⟩
        have HN := hide (hn.trans hn1.symm)
        have W1 : Hid (wrap64 (U * V) = m ∧ IntKind.i64.wrap (U * V) = m) := hide ⟨by rw [← hm]; exact IntWalk.wrap64_in _ ⟨by omega, by omega⟩, by rw [← hm, IntKind.wrap_i64]; omega⟩
        have W2 : Hid (wrap64 (n0 + m) = n1 ∧ IntKind.i64.wrap (n0 + m) = n1) := hide ⟨by rw [← hn1]; exact IntWalk.wrap64_in _ ⟨by omega, by omega⟩, by rw [← hn1, IntKind.wrap_i64]; omega⟩
        clear hs ht hn hm hn1
        obtain ⟨v1, u1⟩ := W1.out
        obtain ⟨v2, u2⟩ := W2.out
        clear W1 W2
        go_wp2_with fail
        go_quiet (fail)
        go_wp2_with fail
        refine (HQ.out _).mono ?_
        rintro e w6 ⟨rfl, ho6⟩
        go_wp2_with fail
        go_roundw
        case rel => exact ⟨5 + 1, by omega, rfl, by rw [HN.out], (HS.out.drewN nq).trans ho6 (S := []) (by simp)⟩
        case measure => simp [intOf]
      · have a0 := l1 24 _ (show (pvals 7)[24]? = some (.int .i64 0) from rfl)
        have a1 := l1 25 _ (show (pvals 7)[25]? = some (.int .i64 1) from rfl)
        have a2 := l1 26 _ (show (pvals 7)[26]? = some (.int .i64 1) from rfl)
        have a3 := l1 27 _ (show (pvals 7)[27]? = some (.int .i64 2) from rfl)
        have b0 := l2 24 _ (show (pvals 7)[24]? = some (.int .i64 0) from rfl)
        have b1 := l2 25 _ (show (pvals 7)[25]? = some (.int .i64 1) from rfl)
        have b2 := l2 26 _ (show (pvals 7)[26]? = some (.int .i64 1) from rfl)
        have b3 := l2 27 _ (show (pvals 7)[27]? = some (.int .i64 2) from rfl)
        clear l1 l2
        have hs := adSum_le p q 6
        have ht := step_le p q 6
        have hn : adSum p q (6 + 1) = adSum p q 6 + sizeW 0 1 1 2 p q * sizeH 0 1 1 2 p q := rfl
        have ht : 0 ≤ sizeW 0 1 1 2 p q * sizeH 0 1 1 2 p q ∧ sizeW 0 1 1 2 p q * sizeH 0 1 1 2 p q ≤ 268435456 := ht
        have HQ := hide (fun w => HZ.out 0 1 1 2 w (by omega))
        generalize sizeW 0 1 1 2 p q = U at *
        generalize sizeH 0 1 1 2 p q = V at *
        generalize adSum p q 6 = n0 at *
        obtain ⟨m, hm⟩ : ∃ m, m = U * V := ⟨_, rfl⟩
        rw [← hm] at ht hn
        obtain ⟨n1, hn1⟩ : ∃ n1, n1 = n0 + m := ⟨_, rfl⟩
        have HN := hide (hn.trans hn1.symm)
        have W1 : Hid (wrap64 (U * V) = m ∧ IntKind.i64.wrap (U * V) = m) := hide ⟨by rw [← hm]; exact IntWalk.wrap64_in _ ⟨by omega, by omega⟩, by rw [← hm, IntKind.wrap_i64]; omega⟩
        have W2 : Hid (wrap64 (n0 + m) = n1 ∧ IntKind.i64.wrap (n0 + m) = n1) := hide ⟨by rw [← hn1]; exact IntWalk.wrap64_in _ ⟨by omega, by omega⟩, by rw [← hn1, IntKind.wrap_i64]; omega⟩
        clear hs ht hn hm hn1
        obtain ⟨v1, u1⟩ := W1.out
        obtain ⟨v2, u2⟩ := W2.out
        clear W1 W2
        go_wp2_with fail
        go_quiet (fail)
        go_wp2_with fail
        refine (HQ.out _).mono ?_
        rintro e w6 ⟨rfl, ho6⟩
        go_wp2_with fail
        go_roundw
        case rel => exact ⟨6 + 1, by omega, rfl, by rw [HN.out], (HS.out.drewN nq).trans ho6 (S := []) (by simp)⟩
        case measure => simp [intOf]
    · obtain rfl : j = 7 := by omega
      have HS := hide (O5.out.1.trans ho (S := []) (by simp))
      clear ho
      by_cases hin : (1 ≤ p ∧ p ≤ 16384) ∧ (1 ≤ q ∧ q ≤ 16384)
      · have e := ad_in p q hin.1 hin.2
        rw [e]
        have hb : 0 * 0 ≤ p * q := Int.mul_le_mul (by omega) (by omega) (by omega) (by omega)
        have hc : p * q ≤ 16384 * 16384 := Int.mul_le_mul hin.1.2 hin.2.2 (by omega) (by omega)
        obtain ⟨m, hm⟩ : ∃ m, m = p * q := ⟨_, rfl⟩
        rw [← hm] at hb hc ⊢
        have W1 : Hid (wrap64 (p * q) = m ∧ IntKind.i64.wrap (p * q) = m) := hide ⟨by rw [← hm]; exact IntWalk.wrap64_in _ ⟨by omega, by omega⟩, by rw [← hm, IntKind.wrap_i64]; omega⟩
        obtain ⟨g1, g2⟩ := hin
        obtain ⟨g1, g3⟩ := g1
        obtain ⟨g2, g4⟩ := g2
        clear e hb hc hm
        obtain ⟨v1, u1⟩ := W1.out
        clear W1
        go_wp2_with fail
        go_ret
        exact ⟨by simp, HS.out⟩
      · rw [ad_out p q hin 7]
        by_cases g1 : p < 1
        · clear hin
          go_wp2_with fail
          go_ret
          exact ⟨rfl, HS.out⟩
        · by_cases g2 : q < 1
          · clear hin
            go_wp2_with fail
            go_ret
            exact ⟨rfl, HS.out⟩
          · by_cases g3 : 16384 < p
            · clear hin
              go_wp2_with fail
              go_ret
              exact ⟨rfl, HS.out⟩
            · have g4 : 16384 < q := by omega
              clear hin
              go_wp2_with fail
              go_ret
              exact ⟨rfl, HS.out⟩
set_option maxRecDepth 100000 in
theorem lifted (os : Os) (started : os.Started) (H : Type) (enc : TypeId × Value → H) :
    ReturnsInHanded {} Try.checked os 6 .any (Rows.filterPassesSpec.pre6 enc Try.prog Try.f6 Rows.filterPassesRow.domain false)
      (Rows.filterPassesSpec.post enc Try.prog Try.f6 false true false false) := by
  refine returnsInHanded_of_change (C := Try.checked) own_knob started (by kernel_rfl) Try.func6
    (ChangeSpec.witness6 (enc := enc) (C := Try.checked) false ⟨#[], #[.agg #[.int .i64 0, .int .i64 0, .int .i64 0, .int .i64 0], .int .i64 0, .int .i64 0], []⟩ 8 (by kernel_rfl) (by kernel_rfl) (by kernel_rfl) (by kernel_rfl)) ?_
  intro W base args ds gs before hval0 hW hcnd _
  have hval : ∀ (j : Nat) t v, Try.f6.params[j]? = some t → args[j]? = some v → Value.okWide Try.prog W .any base t v := hval0
  have hW' := hW
  obtain ⟨p, q, hA0, hV, rfl, hfz, hnd⟩ := hW
  have hA : DataW.TrodAll enc Try.prog W 0 (fun _ => true) true Try.f6.params.toList args.toList ds p := hA0
  rw [Try.params6] at hA hval
  obtain ⟨v0, vs0, d0, ds0, p0, q0, hargs, rfl, rfl, h0, r0⟩ := trodAll_cons hA
  obtain ⟨v1, vs1, d1, ds1, p1, q1, rfl, rfl, rfl, h1, r1⟩ := trodAll_cons r0
  obtain ⟨v2, vs2, d2, ds2, p2, q2, rfl, rfl, rfl, h2, r2⟩ := trodAll_cons r1
  obtain ⟨rfl, rfl, rfl⟩ := trodAll_nil r2
  obtain rfl : args = #[v0, v1, v2] := by cases args; simp_all
  obtain ⟨x0, y0, dx0, dy0, rfl, hx0, hy0, hdx0, hdy0⟩ := open_pass (hval 0 40 v0 rfl rfl) h0
  obtain ⟨z1, rfl, rfl, rfl, _⟩ := open_int Try.underlying3 (hval 1 3 v1 rfl rfl) h1
  obtain ⟨z2, rfl, rfl, rfl, _⟩ := open_int Try.underlying3 (hval 2 3 v2 rfl rfl) h2
  unfold maxLen at *
  refine (core x0 y0 dx0 dy0 z1 z2 W hx0 hy0 hdx0 hdy0).mono fun e W' ⟨he, ho⟩ => ?_
  subst he
  exact ⟨_, rfl, law_post rfl hW' (by intro t ht; revert t; exact of_decide_eq_true (by kernel_rfl)) rfl rfl ho⟩

theorem proved : Rows.FilterPassesSaid :=
  OpenClaim.holds_of_wide 6 Try.f6 rfl rfl rfl rfl rfl rfl rfl ⟨rfl, rfl, rfl, rfl, rfl⟩ rfl rfl rfl rfl rfl (by kernel_rfl) Try.func6 (by kernel_rfl)
    (of_decide_eq_true (by kernel_rfl)) (by unfold Func.isWrapper; first | (rw [if_pos (by decide +kernel)]; kernel_rfl) | (rw [if_neg (by decide +kernel)]; exact ⟨rfl, rfl⟩))
    (fun os started H enc _ => lifted os started H enc)
end Go.Proofs.Ytopjkmobnmaaaaa.fpasses
