/-
  Package filter: samples of a row.
-/
import Derived.Test.YtopjkmobnmaaaaaFiG
namespace Go.Proofs.Ytopjkmobnmaaaaa
open Go Go.RowKit

/-- Numbers that are not below 0, as the model's values. -/
def svals (l : List Nat) : List Value := l.map fun (n : Nat) => Value.int .i64 (n : Int)
@[simp] theorem svals_length (l : List Nat) : (svals l).length = l.length := by simp [svals]
theorem svals_get (l : List Nat) (i : Nat) (h : i < l.length) : (svals l)[i]? = some (.int .i64 (l.getD i 0 : Nat)) := by
  simp [svals, h, List.getD_eq_getElem?_getD]
theorem svals_set (l : List Nat) (i x : Nat) : (svals l).set i (.int .i64 (x : Int)) = svals (l.set i x) := by
  unfold svals; rw [List.map_set]
def fillN (p : List Nat) (n : Nat) : List Nat := p ++ List.replicate (n - p.length) 0
theorem fillN_length (p : List Nat) (n : Nat) (h : p.length ≤ n) : (fillN p n).length = n := by unfold fillN; simp; omega
theorem fillN_nil (n : Nat) : fillN [] n = List.replicate n 0 := by simp [fillN]
theorem fillN_all (p : List Nat) (n : Nat) (h : p.length = n) : fillN p n = p := by simp [fillN, h]
theorem fillN_set (p : List Nat) (n x : Nat) (h : p.length < n) : (fillN p n).set p.length x = fillN (p ++ [x]) n := by
  unfold fillN
  rw [List.set_append, if_neg (by omega), Nat.sub_self, show n - p.length = (n - (p ++ [x]).length) + 1 by simp; omega, List.replicate_succ, List.set_cons_zero]
  simp
theorem fillN_at (p : List Nat) (n x i : Nat) (hi : i = p.length) : (fillN (p ++ [x]) n).getD i 0 = x := by
  subst hi
  unfold fillN
  rw [List.getD_eq_getElem?_getD, List.append_assoc, List.getElem?_append_right (Nat.le_refl _), Nat.sub_self]
  rfl
theorem fillN_one (p : List Nat) (n : Nat) (h : p.length < n) : fillN p n = fillN (p ++ [0]) n := by
  unfold fillN
  rw [show n - p.length = (n - (p ++ [0]).length) + 1 by simp; omega, List.replicate_succ]
  simp
theorem fillN_set2 (p : List Nat) (n x y i : Nat) (hi : i = p.length) : (fillN (p ++ [x]) n).set i y = fillN (p ++ [y]) n := by
  subst hi
  unfold fillN
  rw [List.append_assoc, List.set_append, if_neg (by omega), Nat.sub_self]
  simp

theorem smps_length (l : List UInt8) (d n : Nat) : (smps l d n).length = n := by simp [smps]
theorem smps_succ (l : List UInt8) (d n : Nat) : smps l d (n + 1) = smps l d n ++ [smp l d n d] := by simp [smps, List.range_succ]
theorem smps_get (l : List UInt8) (d n i : Nat) (h : i < n) : (smps l d n).getD i 0 = smp l d i d := by simp [smps, List.getD_eq_getElem?_getD, h]

theorem i64_info : (Try.prog.info? 3).map (fun i => (i.zero, i.size, i.bytes)) = some (some (.int .i64 0), 1, 8) := by kernel_rfl
theorem zeros_int (m : Nat) : madeCells #[.int .i64 0] m = (svals (List.replicate m 0)).toArray := by
  apply Array.ext'
  rw [toList_madeCells_one]
  simp [svals]
theorem own_madeN (w : World) (t : TypeId) (l : List Nat) (n : Nat) (hl : l.length = n) (hn : n ≤ 140737488355328) : (w.alloc (.cells (svals l).toArray t)).ownsRow w.heap.size t 1 (.slice (some ⟨w.heap.size, 0, none⟩) n n) n (svals l) := by
  subst hl
  refine ⟨by simp, .inr ⟨w.heap.size, l.length, (svals l).toArray, rfl, Nat.le_refl _, Has.new w t _, Nat.le_refl _, by unfold maxLen; omega, by simp, ?_⟩⟩
  exact List.take_of_length_le (by simp)
theorem run_makeN (N : Nat) (hn : N ≤ 1000000000) (W : World) : (Instr.makeSlice 32 (.int .i64 (N : Int)) (.int .i64 (N : Int))).run Try.prog W = .ok (.slice (some ⟨W.heap.size, 0, none⟩) N N) (W.alloc (.cells (svals (List.replicate N 0)).toArray 3)) := by
  have h := run_make_row' (P := Try.prog) 32 3 (.int .i64 0) 8 Try.underlying32 i64_info rfl .i64 .i64 N (by omega) (by omega) W
  rw [h, zeros_int]

/-- What Samples tells. -/
def smR (l : List UInt8) (d n : Int) : List Nat := if sErr d n l.length = 0 then smps l d.toNat n.toNat else []
theorem sErr_zero {d n : Int} {m : Nat} (h : sErr d n m = 0) : ∃ x y : Nat, d = x ∧ n = y ∧ (x = 1 ∨ x = 2 ∨ x = 4 ∨ x = 8 ∨ x = 16) ∧ y ≤ 8 * m / x ∧ y * x ≤ 8 * m := by
  unfold sErr at h
  by_cases hc : isDep d = true ∧ 0 ≤ n
  · rw [if_pos hc] at h
    have hd := (isDep_iff d).1 hc.1
    by_cases hlt : 8 * m / d.toNat < n.toNat
    · rw [if_pos hlt] at h; exact absurd h (by omega)
    · refine ⟨d.toNat, n.toNat, by omega, by omega, by omega, by omega, ?_⟩
      have h1 : n.toNat ≤ 8 * m / d.toNat := by omega
      have h2 := Nat.mul_le_mul_right d.toNat h1
      have h3 := Nat.div_mul_le_self (8 * m) d.toNat
      omega
  · rw [if_neg hc] at h; exact absurd h (by omega)

/-- Where the loop stands. -/
structure SmSt (w : World) (g n j d : Nat) (l : List UInt8) (wr : World) : Prop where
  own : wr.ownsRow w.heap.size 3 1 (.slice (some ⟨g, 0, none⟩) n n) n (svals (fillN (smps l d j) n))
  only : Only [] w wr

theorem sample_at (d : Nat) (hd : d = 1 ∨ d = 2 ∨ d = 4 ∨ d = 8 ∨ d = 16) (A : Option Addr) (n c i : Nat) (l : List UInt8) (w : World) (hb : Holds w 1 A n (bvals l)) (hl : l.length = n) (hi : i * d + d ≤ 8 * n) (hn : n ≤ 100000000) :
    Calls Try.prog 28 #[.slice A n c, .int .i64 (d : Int), .int .i64 (i : Int)] w fun e w' => e = .returned (.int .i64 ((smp l d i d : Nat) : Int)) ∧ Only [] w w' := by
  by_cases h : d = 16
  · subst h
    exact sample16 A n c i l w hb hl (by omega) hn
  · exact sample8 d (by omega) A n c i l w hb hl hi hn

set_option maxRecDepth 100000 in
set_option maxHeartbeats 4000000 in
theorem samples_any (d n : Int) (A : Option Addr) (m c : Nat) (l : List UInt8) (w : World) (hb : Holds w 1 A m (bvals l)) (hl : l.length = m) (hm : m ≤ 1000000) :
    Calls Try.prog 14 #[.slice A m c, .int .i64 d, .int .i64 n] w fun e w' => ∃ v, e = .returned (.tuple #[v, .int .i64 (sErr d n m : Nat)]) ∧ w'.ownsRow w.heap.size 3 1 v (smR l d n).length (svals (smR l d n)) ∧ Only [] w w' := by
  have HD := hide (fun w => isDepth_any d w)
  by_cases hd : isDep d = true
  · have hd4 := (isDep_iff d).1 hd
    obtain ⟨x, rfl⟩ := Int.eq_ofNat_of_zero_le (show 0 ≤ d by omega)
    rw [hd] at HD
    have W1 := hide (wr64 (z := (m : Int) * 8) (n := 8 * m) (by omega) (by omega))
    have hq : 8 * m / x ≤ 8 * m := Nat.div_le_self _ _
    have hq2 : ((8 * m : Nat) : Int).tdiv (x : Int) = ((8 * m / x : Nat) : Int) := (Int.ofNat_tdiv (8 * m) x).symm
    obtain ⟨q, hqe⟩ : ∃ q, q = 8 * m / x := ⟨_, rfl⟩
    have W2 := hide (wr64 (z := (q : Int)) (n := q) rfl (by omega))
    obtain ⟨t, ht⟩ : ∃ t, t = 8 * m := ⟨_, rfl⟩
    have x0 : ¬ (x : Int) = 0 := by omega
    have x1 : ((x : Int) == 0) = false := beq_eq_false_iff_ne.2 x0
    by_cases hn : 0 ≤ n
    · obtain ⟨y, rfl⟩ := Int.eq_ofNat_of_zero_le hn
      by_cases hy : y ≤ q
      · have hE : sErr (x : Int) (y : Int) m = 0 := by
          unfold sErr
          rw [if_pos ⟨hd, hn⟩, Int.toNat_natCast, Int.toNat_natCast, if_neg (by omega)]
        have hR : smR l (x : Int) (y : Int) = smps l x y := by unfold smR; rw [hl, hE, if_pos rfl, Int.toNat_natCast, Int.toNat_natCast]
        rw [hE, hR, smps_length]
        have hyx : y * x ≤ 8 * m := by
          have h2 := Nat.mul_le_mul_right x hy
          have h3 := Nat.div_mul_le_self (8 * m) x
          rw [← hqe] at h3
          omega
        have hmk := run_makeN y (by omega)
        have hd5 : x = 1 ∨ x = 2 ∨ x = 4 ∨ x = 8 ∨ x = 16 := by omega
        have HB := hide (And.intro hb (And.intro hl (And.intro hm (And.intro hyx (And.intro hd5 (show y ≤ 8000000 by omega))))))
        have hyq : ¬ (q : Int) < (y : Int) := by omega
        have dy : decide ((y : Int) < 0) = false := decide_eq_false (by omega)
        have dq : decide (q < y) = false := decide_eq_false (by omega)
        rw [← hqe, ← ht] at hq2
        rw [← ht] at W1
        clear hb hl hm hyx hd5 hE hR hq hqe hn hy hd hd4 ht
        obtain ⟨v1, u1⟩ := W1.out
        obtain ⟨v2, u2⟩ := W2.out
        clear W1 W2
        go_enter Try.func14, Try.ntmps14
        go_wp2_with fail
        refine (HD.out _).mono ?_
        rintro e w1 ⟨rfl, rfl⟩
        go_wp2_with fail
        have H0 := hide (show SmSt w1 w1.heap.size y 0 x l (w1.alloc (.cells (svals (List.replicate y 0)).toArray 3)) from ⟨by
          rw [show smps l x 0 = [] from rfl, fillN_nil]
          exact own_madeN w1 3 (List.replicate y 0) y (by simp) (by have := HB.out.2.2.2.2.2; omega), (Only.refl [] w1).alloc _⟩)
        go_loopw [28] (fun i wr => ∃ j : Nat, j ≤ y ∧ i = .int .i64 j ∧ SmSt w1 w1.heap.size y j x l wr) (fun i _ => y - (intOf i).toNat)
        case atStart => exact ⟨0, Nat.zero_le _, rfl, H0.out⟩
        case round =>
          obtain ⟨j, hj, rfl, S⟩ := hrel
          by_cases hlt : j < y
          · obtain ⟨hb, hl, hm, hyx, hd5, hy9⟩ := HB.out
            have hjx : j * x + x ≤ 8 * m := by
              have h2 := Nat.mul_le_mul_right x (show j + 1 ≤ y by omega)
              rw [Nat.add_mul] at h2
              omega
            have HS := hide (sample_at x hd5 A m c j l wr (hb.keep S.only (by simp)) hl hjx (by omega))
            have HQ := hide (And.intro S hlt)
            clear hb hl hm hyx hd5 hjx S
            go_wp2_with fail
            refine (HS.out).mono ?_
            rintro e w2 ⟨rfl, ho2⟩
            have S := HQ.out.1
            have how := own_keep S.own ho2 (by simp)
            obtain ⟨g', hg', _, _, hfr, hcell⟩ := own_open how (by omega)
            obtain rfl : w1.heap.size = g' := by injection hg' with h; injection h
            have hlen : (fillN (smps l x j) y).length = y := fillN_length _ _ (by rw [smps_length]; omega)
            obtain ⟨b3, c3⟩ : ∃ b : Nat, w2.cell? ⟨w1.heap.size, j, none⟩ = some (.int .i64 (b : Int)) := ⟨_, hcell j _ (svals_get _ j (by rw [hlen]; omega))⟩
            have f3 := hfr j
            have hS : SmSt w1 w1.heap.size y (j + 1) x l (w2.setCell ⟨w1.heap.size, j, none⟩ (.int .i64 ((smp l x j x : Nat) : Int))) := ⟨by
              have h := own_set how j (.int .i64 ((smp l x j x : Nat) : Int))
              have e : (fillN (smps l x j) y).set j (smp l x j x) = fillN (smps l x (j + 1)) y := by
                have h2 := fillN_set (smps l x j) y (smp l x j x) (by rw [smps_length]; omega)
                rw [smps_length] at h2
                rw [h2, smps_succ]
              rw [svals_set, e] at h
              exact h, (S.only.trans ho2 (S := []) (by simp)).setCell (by intro h; exact absurd h (Nat.lt_irrefl _)) _⟩
            have HS2 := hide hS
            generalize smp l x j x = z at *
            clear hfr hcell hlen hS S how hg' ho2
            go_wp2_with fail
            go_roundw
            case rel => exact ⟨j + 1, HQ.out.2, by go_num, HS2.out⟩
            case measure => simp [intOf]; omega
          · obtain rfl : j = y := by omega
            go_wp2_with fail
            go_ret2
            refine ⟨_, rfl, ?_, S.only⟩
            have h := S.own
            rw [fillN_all _ _ (smps_length _ _ _)] at h
            exact h
      · have hE : sErr (x : Int) (y : Int) m = 2 := by
          unfold sErr
          rw [if_pos ⟨hd, hn⟩, Int.toNat_natCast, Int.toNat_natCast, if_pos (by omega)]
        have hR : smR l (x : Int) (y : Int) = [] := by unfold smR; rw [hl, hE, if_neg (by omega)]
        rw [hE, hR]
        have hyq : (q : Int) < (y : Int) := by omega
        rw [← hqe, ← ht] at hq2
        rw [← ht] at W1
        clear hb hl hm hE hR hq hqe hn hy hd hd4 ht
        obtain ⟨v1, u1⟩ := W1.out
        obtain ⟨v2, u2⟩ := W2.out
        clear W1 W2
        go_enter Try.func14, Try.ntmps14
        go_wp2_with fail
        refine (HD.out _).mono ?_
        rintro e w1 ⟨rfl, rfl⟩
        go_wp2_with fail
        go_ret2
        exact ⟨_, rfl, ⟨rfl, .inl ⟨rfl, rfl⟩⟩, Only.refl [] _⟩
    · have hE : sErr (x : Int) n m = 1 := by
        unfold sErr
        rw [if_neg (fun h => hn h.2)]
      have hR : smR l (x : Int) n = [] := by unfold smR; rw [hl, hE, if_neg (by omega)]
      rw [hE, hR]
      clear hb hl hm hE hR hq hq2 hqe hd hd4 ht W1 W2
      go_enter Try.func14, Try.ntmps14
      go_wp2_with fail
      refine (HD.out _).mono ?_
      rintro e w1 ⟨rfl, rfl⟩
      go_wp2_with fail
      go_ret2
      exact ⟨_, rfl, ⟨rfl, .inl ⟨rfl, rfl⟩⟩, Only.refl [] _⟩
  · have hdf : isDep d = false := by cases h : isDep d with
      | true => exact absurd h hd
      | false => rfl
    rw [hdf] at HD
    have hE : sErr d n m = 1 := by
      unfold sErr
      rw [if_neg (fun h => hd h.1)]
    have hR : smR l d n = [] := by unfold smR; rw [hl, hE, if_neg (by omega)]
    rw [hE, hR]
    clear hb hl hm hE hR hd hdf
    go_enter Try.func14, Try.ntmps14
    go_wp2_with fail
    refine (HD.out _).mono ?_
    rintro e w1 ⟨rfl, rfl⟩
    go_wp2_with fail
    go_ret2
    exact ⟨_, rfl, ⟨rfl, .inl ⟨rfl, rfl⟩⟩, Only.refl [] _⟩
end Go.Proofs.Ytopjkmobnmaaaaa
