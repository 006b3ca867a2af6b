/-
  Package line: Insert, Delete, of some cells that are there.
-/
import Derived.Test.YtilpegmjkbmldaaDoorLnE
namespace Go.Proofs.YtilpegmjkbmldaaDoor
open Go Go.RowKit

/-- Where a part of a row of n cells begins that begins at k. -/
def offN (n k : Nat) : Nat := if n = k then 0 else k * 5
theorem run_lfrom (g n k : Nat) (hk : k ≤ n) (w : World) :
    (Instr.slice 25 (.slice (some ⟨g, 0, none⟩) n n) (some (.int .i64 (k : Int))) none none).run Tryd.prog w = .ok (.slice (some ⟨g, offN n k, none⟩) (n - k) (n - k)) w := by
  rw [run_slice_l (w := w) 25 (some ⟨g, 0, none⟩) n n Tryd.underlying25 .i64 k (by omega) (by omega), show (sizeOf (Tryd.prog.elem 25)).run Tryd.prog w = .ok 5 w by kernel_rfl]
  unfold offN
  by_cases h : n = k
  · subst h; simp [sliced, Result.andThen]
  · simp [sliced, Result.andThen, h, add_none]
theorem run_lpart (g n k m : Nat) (hm : 0 < m) (hk : k + m ≤ n) (w : World) :
    (Instr.slice 25 (.slice (some ⟨g, 0, none⟩) n n) (some (.int .i64 (k : Int))) (some (.int .i64 ((k : Int) + (m : Int)))) none).run Tryd.prog w = .ok (.slice (some ⟨g, k * 5, none⟩) m (n - k)) w := by
  rw [run_slice_lh (w := w) 25 (some ⟨g, 0, none⟩) n n Tryd.underlying25 .i64 .i64 k ((k : Int) + (m : Int)) (by omega) (by omega) (by omega), show (sizeOf (Tryd.prog.elem 25)).run Tryd.prog w = .ok 5 w by kernel_rfl]
  have h1 : ¬ n = k := by omega
  have h2 : ((k : Int) + (m : Int)).toNat - k = m := by omega
  simp [sliced, Result.andThen, h1, h2, add_none]

theorem Has.part {w : World} {g : Nat} {t : TypeId} {L : List Ce} (h : Has w g t (cvals L).toArray) (f m : Nat) (hm : f + m ≤ L.length) : Holds w 5 (some ⟨g, f * 5, none⟩) m (cvals ((L.drop f).take m)) := by
  have := h.holds.cut (f := f) (m := m) hm
  rw [cvals_drop, cvals_take] at this
  simpa [add_none] using this

/-- The cells from k on moved on by m. -/
def moveOn (M : List Ce) (k m : Nat) : List Ce := M.take (k + m) ++ (M.drop k).take (M.length - (k + m))
/-- The cells from k + m on moved up by m. -/
def moveUp (M : List Ce) (k m : Nat) : List Ce := M.take k ++ M.drop (k + m) ++ M.drop (M.length - m)
theorem moveOn_len (M : List Ce) (k m : Nat) (h : k + m ≤ M.length) : (moveOn M k m).length = M.length := by unfold moveOn; simp; omega
theorem moveUp_len (M : List Ce) (k m : Nat) (h : k + m ≤ M.length) : (moveUp M k m).length = M.length := by unfold moveUp; simp; omega
/-- What Insert, Delete tell. -/
def insL (L : List Ce) (k m : Nat) (a : Lk) : List Ce := mendL (fillL (moveOn (mendL L) k m) k m a)
def delL (L : List Ce) (k m : Nat) (a : Lk) : List Ce := mendL (fillL (moveUp (mendL L) k m) (L.length - m) m a)

theorem ins_copy (g n k m : Nat) (M : List Ce) (w : World) (hM : Has w g 37 (cvals M).toArray) (hl : M.length = n) (hm : 0 < m) (hk : k + m ≤ n) (ty : TypeId) :
    ∃ w', (Builtin.copy_ #[25, 25] ty #[.slice (some ⟨g, offN n (k + m), none⟩) (n - (k + m)) (n - (k + m)), .slice (some ⟨g, offN n k, none⟩) (n - k) (n - k)]).run Tryd.prog w = .ok (.int .i64 ((n - (k + m) : Nat) : Int)) w' ∧
      (Has w' g 37 (cvals (moveOn M k m)).toArray ∧ Only [g] w w') := by
  have e1 : offN n k = k * 5 := by unfold offN; rw [if_neg (by omega)]
  rw [e1]
  have hP := hM.part k (n - (k + m)) (by omega)
  by_cases h : n = k + m
  · subst h
    rw [Nat.sub_self] at hP ⊢
    rw [show offN (k + m) (k + m) = 0 by unfold offN; rw [if_pos rfl]]
    obtain ⟨w', h1, h2, h3⟩ := run_copy_ce w g 0 0 0 0 (k + m - k) (k + m - k) 0 (some ⟨g, k * 5, none⟩) M _ hM rfl (by simp) (by simp) hP (by omega) (by simp) 25 25 Tryd.underlying25 ty
    refine ⟨w', h1, ?_, h3⟩
    unfold moveOn
    rw [hl, Nat.sub_self, List.take_zero, List.append_nil, List.take_of_length_le (by omega)]
    simpa using h2
  · rw [show offN n (k + m) = (k + m) * 5 by unfold offN; rw [if_neg h]]
    obtain ⟨w', h1, h2, h3⟩ := run_copy_ce w g (k + m) ((k + m) * 5) (n - (k + m)) (n - (k + m)) (n - k) (n - k) (n - (k + m)) (some ⟨g, k * 5, none⟩) M _ hM rfl (Nat.min_eq_right (by omega)).symm (by rw [List.length_take, List.length_drop]; omega) hP (by omega) (by simp) 25 25 Tryd.underlying25 ty
    refine ⟨w', h1, ?_, h3⟩
    unfold moveOn
    rw [hl]
    rw [List.drop_eq_nil_of_le (show M.length ≤ k + m + (n - (k + m)) by omega), List.append_nil] at h2
    exact h2
theorem del_copy (g n k m : Nat) (M : List Ce) (w : World) (hM : Has w g 37 (cvals M).toArray) (hl : M.length = n) (hm : 0 < m) (hk : k + m ≤ n) (ty : TypeId) :
    ∃ w', (Builtin.copy_ #[25, 25] ty #[.slice (some ⟨g, offN n k, none⟩) (n - k) (n - k), .slice (some ⟨g, offN n (k + m), none⟩) (n - (k + m)) (n - (k + m))]).run Tryd.prog w = .ok (.int .i64 ((n - (k + m) : Nat) : Int)) w' ∧
      (Has w' g 37 (cvals (moveUp M k m)).toArray ∧ Only [g] w w') := by
  have e1 : offN n k = k * 5 := by unfold offN; rw [if_neg (by omega)]
  rw [e1]
  have hP : Holds w 5 (some ⟨g, offN n (k + m), none⟩) (n - (k + m)) (cvals (M.drop (k + m))) := by
    have := hM.part (k + m) (n - (k + m)) (by omega)
    rw [List.take_of_length_le (by rw [List.length_drop]; omega)] at this
    by_cases h : n = k + m
    · subst h
      rw [Nat.sub_self, List.drop_eq_nil_of_le (by omega)]
      exact Holds.empty _ _ _
    · rw [show offN n (k + m) = (k + m) * 5 by unfold offN; rw [if_neg h]]
      exact this
  obtain ⟨w', h1, h2, h3⟩ := run_copy_ce w g k (k * 5) (n - k) (n - k) (n - (k + m)) (n - (k + m)) (n - (k + m)) (some ⟨g, offN n (k + m), none⟩) M _ hM rfl (Nat.min_eq_left (by omega)).symm (by rw [List.length_drop]; omega) hP (by omega) (by simp) 25 25 Tryd.underlying25 ty
  refine ⟨w', h1, ?_, h3⟩
  unfold moveUp
  rw [hl]
  rw [show k + (n - (k + m)) = n - m by omega] at h2
  exact h2

set_option maxRecDepth 100000 in
set_option maxHeartbeats 4000000 in
theorem insert_any (A : Option Addr) (n c : Nat) (L : List Ce) (k m : Nat) (z : Int) (a : Lk) (w : World) (h : LineAt w A n c L) (hn : n ≤ 1000000000) (hz : withinN n k z = m) (hm : 0 < m) (hk : k + m ≤ n) :
    Calls Tryd.prog 21 #[.slice A n c, .int .i64 k, .int .i64 z, a.val] w fun e w' => ∃ g, e = .returned (.slice (some ⟨g, 0, none⟩) n n) ∧ NewLine w w' g (insL L k m a) := by
  show Calls Tryd.prog 21 #[.slice A n c, .int .i64 k, .int .i64 z, .agg #[.int .i64 a.fg, .int .i64 a.bg, .int .i64 a.fl]] w _
  have o0 := (Only.refl [] w).alloc (.cells #[.int .i64 a.fg, .int .i64 a.bg, .int .i64 a.fl] 23)
  have hb := Has.new w 23 #[.int .i64 a.fg, .int .i64 a.bg, .int .i64 a.fl]
  have HM := hide (mend_any A n c L _ (h.keep o0) hn)
  have hl := h.len
  have HO := hide (And.intro o0 (And.intro hb (And.intro hl (And.intro hn (And.intro hm hk)))))
  have HW := hide (fun g w => within_any (some ⟨g, 0, none⟩) n n k z w hn)
  rw [hz] at HW
  clear h o0 hb hl hz
  have m0 : ¬ (m : Int) = 0 := by omega
  have hw1 : IntKind.i64.wrap ((k : Int) + (m : Int)) = ((k + m : Nat) : Int) := by rw [IntWalk.i64_in _ ⟨by omega, by omega⟩]; omega
  have hw2 : ((k + m : Nat) : Int) = (k : Int) + (m : Int) := by omega
  have HX := hide (And.intro hw1 hw2)
  clear hw1 hw2 hk hn hm
  go_enter Tryd.func21, Tryd.ntmps21
  go_wp2_with fail
  refine (HM.out).mono ?_
  rintro e w1 ⟨g, rfl, N⟩
  have HN := hide N
  clear N
  go_wp2_with fail
  refine (HW.out _ _).mono ?_
  rintro e w1' ⟨rfl, rfl⟩
  go_upto_region 5 with fail
  obtain ⟨o0, hb, hl, hn, hm, hk⟩ := HO.out
  obtain ⟨hw1, hw2⟩ := HX.out
  have N := HN.out
  have hML : (mendL L).length = n := by rw [mendL_len]; exact hl
  have HC := hide (fun x : Later w1' => fun ty => ins_copy g n k m (mendL L) x.val (N.has.only x.only (by simp)) hML hm hk ty)
  have s1 := run_lfrom g n (k + m) hk
  have s2 := run_lfrom g n k (by omega)
  have s3 := run_lpart g n k m hm hk
  have hb1 := hb.only N.only (by simp)
  have b0 := later_cell (show w1'.cell? ⟨w.heap.size, 0, none⟩ = some (.int .i64 a.fg) from hb1.cell 0)
  have b1 := later_cell (show w1'.cell? ⟨w.heap.size, 1, none⟩ = some (.int .i64 a.bg) from hb1.cell 1)
  have b2 := later_cell (show w1'.cell? ⟨w.heap.size, 2, none⟩ = some (.int .i64 a.fl) from hb1.cell 2)
  have HB := hide hb1
  rw [← hw2] at s3
  obtain ⟨q, hq⟩ : ∃ q, q = k + m := ⟨_, rfl⟩
  rw [← hq] at s1 s3 HC hw1
  have HQ := hide (And.intro hq (And.intro hML hm))
  generalize offN n q = x1 at *
  generalize offN n k = x2 at *
  generalize n - q = y1 at *
  generalize n - k = y2 at *
  have HK := hide hk
  clear N hb o0 hl hn hk hw2 HM HW HX hm hq hML hb1
  refine region_later_tail 8 (by kernel_rfl) (by kernel_rfl) ?_
  simp only [List.take_succ_cons, List.take_zero, List.drop_succ_cons, List.drop_zero]
  iterate 8 (go_big_quiet_step (fail))
  refine wpQuiet_nil ?_
  rintro _ ⟨X, rfl⟩
  change wpList _ _ _ _ _ X.val
  go_wp2_with (refine list_copy_gen _ rfl (.tmp 23) (.tmp 26) 25 25 rfl (HC.out X) rfl rfl ?_; rintro w2 ⟨hw2, ho2⟩)
  go_simp
  obtain ⟨o0, _, hl, hn, hm, hk⟩ := HO.out
  obtain ⟨hq, hML, _⟩ := HQ.out
  have hgn : w.heap.size < g := by have := HN.out.new; rw [World.size_alloc] at this; omega
  have hb2 := (HB.out.only X.only (by simp)).only ho2 (by simp; omega)
  have b0 := later_cell (show w2.cell? ⟨w.heap.size, 0, none⟩ = some (.int .i64 a.fg) from hb2.cell 0)
  have b1 := later_cell (show w2.cell? ⟨w.heap.size, 1, none⟩ = some (.int .i64 a.bg) from hb2.cell 1)
  have b2 := later_cell (show w2.cell? ⟨w.heap.size, 2, none⟩ = some (.int .i64 a.fl) from hb2.cell 2)
  have ho := (((o0.trans HN.out.only (S := []) (by simp)).trans X.only (S := []) (by simp)).of_nil (T := [g])).trans ho2 (by simp)
  have hlen : (moveOn (mendL L) k m).length = n := by rw [moveOn_len _ k m (by omega)]; exact hML
  have HF := hide (fun x : Later w2 => fill_any g (k * 5) k m y2 _ a x.val (hw2.only x.only (by simp)) rfl (by omega) (by omega))
  have HO2 := hide (And.intro ho (And.intro hgn (And.intro hlen hn)))
  unfold Lk.val Lk.cells at HF
  clear o0 hl hn hm hk hq hML hgn hb2 ho hlen hw2 ho2 HC HB HO HQ HN s1 s2
  refine region_later_tail 7 (by kernel_rfl) (by kernel_rfl) ?_
  simp only [List.take_succ_cons, List.take_zero, List.drop_succ_cons, List.drop_zero]
  iterate 7 (go_big_quiet_step (fail))
  refine wpQuiet_nil ?_
  rintro _ ⟨X2, rfl⟩
  change wpList _ _ _ _ _ X2.val
  go_wp2_with fail
  refine (HF.out X2).mono ?_
  rintro e w3 ⟨rfl, hw3, ho3⟩
  obtain ⟨ho, hgn, hlen, hn⟩ := HO2.out
  have hk2 : k + m ≤ (moveOn (mendL L) k m).length := by rw [hlen]; exact HK.out
  have HS := hide (mendSelf_any g n _ w3 hw3 (by rw [fillL_len _ k m a hk2]; omega))
  rw [fillL_len _ k m a hk2, hlen] at HS
  have HP := hide (And.intro ((ho.trans X2.only (S := [g]) (by simp)).trans ho3 (S := [g]) (by simp)) hgn)
  clear ho hgn hlen hn hk2 hw3 ho3 HF b0 b1 b2 s3
  go_wp2_with fail
  refine (HS.out).mono ?_
  rintro e w4 ⟨rfl, h4, ho4⟩
  have HR := hide (And.intro h4 ho4)
  clear h4 ho4 HS
  go_wp2_with fail
  go_ret
  exact ⟨g, rfl, by have := HP.out.2; omega, HR.out.1, (HP.out.1.trans HR.out.2 (S := [g]) (by simp)).weak (by intro j hj hlt; simp at hj; have := HP.out.2; omega)⟩
set_option maxRecDepth 100000 in
set_option maxHeartbeats 4000000 in
theorem delete_any (A : Option Addr) (n c : Nat) (L : List Ce) (k m : Nat) (z : Int) (a : Lk) (w : World) (h : LineAt w A n c L) (hn : n ≤ 1000000000) (hz : withinN n k z = m) (hm : 0 < m) (hk : k + m ≤ n) :
    Calls Tryd.prog 22 #[.slice A n c, .int .i64 k, .int .i64 z, a.val] w fun e w' => ∃ g, e = .returned (.slice (some ⟨g, 0, none⟩) n n) ∧ NewLine w w' g (delL L k m a) := by
  show Calls Tryd.prog 22 #[.slice A n c, .int .i64 k, .int .i64 z, .agg #[.int .i64 a.fg, .int .i64 a.bg, .int .i64 a.fl]] w _
  have o0 := (Only.refl [] w).alloc (.cells #[.int .i64 a.fg, .int .i64 a.bg, .int .i64 a.fl] 23)
  have hb := Has.new w 23 #[.int .i64 a.fg, .int .i64 a.bg, .int .i64 a.fl]
  have HM := hide (mend_any A n c L _ (h.keep o0) hn)
  have hl := h.len
  have HO := hide (And.intro o0 (And.intro hb (And.intro hl (And.intro hn (And.intro hm hk)))))
  have HW := hide (fun g w => within_any (some ⟨g, 0, none⟩) n n k z w hn)
  rw [hz] at HW
  clear h o0 hb hl hz
  have m0 : ¬ (m : Int) = 0 := by omega
  have hw1 : IntKind.i64.wrap ((k : Int) + (m : Int)) = ((k + m : Nat) : Int) := by rw [IntWalk.i64_in _ ⟨by omega, by omega⟩]; omega
  have hw2 : ((k + m : Nat) : Int) = (k : Int) + (m : Int) := by omega
  have HX := hide (And.intro hw1 hw2)
  clear hw1 hw2 hk hn hm
  go_enter Tryd.func22, Tryd.ntmps22
  go_wp2_with fail
  refine (HM.out).mono ?_
  rintro e w1 ⟨g, rfl, N⟩
  have HN := hide N
  clear N
  go_wp2_with fail
  refine (HW.out _ _).mono ?_
  rintro e w1' ⟨rfl, rfl⟩
  go_upto_region 5 with fail
  obtain ⟨o0, hb, hl, hn, hm, hk⟩ := HO.out
  obtain ⟨hw1, hw2⟩ := HX.out
  have N := HN.out
  have hML : (mendL L).length = n := by rw [mendL_len]; exact hl
  have HC := hide (fun x : Later w1' => fun ty => del_copy g n k m (mendL L) x.val (N.has.only x.only (by simp)) hML hm hk ty)
  have s1 := run_lfrom g n (k + m) hk
  have s2 := run_lfrom g n k (by omega)
  have s3 := run_lfrom g n (n - m) (by omega)
  rw [show offN n (n - m) = (n - m) * 5 by unfold offN; rw [if_neg (by omega)], show n - (n - m) = m by omega] at s3
  have hw3 : IntKind.i64.wrap ((n : Int) - (m : Int)) = ((n - m : Nat) : Int) := by rw [IntWalk.i64_in _ ⟨by omega, by omega⟩]; omega
  have hr5 : n - m + m = n := by omega
  have hb1 := hb.only N.only (by simp)
  have b0 := later_cell (show w1'.cell? ⟨w.heap.size, 0, none⟩ = some (.int .i64 a.fg) from hb1.cell 0)
  have b1 := later_cell (show w1'.cell? ⟨w.heap.size, 1, none⟩ = some (.int .i64 a.bg) from hb1.cell 1)
  have b2 := later_cell (show w1'.cell? ⟨w.heap.size, 2, none⟩ = some (.int .i64 a.fl) from hb1.cell 2)
  have HB := hide hb1
  obtain ⟨q, hq⟩ : ∃ q, q = k + m := ⟨_, rfl⟩
  rw [← hq] at s1 HC hw1
  have HQ := hide (And.intro hq (And.intro hML hm))
  obtain ⟨r, hr⟩ : ∃ r, r = n - m := ⟨_, rfl⟩
  rw [← hr] at s3 hw3 hr5
  have HR5 := hide (And.intro hr hr5)
  generalize offN n q = x1 at *
  generalize offN n k = x2 at *
  generalize n - q = y1 at *
  generalize n - k = y2 at *
  have HK := hide hk
  clear N hb o0 hl hn hk hw2 HM HW HX hm hq hML hb1 hr hr5
  refine region_later_tail 8 (by kernel_rfl) (by kernel_rfl) ?_
  simp only [List.take_succ_cons, List.take_zero, List.drop_succ_cons, List.drop_zero]
  iterate 8 (go_big_quiet_step (fail))
  refine wpQuiet_nil ?_
  rintro _ ⟨X, rfl⟩
  change wpList _ _ _ _ _ X.val
  go_wp2_with (refine list_copy_gen _ rfl (.tmp 21) (.tmp 26) 25 25 rfl (HC.out X) rfl rfl ?_; rintro w2 ⟨hw2, ho2⟩)
  go_simp
  obtain ⟨o0, _, hl, hn, hm, hk⟩ := HO.out
  obtain ⟨hq, hML, _⟩ := HQ.out
  have hgn : w.heap.size < g := by have := HN.out.new; rw [World.size_alloc] at this; omega
  have hb2 := (HB.out.only X.only (by simp)).only ho2 (by simp; omega)
  have b0 := later_cell (show w2.cell? ⟨w.heap.size, 0, none⟩ = some (.int .i64 a.fg) from hb2.cell 0)
  have b1 := later_cell (show w2.cell? ⟨w.heap.size, 1, none⟩ = some (.int .i64 a.bg) from hb2.cell 1)
  have b2 := later_cell (show w2.cell? ⟨w.heap.size, 2, none⟩ = some (.int .i64 a.fl) from hb2.cell 2)
  have ho := (((o0.trans HN.out.only (S := []) (by simp)).trans X.only (S := []) (by simp)).of_nil (T := [g])).trans ho2 (by simp)
  have hlen : (moveUp (mendL L) k m).length = n := by rw [moveUp_len _ k m (by omega)]; exact hML
  have HF := hide (fun x : Later w2 => fill_any g (r * 5) r m m _ a x.val (hw2.only x.only (by simp)) rfl (by have := HR5.out.2; omega) (by omega))
  have HO2 := hide (And.intro ho (And.intro hgn (And.intro hlen hn)))
  unfold Lk.val Lk.cells at HF
  clear o0 hl hn hm hk hq hML hgn hb2 ho hlen hw2 ho2 HC HB HQ HN s1 s2
  refine region_later_tail 7 (by kernel_rfl) (by kernel_rfl) ?_
  simp only [List.take_succ_cons, List.take_zero, List.drop_succ_cons, List.drop_zero]
  iterate 7 (go_big_quiet_step (fail))
  refine wpQuiet_nil ?_
  rintro _ ⟨X2, rfl⟩
  change wpList _ _ _ _ _ X2.val
  go_wp2_with fail
  refine (HF.out X2).mono ?_
  rintro e w3 ⟨rfl, hw3, ho3⟩
  obtain ⟨ho, hgn, hlen, hn⟩ := HO2.out
  have hk2 : r + m ≤ (moveUp (mendL L) k m).length := by rw [hlen]; have := HR5.out.2; omega
  have HS := hide (mendSelf_any g n _ w3 hw3 (by rw [fillL_len _ r m a hk2]; omega))
  rw [fillL_len _ r m a hk2, hlen] at HS
  have HP := hide (And.intro ((ho.trans X2.only (S := [g]) (by simp)).trans ho3 (S := [g]) (by simp)) hgn)
  clear ho hgn hlen hn hk2 hw3 ho3 HF b0 b1 b2 s3
  go_wp2_with fail
  refine (HS.out).mono ?_
  rintro e w4 ⟨rfl, h4, ho4⟩
  have HR := hide (And.intro h4 ho4)
  clear h4 ho4 HS
  go_wp2_with fail
  go_ret
  have h9 := HR.out.1
  rw [HR5.out.1, ← HO.out.2.2.1] at h9
  exact ⟨g, rfl, by have := HP.out.2; omega, h9, (HP.out.1.trans HR.out.2 (S := [g]) (by simp)).weak (by intro j hj hlt; simp at hj; have := HP.out.2; omega)⟩
end Go.Proofs.YtilpegmjkbmldaaDoor
