/-
  Package filter: rows undone, rows done.
-/
import Derived.Test.YtopjkmobnmaaaaaFiD
import Derived.Test.YtopjkmobnmaaaaaFiC
import Derived.Deep.Slices
import Derived.Deep.OwnRows
namespace Go.Proofs.Ytopjkmobnmaaaaa
open Go Go.RowKit

theorem u8_info : (Try.prog.info? 5).map (fun i => (i.zero, i.size, i.bytes)) = some (some (.int .u8 0), 1, 1) := by kernel_rfl
theorem zeros_eq (m : Nat) : madeCells #[.int .u8 0] m = (bvals (List.replicate m 0)).toArray := by
  apply Array.ext'
  rw [toList_madeCells_one]
  simp [bvals]
theorem own_made (w : World) (t : TypeId) (l : List UInt8) (n : Nat) (hl : l.length = n) (hn : n ≤ 140737488355328) : (w.alloc (.cells (bvals l).toArray t)).ownsRow w.heap.size t 1 (.slice (some ⟨w.heap.size, 0, none⟩) n n) n (bvals l) := by
  subst hl
  refine ⟨by simp, .inr ⟨w.heap.size, l.length, (bvals l).toArray, rfl, Nat.le_refl _, Has.new w t _, Nat.le_refl _, by unfold maxLen; omega, by simp, ?_⟩⟩
  exact List.take_of_length_le (by simp)
theorem run_make8 (N : Nat) (hn : N ≤ 140737488355328) (W : World) : (Instr.makeSlice 22 (.int .i64 (N : Int)) (.int .i64 (N : Int))).run Try.prog W = .ok (.slice (some ⟨W.heap.size, 0, none⟩) N N) (W.alloc (.cells (bvals (List.replicate N 0)).toArray 5)) := by
  have h := run_make_row' (P := Try.prog) 22 5 (.int .u8 0) 1 Try.underlying22 u8_info rfl .i64 .i64 N (by omega) (by omega) W
  rw [h, zeros_eq]

theorem fErr_zero {k s : Int} {n m : Nat} (h : fErr k s n m = 0) : ∃ x y : Nat, k = x ∧ s = y ∧ x ≤ 4 ∧ 1 ≤ y ∧ y ≤ 8 ∧ (m = 0 ∨ m = n) := by
  unfold fErr at h
  by_cases hc : (0 ≤ k ∧ k ≤ 4) ∧ (1 ≤ s ∧ s ≤ 8) ∧ (m = 0 ∨ m = n)
  · exact ⟨k.toNat, s.toNat, by omega, by omega, by omega, by omega, by omega, hc.2.2⟩
  · rw [if_neg hc] at h; exact absurd h (by omega)
/-- A row filtered, or undone: none, where that may not be. -/
def flR (un : Bool) (k s : Int) (l u : List UInt8) : List UInt8 := if fErr k s l.length u.length = 0 then fl un k.toNat s.toNat u l l.length else []
theorem u8_plus (x y : UInt8) : ∃ z : Nat, z < 256 ∧ UInt8.ofNat z = x + y ∧ IntKind.u8.wrap ((x.toNat : Int) + (y.toNat : Int)) = (z : Int) := by
  refine ⟨(x + y).toNat, (x + y).toNat_lt, UInt8.toNat_inj.1 (by rw [UInt8.toNat_ofNat']; exact Nat.mod_eq_of_lt (x + y).toNat_lt), ?_⟩
  rw [IntKind.wrap_u8, UInt8.toNat_add]
  omega
theorem u8_less (x y : UInt8) : ∃ z : Nat, z < 256 ∧ UInt8.ofNat z = x - y ∧ IntKind.u8.wrap ((x.toNat : Int) - (y.toNat : Int)) = (z : Int) := by
  refine ⟨(x - y).toNat, (x - y).toNat_lt, UInt8.toNat_inj.1 (by rw [UInt8.toNat_ofNat']; exact Nat.mod_eq_of_lt (x - y).toNat_lt), ?_⟩
  have := x.toNat_lt
  have := y.toNat_lt
  rw [IntKind.wrap_u8, UInt8.toNat_sub]
  omega

/-- Where the loop stands. -/
structure FlSt (w : World) (g n i : Nat) (un : Bool) (k s : Nat) (l u : List UInt8) (wr : World) : Prop where
  own : wr.ownsRow w.heap.size 5 1 (.slice (some ⟨g, 0, none⟩) n n) n (bvals (fill (fl un k s u l i) n))
  only : Only [] w wr

set_option maxRecDepth 100000 in
set_option maxHeartbeats 4000000 in
theorem undo_any (k s : Int) (A B : Option Addr) (n c m d : Nat) (l u : List UInt8) (w : World) (hb : Holds w 1 A n (bvals l)) (hl : l.length = n) (hu : Holds w 1 B m (bvals u)) (hul : u.length = m) (hn : n ≤ 100000000) :
    Calls Try.prog 9 #[.int .i64 k, .slice A n c, .slice B m d, .int .i64 s] w fun e w' => ∃ v, e = .returned (.tuple #[v, .int .i64 (fErr k s n m : Nat)]) ∧ w'.ownsRow w.heap.size 5 1 v (flR true k s l u).length (bvals (flR true k s l u)) ∧ Only [] w w' := by
  have HM := hide (fun w => mayBeF_any k s A B n c m d w)
  by_cases hf : fErr k s n m = 0
  · have hf' := hf
    rw [hf] at HM ⊢
    obtain ⟨k, s, rfl, rfl, hk, hs1, hs8, hm⟩ := fErr_zero hf'
    have hR : flR true k s l u = fl true k s u l n := by
      unfold flR
      rw [hl, hul, if_pos hf, Int.toNat_natCast, Int.toNat_natCast]
    rw [hR, fl_length]
    have hdec : decide ((0 : Nat) = 0) = true := rfl
    rw [hdec] at HM
    have hmk := run_make8 n (by omega)
    have HB := hide (And.intro hb (And.intro hl (And.intro hu (And.intro hul (And.intro hk (And.intro hs1 hs8))))))
    clear hb hl hu hul hm hf hf' hR hdec hk hs1 hs8
    go_enter Try.func9, Try.ntmps9
    go_wp2_with fail
    refine (HM.out _).mono ?_
    rintro e w1 ⟨rfl, rfl⟩
    go_wp2_with fail
    have H0 := hide (show FlSt w1 w1.heap.size n 0 true k s l u (w1.alloc (.cells (bvals (List.replicate n 0)).toArray 5)) from ⟨by
      rw [show fl true k s u l 0 = [] from rfl, fill_nil]
      exact own_made w1 5 (List.replicate n 0) n (by simp) (by omega), (Only.refl [] w1).alloc _⟩)
    go_loopw [24] (fun i wr => ∃ j : Nat, j ≤ n ∧ i = .int .i64 j ∧ FlSt w1 w1.heap.size n j true k s l u wr) (fun i _ => n - (intOf i).toNat)
    case atStart => exact ⟨0, Nat.zero_le _, rfl, H0.out⟩
    case round =>
      obtain ⟨j, hj, rfl, S⟩ := hrel
      by_cases hlt : j < n
      · obtain ⟨hb, hl, hu, hul, hk, hs1, hs8⟩ := HB.out
        obtain ⟨bb, oo, rfl, hc⟩ := (hb.keep S.only (by simp)).addr (by rw [bvals_length]; omega)
        have c0 : wr.cell? ⟨bb, oo + j, none⟩ = some (.int .u8 ((l.getD j 0).toNat : Int)) := hc j _ (by rw [bvals_get l j (by omega), List.getD_eq_getElem?_getD, List.getElem?_eq_getElem (by omega)]; rfl)
        obtain ⟨g', hg', _, _, hfr, hcell⟩ := own_open S.own (by omega)
        obtain rfl : w1.heap.size = g' := by injection hg' with h; injection h
        have hlen : (fill (fl true k s u l j) n).length = n := fill_length _ _ (by rw [fl_length]; omega)
        obtain ⟨b3, c3⟩ : ∃ b : Nat, wr.cell? ⟨w1.heap.size, j, none⟩ = some (.int .u8 (b : Int)) := ⟨_, hcell j _ (bvals_get _ j (by rw [hlen]; omega))⟩
        have f3 := hfr j
        have HG := hide (guess_any k j s (some ⟨w1.heap.size, 0, none⟩) B n n m d (fill (fl true k s u l j) n) u wr hk hs8 (by omega) (Holds.of_own S.own) hlen (hu.keep S.only (by simp)) hul)
        have hlf := lf_fill (fl true k s u l j) n s hs1
        rw [fl_length] at hlf
        rw [hlf] at HG
        obtain ⟨z, hz, hz2, hz3⟩ := u8_plus (l.getD j 0) (gs k (lf (fl true k s u l j) j s) (u.getD j 0) (lf u j s))
        have hS : FlSt w1 w1.heap.size n (j + 1) true k s l u (wr.setCell ⟨w1.heap.size, j, none⟩ (.int .u8 (z : Int))) := ⟨by
          have h := own_set S.own j (.int .u8 (z : Int))
          have e : (fill (fl true k s u l j) n).set j (UInt8.ofNat z) = fill (fl true k s u l (j + 1)) n := by
            have h2 := fill_set (fl true k s u l j) n (UInt8.ofNat z) (by rw [fl_length]; omega)
            rw [fl_length] at h2
            rw [h2, fl, hz2]
            rfl
          rw [bvals_set _ _ _ hz, e] at h
          exact h, S.only.setCell (by intro h; exact absurd h (Nat.lt_irrefl _)) _⟩
        have HS := hide hS
        generalize (l.getD j 0).toNat = x at *
        generalize (gs k (lf (fl true k s u l j) j s) (u.getD j 0) (lf u j s)).toNat = y at *
        clear hb hl hu hul hk hs1 hs8 hc hfr hcell hlen hz hz2 hS S hg'
        have HL := hide hlt
        go_wp2_with fail
        refine (HG.out).mono ?_
        rintro e w2 ⟨rfl, rfl⟩
        go_wp2_with fail
        go_roundw
        case rel => exact ⟨j + 1, HL.out, by go_num, HS.out⟩
        case measure => simp [intOf]; omega
      · obtain rfl : j = n := by omega
        go_wp2_with fail
        go_ret2
        refine ⟨_, rfl, ?_, S.only⟩
        have h := S.own
        rw [fill_all _ _ (fl_length _ _ _ _ _ _)] at h
        exact h
  · have hR : flR true k s l u = [] := by
      unfold flR
      rw [hl, hul, if_neg hf]
    have h1 : fErr k s n m = 1 := (fErr_one k s n m).resolve_left hf
    rw [h1] at HM ⊢
    rw [hR]
    have hdec : decide ((1 : Nat) = 0) = false := rfl
    rw [hdec] at HM
    clear hb hl hu hul hR h1 hf hdec
    go_enter Try.func9, Try.ntmps9
    go_wp2_with fail
    refine (HM.out _).mono ?_
    rintro e w1 ⟨rfl, rfl⟩
    go_wp2_with fail
    go_ret2
    exact ⟨_, rfl, ⟨rfl, .inl ⟨rfl, rfl⟩⟩, Only.refl [] _⟩

set_option maxRecDepth 100000 in
set_option maxHeartbeats 4000000 in
theorem do_any (k s : Int) (A B : Option Addr) (n c m d : Nat) (l u : List UInt8) (w : World) (hb : Holds w 1 A n (bvals l)) (hl : l.length = n) (hu : Holds w 1 B m (bvals u)) (hul : u.length = m) (hn : n ≤ 100000000) :
    Calls Try.prog 11 #[.int .i64 k, .slice A n c, .slice B m d, .int .i64 s] w fun e w' => ∃ v, e = .returned (.tuple #[v, .int .i64 (fErr k s n m : Nat)]) ∧ w'.ownsRow w.heap.size 5 1 v (flR false k s l u).length (bvals (flR false k s l u)) ∧ Only [] w w' := by
  have HM := hide (fun w => mayBeF_any k s A B n c m d w)
  by_cases hf : fErr k s n m = 0
  · have hf' := hf
    rw [hf] at HM ⊢
    obtain ⟨k, s, rfl, rfl, hk, hs1, hs8, hm⟩ := fErr_zero hf'
    have hR : flR false k s l u = fl false k s u l n := by
      unfold flR
      rw [hl, hul, if_pos hf, Int.toNat_natCast, Int.toNat_natCast]
    rw [hR, fl_length]
    have hdec : decide ((0 : Nat) = 0) = true := rfl
    rw [hdec] at HM
    have hmk := run_make8 n (by omega)
    have HB := hide (And.intro hb (And.intro hl (And.intro hu (And.intro hul (And.intro hk (And.intro hs1 hs8))))))
    clear hb hl hu hul hm hf hf' hR hdec hk hs1 hs8
    go_enter Try.func11, Try.ntmps11
    go_wp2_with fail
    refine (HM.out _).mono ?_
    rintro e w1 ⟨rfl, rfl⟩
    go_wp2_with fail
    have H0 := hide (show FlSt w1 w1.heap.size n 0 false k s l u (w1.alloc (.cells (bvals (List.replicate n 0)).toArray 5)) from ⟨by
      rw [show fl false k s u l 0 = [] from rfl, fill_nil]
      exact own_made w1 5 (List.replicate n 0) n (by simp) (by omega), (Only.refl [] w1).alloc _⟩)
    go_loopw [24] (fun i wr => ∃ j : Nat, j ≤ n ∧ i = .int .i64 j ∧ FlSt w1 w1.heap.size n j false k s l u wr) (fun i _ => n - (intOf i).toNat)
    case atStart => exact ⟨0, Nat.zero_le _, rfl, H0.out⟩
    case round =>
      obtain ⟨j, hj, rfl, S⟩ := hrel
      by_cases hlt : j < n
      · obtain ⟨hb, hl, hu, hul, hk, hs1, hs8⟩ := HB.out
        obtain ⟨bb, oo, rfl, hc⟩ := (hb.keep S.only (by simp)).addr (by rw [bvals_length]; omega)
        have c0 : wr.cell? ⟨bb, oo + j, none⟩ = some (.int .u8 ((l.getD j 0).toNat : Int)) := hc j _ (by rw [bvals_get l j (by omega), List.getD_eq_getElem?_getD, List.getElem?_eq_getElem (by omega)]; rfl)
        obtain ⟨g', hg', _, _, hfr, hcell⟩ := own_open S.own (by omega)
        obtain rfl : w1.heap.size = g' := by injection hg' with h; injection h
        have hlen : (fill (fl false k s u l j) n).length = n := fill_length _ _ (by rw [fl_length]; omega)
        obtain ⟨b3, c3⟩ : ∃ b : Nat, wr.cell? ⟨w1.heap.size, j, none⟩ = some (.int .u8 (b : Int)) := ⟨_, hcell j _ (bvals_get _ j (by rw [hlen]; omega))⟩
        have f3 := hfr j
        have HG := hide (guess_any k j s (some ⟨bb, oo, none⟩) B n c m d l u wr hk hs8 (by omega) (hb.keep S.only (by simp)) hl (hu.keep S.only (by simp)) hul)
        have hlf := True.intro
        obtain ⟨z, hz, hz2, hz3⟩ := u8_less (l.getD j 0) (gs k (lf l j s) (u.getD j 0) (lf u j s))
        have hS : FlSt w1 w1.heap.size n (j + 1) false k s l u (wr.setCell ⟨w1.heap.size, j, none⟩ (.int .u8 (z : Int))) := ⟨by
          have h := own_set S.own j (.int .u8 (z : Int))
          have e : (fill (fl false k s u l j) n).set j (UInt8.ofNat z) = fill (fl false k s u l (j + 1)) n := by
            have h2 := fill_set (fl false k s u l j) n (UInt8.ofNat z) (by rw [fl_length]; omega)
            rw [fl_length] at h2
            rw [h2, fl, hz2]
            rfl
          rw [bvals_set _ _ _ hz, e] at h
          exact h, S.only.setCell (by intro h; exact absurd h (Nat.lt_irrefl _)) _⟩
        have HS := hide hS
        generalize (l.getD j 0).toNat = x at *
        generalize (gs k (lf l j s) (u.getD j 0) (lf u j s)).toNat = y at *
        clear hb hl hu hul hk hs1 hs8 hc hfr hcell hlen hz hz2 hS S hg'
        have HL := hide hlt
        go_wp2_with fail
        refine (HG.out).mono ?_
        rintro e w2 ⟨rfl, rfl⟩
        go_wp2_with fail
        go_roundw
        case rel => exact ⟨j + 1, HL.out, by go_num, HS.out⟩
        case measure => simp [intOf]; omega
      · obtain rfl : j = n := by omega
        go_wp2_with fail
        go_ret2
        refine ⟨_, rfl, ?_, S.only⟩
        have h := S.own
        rw [fill_all _ _ (fl_length _ _ _ _ _ _)] at h
        exact h
  · have hR : flR false k s l u = [] := by
      unfold flR
      rw [hl, hul, if_neg hf]
    have h1 : fErr k s n m = 1 := (fErr_one k s n m).resolve_left hf
    rw [h1] at HM ⊢
    rw [hR]
    have hdec : decide ((1 : Nat) = 0) = false := rfl
    rw [hdec] at HM
    clear hb hl hu hul hR h1 hf hdec
    go_enter Try.func11, Try.ntmps11
    go_wp2_with fail
    refine (HM.out _).mono ?_
    rintro e w1 ⟨rfl, rfl⟩
    go_wp2_with fail
    go_ret2
    exact ⟨_, rfl, ⟨rfl, .inl ⟨rfl, rfl⟩⟩, Only.refl [] _⟩
end Go.Proofs.Ytopjkmobnmaaaaa
