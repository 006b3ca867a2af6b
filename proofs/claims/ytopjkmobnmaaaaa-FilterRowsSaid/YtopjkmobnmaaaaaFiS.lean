/-
  The document's rows, undone and done.
-/
import Derived.Test.YtopjkmobnmaaaaaFiR
namespace Go.Proofs.Ytopjkmobnmaaaaa
open Go Go.RowKit

theorem lf_far {l : List UInt8} {i s : Nat} (h : ¬ s ≤ i) : lf l i s = 0 := if_neg h
theorem lf_near {l : List UInt8} {i s : Nat} (h : s ≤ i) : lf l i s = l.getD (i - s) 0 := if_pos h

set_option maxRecDepth 100000 in
set_option maxHeartbeats 4000000 in
theorem both_bad (un : Bool) (k s : Int) (A B : Option Addr) (n c m d : Nat) (w : World) (hf : ¬ fErr k s n m = 0) :
    Calls Try.prog 10 #[.int .i64 k, .slice A n c, .slice B m d, .int .i64 s, .bool un] w fun e w' => e = .returned (.tuple #[.slice none 0 0, .int .i64 1]) ∧ w' = w := by
  have hno : ¬ ((0 ≤ k ∧ k ≤ 4) ∧ (1 ≤ s ∧ s ≤ 8) ∧ (m = 0 ∨ m = n)) := fun h => hf (if_pos h)
  clear hf
  by_cases hk0 : 0 ≤ k
  · by_cases hk4 : k ≤ 4
    · by_cases hs1 : 1 ≤ s
      · by_cases hs8 : s ≤ 8
        · have hm0 : ¬ (m : Int) = 0 := by omega
          have hmn : ¬ (m : Int) = (n : Int) := by omega
          have b1 : ((m : Int) == 0) = false := beq_eq_false_iff_ne.2 hm0
          have b2 : ((m : Int) == (n : Int)) = false := beq_eq_false_iff_ne.2 hmn
          have b3 : ((m : Int) != 0) = true := by rw [bne, b1]; rfl
          have b4 : ((m : Int) != (n : Int)) = true := by rw [bne, b2]; rfl
          clear hno
          go_enter Try.func10, Try.ntmps10
          go_wp2_with fail
          go_ret2
          exact ⟨rfl, rfl⟩
        · clear hno
          go_enter Try.func10, Try.ntmps10
          go_wp2_with fail
          go_ret2
          exact ⟨rfl, rfl⟩
      · clear hno
        go_enter Try.func10, Try.ntmps10
        go_wp2_with fail
        go_ret2
        exact ⟨rfl, rfl⟩
    · clear hno
      go_enter Try.func10, Try.ntmps10
      go_wp2_with fail
      go_ret2
      exact ⟨rfl, rfl⟩
  · clear hno
    go_enter Try.func10, Try.ntmps10
    go_wp2_with fail
    go_ret2
    exact ⟨rfl, rfl⟩

set_option maxRecDepth 100000 in
set_option maxHeartbeats 8000000 in
theorem both_undo (k s : Int) (A B : Option Addr) (n c m d : Nat) (l u : List UInt8) (w : World) (hb : Holds w 1 A n (bvals l)) (hl : l.length = n) (hu : Holds w 1 B m (bvals u)) (hul : u.length = m) (hn : n ≤ 100000000) :
    Calls Try.prog 10 #[.int .i64 k, .slice A n c, .slice B m d, .int .i64 s, .bool true] w fun e w' => ∃ v, e = .returned (.tuple #[v, .int .i64 (fErr k s n m : Nat)]) ∧ w'.ownsRow w.heap.size 5 1 v (flR true k s l u).length (bvals (flR true k s l u)) ∧ Only [] w w' := by
  by_cases hf : fErr k s n m = 0
  · have hf' := hf
    rw [hf]
    obtain ⟨k, s, rfl, rfl, hk, hs1, hs8, hm⟩ := fErr_zero hf'
    have hR : flR true k s l u = fl true k s u l n := by
      unfold flR
      rw [hl, hul, if_pos hf, Int.toNat_natCast, Int.toNat_natCast]
    rw [hR, fl_length]
    have hmk := run_make8 n (by omega)
    have hmm : (m : Int) = 0 ∨ (¬ (m : Int) = 0 ∧ ((m : Int) == 0) = false ∧ m = n) := by
      by_cases h : m = 0
      · exact .inl (by omega)
      · exact .inr ⟨by omega, beq_eq_false_iff_ne.2 (by omega), by omega⟩
    have HB := hide (And.intro hb (And.intro hl (And.intro hu (And.intro hul (And.intro hk (And.intro hs1 (And.intro hs8 (And.intro hm hn))))))))
    have hk1 : ¬ (k : Int) < 0 := by omega
    have hk2 : ¬ (4 : Int) < (k : Int) := by omega
    have hs3 : ¬ (s : Int) < 1 := by omega
    have hs4 : ¬ (8 : Int) < (s : Int) := by omega
    have dk : decide (4 < k) = false := decide_eq_false (by omega)
    have ds : decide (s < 1) = false := decide_eq_false (by omega)
    have ds2 : decide (8 < s) = false := decide_eq_false (by omega)
    clear hb hl hu hul hm hf hf' hR hk hs1 hs8
    have HH : Hid (∀ w1 : World, FlSt w1 w1.heap.size n 0 true k s l u (w1.alloc (.cells (bvals (List.replicate n 0)).toArray 5))) := hide (fun w1 => ⟨by
      rw [show fl true k s u l 0 = [] from rfl, fill_nil]
      exact own_made w1 5 (List.replicate n 0) n (by simp) (by omega), (Only.refl [] w1).alloc _⟩)
    rcases hmm with hm0 | ⟨hm0, hmb, hmn⟩
    · obtain rfl : m = 0 := by omega
      clear hm0
      go_enter Try.func10, Try.ntmps10
      go_wp2_with fail
      go_loopw [13] (fun i wr => ∃ j : Nat, j ≤ n ∧ i = .int .i64 j ∧ FlSt w w.heap.size n j true k s l u wr) (fun i _ => n - (intOf i).toNat)
      case atStart => exact ⟨0, Nat.zero_le _, rfl, HH.out w⟩
      case round =>
        obtain ⟨j, hj, rfl, S⟩ := hrel
        by_cases hlt : j < n
        · obtain ⟨hb, hl, hu, hul, hk, hs1, hs8, hm, hn⟩ := HB.out
          obtain ⟨bb1, oo1, rfl, hc⟩ := (hb.keep S.only (by simp)).addr (by rw [bvals_length]; omega)
          have c0 := cell8 hc (i := j) (by omega)
          obtain ⟨g', hg', _, _, hfr, hcell⟩ := own_open S.own (by omega)
          obtain rfl : w.heap.size = g' := by injection hg' with h; injection h
          have hlen : (fill (fl true k s u l j) n).length = n := fill_length _ _ (by rw [fl_length]; omega)
          obtain ⟨b3, c3⟩ : ∃ b : Nat, wr.cell? ⟨w.heap.size, j, none⟩ = some (.int .u8 (b : Int)) := ⟨_, hcell j _ (bvals_get _ j (by rw [hlen]; omega))⟩
          have f3 := hfr j
          have hnn := hn
          obtain ⟨gg, hgg⟩ : ∃ gg, gg = gs k (lf (fl true k s u l j) j s) (u.getD j 0) (lf u j s) := ⟨_, rfl⟩
          obtain ⟨z, hz, hz2, hz3⟩ := u8_plus (l.getD j 0) gg
          have hS : FlSt w w.heap.size n (j + 1) true k s l u (wr.setCell ⟨w.heap.size, j, none⟩ (.int .u8 (z : Int))) := ⟨by
            have h := own_set S.own j (.int .u8 (z : Int))
            have e : (fill (fl true k s u l j) n).set j (UInt8.ofNat z) = fill (fl true k s u l (j + 1)) n := by
              have h2 := fill_set (fl true k s u l j) n (UInt8.ofNat z) (by rw [fl_length]; omega)
              rw [fl_length] at h2
              rw [h2, fl, hz2, hgg]
              rfl
            rw [bvals_set _ _ _ hz, e] at h
            exact h, S.only.setCell (by intro h; exact absurd h (Nat.lt_irrefl _)) _⟩
          have HS := hide hS
          have HL := hide hlt
          have HG : Hid (∀ w, Calls Try.prog 24 #[.int .i64 k, .int .u8 (((lf (fl true k s u l j) j s)).toNat : Int), .int .u8 ((u.getD j 0).toNat : Int), .int .u8 ((lf u j s).toNat : Int)] w fun e w' => e = .returned (.int .u8 (gg.toNat : Int)) ∧ w' = w) := hide (fun w => by rw [hgg]; exact refGuess_any k (lf (fl true k s u l j) j s) (u.getD j 0) (lf u j s) w hk)
          clear hgg
          by_cases hsj : s ≤ j
          · have hsI : (s : Int) ≤ (j : Int) := by omega
            obtain ⟨t, ht⟩ : ∃ t, t = j - s := ⟨_, rfl⟩
            have W1 := hide (wr64 (z := (j : Int) - (s : Int)) (n := t) (by omega) (by omega))
            have htj : t < n := by omega
            have htj2 : t < j := by omega
            have c1 := cell8 hc (i := t) (by omega)
            have ha : lf (fl true k s u l j) j s = (fill (fl true k s u l j) n).getD t 0 := by
              rw [lf_near hsj, ← ht]
              unfold fill
              simp only [List.getD_eq_getElem?_getD]
              rw [List.getElem?_append_left (by rw [fl_length]; omega)]
            have c4 : wr.cell? ⟨w.heap.size, t, none⟩ = some (.int .u8 (((fill (fl true k s u l j) n).getD t 0).toNat : Int)) := hcell t _ (by rw [bvals_get _ t (by rw [hlen]; omega), List.getD_eq_getElem?_getD, List.getElem?_eq_getElem (by rw [hlen]; omega)]; rfl)
            rw [ha] at HG
            clear ha
            have hu0 : u = [] := List.eq_nil_of_length_eq_zero hul
            have e1 : u.getD j 0 = 0 := by rw [hu0]; rfl
            have e2 : lf u j s = 0 := by rw [hu0]; unfold lf; split <;> rfl
            rw [e1, e2] at HG
            clear e1 e2 hu0
            clear hb hl hu hul hk hs1 hs8 hm hc hfr hcell hlen hz hz2 hS S hg' ht
            generalize gg.toNat = y0 at *
            generalize (l.getD j 0).toNat = x0 at *
            obtain ⟨v1, u1⟩ := W1.out
            clear W1
            go_wp2_with fail
            refine (HG.out _).mono ?_
            rintro e w2 ⟨rfl, rfl⟩
            go_wp2_with fail
            go_roundw
            case rel => exact ⟨j + 1, HL.out, by go_num, HS.out⟩
            case measure => simp [intOf]; omega
          · have hsI : ¬ (s : Int) ≤ (j : Int) := by omega
            rw [lf_far (l := fl true k s u l j) hsj] at HG
            have hu0 : u = [] := List.eq_nil_of_length_eq_zero hul
            have e1 : u.getD j 0 = 0 := by rw [hu0]; rfl
            have e2 : lf u j s = 0 := by rw [hu0]; unfold lf; split <;> rfl
            rw [e1, e2] at HG
            clear e1 e2 hu0
            clear hb hl hu hul hk hs1 hs8 hm hc hfr hcell hlen hz hz2 hS S hg'
            generalize gg.toNat = y0 at *
            generalize (l.getD j 0).toNat = x0 at *
            go_wp2_with fail
            refine (HG.out _).mono ?_
            rintro e w2 ⟨rfl, rfl⟩
            go_wp2_with fail
            go_roundw
            case rel => exact ⟨j + 1, HL.out, by go_num, HS.out⟩
            case measure => simp [intOf]; omega
        · obtain rfl : j = n := by omega
          go_wp2_with fail
          go_ret2
          refine ⟨_, rfl, ?_, S.only⟩
          have h := S.own
          rw [fill_all _ _ (fl_length _ _ _ _ _ _)] at h
          exact h
    · obtain rfl : m = n := hmn
      have hmp : (0 : Int) < (m : Int) := by omega
      have bb := beq_self_eq_true (m : Int)
      have hmb2 : ((m : Int) != 0) = true := by rw [bne, hmb]; rfl
      go_enter Try.func10, Try.ntmps10
      go_wp2_with fail
      go_loopw [13] (fun i wr => ∃ j : Nat, j ≤ m ∧ i = .int .i64 j ∧ FlSt w w.heap.size m j true k s l u wr) (fun i _ => m - (intOf i).toNat)
      case atStart => exact ⟨0, Nat.zero_le _, rfl, HH.out w⟩
      case round =>
        obtain ⟨j, hj, rfl, S⟩ := hrel
        by_cases hlt : j < m
        · obtain ⟨hb, hl, hu, hul, hk, hs1, hs8, hm, hn⟩ := HB.out
          obtain ⟨bb1, oo1, rfl, hc⟩ := (hb.keep S.only (by simp)).addr (by rw [bvals_length]; omega)
          have c0 := cell8 hc (i := j) (by omega)
          obtain ⟨g', hg', _, _, hfr, hcell⟩ := own_open S.own (by omega)
          obtain rfl : w.heap.size = g' := by injection hg' with h; injection h
          have hlen : (fill (fl true k s u l j) m).length = m := fill_length _ _ (by rw [fl_length]; omega)
          obtain ⟨b3, c3⟩ : ∃ b : Nat, wr.cell? ⟨w.heap.size, j, none⟩ = some (.int .u8 (b : Int)) := ⟨_, hcell j _ (bvals_get _ j (by rw [hlen]; omega))⟩
          have f3 := hfr j
          obtain ⟨bb2, oo2, rfl, hc2⟩ := (hu.keep S.only (by simp)).addr (by rw [bvals_length]; omega)
          have d0 := cell8 hc2 (i := j) (by omega)
          obtain ⟨gg, hgg⟩ : ∃ gg, gg = gs k (lf (fl true k s u l j) j s) (u.getD j 0) (lf u j s) := ⟨_, rfl⟩
          obtain ⟨z, hz, hz2, hz3⟩ := u8_plus (l.getD j 0) gg
          have hS : FlSt w w.heap.size m (j + 1) true k s l u (wr.setCell ⟨w.heap.size, j, none⟩ (.int .u8 (z : Int))) := ⟨by
            have h := own_set S.own j (.int .u8 (z : Int))
            have e : (fill (fl true k s u l j) m).set j (UInt8.ofNat z) = fill (fl true k s u l (j + 1)) m := by
              have h2 := fill_set (fl true k s u l j) m (UInt8.ofNat z) (by rw [fl_length]; omega)
              rw [fl_length] at h2
              rw [h2, fl, hz2, hgg]
              rfl
            rw [bvals_set _ _ _ hz, e] at h
            exact h, S.only.setCell (by intro h; exact absurd h (Nat.lt_irrefl _)) _⟩
          have HS := hide hS
          have HL := hide hlt
          have HG : Hid (∀ w, Calls Try.prog 24 #[.int .i64 k, .int .u8 (((lf (fl true k s u l j) j s)).toNat : Int), .int .u8 ((u.getD j 0).toNat : Int), .int .u8 ((lf u j s).toNat : Int)] w fun e w' => e = .returned (.int .u8 (gg.toNat : Int)) ∧ w' = w) := hide (fun w => by rw [hgg]; exact refGuess_any k (lf (fl true k s u l j) j s) (u.getD j 0) (lf u j s) w hk)
          clear hgg
          by_cases hsj : s ≤ j
          · have hsI : (s : Int) ≤ (j : Int) := by omega
            obtain ⟨t, ht⟩ : ∃ t, t = j - s := ⟨_, rfl⟩
            have W1 := hide (wr64 (z := (j : Int) - (s : Int)) (n := t) (by omega) (by omega))
            have htj : t < m := by omega
            have htj2 : t < j := by omega
            have c1 := cell8 hc (i := t) (by omega)
            have ha : lf (fl true k s u l j) j s = (fill (fl true k s u l j) m).getD t 0 := by
              rw [lf_near hsj, ← ht]
              unfold fill
              simp only [List.getD_eq_getElem?_getD]
              rw [List.getElem?_append_left (by rw [fl_length]; omega)]
            have c4 : wr.cell? ⟨w.heap.size, t, none⟩ = some (.int .u8 (((fill (fl true k s u l j) m).getD t 0).toNat : Int)) := hcell t _ (by rw [bvals_get _ t (by rw [hlen]; omega), List.getD_eq_getElem?_getD, List.getElem?_eq_getElem (by rw [hlen]; omega)]; rfl)
            rw [ha] at HG
            clear ha
            have d1 := cell8 hc2 (i := t) (by omega)
            have ha2 : lf u j s = u.getD t 0 := by rw [lf_near hsj, ← ht]
            rw [ha2] at HG
            clear ha2 hc2
            clear hb hl hu hul hk hs1 hs8 hm hc hfr hcell hlen hz hz2 hS S hg' ht
            generalize gg.toNat = y0 at *
            generalize (l.getD j 0).toNat = x0 at *
            obtain ⟨v1, u1⟩ := W1.out
            clear W1
            go_wp2_with fail
            refine (HG.out _).mono ?_
            rintro e w2 ⟨rfl, rfl⟩
            go_wp2_with fail
            go_roundw
            case rel => exact ⟨j + 1, HL.out, by go_num, HS.out⟩
            case measure => simp [intOf]; omega
          · have hsI : ¬ (s : Int) ≤ (j : Int) := by omega
            rw [lf_far (l := fl true k s u l j) hsj] at HG
            rw [lf_far (l := u) hsj] at HG
            clear hc2
            clear hb hl hu hul hk hs1 hs8 hm hc hfr hcell hlen hz hz2 hS S hg'
            generalize gg.toNat = y0 at *
            generalize (l.getD j 0).toNat = x0 at *
            go_wp2_with fail
            refine (HG.out _).mono ?_
            rintro e w2 ⟨rfl, rfl⟩
            go_wp2_with fail
            go_roundw
            case rel => exact ⟨j + 1, HL.out, by go_num, HS.out⟩
            case measure => simp [intOf]; omega
        · obtain rfl : j = m := by omega
          go_wp2_with fail
          go_ret2
          refine ⟨_, rfl, ?_, S.only⟩
          have h := S.own
          rw [fill_all _ _ (fl_length _ _ _ _ _ _)] at h
          exact h
  · have hR : flR true k s l u = [] := by
      unfold flR
      rw [hl, hul, if_neg hf]
    have h1 : fErr k s n m = 1 := (fErr_one k s n m).resolve_left hf
    rw [h1, hR]
    refine (both_bad true k s A B n c m d w hf).mono ?_
    rintro e w' ⟨rfl, rfl⟩
    exact ⟨_, rfl, ⟨rfl, .inl ⟨rfl, rfl⟩⟩, Only.refl [] _⟩

set_option maxRecDepth 100000 in
set_option maxHeartbeats 8000000 in
theorem both_do (k s : Int) (A B : Option Addr) (n c m d : Nat) (l u : List UInt8) (w : World) (hb : Holds w 1 A n (bvals l)) (hl : l.length = n) (hu : Holds w 1 B m (bvals u)) (hul : u.length = m) (hn : n ≤ 100000000) :
    Calls Try.prog 10 #[.int .i64 k, .slice A n c, .slice B m d, .int .i64 s, .bool false] w fun e w' => ∃ v, e = .returned (.tuple #[v, .int .i64 (fErr k s n m : Nat)]) ∧ w'.ownsRow w.heap.size 5 1 v (flR false k s l u).length (bvals (flR false k s l u)) ∧ Only [] w w' := by
  by_cases hf : fErr k s n m = 0
  · have hf' := hf
    rw [hf]
    obtain ⟨k, s, rfl, rfl, hk, hs1, hs8, hm⟩ := fErr_zero hf'
    have hR : flR false k s l u = fl false k s u l n := by
      unfold flR
      rw [hl, hul, if_pos hf, Int.toNat_natCast, Int.toNat_natCast]
    rw [hR, fl_length]
    have hmk := run_make8 n (by omega)
    have hmm : (m : Int) = 0 ∨ (¬ (m : Int) = 0 ∧ ((m : Int) == 0) = false ∧ m = n) := by
      by_cases h : m = 0
      · exact .inl (by omega)
      · exact .inr ⟨by omega, beq_eq_false_iff_ne.2 (by omega), by omega⟩
    have HB := hide (And.intro hb (And.intro hl (And.intro hu (And.intro hul (And.intro hk (And.intro hs1 (And.intro hs8 (And.intro hm hn))))))))
    have hk1 : ¬ (k : Int) < 0 := by omega
    have hk2 : ¬ (4 : Int) < (k : Int) := by omega
    have hs3 : ¬ (s : Int) < 1 := by omega
    have hs4 : ¬ (8 : Int) < (s : Int) := by omega
    have dk : decide (4 < k) = false := decide_eq_false (by omega)
    have ds : decide (s < 1) = false := decide_eq_false (by omega)
    have ds2 : decide (8 < s) = false := decide_eq_false (by omega)
    clear hb hl hu hul hm hf hf' hR hk hs1 hs8
    have HH : Hid (∀ w1 : World, FlSt w1 w1.heap.size n 0 false k s l u (w1.alloc (.cells (bvals (List.replicate n 0)).toArray 5))) := hide (fun w1 => ⟨by
      rw [show fl false k s u l 0 = [] from rfl, fill_nil]
      exact own_made w1 5 (List.replicate n 0) n (by simp) (by omega), (Only.refl [] w1).alloc _⟩)
    rcases hmm with hm0 | ⟨hm0, hmb, hmn⟩
    · obtain rfl : m = 0 := by omega
      clear hm0
      go_enter Try.func10, Try.ntmps10
      go_wp2_with fail
      go_loopw [13] (fun i wr => ∃ j : Nat, j ≤ n ∧ i = .int .i64 j ∧ FlSt w w.heap.size n j false k s l u wr) (fun i _ => n - (intOf i).toNat)
      case atStart => exact ⟨0, Nat.zero_le _, rfl, HH.out w⟩
      case round =>
        obtain ⟨j, hj, rfl, S⟩ := hrel
        by_cases hlt : j < n
        · obtain ⟨hb, hl, hu, hul, hk, hs1, hs8, hm, hn⟩ := HB.out
          obtain ⟨bb1, oo1, rfl, hc⟩ := (hb.keep S.only (by simp)).addr (by rw [bvals_length]; omega)
          have c0 := cell8 hc (i := j) (by omega)
          obtain ⟨g', hg', _, _, hfr, hcell⟩ := own_open S.own (by omega)
          obtain rfl : w.heap.size = g' := by injection hg' with h; injection h
          have hlen : (fill (fl false k s u l j) n).length = n := fill_length _ _ (by rw [fl_length]; omega)
          obtain ⟨b3, c3⟩ : ∃ b : Nat, wr.cell? ⟨w.heap.size, j, none⟩ = some (.int .u8 (b : Int)) := ⟨_, hcell j _ (bvals_get _ j (by rw [hlen]; omega))⟩
          have f3 := hfr j
          have hnn := hn
          obtain ⟨gg, hgg⟩ : ∃ gg, gg = gs k (lf l j s) (u.getD j 0) (lf u j s) := ⟨_, rfl⟩
          obtain ⟨z, hz, hz2, hz3⟩ := u8_less (l.getD j 0) gg
          have hS : FlSt w w.heap.size n (j + 1) false k s l u (wr.setCell ⟨w.heap.size, j, none⟩ (.int .u8 (z : Int))) := ⟨by
            have h := own_set S.own j (.int .u8 (z : Int))
            have e : (fill (fl false k s u l j) n).set j (UInt8.ofNat z) = fill (fl false k s u l (j + 1)) n := by
              have h2 := fill_set (fl false k s u l j) n (UInt8.ofNat z) (by rw [fl_length]; omega)
              rw [fl_length] at h2
              rw [h2, fl, hz2, hgg]
              rfl
            rw [bvals_set _ _ _ hz, e] at h
            exact h, S.only.setCell (by intro h; exact absurd h (Nat.lt_irrefl _)) _⟩
          have HS := hide hS
          have HL := hide hlt
          have HG : Hid (∀ w, Calls Try.prog 24 #[.int .i64 k, .int .u8 (((lf l j s)).toNat : Int), .int .u8 ((u.getD j 0).toNat : Int), .int .u8 ((lf u j s).toNat : Int)] w fun e w' => e = .returned (.int .u8 (gg.toNat : Int)) ∧ w' = w) := hide (fun w => by rw [hgg]; exact refGuess_any k (lf l j s) (u.getD j 0) (lf u j s) w hk)
          clear hgg
          by_cases hsj : s ≤ j
          · have hsI : (s : Int) ≤ (j : Int) := by omega
            obtain ⟨t, ht⟩ : ∃ t, t = j - s := ⟨_, rfl⟩
            have W1 := hide (wr64 (z := (j : Int) - (s : Int)) (n := t) (by omega) (by omega))
            have htj : t < n := by omega
            have htj2 : t < j := by omega
            have c1 := cell8 hc (i := t) (by omega)
            have ha : lf l j s = l.getD t 0 := by rw [lf_near hsj, ← ht]
            rw [ha] at HG
            clear ha
            have hu0 : u = [] := List.eq_nil_of_length_eq_zero hul
            have e1 : u.getD j 0 = 0 := by rw [hu0]; rfl
            have e2 : lf u j s = 0 := by rw [hu0]; unfold lf; split <;> rfl
            rw [e1, e2] at HG
            clear e1 e2 hu0
            clear hb hl hu hul hk hs1 hs8 hm hc hfr hcell hlen hz hz2 hS S hg' ht
            generalize gg.toNat = y0 at *
            generalize (l.getD j 0).toNat = x0 at *
            obtain ⟨v1, u1⟩ := W1.out
            clear W1
            go_wp2_with fail
            refine (HG.out _).mono ?_
            rintro e w2 ⟨rfl, rfl⟩
            go_wp2_with fail
            go_roundw
            case rel => exact ⟨j + 1, HL.out, by go_num, HS.out⟩
            case measure => simp [intOf]; omega
          · have hsI : ¬ (s : Int) ≤ (j : Int) := by omega
            rw [lf_far (l := l) hsj] at HG
            have hu0 : u = [] := List.eq_nil_of_length_eq_zero hul
            have e1 : u.getD j 0 = 0 := by rw [hu0]; rfl
            have e2 : lf u j s = 0 := by rw [hu0]; unfold lf; split <;> rfl
            rw [e1, e2] at HG
            clear e1 e2 hu0
            clear hb hl hu hul hk hs1 hs8 hm hc hfr hcell hlen hz hz2 hS S hg'
            generalize gg.toNat = y0 at *
            generalize (l.getD j 0).toNat = x0 at *
            go_wp2_with fail
            refine (HG.out _).mono ?_
            rintro e w2 ⟨rfl, rfl⟩
            go_wp2_with fail
            go_roundw
            case rel => exact ⟨j + 1, HL.out, by go_num, HS.out⟩
            case measure => simp [intOf]; omega
        · obtain rfl : j = n := by omega
          go_wp2_with fail
          go_ret2
          refine ⟨_, rfl, ?_, S.only⟩
          have h := S.own
          rw [fill_all _ _ (fl_length _ _ _ _ _ _)] at h
          exact h
    · obtain rfl : m = n := hmn
      have hmp : (0 : Int) < (m : Int) := by omega
      have bb := beq_self_eq_true (m : Int)
      have hmb2 : ((m : Int) != 0) = true := by rw [bne, hmb]; rfl
      go_enter Try.func10, Try.ntmps10
      go_wp2_with fail
      go_loopw [13] (fun i wr => ∃ j : Nat, j ≤ m ∧ i = .int .i64 j ∧ FlSt w w.heap.size m j false k s l u wr) (fun i _ => m - (intOf i).toNat)
      case atStart => exact ⟨0, Nat.zero_le _, rfl, HH.out w⟩
      case round =>
        obtain ⟨j, hj, rfl, S⟩ := hrel
        by_cases hlt : j < m
        · obtain ⟨hb, hl, hu, hul, hk, hs1, hs8, hm, hn⟩ := HB.out
          obtain ⟨bb1, oo1, rfl, hc⟩ := (hb.keep S.only (by simp)).addr (by rw [bvals_length]; omega)
          have c0 := cell8 hc (i := j) (by omega)
          obtain ⟨g', hg', _, _, hfr, hcell⟩ := own_open S.own (by omega)
          obtain rfl : w.heap.size = g' := by injection hg' with h; injection h
          have hlen : (fill (fl false k s u l j) m).length = m := fill_length _ _ (by rw [fl_length]; omega)
          obtain ⟨b3, c3⟩ : ∃ b : Nat, wr.cell? ⟨w.heap.size, j, none⟩ = some (.int .u8 (b : Int)) := ⟨_, hcell j _ (bvals_get _ j (by rw [hlen]; omega))⟩
          have f3 := hfr j
          obtain ⟨bb2, oo2, rfl, hc2⟩ := (hu.keep S.only (by simp)).addr (by rw [bvals_length]; omega)
          have d0 := cell8 hc2 (i := j) (by omega)
          obtain ⟨gg, hgg⟩ : ∃ gg, gg = gs k (lf l j s) (u.getD j 0) (lf u j s) := ⟨_, rfl⟩
          obtain ⟨z, hz, hz2, hz3⟩ := u8_less (l.getD j 0) gg
          have hS : FlSt w w.heap.size m (j + 1) false k s l u (wr.setCell ⟨w.heap.size, j, none⟩ (.int .u8 (z : Int))) := ⟨by
            have h := own_set S.own j (.int .u8 (z : Int))
            have e : (fill (fl false k s u l j) m).set j (UInt8.ofNat z) = fill (fl false k s u l (j + 1)) m := by
              have h2 := fill_set (fl false k s u l j) m (UInt8.ofNat z) (by rw [fl_length]; omega)
              rw [fl_length] at h2
              rw [h2, fl, hz2, hgg]
              rfl
            rw [bvals_set _ _ _ hz, e] at h
            exact h, S.only.setCell (by intro h; exact absurd h (Nat.lt_irrefl _)) _⟩
          have HS := hide hS
          have HL := hide hlt
          have HG : Hid (∀ w, Calls Try.prog 24 #[.int .i64 k, .int .u8 (((lf l j s)).toNat : Int), .int .u8 ((u.getD j 0).toNat : Int), .int .u8 ((lf u j s).toNat : Int)] w fun e w' => e = .returned (.int .u8 (gg.toNat : Int)) ∧ w' = w) := hide (fun w => by rw [hgg]; exact refGuess_any k (lf l j s) (u.getD j 0) (lf u j s) w hk)
          clear hgg
          by_cases hsj : s ≤ j
          · have hsI : (s : Int) ≤ (j : Int) := by omega
            obtain ⟨t, ht⟩ : ∃ t, t = j - s := ⟨_, rfl⟩
            have W1 := hide (wr64 (z := (j : Int) - (s : Int)) (n := t) (by omega) (by omega))
            have htj : t < m := by omega
            have htj2 : t < j := by omega
            have c1 := cell8 hc (i := t) (by omega)
            have ha : lf l j s = l.getD t 0 := by rw [lf_near hsj, ← ht]
            rw [ha] at HG
            clear ha
            have d1 := cell8 hc2 (i := t) (by omega)
            have ha2 : lf u j s = u.getD t 0 := by rw [lf_near hsj, ← ht]
            rw [ha2] at HG
            clear ha2 hc2
            clear hb hl hu hul hk hs1 hs8 hm hc hfr hcell hlen hz hz2 hS S hg' ht
            generalize gg.toNat = y0 at *
            generalize (l.getD j 0).toNat = x0 at *
            obtain ⟨v1, u1⟩ := W1.out
            clear W1
            go_wp2_with fail
            refine (HG.out _).mono ?_
            rintro e w2 ⟨rfl, rfl⟩
            go_wp2_with fail
            go_roundw
            case rel => exact ⟨j + 1, HL.out, by go_num, HS.out⟩
            case measure => simp [intOf]; omega
          · have hsI : ¬ (s : Int) ≤ (j : Int) := by omega
            rw [lf_far (l := l) hsj] at HG
            rw [lf_far (l := u) hsj] at HG
            clear hc2
            clear hb hl hu hul hk hs1 hs8 hm hc hfr hcell hlen hz hz2 hS S hg'
            generalize gg.toNat = y0 at *
            generalize (l.getD j 0).toNat = x0 at *
            go_wp2_with fail
            refine (HG.out _).mono ?_
            rintro e w2 ⟨rfl, rfl⟩
            go_wp2_with fail
            go_roundw
            case rel => exact ⟨j + 1, HL.out, by go_num, HS.out⟩
            case measure => simp [intOf]; omega
        · obtain rfl : j = m := by omega
          go_wp2_with fail
          go_ret2
          refine ⟨_, rfl, ?_, S.only⟩
          have h := S.own
          rw [fill_all _ _ (fl_length _ _ _ _ _ _)] at h
          exact h
  · have hR : flR false k s l u = [] := by
      unfold flR
      rw [hl, hul, if_neg hf]
    have h1 : fErr k s n m = 1 := (fErr_one k s n m).resolve_left hf
    rw [h1, hR]
    refine (both_bad false k s A B n c m d w hf).mono ?_
    rintro e w' ⟨rfl, rfl⟩
    exact ⟨_, rfl, ⟨rfl, .inl ⟨rfl, rfl⟩⟩, Only.refl [] _⟩
end Go.Proofs.Ytopjkmobnmaaaaa
