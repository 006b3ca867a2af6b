/-
  Proves: for all sides, bytes, and matrices, PixelMakes tells true, and leaves all that was there as it was.
-/
import Derived.Test.YtngaabnmhcncmaaPxV
import Derived.Test.YtngaabnmhcncmaaPxL
import Derived.Test.YtngaabnmhcncmaaLaw
import Derived.Test.YtngaabnmhcncmaaOpen
import Derived.Test.YtngaabnmhcncmaaLater
namespace Go.Proofs.Ytngaabnmhcncmaa.pmakes
open Go Go.RowKit Go.ChangeShapes Go.WideShapes Go.ChangeAt

/-- A matrix that lies in a box, its bytes in a row. -/
structure Mt (w : World) (g : Nat) (t : TypeId) (W H : Int) (A : Option Addr) (n c : Nat) (l : List UInt8) : Prop where
  box : Has w g t #[.int .i64 W, .int .i64 H, .slice A n c]
  row : Holds w 1 A n (bvals l)
theorem Mt.only {w w' : World} {g : Nat} {t : TypeId} {W H : Int} {A : Option Addr} {n c : Nat} {l : List UInt8} (h : Mt w g t W H A n c l) (ho : Only [] w w') : Mt w' g t W H A n c l :=
  ⟨h.box.only ho (by simp), h.row.keep ho (by simp)⟩
theorem Mt.cells {w : World} {g : Nat} {t : TypeId} {W H : Int} {A : Option Addr} {n c : Nat} {l : List UInt8} (h : Mt w g t W H A n c l) :
    w.cell? ⟨g, 0, none⟩ = some (.int .i64 W) ∧ w.cell? ⟨g, 1, none⟩ = some (.int .i64 H) ∧ w.cell? ⟨g, 2, none⟩ = some (.slice A n c) := ⟨h.box.cell 0, h.box.cell 1, h.box.cell 2⟩
theorem Mt.new {w : World} {t : TypeId} {W H : Int} {A : Option Addr} {n c : Nat} {l : List UInt8} (h : Holds w 1 A n (bvals l)) : Mt (w.alloc (.cells #[.int .i64 W, .int .i64 H, .slice A n c] t)) w.heap.size t W H A n c l :=
  ⟨Has.new w _ _, h.keep ((Only.refl [] w).alloc _) (by simp)⟩
theorem sameB_self (W H : Int) (l : List UInt8) : sameB W H W H l l = true := by simp [sameB]

/-- A call that tells a matrix and an error. -/
def Tells (X Y : Int) (L : List UInt8) (ee : Nat) (w : World) (e : Ending) (w' : World) : Prop :=
  ∃ A c, e = .returned (.tuple #[mval X Y A L.length c, .int .i64 (ee : Int)]) ∧ Holds w' 1 A L.length (bvals L) ∧ Only [] w w'
theorem tells_of {B : Nat} {X Y : Int} {L : List UInt8} {ee : Nat} {w : World} {e : Ending} {w' : World} (h : ∃ v, e = .returned (.tuple #[v, .int .i64 (ee : Int)]) ∧ Own w' B X Y v L ∧ Only [] w w') : Tells X Y L ee w e w' := by
  obtain ⟨v, rfl, ⟨A, c, rfl, ho⟩, h1⟩ := h
  exact ⟨A, c, rfl, Holds.of_own ho, h1⟩

theorem rgb_both (W H : Int) (A : Option Addr) (n c : Nat) (l : List UInt8) (hl : l.length = n) (hc : n ≤ c) : ∃ (X Y : Int) (L : List UInt8) (ee : Nat),
    (∀ w, Holds w 1 A n (bvals l) → Calls Try.prog 15 #[.int .i64 W, .int .i64 H, .slice A n c] w (Tells X Y L ee w)) ∧
    (∀ w, Holds w 1 A n (bvals l) → Calls Try.prog 16 #[.int .i64 W, .int .i64 H, .slice A n c, .int .i64 3] w (Tells X Y L ee w)) := by
  by_cases hf : faultE W H 3 n = 0
  · refine ⟨W, H, rgbL l (W.toNat * H.toNat), 0, fun w hb => (rgb_ok W H A n c l w hf hb hl hc).mono fun e w' h => tells_of h, fun w hb => ?_⟩
    have h := from_ok W H 3 A n c l w (.inl rfl) hf hb hl
    rw [fromL_3] at h
    exact h.mono fun e w' h => tells_of h
  · exact ⟨0, 0, [], faultE W H 3 n, fun w _ => (rgb_bad W H A n c w hf).mono fun e w' h => tells_of h, fun w _ => (from_bad W H 3 A n c w (.inl rfl) hf).mono fun e w' h => tells_of h⟩
theorem rgba_both (W H : Int) (A : Option Addr) (n c : Nat) (l : List UInt8) (hl : l.length = n) (hn : n ≤ 16384) (hA : A = none → c = 0 ∧ n = 0) : ∃ (X Y : Int) (L : List UInt8) (ee : Nat),
    (∀ w, Holds w 1 A n (bvals l) → Calls Try.prog 17 #[.int .i64 W, .int .i64 H, .slice A n c] w (Tells X Y L ee w)) ∧
    (∀ w, Holds w 1 A n (bvals l) → Calls Try.prog 16 #[.int .i64 W, .int .i64 H, .slice A n c, .int .i64 4] w (Tells X Y L ee w)) := by
  by_cases hf : faultE W H 4 n = 0
  · refine ⟨W, H, l, 0, fun w hb => (rgba_ok W H A n c l w hf hb hl (by omega) hA).mono fun e w' h => tells_of h, fun w hb => ?_⟩
    have h := from_ok W H 4 A n c l w (.inr rfl) hf hb hl
    obtain ⟨x, y, rfl, rfl, _, hnn⟩ := faultE_ok hf
    rw [fromL_4 l _ (by rw [hl, hnn, Int.toNat_natCast, Int.toNat_natCast]; omega)] at h
    exact h.mono fun e w' h => tells_of h
  · exact ⟨0, 0, [], faultE W H 4 n, fun w _ => (rgba_bad W H A n c w hf).mono fun e w' h => tells_of h, fun w _ => (from_bad W H 4 A n c w (.inr rfl) hf).mono fun e w' h => tells_of h⟩

set_option maxRecDepth 100000 in
set_option maxHeartbeats 8000000 in
/-- Too much for a play: true is told. -/
theorem out (W H : Int) (A A2 : Option Addr) (n c n2 c2 : Nat) (X Y : Int) (w : World) (h : smallB W H = false ∨ 16384 < n ∨ 16384 < n2) :
    Calls Try.prog 3 #[.int .i64 W, .int .i64 H, .slice A n c, mval X Y A2 n2 c2] w fun e w' => e = .returned (.bool true) ∧ Only [] w w' := by
  show Calls Try.prog 3 #[.int .i64 W, .int .i64 H, .slice A n c, .agg #[.int .i64 X, .int .i64 Y, .slice A2 n2 c2]] w _
  have HK := hide (fun w => known_any w)
  have HS := hide (small_any W H)
  have HF := hide (fun w => few_any X Y A2 n2 c2 w)
  have o0 : Only [] w (w.alloc (.cells #[.int .i64 X, .int .i64 Y, .slice A2 n2 c2] 24)) := (Only.refl [] w).alloc _
  have hb0 : Has (w.alloc (.cells #[.int .i64 X, .int .i64 Y, .slice A2 n2 c2] 24)) w.heap.size 24 #[.int .i64 X, .int .i64 Y, .slice A2 n2 c2] := Has.new w _ _
  cases hsm : smallB W H with
  | false =>
    rw [hsm] at HS
    clear hsm h
    go_enter Try.func3, Try.ntmps3
    go_wp2_with fail
    refine (HK.out _).mono ?_
    rintro e w1 ⟨rfl, ho1⟩
    go_wp2_with fail
    refine (HS.out _).mono ?_
    rintro e w2 ⟨rfl, rfl⟩
    go_wp2_with fail
    go_ret
    exact ⟨rfl, o0.trans ho1 (S := []) (by simp)⟩
  | true =>
    rw [hsm] at HS h
    by_cases hn : 16384 < n
    · have hn' : (16384 : Int) < (n : Int) := by omega
      clear hsm h
      go_enter Try.func3, Try.ntmps3
      go_wp2_with fail
      refine (HK.out _).mono ?_
      rintro e w1 ⟨rfl, ho1⟩
      go_wp2_with fail
      refine (HS.out _).mono ?_
      rintro e w2 ⟨rfl, rfl⟩
      go_wp2_with fail
      go_ret
      exact ⟨rfl, o0.trans ho1 (S := []) (by simp)⟩
    · have hn' : ¬ (16384 : Int) < (n : Int) := by omega
      have hd : decide (n2 ≤ 16384) = false := decide_eq_false (by rcases h with h | h | h; cases h; omega; omega)
      rw [hd] at HF
      unfold mval at HF
      clear hsm h hd hn
      go_enter Try.func3, Try.ntmps3
      go_wp2_with fail
      refine (HK.out _).mono ?_
      rintro e w1 ⟨rfl, ho1⟩
      have hb1 := hb0.only ho1 (by simp)
      have b0 := hb1.cell 0
      have b1 := hb1.cell 1
      have b2 := hb1.cell 2
      simp only [List.getElem?_toArray, List.getElem?_cons_zero, List.getElem?_cons_succ] at b0 b1 b2
      go_wp2_with fail
      refine (HS.out _).mono ?_
      rintro e w2 ⟨rfl, rfl⟩
      go_wp2_with fail
      refine (HF.out _).mono ?_
      rintro e w3 ⟨rfl, ho3⟩
      have o3 := (o0.trans ho1 (S := []) (by simp)).trans ho3 (S := []) (by simp)
      go_wp2_with fail
      go_ret
      exact ⟨rfl, o3⟩

set_option maxRecDepth 100000 in
set_option maxHeartbeats 16000000 in
theorem core (W H : Int) (A A2 : Option Addr) (n c n2 c2 : Nat) (l l2 : List UInt8) (X Y : Int) (w : World) (hsm : smallB W H = true) (hn : n ≤ 16384) (hn2 : n2 ≤ 16384) (hl : l.length = n) (hc : n ≤ c) (hA : A = none → c = 0 ∧ n = 0) (hb : Holds w 1 A n (bvals l)) (hb2 : Holds w 1 A2 n2 (bvals l2)) :
    Calls Try.prog 3 #[.int .i64 W, .int .i64 H, .slice A n c, mval X Y A2 n2 c2] w fun e w' => e = .returned (.bool true) ∧ Only [] w w' := by
  show Calls Try.prog 3 #[.int .i64 W, .int .i64 H, .slice A n c, .agg #[.int .i64 X, .int .i64 Y, .slice A2 n2 c2]] w _
  have HK := hide (fun w => known_any w)
  have HS := hide (small_any W H)
  rw [hsm] at HS
  have HF := hide (fun w => few_any X Y A2 n2 c2 w)
  rw [decide_eq_true hn2] at HF
  have HN := hide (fun w => (new_any W H w).mono fun e w' h => tells_of h)
  have HN' := hide (fun w => (tNew_any W H w).mono fun e w' h => tells_of h)
  obtain ⟨X3, Y3, L3, e3, h3, h3'⟩ := rgb_both W H A n c l hl hc
  obtain ⟨X4, Y4, L4, e4, h4, h4'⟩ := rgba_both W H A n c l hl hn hA
  have H3 := hide (And.intro h3 (And.intro h3' (And.intro h4 h4')))
  clear h3 h3' h4 h4'
  generalize newW W H = X1 at *
  generalize newW H W = Y1 at *
  generalize newL W H = L1 at *
  generalize newE7 W H = e1 at *
  have HRi := hide (fun w => right_any X Y A2 n2 c2 w)
  have HRi' := hide (fun w => tRight_any X Y A2 n2 c2 w)
  have HOf := hide (fun w => of_any X Y A2 n2 c2 w)
  generalize rightB X Y n2 = rb at *
  have o0 : Only [] w (w.alloc (.cells #[.int .i64 X, .int .i64 Y, .slice A2 n2 c2] 24)) := (Only.refl [] w).alloc _
  have hM := Mt.new (t := 24) (W := X) (H := Y) (c := c2) hb2
  have HB := hide hb
  have hn' : ¬ (16384 : Int) < (n : Int) := by omega
  clear hb hb2 hsm hn hn2 hl hA
  unfold mval at HF HRi HRi' HOf
  go_enter Try.func3, Try.ntmps3
  go_wp2_with fail
  refine (HK.out _).mono ?_
  rintro e w1 ⟨rfl, ho1⟩
  have o1 := o0.trans ho1 (S := []) (by simp)
  have hM1 := hM.only ho1
  clear hM o0 ho1
  obtain ⟨b0, b1, b2⟩ := hM1.cells
  go_wp2_with fail
  refine (HS.out _).mono ?_
  rintro e w2 ⟨rfl, rfl⟩
  go_wp2_with fail
  refine (HF.out _).mono ?_
  rintro e w3 ⟨rfl, ho3⟩
  have o3 := o1.trans ho3 (S := []) (by simp)
  have hM3 := hM1.only ho3
  clear hM1 o1 ho3 b0 b1 b2 HK HS HF
  go_wp2_with fail
  refine (HN.out _).mono ?_
  rintro e w4 ⟨A5, c5, rfl, hb5, ho4⟩
  have oa := (Only.refl [] w4).alloc (.cells #[.int .i64 X1, .int .i64 Y1, .slice A5 L1.length c5] 24)
  have o4 := (o3.trans ho4 (S := []) (by simp)).trans oa (S := []) (by simp)
  have hM4 := (hM3.only ho4).only oa
  have m1 := Mt.new (t := 24) (W := X1) (H := Y1) (c := c5) hb5
  clear o3 ho4 oa hM3 hb5
  unfold mval
  go_wp2_with fail
  refine (HN'.out _).mono ?_
  rintro e w5 ⟨A6, c6, rfl, hb6, ho5⟩
  have oa := (Only.refl [] w5).alloc (.cells #[.int .i64 X1, .int .i64 Y1, .slice A6 L1.length c6] 31)
  have o5 := (o4.trans ho5 (S := []) (by simp)).trans oa (S := []) (by simp)
  have hM5 := (hM4.only ho5).only oa
  have m1a := (m1.only ho5).only oa
  have m2 := Mt.new (t := 31) (W := X1) (H := Y1) (c := c6) hb6
  clear o4 ho5 oa hM4 hb6 m1
  unfold mval
  go_wp2_with fail
  refine (H3.out.1 _ (HB.out.keep o5 (by simp))).mono ?_
  rintro e w6 ⟨A7, c7, rfl, hb7, ho6⟩
  have oa := (Only.refl [] w6).alloc (.cells #[.int .i64 X3, .int .i64 Y3, .slice A7 L3.length c7] 24)
  have o6 := (o5.trans ho6 (S := []) (by simp)).trans oa (S := []) (by simp)
  have hM6 := (hM5.only ho6).only oa
  have m1b := (m1a.only ho6).only oa
  have m2b := (m2.only ho6).only oa
  have m3 := Mt.new (t := 24) (W := X3) (H := Y3) (c := c7) hb7
  clear o5 ho6 oa hM5 hb7 m1a m2
  unfold mval
  go_wp2_with fail
  refine (H3.out.2.1 _ (HB.out.keep o6 (by simp))).mono ?_
  rintro e w7 ⟨A8, c8, rfl, hb8, ho7⟩
  have oa := (Only.refl [] w7).alloc (.cells #[.int .i64 X3, .int .i64 Y3, .slice A8 L3.length c8] 31)
  have o7 := (o6.trans ho7 (S := []) (by simp)).trans oa (S := []) (by simp)
  have hM7 := (hM6.only ho7).only oa
  have m1c := (m1b.only ho7).only oa
  have m2c := (m2b.only ho7).only oa
  have m3c := (m3.only ho7).only oa
  have m4 := Mt.new (t := 31) (W := X3) (H := Y3) (c := c8) hb8
  clear o6 ho7 oa hM6 hb8 m1b m2b m3
  unfold mval
  go_wp2_with fail
  refine (H3.out.2.2.1 _ (HB.out.keep o7 (by simp))).mono ?_
  rintro e w8 ⟨A9, c9, rfl, hb9, ho8⟩
  have oa := (Only.refl [] w8).alloc (.cells #[.int .i64 X4, .int .i64 Y4, .slice A9 L4.length c9] 24)
  have o8 := (o7.trans ho8 (S := []) (by simp)).trans oa (S := []) (by simp)
  have hM8 := (hM7.only ho8).only oa
  have m1d := (m1c.only ho8).only oa
  have m2d := (m2c.only ho8).only oa
  have m3d := (m3c.only ho8).only oa
  have m4d := (m4.only ho8).only oa
  have m5 := Mt.new (t := 24) (W := X4) (H := Y4) (c := c9) hb9
  clear o7 ho8 oa hM7 hb9 m1c m2c m3c m4
  unfold mval
  go_wp2_with fail
  refine (H3.out.2.2.2 _ (HB.out.keep o8 (by simp))).mono ?_
  rintro e w9 ⟨A10, c10, rfl, hb10, ho9⟩
  have oa := (Only.refl [] w9).alloc (.cells #[.int .i64 X4, .int .i64 Y4, .slice A10 L4.length c10] 31)
  have o9 := (o8.trans ho9 (S := []) (by simp)).trans oa (S := []) (by simp)
  have hM9 := (hM8.only ho9).only oa
  have m1e := (m1d.only ho9).only oa
  have m2e := (m2d.only ho9).only oa
  have m3e := (m3d.only ho9).only oa
  have m4e := (m4d.only ho9).only oa
  have m5e := (m5.only ho9).only oa
  have m6 := Mt.new (t := 31) (W := X4) (H := Y4) (c := c10) hb10
  clear o8 ho9 oa hM8 hb10 m1d m2d m3d m4d m5
  unfold mval
  go_wp2_with fail
  generalize w9.alloc (.cells #[.int .i64 X4, .int .i64 Y4, .slice A10 L4.length c10] 31) = wz at *
  generalize w4.heap.size = g1 at *
  generalize w5.heap.size = g2 at *
  generalize w6.heap.size = g3 at *
  generalize w7.heap.size = g4 at *
  generalize w8.heap.size = g5 at *
  generalize w9.heap.size = g6 at *
  generalize w.heap.size = g0 at *
  have HA1 : Hid (∀ w', Only [] wz w' → Calls Try.prog 18 #[.agg #[.int .i64 X1, .int .i64 Y1, .slice A5 L1.length c5], .agg #[.int .i64 X1, .int .i64 Y1, .slice A6 L1.length c6]] w' fun e w'' => e = .returned (.bool true) ∧ Only [] w' w'') := hide (fun w' ho => by
    have h := alike_any X1 Y1 X1 Y1 A5 A6 _ _ c5 c6 L1 L1 w' (m1e.only ho).row (m2e.only ho).row
    rw [sameB_self] at h; exact h)
  have HA2 : Hid (∀ w', Only [] wz w' → Calls Try.prog 18 #[.agg #[.int .i64 X3, .int .i64 Y3, .slice A7 L3.length c7], .agg #[.int .i64 X3, .int .i64 Y3, .slice A8 L3.length c8]] w' fun e w'' => e = .returned (.bool true) ∧ Only [] w' w'') := hide (fun w' ho => by
    have h := alike_any X3 Y3 X3 Y3 A7 A8 _ _ c7 c8 L3 L3 w' (m3e.only ho).row (m4e.only ho).row
    rw [sameB_self] at h; exact h)
  have HA3 : Hid (∀ w', Only [] wz w' → Calls Try.prog 18 #[.agg #[.int .i64 X4, .int .i64 Y4, .slice A9 L4.length c9], .agg #[.int .i64 X4, .int .i64 Y4, .slice A10 L4.length c10]] w' fun e w'' => e = .returned (.bool true) ∧ Only [] w' w'') := hide (fun w' ho => by
    have h := alike_any X4 Y4 X4 Y4 A9 A10 _ _ c9 c10 L4 L4 w' (m5e.only ho).row (m6.only ho).row
    rw [sameB_self] at h; exact h)
  have hc1 := m1e.cells
  have hc2 := m2e.cells
  have hc3 := m3e.cells
  have hc4 := m4e.cells
  have hc5 := m5e.cells
  have hc6 := m6.cells
  have hcM := hM9.cells
  have p1 := later_cell hc1.1
  have p2 := later_cell hc1.2.1
  have p3 := later_cell hc1.2.2
  have p4 := later_cell hc2.1
  have p5 := later_cell hc2.2.1
  have p6 := later_cell hc2.2.2
  have r1 := later_cell hc3.1
  have r2 := later_cell hc3.2.1
  have r3 := later_cell hc3.2.2
  have r4 := later_cell hc4.1
  have r5 := later_cell hc4.2.1
  have r6 := later_cell hc4.2.2
  have s1 := later_cell hc5.1
  have s2 := later_cell hc5.2.1
  have s3 := later_cell hc5.2.2
  have s4 := later_cell hc6.1
  have s5 := later_cell hc6.2.1
  have s6 := later_cell hc6.2.2
  have t1 := later_cell hcM.1
  have t2 := later_cell hcM.2.1
  have t3 := later_cell hcM.2.2
  have HO9 := hide o9
  clear hM9 m1e m2e m3e m4e m5e m6 o9 HN HN' H3 HB hn' hc hc1 hc2 hc3 hc4 hc5 hc6 hcM
  refine region_later (by kernel_rfl) (by kernel_rfl) ?_
  repeat (go_big_quiet_step (first
    | (go_at_call 18; refine later_of (HA1.out _ (Later.only _)))
    | (go_at_call 18; refine later_of (HA2.out _ (Later.only _)))
    | (go_at_call 18; refine later_of (HA3.out _ (Later.only _)))
    | (go_at_call 19; refine later_of (HRi.out _))
    | (go_at_call 21; refine later_of (HOf.out _))
    | (go_at_call 20; refine later_of (HRi'.out _))))
  refine wpQuiet_nil ?_
  intro _ hw'
  obtain ⟨nq, hw''⟩ := hw'
  subst hw''
  go_wp2_with fail
  go_ret
  exact ⟨by simp, HO9.out.trans nq.only (by simp)⟩

theorem whole (W H : Int) (A A2 : Option Addr) (n c n2 c2 : Nat) (l l2 : List UInt8) (X Y : Int) (w : World) (hl : l.length = n) (hc : n ≤ c) (hA : A = none → c = 0 ∧ n = 0) (hb : Holds w 1 A n (bvals l)) (hb2 : Holds w 1 A2 n2 (bvals l2)) :
    Calls Try.prog 3 #[.int .i64 W, .int .i64 H, .slice A n c, mval X Y A2 n2 c2] w fun e w' => e = .returned (.bool true) ∧ Only [] w w' := by
  by_cases h : smallB W H = false ∨ 16384 < n ∨ 16384 < n2
  · exact out W H A A2 n c n2 c2 X Y w h
  · have hs : smallB W H = true := by cases hx : smallB W H with
      | true => rfl
      | false => exact absurd (.inl hx) h
    exact core W H A A2 n c n2 c2 l l2 X Y w hs (by omega) (by omega) hl hc hA hb hb2
set_option maxRecDepth 100000 in
theorem lifted (os : Os) (started : os.Started) (H : Type) (enc : TypeId × Value → H) :
    ReturnsInHanded {} Try.checked os 3 .any (Rows.pixelMakesSpec.pre6 enc Try.prog Try.f3 Rows.pixelMakesRow.domain false)
      (Rows.pixelMakesSpec.post enc Try.prog Try.f3 false true false false) := by
  refine returnsInHanded_of_change (C := Try.checked) own_knob started (by kernel_rfl) Try.func3
    (ChangeSpec.witness6 (enc := enc) (C := Try.checked) false ⟨#[], #[.int .i64 0, .int .i64 0, .slice none 0 0, .agg #[.int .i64 0, .int .i64 0, .slice none 0 0]], []⟩ 8 (by kernel_rfl) (by kernel_rfl) (by kernel_rfl) (by kernel_rfl)) ?_
  intro W base args ds gs before hval0 hW hcnd _
  have hval : ∀ (j : Nat) t v, Try.f3.params[j]? = some t → args[j]? = some v → Value.okWide Try.prog W .any base t v := hval0
  have hW' := hW
  obtain ⟨p, q, hA0, hV, rfl, hfz, hnd⟩ := hW
  have hA : DataW.TrodAll enc Try.prog W 0 (fun _ => true) true Try.f3.params.toList args.toList ds p := hA0
  rw [Try.params3] at hA hval
  obtain ⟨v0, vs0, d0, ds0, p0, q0, hargs, rfl, rfl, h0, r0⟩ := trodAll_cons hA
  obtain ⟨v1, vs1, d1, ds1, p1, q1, rfl, rfl, rfl, h1, r1⟩ := trodAll_cons r0
  obtain ⟨v2, vs2, d2, ds2, p2, q2, rfl, rfl, rfl, h2, r2⟩ := trodAll_cons r1
  obtain ⟨v3, vs3, d3, ds3, p3, q3, rfl, rfl, rfl, h3, r3⟩ := trodAll_cons r2
  obtain ⟨rfl, rfl, rfl⟩ := trodAll_nil r3
  obtain rfl : args = #[v0, v1, v2, v3] := by cases args; simp_all
  obtain ⟨z0, rfl, rfl, rfl, _⟩ := open_int Try.underlying3 (hval 0 3 v0 rfl rfl) h0
  obtain ⟨z1, rfl, rfl, rfl, _⟩ := open_int Try.underlying3 (hval 1 3 v1 rfl rfl) h1
  obtain ⟨A2, n2, c2, l2, rfl, hc2, cm2, hA2, hl2, hb2⟩ := open_bytes Try.underlying22 Try.underlying5 (by kernel_rfl) (hval 2 22 v2 rfl rfl) h2
  obtain ⟨W3, H3, A3, n3, c3, l3, rfl, hW3, hH3, hc3, cm3, hA3, hl3, hb3⟩ := open_mat (hval 3 24 v3 rfl rfl) h3
  unfold maxLen at *
  refine (whole z0 z1 A2 A3 n2 c2 n3 c3 l2 l3 W3 H3 W hl2 hc2 hA2 hb2 hb3).mono fun e W' ⟨he, ho⟩ => ?_
  subst he
  exact ⟨_, rfl, law_post rfl hW' (by intro t ht; revert t; exact of_decide_eq_true (by kernel_rfl)) rfl rfl ho⟩

theorem proved : Rows.PixelMakesSaid :=
  OpenClaim.holds_of_wide 3 Try.f3 rfl rfl rfl rfl rfl rfl rfl ⟨rfl, rfl, rfl, rfl, rfl⟩ rfl rfl rfl rfl rfl (by kernel_rfl) Try.func3 (by kernel_rfl)
    (of_decide_eq_true (by kernel_rfl)) (by unfold Func.isWrapper; first | (rw [if_pos (by decide +kernel)]; kernel_rfl) | (rw [if_neg (by decide +kernel)]; exact ⟨rfl, rfl⟩))
    (fun os started H enc _ => lifted os started H enc)
end Go.Proofs.Ytngaabnmhcncmaa.pmakes
