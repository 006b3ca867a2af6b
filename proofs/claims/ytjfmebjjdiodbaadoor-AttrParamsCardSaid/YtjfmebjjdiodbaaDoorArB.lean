/-
  The document's attributes: which may be; the numbers behind 38, 48.
-/
import Derived.Test.YtjfmebjjdiodbaaDoorArA
namespace Go.Proofs.YtjfmebjjdiodbaaDoor
open Go Go.RowKit

set_option maxRecDepth 100000 in
set_option maxHeartbeats 4000000 in
theorem rightColour_any (c : Int) (w : World) : Calls Tryd.prog 26 #[.int .i64 c] w fun e w' => e = .returned (.bool (rightI c)) ∧ Only [] w w' := by
  unfold rightI
  have o := Only.refl [] w
  rcases (show c < 0 ∨ c = 0 ∨ (1 ≤ c ∧ c ≤ 16777215) ∨ (16777216 ≤ c ∧ c ≤ 16777471) ∨ (16777472 ≤ c ∧ c ≤ 33554431) ∨ (33554432 ≤ c ∧ c < 50331648) ∨ 50331648 ≤ c by omega) with h | rfl | ⟨h, h'⟩ | ⟨h, h'⟩ | ⟨h, h'⟩ | ⟨h, h'⟩ | h
  · rw [decide_eq_false (by omega)]
    have h0 : (c == 0) = false := beq_eq_false_iff_ne.2 (by omega)
    have d1 : decide (c ≤ 16777471) = true := decide_eq_true (by omega)
    have d2 : decide (c < 50331648) = true := decide_eq_true (by omega)
    go_enter Tryd.func26, Tryd.ntmps26
    go_wp2_with fail
    go_ret
    exact ⟨rfl, o⟩
  · rw [decide_eq_true (by omega)]
    go_enter Tryd.func26, Tryd.ntmps26
    go_wp2_with fail
    go_ret
    exact ⟨rfl, o⟩
  · rw [decide_eq_false (by omega)]
    have h0 : (c == 0) = false := beq_eq_false_iff_ne.2 (by omega)
    have d1 : decide (c ≤ 16777471) = true := decide_eq_true (by omega)
    have d2 : decide (c < 50331648) = true := decide_eq_true (by omega)
    go_enter Tryd.func26, Tryd.ntmps26
    go_wp2_with fail
    go_ret
    exact ⟨rfl, o⟩
  · rw [decide_eq_true (by omega)]
    have h0 : (c == 0) = false := beq_eq_false_iff_ne.2 (by omega)
    have d1 : decide (c ≤ 16777471) = true := decide_eq_true (by omega)
    have d2 : decide (c < 50331648) = true := decide_eq_true (by omega)
    go_enter Tryd.func26, Tryd.ntmps26
    go_wp2_with fail
    go_ret
    exact ⟨rfl, o⟩
  · rw [decide_eq_false (by omega)]
    have h0 : (c == 0) = false := beq_eq_false_iff_ne.2 (by omega)
    have d1 : decide (c ≤ 16777471) = false := decide_eq_false (by omega)
    have d2 : decide (c < 50331648) = true := decide_eq_true (by omega)
    go_enter Tryd.func26, Tryd.ntmps26
    go_wp2_with fail
    go_ret
    exact ⟨rfl, o⟩
  · rw [decide_eq_true (by omega)]
    have h0 : (c == 0) = false := beq_eq_false_iff_ne.2 (by omega)
    have d1 : decide (c ≤ 16777471) = false := decide_eq_false (by omega)
    have d2 : decide (c < 50331648) = true := decide_eq_true (by omega)
    go_enter Tryd.func26, Tryd.ntmps26
    go_wp2_with fail
    go_ret
    exact ⟨rfl, o⟩
  · rw [decide_eq_false (by omega)]
    have h0 : (c == 0) = false := beq_eq_false_iff_ne.2 (by omega)
    have d1 : decide (c ≤ 16777471) = false := decide_eq_false (by omega)
    have d2 : decide (c < 50331648) = false := decide_eq_false (by omega)
    go_enter Tryd.func26, Tryd.ntmps26
    go_wp2_with fail
    go_ret
    exact ⟨rfl, o⟩

set_option maxRecDepth 100000 in
theorem rright_any (a : At) (w : World) :
    Calls Tryd.prog 12 #[a.val] w fun e w' => e = .returned (.bool (rightA a)) ∧ Only [] w w' := by
  have HF := hide (rightColour_any a.fg)
  have HB := hide (rightColour_any a.bg)
  unfold rightA
  show Calls Tryd.prog 12 #[.agg #[.int .i64 a.fg, .int .i64 a.bg, .int .i64 a.fl]] w _
  have hh := Has.new w 23 #[.int .i64 a.fg, .int .i64 a.bg, .int .i64 a.fl]
  have oo := (Only.refl [] w).alloc (.cells #[.int .i64 a.fg, .int .i64 a.bg, .int .i64 a.fl] 23)
  have HH := hide (And.intro hh oo)
  clear hh oo
  generalize rightI a.fg = v1 at *
  generalize rightI a.bg = v2 at *
  cases v1 with
  | false =>
    go_enter Tryd.func12, Tryd.ntmps12
    go_wp2_with fail
    refine (HF.out _).mono ?_
    rintro e w1 ⟨rfl, ho⟩
    go_wp2_with fail
    go_ret
    exact ⟨rfl, HH.out.2.trans ho (by simp)⟩
  | true =>
    cases v2 with
    | false =>
      go_enter Tryd.func12, Tryd.ntmps12
      go_wp2_with fail
      refine (HF.out _).mono ?_
      rintro e w1 ⟨rfl, ho⟩
      have c1 := (HH.out.1.only ho (by simp)).cell 1
      simp only [List.getElem?_toArray, List.getElem?_cons_zero, List.getElem?_cons_succ] at c1
      go_wp2_with fail
      refine (HB.out _).mono ?_
      rintro e w2 ⟨rfl, ho2⟩
      go_wp2_with fail
      go_ret
      exact ⟨rfl, (HH.out.2.trans ho (S := []) (by simp)).trans ho2 (by simp)⟩
    | true =>
      by_cases h0 : 0 ≤ a.fl
      · have e0 : decide (0 ≤ a.fl) = true := decide_eq_true h0
        rw [e0]
        go_enter Tryd.func12, Tryd.ntmps12
        go_wp2_with fail
        refine (HF.out _).mono ?_
        rintro e w1 ⟨rfl, ho⟩
        have c1 := (HH.out.1.only ho (by simp)).cell 1
        simp only [List.getElem?_toArray, List.getElem?_cons_zero, List.getElem?_cons_succ] at c1
        go_wp2_with fail
        refine (HB.out _).mono ?_
        rintro e w2 ⟨rfl, ho2⟩
        have c2 := ((HH.out.1.only ho (by simp)).only ho2 (by simp)).cell 2
        simp only [List.getElem?_toArray, List.getElem?_cons_zero, List.getElem?_cons_succ] at c2
        go_wp2_with fail
        go_ret
        exact ⟨rfl, (HH.out.2.trans ho (S := []) (by simp)).trans ho2 (by simp)⟩
      · have e0 : decide (0 ≤ a.fl) = false := decide_eq_false h0
        rw [e0]
        go_enter Tryd.func12, Tryd.ntmps12
        go_wp2_with fail
        refine (HF.out _).mono ?_
        rintro e w1 ⟨rfl, ho⟩
        have c1 := (HH.out.1.only ho (by simp)).cell 1
        simp only [List.getElem?_toArray, List.getElem?_cons_zero, List.getElem?_cons_succ] at c1
        go_wp2_with fail
        refine (HB.out _).mono ?_
        rintro e w2 ⟨rfl, ho2⟩
        have c2 := ((HH.out.1.only ho (by simp)).only ho2 (by simp)).cell 2
        simp only [List.getElem?_toArray, List.getElem?_cons_zero, List.getElem?_cons_succ] at c2
        go_wp2_with fail
        go_ret
        exact ⟨rfl, (HH.out.2.trans ho (S := []) (by simp)).trans ho2 (by simp)⟩

theorem r_results_cell_two {fn : Func} {p u : Tmp} {ty : TypeId} (h : fn.results = #[.cell p ty, .tmp u]) (tmps : Array Value) (P : Program) (w : World) :
    (results fn tmps).run P w =
      ((asAddr (tmps.getD p undef)).run P w).andThen fun a w1 => ((loadVar ty a).run P w1).andThen fun x w2 => .ok (.tuple #[x, tmps.getD u undef]) w2 := by
  simp only [results, h]
  simp [Sem.run_bind, Result.andThen]
/-- Two results, the first one in a cell's row. -/
theorem r_results_row_two {P : Program} {fn : Func} {p u : Tmp} {ty : TypeId} (h : fn.results = #[.cell p ty, .tmp u]) (tmps : Array Value) (w : World) (g : Nat) (t : TypeId) (cs : Array Value) (d : TypeDesc)
    (hp : tmps.getD p undef = .pointer (some ⟨g, 0, none⟩)) (hg : Has w g t cs)
    (hu : P.underlying ty = some d) (hd : (match d with | .struct _ | .array _ _ => true | _ => false) = true) (hi : (P.info? ty).map (·.size) = some cs.size) :
    (results fn tmps).run P w = .ok (.tuple #[.agg cs, tmps.getD u undef]) w := by
  rw [r_results_cell_two h, hp]
  simp [asAddr, Result.andThen, run_loadVar_row w g t ty cs (0, 0) d hg hu hd hi]

/-- How many were used, as it is told: -1 where it can't be. -/
def longZ (l : List Int) : Int := if longN l = 0 then -1 else (longN l : Nat)

set_option maxRecDepth 100000 in
set_option maxHeartbeats 4000000 in
theorem rlong_any (a : At) (fore : Bool) (b o c : Nat) (l : List Int) (w : World) (hl : ∀ j u, (ivals l)[j]? = some u → w.cell? ⟨b, o + j, none⟩ = some u) (hb : b < w.heap.size) (h0 : 0 < l.length) (hf : (l.getD 0 0 == 38) = fore) :
    Calls Tryd.prog 23 #[a.val, .slice (some ⟨b, o, none⟩) l.length c] w fun e w' => e = .returned (.tuple #[(longA a fore l).val, .int .i64 (longZ l)]) ∧ Only [] w w' := by
  show Calls Tryd.prog 23 #[.agg #[.int .i64 a.fg, .int .i64 a.bg, .int .i64 a.fl], .slice (some ⟨b, o, none⟩) l.length c] w _
  have hbox := (Has.new w 23 #[.int .i64 a.fg, .int .i64 a.bg, .int .i64 a.fl]).alloc (.cells #[.int .i64 0, .int .i64 0, .int .i64 0] 23)
  have hres := Has.new (w.alloc (.cells #[.int .i64 a.fg, .int .i64 a.bg, .int .i64 a.fl] 23)) 23 #[.int .i64 0, .int .i64 0, .int .i64 0]
  simp only [World.size_alloc] at hres
  have oo := ((Only.refl [] w).alloc (.cells #[.int .i64 a.fg, .int .i64 a.bg, .int .i64 a.fl] 23)).alloc (.cells #[.int .i64 0, .int .i64 0, .int .i64 0] 23)
  have hc := fun j u hu => (oo.cell (p := ⟨b, o + j, none⟩) hb (by simp)).trans (hl j u hu)
  have c0 := hc 0 _ (ivals_get l 0 h0)
  have c1 := fun h => hc 1 _ (ivals_get l 1 h)
  have c2 := fun h => hc 2 _ (ivals_get l 2 h)
  have c3 := fun h => hc 3 _ (ivals_get l 3 h)
  have c4 := fun h => hc 4 _ (ivals_get l 4 h)
  have HS := hide (fun x w => rset_any a x fore w)
  have hN : longN l = if 2 < l.length ∧ l.getD 1 0 = 5 then 3 else if 4 < l.length ∧ l.getD 1 0 = 2 then 5 else 0 := rfl
  have hA : longA a fore l = if 2 < l.length ∧ l.getD 1 0 = 5 then (if isB (l.getD 2 0) then a.set fore (palA (l.getD 2 0)) else a) else if 4 < l.length ∧ l.getD 1 0 = 2 then (if isB (l.getD 2 0) && (isB (l.getD 3 0) && isB (l.getD 4 0)) then a.set fore (dirA (l.getD 2 0) (l.getD 3 0) (l.getD 4 0)) else a) else a := rfl
  have hZ : longZ l = if longN l = 0 then (-1 : Int) else ((longN l : Nat) : Int) := rfl
  generalize longN l = N at *
  generalize longA a fore l = A at *
  generalize longZ l = Z at *
  generalize l.getD 0 0 = x0 at *
  generalize l.getD 1 0 = x1 at *
  generalize l.getD 2 0 = x2 at *
  generalize l.getD 3 0 = x3 at *
  generalize l.getD 4 0 = x4 at *
  generalize l.length = n at *
  rw [Nat.add_zero] at c0
  have HW := hide (And.intro hbox (And.intro hres oo))
  clear hbox hres oo hc hl hb
  by_cases k1 : 2 < n ∧ x1 = 5
  · rw [if_pos k1] at hN hA
    subst hN
    rw [if_neg (by decide)] at hZ
    have HZ := hide hZ
    obtain ⟨k1, rfl⟩ := k1
    have d1 := c1 (by omega)
    have d2 := c2 (by omega)
    clear c1 c2 c3 c4 hZ
    have HB2 := hide (byteNumber_any x2)
    cases hb : isB x2 with
    | true =>
      rw [hb, if_pos rfl] at hA
      rw [hb] at HB2
      obtain ⟨b1, b2⟩ := isB_iff.1 hb
      have hor := pal_or b1 b2
      have HS := hide (HS.out (palA x2))
      generalize a.set fore (palA x2) = S at *
      generalize palA x2 = px at *
      obtain ⟨s0, s1, s2⟩ := S
      unfold At.val At.cells at HS
      have HA := hide hA
      clear hA hb
      go_enter Tryd.func23, Tryd.ntmps23
      go_wp2_with fail
      refine (HB2.out _).mono ?_
      rintro e w1 ⟨rfl, rfl⟩
      go_wp2_with fail
      obtain ⟨hbox, hres, oo⟩ := HW.out
      generalize (w.alloc (.cells #[.int .i64 a.fg, .int .i64 a.bg, .int .i64 a.fl] 23)).alloc (.cells #[.int .i64 0, .int .i64 0, .int .i64 0] 23) = W at *
      have m0 := later_cell (show W.cell? ⟨w.heap.size, 0, none⟩ = some (.int .i64 a.fg) from hbox.cell 0)
      have m1 := later_cell (show W.cell? ⟨w.heap.size, 1, none⟩ = some (.int .i64 a.bg) from hbox.cell 1)
      have m2 := later_cell (show W.cell? ⟨w.heap.size, 2, none⟩ = some (.int .i64 a.fl) from hbox.cell 2)
      have d1 := later_cell d1
      have d2 := later_cell d2
      have HX := hide (And.intro hbox (And.intro hres oo))
      clear hbox hres oo HW c0
      have q2 : (2 : Int) < (n : Int) := by omega
      refine region_later_tail 7 (by kernel_rfl) (by kernel_rfl) ?_
      simp only [List.take_succ_cons, List.take_zero, List.drop_succ_cons, List.drop_zero]
      iterate 6 (go_big_quiet_step (fail))
      go_big_quiet_step ((go_at_call 24; refine later_of (HS.out _)))
      refine wpQuiet_nil ?_
      rintro _ ⟨X, rfl⟩
      change wpList _ _ _ _ _ X.val
      have hbox := HX.out.1.only X.only (by simp)
      have hres := HX.out.2.1.only X.only (by simp)
      have oo := HX.out.2.2.trans X.only (S := []) (by simp)
      generalize X.val = Y at *
      clear m0 m1 m2 d1 d2
      have m0 : Y.cell? ⟨w.heap.size, 0, none⟩ = some (.int .i64 a.fg) := hbox.cell 0
      have m1 : Y.cell? ⟨w.heap.size, 1, none⟩ = some (.int .i64 a.bg) := hbox.cell 1
      have m2 : Y.cell? ⟨w.heap.size, 2, none⟩ = some (.int .i64 a.fl) := hbox.cell 2
      have f0 := hbox.free 0
      have f1 := hbox.free 1
      have f2 := hbox.free 2
      have z0 : Y.cell? ⟨w.heap.size + 1, 0, none⟩ = some (.int .i64 0) := hres.cell 0
      have z1 : Y.cell? ⟨w.heap.size + 1, 1, none⟩ = some (.int .i64 0) := hres.cell 1
      have z2 : Y.cell? ⟨w.heap.size + 1, 2, none⟩ = some (.int .i64 0) := hres.cell 2
      have y0 := hres.free 0
      have y1 := hres.free 1
      have y2 := hres.free 2
      have HX := hide (And.intro hbox (And.intro hres oo))
      clear hbox hres oo
      go_wp2_with fail
      rw [HA.out, HZ.out]
      exact bodyPost_ret (r_results_row_two Tryd.results23 _ _ (w.heap.size + 1) 23 _ _ rfl ((HX.out.2.1.other3 (by omega) (.int .i64 s0) (.int .i64 s1) (.int .i64 s2)).set3 (.int .i64 s0) (.int .i64 s1) (.int .i64 s2)) Tryd.underlying23 rfl (by kernel_rfl)) rfl ⟨rfl, (HX.out.2.2.set3 (by omega) (.int .i64 s0) (.int .i64 s1) (.int .i64 s2)).set3 (by omega) (.int .i64 s0) (.int .i64 s1) (.int .i64 s2)⟩
    | false =>
      rw [hb, if_neg (by decide)] at hA
      rw [hb] at HB2
      have HA := hide hA
      clear hA hb
      go_enter Tryd.func23, Tryd.ntmps23
      go_wp2_with fail
      refine (HB2.out _).mono ?_
      rintro e w1 ⟨rfl, rfl⟩
      obtain ⟨hbox, hres, oo⟩ := HW.out
      generalize (w.alloc (.cells #[.int .i64 a.fg, .int .i64 a.bg, .int .i64 a.fl] 23)).alloc (.cells #[.int .i64 0, .int .i64 0, .int .i64 0] 23) = W at *
      have m0 : W.cell? ⟨w.heap.size, 0, none⟩ = some (.int .i64 a.fg) := hbox.cell 0
      have m1 : W.cell? ⟨w.heap.size, 1, none⟩ = some (.int .i64 a.bg) := hbox.cell 1
      have m2 : W.cell? ⟨w.heap.size, 2, none⟩ = some (.int .i64 a.fl) := hbox.cell 2
      have z0 : W.cell? ⟨w.heap.size + 1, 0, none⟩ = some (.int .i64 0) := hres.cell 0
      have z1 : W.cell? ⟨w.heap.size + 1, 1, none⟩ = some (.int .i64 0) := hres.cell 1
      have z2 : W.cell? ⟨w.heap.size + 1, 2, none⟩ = some (.int .i64 0) := hres.cell 2
      have y0 := hres.free 0
      have y1 := hres.free 1
      have y2 := hres.free 2
      have HX := hide (And.intro hres oo)
      clear hbox hres oo HW
      go_wp2_with fail
      rw [HA.out, HZ.out]
      exact bodyPost_ret (r_results_row_two Tryd.results23 _ _ (w.heap.size + 1) 23 _ _ rfl (HX.out.1.set3 (.int .i64 a.fg) (.int .i64 a.bg) (.int .i64 a.fl)) Tryd.underlying23 rfl (by kernel_rfl)) rfl ⟨rfl, HX.out.2.set3 (by omega) (.int .i64 a.fg) (.int .i64 a.bg) (.int .i64 a.fl)⟩
  rw [if_neg k1] at hN hA
  --GEN2
  by_cases k2 : 4 < n ∧ x1 = 2
  · rw [if_pos k2] at hN hA
    subst hN
    rw [if_neg (by decide)] at hZ
    have HZ := hide hZ
    obtain ⟨k2, rfl⟩ := k2
    have d1 := c1 (by omega)
    have d2 := c2 (by omega)
    have d3 := c3 (by omega)
    have d4 := c4 (by omega)
    clear c1 c2 c3 c4 hZ k1
    have HB2 := hide (byteNumber_any x2)
    have HB3 := hide (byteNumber_any x3)
    have HB4 := hide (byteNumber_any x4)
    have hff : (isB x2 && (isB x3 && isB x4)) = false → A = a := fun h => by rw [h, if_neg (by decide)] at hA; exact hA
    have htt : isB x2 = true → isB x3 = true → isB x4 = true → A = a.set fore (dirA x2 x3 x4) := fun h1 h2 h3 => by rw [h1, h2, h3, if_pos (by decide)] at hA; exact hA
    have HF := hide hff
    have HT := hide htt
    clear hA hff htt
    cases hb2 : isB x2 with
    | false =>
      have HA := hide (HF.out (by rw [hb2]; rfl))
      rw [hb2] at HB2
      clear hb2 HF HT
      go_enter Tryd.func23, Tryd.ntmps23
      go_wp2_with fail
      refine (HB2.out _).mono ?_
      rintro e w1 ⟨rfl, rfl⟩
      obtain ⟨hbox, hres, oo⟩ := HW.out
      generalize (w.alloc (.cells #[.int .i64 a.fg, .int .i64 a.bg, .int .i64 a.fl] 23)).alloc (.cells #[.int .i64 0, .int .i64 0, .int .i64 0] 23) = W at *
      have m0 : W.cell? ⟨w.heap.size, 0, none⟩ = some (.int .i64 a.fg) := hbox.cell 0
      have m1 : W.cell? ⟨w.heap.size, 1, none⟩ = some (.int .i64 a.bg) := hbox.cell 1
      have m2 : W.cell? ⟨w.heap.size, 2, none⟩ = some (.int .i64 a.fl) := hbox.cell 2
      have z0 : W.cell? ⟨w.heap.size + 1, 0, none⟩ = some (.int .i64 0) := hres.cell 0
      have z1 : W.cell? ⟨w.heap.size + 1, 1, none⟩ = some (.int .i64 0) := hres.cell 1
      have z2 : W.cell? ⟨w.heap.size + 1, 2, none⟩ = some (.int .i64 0) := hres.cell 2
      have y0 := hres.free 0
      have y1 := hres.free 1
      have y2 := hres.free 2
      have HX := hide (And.intro hres oo)
      clear hbox hres oo HW
      go_wp2_with fail
      rw [HA.out, HZ.out]
      exact bodyPost_ret (r_results_row_two Tryd.results23 _ _ (w.heap.size + 1) 23 _ _ rfl (HX.out.1.set3 (.int .i64 a.fg) (.int .i64 a.bg) (.int .i64 a.fl)) Tryd.underlying23 rfl (by kernel_rfl)) rfl ⟨rfl, HX.out.2.set3 (by omega) (.int .i64 a.fg) (.int .i64 a.bg) (.int .i64 a.fl)⟩
    | true =>
      rw [hb2] at HB2
      cases hb3 : isB x3 with
      | false =>
        have HA := hide (HF.out (by rw [hb2, hb3]; rfl))
        rw [hb3] at HB3
        clear hb2 hb3 HF HT
        go_enter Tryd.func23, Tryd.ntmps23
        go_wp2_with fail
        refine (HB2.out _).mono ?_
        rintro e w1 ⟨rfl, rfl⟩
        go_wp2_with fail
        refine (HB3.out _).mono ?_
        rintro e w1 ⟨rfl, rfl⟩
        obtain ⟨hbox, hres, oo⟩ := HW.out
        generalize (w.alloc (.cells #[.int .i64 a.fg, .int .i64 a.bg, .int .i64 a.fl] 23)).alloc (.cells #[.int .i64 0, .int .i64 0, .int .i64 0] 23) = W at *
        have m0 : W.cell? ⟨w.heap.size, 0, none⟩ = some (.int .i64 a.fg) := hbox.cell 0
        have m1 : W.cell? ⟨w.heap.size, 1, none⟩ = some (.int .i64 a.bg) := hbox.cell 1
        have m2 : W.cell? ⟨w.heap.size, 2, none⟩ = some (.int .i64 a.fl) := hbox.cell 2
        have z0 : W.cell? ⟨w.heap.size + 1, 0, none⟩ = some (.int .i64 0) := hres.cell 0
        have z1 : W.cell? ⟨w.heap.size + 1, 1, none⟩ = some (.int .i64 0) := hres.cell 1
        have z2 : W.cell? ⟨w.heap.size + 1, 2, none⟩ = some (.int .i64 0) := hres.cell 2
        have y0 := hres.free 0
        have y1 := hres.free 1
        have y2 := hres.free 2
        have HX := hide (And.intro hres oo)
        clear hbox hres oo HW
        go_wp2_with fail
        rw [HA.out, HZ.out]
        exact bodyPost_ret (r_results_row_two Tryd.results23 _ _ (w.heap.size + 1) 23 _ _ rfl (HX.out.1.set3 (.int .i64 a.fg) (.int .i64 a.bg) (.int .i64 a.fl)) Tryd.underlying23 rfl (by kernel_rfl)) rfl ⟨rfl, HX.out.2.set3 (by omega) (.int .i64 a.fg) (.int .i64 a.bg) (.int .i64 a.fl)⟩
      | true =>
        rw [hb3] at HB3
        cases hb4 : isB x4 with
        | false =>
          have HA := hide (HF.out (by rw [hb2, hb3, hb4]; rfl))
          rw [hb4] at HB4
          clear hb2 hb3 hb4 HF HT
          go_enter Tryd.func23, Tryd.ntmps23
          go_wp2_with fail
          refine (HB2.out _).mono ?_
          rintro e w1 ⟨rfl, rfl⟩
          go_wp2_with fail
          refine (HB3.out _).mono ?_
          rintro e w1 ⟨rfl, rfl⟩
          go_wp2_with fail
          refine (HB4.out _).mono ?_
          rintro e w1 ⟨rfl, rfl⟩
          obtain ⟨hbox, hres, oo⟩ := HW.out
          generalize (w.alloc (.cells #[.int .i64 a.fg, .int .i64 a.bg, .int .i64 a.fl] 23)).alloc (.cells #[.int .i64 0, .int .i64 0, .int .i64 0] 23) = W at *
          have m0 : W.cell? ⟨w.heap.size, 0, none⟩ = some (.int .i64 a.fg) := hbox.cell 0
          have m1 : W.cell? ⟨w.heap.size, 1, none⟩ = some (.int .i64 a.bg) := hbox.cell 1
          have m2 : W.cell? ⟨w.heap.size, 2, none⟩ = some (.int .i64 a.fl) := hbox.cell 2
          have z0 : W.cell? ⟨w.heap.size + 1, 0, none⟩ = some (.int .i64 0) := hres.cell 0
          have z1 : W.cell? ⟨w.heap.size + 1, 1, none⟩ = some (.int .i64 0) := hres.cell 1
          have z2 : W.cell? ⟨w.heap.size + 1, 2, none⟩ = some (.int .i64 0) := hres.cell 2
          have y0 := hres.free 0
          have y1 := hres.free 1
          have y2 := hres.free 2
          have HX := hide (And.intro hres oo)
          clear hbox hres oo HW
          go_wp2_with fail
          rw [HA.out, HZ.out]
          exact bodyPost_ret (r_results_row_two Tryd.results23 _ _ (w.heap.size + 1) 23 _ _ rfl (HX.out.1.set3 (.int .i64 a.fg) (.int .i64 a.bg) (.int .i64 a.fl)) Tryd.underlying23 rfl (by kernel_rfl)) rfl ⟨rfl, HX.out.2.set3 (by omega) (.int .i64 a.fg) (.int .i64 a.bg) (.int .i64 a.fl)⟩
        | true =>
          have HA := hide (HT.out hb2 hb3 hb4)
          rw [hb4] at HB4
          obtain ⟨p1, p2⟩ := isB_iff.1 hb2
          obtain ⟨p3, p4⟩ := isB_iff.1 hb3
          obtain ⟨p5, p6⟩ := isB_iff.1 hb4
          obtain ⟨o1, o2, o3⟩ := dir_or p1 p2 p3 p4 p5 p6
          have HS := hide (HS.out (dirA x2 x3 x4))
          generalize a.set fore (dirA x2 x3 x4) = S at *
          generalize dirA x2 x3 x4 = px at *
          obtain ⟨s0, s1, s2⟩ := S
          unfold At.val At.cells at HS
          have r2 : IntKind.i64.wrap (x2 * 65536) = x2 * 65536 := by rw [IntKind.wrap_i64]; omega
          have r3 : IntKind.i64.wrap (x3 * 256) = x3 * 256 := by rw [IntKind.wrap_i64]; omega
          have HR := hide (And.intro r2 r3)
          clear hb2 hb3 hb4 HF HT r2 r3
          go_enter Tryd.func23, Tryd.ntmps23
          go_wp2_with fail
          refine (HB2.out _).mono ?_
          rintro e w1 ⟨rfl, rfl⟩
          go_wp2_with fail
          refine (HB3.out _).mono ?_
          rintro e w1 ⟨rfl, rfl⟩
          go_wp2_with fail
          refine (HB4.out _).mono ?_
          rintro e w1 ⟨rfl, rfl⟩
          go_wp2_with fail
          obtain ⟨hbox, hres, oo⟩ := HW.out
          generalize (w.alloc (.cells #[.int .i64 a.fg, .int .i64 a.bg, .int .i64 a.fl] 23)).alloc (.cells #[.int .i64 0, .int .i64 0, .int .i64 0] 23) = W at *
          have m0 := later_cell (show W.cell? ⟨w.heap.size, 0, none⟩ = some (.int .i64 a.fg) from hbox.cell 0)
          have m1 := later_cell (show W.cell? ⟨w.heap.size, 1, none⟩ = some (.int .i64 a.bg) from hbox.cell 1)
          have m2 := later_cell (show W.cell? ⟨w.heap.size, 2, none⟩ = some (.int .i64 a.fl) from hbox.cell 2)
          have d1 := later_cell d1
          have d2 := later_cell d2
          have d3 := later_cell d3
          have d4 := later_cell d4
          have HX := hide (And.intro hbox (And.intro hres oo))
          clear hbox hres oo HW c0
          obtain ⟨r2, r3⟩ := HR.out
          have q2 : (2 : Int) < (n : Int) := by omega
          have q3 : (3 : Int) < (n : Int) := by omega
          have q4 : (4 : Int) < (n : Int) := by omega
          refine region_later_tail 17 (by kernel_rfl) (by kernel_rfl) ?_
          simp only [List.take_succ_cons, List.take_zero, List.drop_succ_cons, List.drop_zero]
          iterate 16 (go_big_quiet_step (fail))
          go_big_quiet_step ((go_at_call 24; refine later_of (HS.out _)))
          refine wpQuiet_nil ?_
          rintro _ ⟨X, rfl⟩
          change wpList _ _ _ _ _ X.val
          have hbox := HX.out.1.only X.only (by simp)
          have hres := HX.out.2.1.only X.only (by simp)
          have oo := HX.out.2.2.trans X.only (S := []) (by simp)
          generalize X.val = Y at *
          clear m0 m1 m2 d1 d2 d3 d4
          have m0 : Y.cell? ⟨w.heap.size, 0, none⟩ = some (.int .i64 a.fg) := hbox.cell 0
          have m1 : Y.cell? ⟨w.heap.size, 1, none⟩ = some (.int .i64 a.bg) := hbox.cell 1
          have m2 : Y.cell? ⟨w.heap.size, 2, none⟩ = some (.int .i64 a.fl) := hbox.cell 2
          have f0 := hbox.free 0
          have f1 := hbox.free 1
          have f2 := hbox.free 2
          have z0 : Y.cell? ⟨w.heap.size + 1, 0, none⟩ = some (.int .i64 0) := hres.cell 0
          have z1 : Y.cell? ⟨w.heap.size + 1, 1, none⟩ = some (.int .i64 0) := hres.cell 1
          have z2 : Y.cell? ⟨w.heap.size + 1, 2, none⟩ = some (.int .i64 0) := hres.cell 2
          have y0 := hres.free 0
          have y1 := hres.free 1
          have y2 := hres.free 2
          have HX := hide (And.intro hbox (And.intro hres oo))
          clear hbox hres oo
          go_wp2_with fail
          rw [HA.out, HZ.out]
          exact bodyPost_ret (r_results_row_two Tryd.results23 _ _ (w.heap.size + 1) 23 _ _ rfl ((HX.out.2.1.other3 (by omega) (.int .i64 s0) (.int .i64 s1) (.int .i64 s2)).set3 (.int .i64 s0) (.int .i64 s1) (.int .i64 s2)) Tryd.underlying23 rfl (by kernel_rfl)) rfl ⟨rfl, (HX.out.2.2.set3 (by omega) (.int .i64 s0) (.int .i64 s1) (.int .i64 s2)).set3 (by omega) (.int .i64 s0) (.int .i64 s1) (.int .i64 s2)⟩
  rw [if_neg k2] at hN hA
  subst hN
  rw [if_pos rfl] at hZ
  have HZ := hide hZ
  have HA := hide hA
  clear hZ hA c2 c3 c4
  by_cases k3 : 2 < n
  · have d1 := c1 (by omega)
    have n5 : (x1 == 5) = false := beq_eq_false_iff_ne.2 fun h => k1 ⟨k3, h⟩
    by_cases k4 : 4 < n
    · have n2 : (x1 == 2) = false := beq_eq_false_iff_ne.2 fun h => k2 ⟨k4, h⟩
      clear k1 k2 c1
      go_enter Tryd.func23, Tryd.ntmps23
      go_wp2_with fail
      have hr := Has.new (w.alloc (.cells #[.int .i64 a.fg, .int .i64 a.bg, .int .i64 a.fl] 23)) 23 #[.int .i64 a.fg, .int .i64 a.bg, .int .i64 a.fl]
      simp only [World.size_alloc] at hr
      rw [HA.out, HZ.out]
      exact bodyPost_ret (r_results_row_two Tryd.results23 _ _ (w.heap.size + 1) 23 _ _ rfl hr Tryd.underlying23 rfl (by kernel_rfl)) rfl ⟨rfl, ((Only.refl [] w).alloc _).alloc _⟩
    · clear k1 k2 c1
      go_enter Tryd.func23, Tryd.ntmps23
      go_wp2_with fail
      have hr := Has.new (w.alloc (.cells #[.int .i64 a.fg, .int .i64 a.bg, .int .i64 a.fl] 23)) 23 #[.int .i64 a.fg, .int .i64 a.bg, .int .i64 a.fl]
      simp only [World.size_alloc] at hr
      rw [HA.out, HZ.out]
      exact bodyPost_ret (r_results_row_two Tryd.results23 _ _ (w.heap.size + 1) 23 _ _ rfl hr Tryd.underlying23 rfl (by kernel_rfl)) rfl ⟨rfl, ((Only.refl [] w).alloc _).alloc _⟩
  · have k4 : ¬ 4 < n := by omega
    clear k1 k2 c1
    go_enter Tryd.func23, Tryd.ntmps23
    go_wp2_with fail
    have hr := Has.new (w.alloc (.cells #[.int .i64 a.fg, .int .i64 a.bg, .int .i64 a.fl] 23)) 23 #[.int .i64 a.fg, .int .i64 a.bg, .int .i64 a.fl]
    simp only [World.size_alloc] at hr
    rw [HA.out, HZ.out]
    exact bodyPost_ret (r_results_row_two Tryd.results23 _ _ (w.heap.size + 1) 23 _ _ rfl hr Tryd.underlying23 rfl (by kernel_rfl)) rfl ⟨rfl, ((Only.refl [] w).alloc _).alloc _⟩
end Go.Proofs.YtjfmebjjdiodbaaDoor
