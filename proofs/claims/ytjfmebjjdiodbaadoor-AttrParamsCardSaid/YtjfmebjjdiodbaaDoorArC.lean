/-
  The document's attributes: Apply.
-/
import Derived.Test.YtjfmebjjdiodbaaDoorArB
import Derived.Test.YtjfmebjjdiodbaaDoorAdd
namespace Go.Proofs.YtjfmebjjdiodbaaDoor
open Go Go.RowKit

theorem flag_cases : ∀ n : Int, (1 ≤ n ∧ n ≤ 9) → n ≠ 6 → flagF n = (flagL.getD n.toNat 0, true) ∧ flagL.getD n.toNat 0 ≠ 0 := by
  intro n h h6
  rcases (show n = 1 ∨ n = 2 ∨ n = 3 ∨ n = 4 ∨ n = 5 ∨ n = 7 ∨ n = 8 ∨ n = 9 by omega) with rfl | rfl | rfl | rfl | rfl | rfl | rfl | rfl <;> exact ⟨rfl, by decide⟩
theorem flag_cases2 : ∀ n : Int, (23 ≤ n ∧ n ≤ 29) → n ≠ 26 → flagF n = (flagL.getD (n - 20).toNat 0, false) ∧ flagL.getD (n - 20).toNat 0 ≠ 0 := by
  intro n h h6
  rcases (show n = 23 ∨ n = 24 ∨ n = 25 ∨ n = 27 ∨ n = 28 ∨ n = 29 by omega) with rfl | rfl | rfl | rfl | rfl | rfl <;> exact ⟨rfl, by decide⟩
theorem colour_none {n : Int} (h : ¬ (30 ≤ n ∧ n ≤ 37) ∧ ¬ (40 ≤ n ∧ n ≤ 47) ∧ ¬ (90 ≤ n ∧ n ≤ 97) ∧ ¬ (100 ≤ n ∧ n ≤ 107)) : colourF n = (-1, false) := by
  unfold colourF
  rw [if_neg h.1, if_neg h.2.1, if_neg h.2.2.1, if_neg h.2.2.2]
/-- What one parameter makes, as the document tells it. -/
theorem kinds (a : At) (ha : a.Wf) (n : Int) (h0 : n ≠ 0) (h38 : n ≠ 38) (h39 : n ≠ 39) (h48 : n ≠ 48) (h49 : n ≠ 49) :
    ((0 ≤ (colourF n).1 ∧ (colourF n).1 ≤ 255) ∧ oneA a n = a.set (colourF n).2 (palA (colourF n).1)) ∨
    ((colourF n).1 = -1 ∧ (flagF n).1 ≠ 0 ∧ (flagF n).2 = true ∧ oneA a n = { a with fl := bits .or .i64 a.fl (flagF n).1 }) ∨
    ((colourF n).1 = -1 ∧ (flagF n).1 ≠ 0 ∧ (flagF n).2 = false ∧ oneA a n = { a with fl := bits .andNot .i64 a.fl (flagF n).1 }) ∨
    ((colourF n).1 = -1 ∧ (flagF n).1 = 0 ∧ (flagF n).2 = false ∧ oneA a n = a) := by
  rcases classes n with h | h | h | h | h | h | h | h | h | h | h | h | h
  · exact absurd h h0
  · have hc := colour_none (n := n) (by omega)
    by_cases h6 : n = 6
    · subst h6
      refine .inr (.inr (.inr ⟨by rw [hc], rfl, rfl, ?_⟩))
      rw [oneA_1 a (by omega)]
      show ({ a with fl := bits .or .i64 a.fl 0 } : At) = a
      rw [or_zero64 ha.fl]
    · obtain ⟨hf, hn⟩ := flag_cases n h h6
      rw [hf, hc]
      exact .inr (.inl ⟨rfl, hn, rfl, oneA_1 a h⟩)
  · subst h
    exact .inr (.inr (.inl ⟨rfl, by decide, rfl, oneA_22 a rfl⟩))
  · have hc := colour_none (n := n) (by omega)
    by_cases h6 : n = 26
    · subst h6
      refine .inr (.inr (.inr ⟨by rw [hc], rfl, rfl, ?_⟩))
      rw [oneA_23 a (by omega)]
      show ({ a with fl := bits .andNot .i64 a.fl 0 } : At) = a
      rw [not_zero64 ha.fl]
    · obtain ⟨hf, hn⟩ := flag_cases2 n h h6
      rw [hf, hc]
      exact .inr (.inr (.inl ⟨rfl, hn, rfl, oneA_23 a h⟩))
  · have hc : colourF n = (n - 30, true) := by unfold colourF; rw [if_pos h]
    rw [hc, oneA_30 a h]
    exact .inl ⟨⟨by show 0 ≤ n - 30; omega, by show n - 30 ≤ 255; omega⟩, rfl⟩
  · exact absurd h h38
  · exact absurd h h39
  · have hc : colourF n = (n - 40, false) := by unfold colourF; rw [if_neg (by omega), if_pos h]
    rw [hc, oneA_40 a h]
    exact .inl ⟨⟨by show 0 ≤ n - 40; omega, by show n - 40 ≤ 255; omega⟩, rfl⟩
  · exact absurd h h48
  · exact absurd h h49
  · have hc : colourF n = (n - 82, true) := by unfold colourF; rw [if_neg (by omega), if_neg (by omega), if_pos h]
    rw [hc, oneA_90 a h]
    exact .inl ⟨⟨by show 0 ≤ n - 82; omega, by show n - 82 ≤ 255; omega⟩, rfl⟩
  · have hc : colourF n = (n - 92, false) := by unfold colourF; rw [if_neg (by omega), if_neg (by omega), if_neg (by omega), if_pos h]
    rw [hc, oneA_100 a h]
    exact .inl ⟨⟨by show 0 ≤ n - 92; omega, by show n - 92 ≤ 255; omega⟩, rfl⟩
  · have hc := colour_none (n := n) (by omega)
    have hf := flagF_no (n := n) (by omega)
    rw [hc, hf]
    exact .inr (.inr (.inr ⟨rfl, rfl, rfl, oneA_no a h⟩))

theorem at_one (x y z : Int) : (#[.int .i64 x, .int .i64 y, .int .i64 z] : Array Value).all (·.oneCell') = true := by simp [Value.oneCell']
theorem longA_zero (a : At) (fore : Bool) {l : List Int} (h : longN l = 0) : longA a fore l = a := by
  unfold longN at h
  unfold longA
  split at h
  · omega
  · rename_i h1
    split at h
    · omega
    · rename_i h2
      rw [if_neg h1, if_neg h2]

/-- Where the document's loop stands. -/
structure RpS (w : World) (l : List Int) (R a : At) (j : Nat) (wr : World) : Prop where
  le : j ≤ l.length
  here : Has wr w.heap.size 23 a.cells
  res : Has wr (w.heap.size + 1) 23 At.zero.cells
  only : Only [] w wr
  wf : a.Wf
  all : allA a (l.drop j) = R
theorem RpS.one {w wr : World} {l : List Int} {R a : At} {j : Nat} (S : RpS w l R a j wr) (hj : j < l.length) (h1 : l.getD j 0 ≠ 38) (h2 : l.getD j 0 ≠ 48) : allA (oneA a (l.getD j 0)) (l.drop (j + 1)) = R := by
  have hne : l.drop j ≠ [] := List.length_pos_iff.1 (by rw [List.length_drop]; omega)
  have hg : (l.drop j).getD 0 0 = l.getD j 0 := by simp [hj]
  obtain ⟨h3, h4⟩ := stepA_one a hg h1 h2
  rw [← S.all, allA_step a hne, h3, h4, List.drop_drop]

set_option maxRecDepth 100000 in
set_option maxHeartbeats 8000000 in
theorem rapply_any (a : At) (ha : a.Wf) (A : Option Addr) (n c : Nat) (l : List Int) (w : World) (hl : Holds w 1 A n (ivals l)) (hn : l.length = n) (hc : n ≤ c) (hmax : n ≤ 1000000) :
    Calls Tryd.prog 10 #[a.val, .slice A n c] w fun e w' => e = .returned (applyA a l).val ∧ Only [] w w' := by
  by_cases h0 : n = 0
  · subst h0
    obtain rfl : l = [] := List.eq_nil_of_length_eq_zero hn
    show Calls Tryd.prog 10 #[.agg #[.int .i64 a.fg, .int .i64 a.bg, .int .i64 a.fl], .slice A 0 c] w _
    clear hl hn
    go_enter Tryd.func10, Tryd.ntmps10
    go_wp2_with fail
    exact bodyPost_ret (results_cell_row Tryd.results10 _ _ (w.heap.size + 1) 23 _ (0, 0) _ rfl (by have := Has.new (w.alloc (.cells a.cells 23)) 23 At.zero.cells; rwa [World.size_alloc] at this) Tryd.underlying23 rfl (by kernel_rfl)) rfl ⟨rfl, ((Only.refl [] w).alloc _).alloc _⟩
  · have hR : applyA a l = allA a l := by unfold applyA; rw [if_neg (by intro h; rw [h] at hn; exact h0 hn.symm)]
    rw [hR]
    obtain ⟨R, hR2⟩ : ∃ R, R = allA a l := ⟨_, rfl⟩
    rw [← hR2]
    have hnn : ((n : Int) == 0) = false := by rw [beq_eq_false_iff_ne]; omega
    obtain ⟨b, o, rfl, hcell⟩ := hl.addr (by rw [ivals_length, hn]; omega)
    have hblk := hl.blk (by omega) _ rfl
    have HI := hide (And.intro hl (And.intro hn (And.intro hR2.symm (And.intro hcell (And.intro hblk ha)))))
    clear hl hn hR hR2 ha hcell hblk
    show Calls Tryd.prog 10 #[.agg #[.int .i64 a.fg, .int .i64 a.bg, .int .i64 a.fl], .slice (some ⟨b, o, none⟩) n c] w _
    go_enter Tryd.func10, Tryd.ntmps10
    go_wp2_with fail
    go_loopw [5] (fun iv wr => ∃ (a' : At) (j : Nat), iv = .int .i64 j ∧ RpS w l R a' j wr) (fun iv _ => n - (intOf iv).toNat)
    case atStart => exact ⟨a, 0, rfl, Nat.zero_le _, (Has.new w _ _).alloc _, (by have := Has.new (w.alloc (.cells a.cells 23)) 23 At.zero.cells; rwa [World.size_alloc] at this), ((Only.refl [] w).alloc _).alloc _, HI.out.2.2.2.2.2, HI.out.2.2.1⟩
    case round =>
      obtain ⟨a', j, rfl, S⟩ := hrel
      have hln := HI.out.2.1
      have d0 : wr.cell? ⟨w.heap.size, 0, none⟩ = some (.int .i64 a'.fg) := S.here.cell 0
      have d1 : wr.cell? ⟨w.heap.size, 1, none⟩ = some (.int .i64 a'.bg) := S.here.cell 1
      have d2 : wr.cell? ⟨w.heap.size, 2, none⟩ = some (.int .i64 a'.fl) := S.here.cell 2
      have hj := S.le
      rw [hln] at hj
      by_cases hz : j < n
      · have hlt : j < l.length := by omega
        have cj : wr.cell? ⟨b, o + j, none⟩ = some (.int .i64 (l.getD j 0)) := (S.only.cell (p := ⟨b, o + j, none⟩) HI.out.2.2.2.2.1 (by simp)).trans (HI.out.2.2.2.1 _ _ (ivals_get l j hlt))
        have hzi : (j : Int) < (n : Int) := by omega
        have f0 := S.here.free 0
        have f1 := S.here.free 1
        have f2 := S.here.free 2
        have h1 := S.one hlt
        have HC := hide (colour_any (l.getD j 0))
        have HFl := hide (flag_any (l.getD j 0))
        have HL := hide (And.intro S (And.intro hlt (And.intro hln hz)))
        have hk := kinds a' S.wf (l.getD j 0)
        have wf := S.wf
        obtain ⟨x, hx⟩ : ∃ x, x = l.getD j 0 := ⟨_, rfl⟩
        rw [← hx] at cj h1 HC HFl hk
        generalize colourF x = cc at *
        generalize flagF x = ff at *
        obtain ⟨cc, cb⟩ := cc
        obtain ⟨fv, fb⟩ := ff
        have HX := hide hx
        clear S hlt hln hx hz hj
        by_cases k0 : x = 0
        · subst k0
          have al := hide (h1 (by decide) (by decide))
          clear hk h1 HX
          go_wp2_with fail
          refine (HC.out _).mono ?_
          rintro e w1 ⟨rfl, rfl⟩
          go_wp2_with fail
          refine (HFl.out _).mono ?_
          rintro e w1 ⟨rfl, rfl⟩
          go_wp2_with fail
          go_roundw
          case rel => exact ⟨At.zero, j + 1, by go_num, HL.out.2.1, HL.out.1.here.set3 (.int .i64 0) (.int .i64 0) (.int .i64 0), HL.out.1.res.other3 (by omega) (.int .i64 0) (.int .i64 0) (.int .i64 0), HL.out.1.only.set3 (by omega) (.int .i64 0) (.int .i64 0) (.int .i64 0), At.zero_wf, al.out⟩
          case measure => have := HL.out.2.2.2; simp [intOf]; omega
        by_cases k39 : x = 39
        · subst k39
          have al := hide (h1 (by decide) (by decide))
          rw [oneA_39 a' rfl] at al
          clear hk h1 HX
          go_wp2_with fail
          refine (HC.out _).mono ?_
          rintro e w1 ⟨rfl, rfl⟩
          go_wp2_with fail
          refine (HFl.out _).mono ?_
          rintro e w1 ⟨rfl, rfl⟩
          go_wp2_with fail
          go_roundw
          case rel => exact ⟨{ a' with fg := 0 }, j + 1, by go_num, HL.out.2.1, HL.out.1.here.set 0 (.int .i64 0), HL.out.1.res.other (p := ⟨w.heap.size, 0, none⟩) (by show w.heap.size + 1 ≠ w.heap.size; omega) (.int .i64 0), HL.out.1.only.setCell (by show w.heap.size < w.heap.size → _; omega) (.int .i64 0), ⟨by show I64 0; decide, wf.bg, wf.fl⟩, al.out⟩
          case measure => have := HL.out.2.2.2; simp [intOf]; omega
        by_cases k49 : x = 49
        · subst k49
          have al := hide (h1 (by decide) (by decide))
          rw [oneA_49 a' rfl] at al
          clear hk h1 HX
          go_wp2_with fail
          refine (HC.out _).mono ?_
          rintro e w1 ⟨rfl, rfl⟩
          go_wp2_with fail
          refine (HFl.out _).mono ?_
          rintro e w1 ⟨rfl, rfl⟩
          go_wp2_with fail
          go_roundw
          case rel => exact ⟨{ a' with bg := 0 }, j + 1, by go_num, HL.out.2.1, HL.out.1.here.set 1 (.int .i64 0), HL.out.1.res.other (p := ⟨w.heap.size, 1, none⟩) (by show w.heap.size + 1 ≠ w.heap.size; omega) (.int .i64 0), HL.out.1.only.setCell (by show w.heap.size < w.heap.size → _; omega) (.int .i64 0), ⟨wf.fg, by show I64 0; decide, wf.fl⟩, al.out⟩
          case measure => have := HL.out.2.2.2; simp [intOf]; omega
        by_cases kl : x = 38 ∨ x = 48
        · have hne : l.drop j ≠ [] := List.length_pos_iff.1 (by rw [List.length_drop]; have := HL.out.2.1; omega)
          have hdl : (l.drop j).length = n - j := by rw [List.length_drop, HI.out.2.1]
          obtain ⟨A2, c2, hrun, hl2, hc2, _⟩ := run_ifrom HI.out.1 HI.out.2.1 hc j (by have := HL.out.2.2.2; omega)
          obtain ⟨b2, o2, rfl, hcell2⟩ := hl2.addr (by rw [ivals_length, hdl]; have := HL.out.2.2.2; omega)
          have hb2 : b2 < w.heap.size := hl2.blk (by have := HL.out.2.2.2; omega) _ rfl
          have hg0 : (l.drop j).getD 0 0 = x := by rw [HX.out]; simp [HL.out.2.1]
          have hst : allA (longA a' (x == 38) (l.drop j)) ((l.drop j).drop (usedL (l.drop j))) = R := by
            have h3 := allA_step a' hne
            rw [HL.out.1.all] at h3
            unfold stepA usedA at h3
            rw [hg0, if_pos kl] at h3
            rw [h3]
            rcases kl with rfl | rfl
            · rfl
            · rfl
          have HLg := hide (fun X : Later wr => rlong_any a' (x == 38) b2 o2 c2 (l.drop j) X.val (fun i u hu => by
            rw [(HL.out.1.only.trans X.only (S := []) (by simp)).cell (p := ⟨b2, o2 + i, none⟩) hb2 (by simp)]
            exact hcell2 i u hu) (by have := (HL.out.1.only.trans X.only (S := []) (by simp)).size; omega) (by rw [hdl]; have := HL.out.2.2.2; omega) (by rw [hg0]))
          rw [hdl] at HLg
          have hw2 := longA_wf wf (x == 38) (l.drop j)
          have hzz : (longZ (l.drop j) = -1 ∧ longA a' (x == 38) (l.drop j) = a' ∧ R = a') ∨ (∃ U : Nat, longZ (l.drop j) = (U : Nat) ∧ 1 ≤ U ∧ j + U ≤ n ∧ allA (longA a' (x == 38) (l.drop j)) (l.drop (j + U)) = R) := by
            unfold longZ
            unfold usedL at hst
            by_cases hN : longN (l.drop j) = 0
            · rw [if_pos hN] at hst ⊢
              have hLa := longA_zero a' (x == 38) hN
              refine .inl ⟨rfl, hLa, ?_⟩
              rw [hLa, List.drop_length, allA_nil] at hst
              exact hst.symm
            · rw [if_neg hN] at hst ⊢
              have := longN_le (l.drop j)
              rw [hdl] at this
              have := HL.out.2.2.2
              refine .inr ⟨_, rfl, by omega, by omega, ?_⟩
              rw [← List.drop_drop]
              exact hst
          have hxe : ((x == 38) || (x == 48)) = true := by rcases kl with rfl | rfl <;> rfl
          have e0 : (x == 0) = false := beq_eq_false_iff_ne.2 k0
          generalize longA a' (x == 38) (l.drop j) = L at *
          generalize longZ (l.drop j) = Z at *
          obtain ⟨s0, s1, s2⟩ := L
          unfold At.val At.cells at HLg
          have HQ := hide (And.intro hzz (And.intro hw2 hc2))
          have HX2 := hide (And.intro hne (And.intro hl2 (And.intro hcell2 hb2)))
          clear hne hl2 hcell2 hb2 hg0 hst hzz hdl hk h1 HX k0 k39 k49 hc2 hw2
          have hj38 : (x == 38) = true ∨ ((x == 38) = false ∧ (x == 48) = true) := by rcases kl with rfl | rfl <;> decide
          clear kl hxe
          rcases hj38 with e38 | ⟨e38, e48⟩
          all_goals
            go_wp2_with fail
            refine (HC.out _).mono ?_
            rintro e w1 ⟨rfl, rfl⟩
            go_wp2_with fail
            refine (HFl.out _).mono ?_
            rintro e w1 ⟨rfl, rfl⟩
            go_wp2_with fail
            have m0 := later_cell d0
            have m1 := later_cell d1
            have m2 := later_cell d2
            refine region_loose_add 9 100 9 7 (fun i => if i = 4 then some (isVal (.tuple #[.agg #[.int .i64 s0, .int .i64 s1, .int .i64 s2], .int .i64 Z])) else if i = 8 then some (isBox w1.heap.size 23 #[.int .i64 0, .int .i64 0, .int .i64 0]) else none) (by kernel_rfl) (by kernel_rfl) (by kernel_rfl) (by kernel_rfl) (by kernel_rfl) (by kernel_rfl) (by kernel_rfl) (by rfl) (by rfl) (fun i hi => ?_) (fun i S hS => ?_) ?_
            · have hi : 11 ≤ i := hi
              show (if i = 4 then _ else _) = none
              iterate 2 rw [if_neg (by omega)]
            · repeat' split at hS
              all_goals first | (injection hS with hS; subst hS; first | exact isBox_later _ _ _ | exact fun _ _ _ _ _ => trivial) | cases hS
            simp only [addE_s, addE_z, List.take_succ_cons, List.take_zero, List.drop_succ_cons, List.drop_zero]
            refine wpLoose_chunk 4 (by kernel_rfl) (by rfl) ?_
            simp only [List.take_succ_cons, List.take_zero, List.drop_succ_cons, List.drop_zero, List.length_cons, List.length_nil, Nat.zero_add, Nat.reduceAdd]
            iterate 4 (go_big_quiet_step (fail))
            refine wpQuiet_nil ?_
            refine wpLoose_step (isVal (.tuple #[.agg #[.int .i64 s0, .int .i64 s1, .int .i64 s2], .int .i64 Z])) rfl (by rfl) ⟨_, rfl⟩ (fun w' ho hk => ?_) (fun v hv => ?_)
            · go_simp
              exact ⟨rfl, (HLg.out ⟨w', ho⟩).mono fun e w'' h => isVal_of h⟩
            obtain rfl := hv
            go_simp
            refine wpLoose_chunk 3 (by kernel_rfl) (by rfl) ?_
            simp only [List.take_succ_cons, List.take_zero, List.drop_succ_cons, List.drop_zero, List.length_cons, List.length_nil, Nat.zero_add, Nat.reduceAdd]
            iterate 3 (go_big_quiet_step (fail))
            refine wpQuiet_nil ?_
            refine wpLoose_step (isBox w1.heap.size 23 #[.int .i64 0, .int .i64 0, .int .i64 0]) rfl (by rfl) ⟨_, 0, rfl⟩ (fun w' ho hk => ?_) (fun v hv => ?_)
            · go_simp
              exact isBox_new ho.size
            obtain ⟨g, rfl⟩ := hv
            go_simp
            intro w9 ho hT
            have hbox := hT 8 (by omega)
            have hbox : (isBox w1.heap.size 23 #[.int .i64 0, .int .i64 0, .int .i64 0]).1 (.pointer (some ⟨g, 0, none⟩)) ∧ (isBox w1.heap.size 23 #[.int .i64 0, .int .i64 0, .int .i64 0]).2 (.pointer (some ⟨g, 0, none⟩)) w9 := hbox
            obtain ⟨hg, hHas⟩ := hbox.2 g rfl
            clear hT hbox m0 m1 m2
            refine list_store_row' rfl 23 (.tmp 11) (.tmp 54) rfl g #[.int .i64 s0, .int .i64 s1, .int .i64 s2] rfl rfl 23 _ hHas (by kernel_rfl) rfl (at_one _ _ _) ?_
            intro w10 hT10 hO10
            go_wp2_with fail
            refine normalOnly_intro ?_
            have hsz := HL.out.1.res.lt
            have o10 : Only [] w1 w10 := ho.trans hO10 (by intro i hi hlt; simp at hi; omega)
            have S10 : RpS w l R a' j w10 := ⟨HL.out.1.le, HL.out.1.here.only o10 (by simp), HL.out.1.res.only o10 (by simp), HL.out.1.only.trans o10 (by simp), HL.out.1.wf, HL.out.1.all⟩
            have x0 : w10.cell? ⟨g, 0, none⟩ = some (.int .i64 s0) := hT10.cell 0
            have x1 : w10.cell? ⟨g, 1, none⟩ = some (.int .i64 s1) := hT10.cell 1
            have x2 : w10.cell? ⟨g, 2, none⟩ = some (.int .i64 s2) := hT10.cell 2
            clear d0 d1 d2 f0 f1 f2 cj
            have d0 : w10.cell? ⟨w.heap.size, 0, none⟩ = some (.int .i64 a'.fg) := S10.here.cell 0
            have d1 : w10.cell? ⟨w.heap.size, 1, none⟩ = some (.int .i64 a'.bg) := S10.here.cell 1
            have d2 : w10.cell? ⟨w.heap.size, 2, none⟩ = some (.int .i64 a'.fl) := S10.here.cell 2
            have f0 := S10.here.free 0
            have f1 := S10.here.free 1
            have f2 := S10.here.free 2
            have r0 : w10.cell? ⟨w.heap.size + 1, 0, none⟩ = some (.int .i64 0) := S10.res.cell 0
            have r1 : w10.cell? ⟨w.heap.size + 1, 1, none⟩ = some (.int .i64 0) := S10.res.cell 1
            have r2 : w10.cell? ⟨w.heap.size + 1, 2, none⟩ = some (.int .i64 0) := S10.res.cell 2
            have t0 := S10.res.free 0
            have t1 := S10.res.free 1
            have t2 := S10.res.free 2
            have HS := hide S10
            obtain ⟨hzz, hw2, _⟩ := HQ.out
            clear S10 hT10 hO10 ho hg hHas hsz o10 HLg hrun
            rcases hzz with ⟨rfl, _, hR⟩ | ⟨U, rfl, hU1, hU2, hU3⟩
            · subst hR
              clear hw2 x0 x1 x2 f0 f1 f2
              go_wp2_with fail
              exact bodyPost_ret (results_cell_row Tryd.results10 _ _ (w.heap.size + 1) 23 _ (0, 0) _ rfl (HS.out.res.set3 (.int .i64 R.fg) (.int .i64 R.bg) (.int .i64 R.fl)) Tryd.underlying23 rfl (by kernel_rfl)) rfl ⟨rfl, HS.out.only.set3 (by omega) _ _ _⟩
            · clear t0 t1 t2 r0 r1 r2
              have HU := hide (And.intro hU1 (And.intro hU2 (And.intro hU3 hw2)))
              clear hU3 hw2
              go_wp2_with fail
              go_roundw
              case rel =>
                refine ⟨⟨s0, s1, s2⟩, j + U, ?_, by have := HI.out.2.1; omega, HS.out.here.set3 (.int .i64 s0) (.int .i64 s1) (.int .i64 s2), HS.out.res.other3 (by omega) (.int .i64 s0) (.int .i64 s1) (.int .i64 s2), HS.out.only.set3 (by omega) (.int .i64 s0) (.int .i64 s1) (.int .i64 s2), HU.out.2.2.2, HU.out.2.2.1⟩
                first | go_num | (congr 1; omega)
              case measure => simp [intOf]; omega
        have k38 : x ≠ 38 := fun h => kl (.inl h)
        have k48 : x ≠ 48 := fun h => kl (.inr h)
        clear kl
        have al := hide (h1 k38 k48)
        have hk := hk k0 k38 k39 k48 k49
        rcases hk with ⟨hp, he⟩ | ⟨hc, hf, hb, he⟩ | ⟨hc, hf, hb, he⟩ | ⟨hc, hf, hb, he⟩
        · rw [he] at al
          obtain ⟨p0, p1⟩ := hp
          have p0 : 0 ≤ cc := p0
          have p1 : cc ≤ 255 := p1
          have hor := pal_or p0 p1
          have HS := hide (rset_any a' (palA cc) cb)
          have hwf : (a'.set cb (palA cc)).Wf := by
            unfold At.set palA
            split
            · exact ⟨by show I64 (16777216 + cc); omega, wf.bg, wf.fl⟩
            · exact ⟨wf.fg, by show I64 (16777216 + cc); omega, wf.fl⟩
          have al : Hid (allA (a'.set cb (palA cc)) (l.drop (j + 1)) = R) := al
          generalize a'.set cb (palA cc) = S' at *
          generalize palA cc = px at *
          obtain ⟨s0, s1, s2⟩ := S'
          unfold At.val At.cells at HS
          have HV := hide (And.intro al hwf)
          clear al hwf he h1 wf
          have e0 : (x == 0) = false := beq_eq_false_iff_ne.2 k0
          have e38 : (x == 38) = false := beq_eq_false_iff_ne.2 k38
          have e48 : (x == 48) = false := beq_eq_false_iff_ne.2 k48
          have e39 : (x == 39) = false := beq_eq_false_iff_ne.2 k39
          have e49 : (x == 49) = false := beq_eq_false_iff_ne.2 k49
          clear k0 k38 k39 k48 k49
          go_wp2_with fail
          refine (HC.out _).mono ?_
          rintro e w1 ⟨rfl, rfl⟩
          go_wp2_with fail
          refine (HFl.out _).mono ?_
          rintro e w1 ⟨rfl, rfl⟩
          go_wp2_with fail
          refine (HS.out _).mono ?_
          rintro e w1 ⟨rfl, ho⟩
          have g1 := HL.out.1.here.only ho (by simp)
          have g2 := HL.out.1.res.only ho (by simp)
          have g3 := HL.out.1.only.trans ho (S := []) (by simp)
          clear d0 d1 d2 f0 f1 f2
          have d0 : w1.cell? ⟨w.heap.size, 0, none⟩ = some (.int .i64 a'.fg) := g1.cell 0
          have d1 : w1.cell? ⟨w.heap.size, 1, none⟩ = some (.int .i64 a'.bg) := g1.cell 1
          have d2 : w1.cell? ⟨w.heap.size, 2, none⟩ = some (.int .i64 a'.fl) := g1.cell 2
          have f0 := g1.free 0
          have f1 := g1.free 1
          have f2 := g1.free 2
          have HG := hide (And.intro g1 (And.intro g2 g3))
          clear g1 g2 g3 ho cj
          go_wp2_with fail
          go_roundw
          case rel => exact ⟨⟨s0, s1, s2⟩, j + 1, by go_num, HL.out.2.1, HG.out.1.set3 (.int .i64 s0) (.int .i64 s1) (.int .i64 s2), HG.out.2.1.other3 (by omega) (.int .i64 s0) (.int .i64 s1) (.int .i64 s2), HG.out.2.2.set3 (by omega) (.int .i64 s0) (.int .i64 s1) (.int .i64 s2), HV.out.2, HV.out.1.out⟩
          case measure => have := HL.out.2.2.2; simp [intOf]; omega
        · rw [he] at al
          subst hc
          subst hb
          have hne : (fv != 0) = true := by simpa using hf
          have al : Hid (allA { a' with fl := bits .or .i64 a'.fl fv } (l.drop (j + 1)) = R) := al
          clear he h1 hf
          have e0 : (x == 0) = false := beq_eq_false_iff_ne.2 k0
          have e38 : (x == 38) = false := beq_eq_false_iff_ne.2 k38
          have e48 : (x == 48) = false := beq_eq_false_iff_ne.2 k48
          have e39 : (x == 39) = false := beq_eq_false_iff_ne.2 k39
          have e49 : (x == 49) = false := beq_eq_false_iff_ne.2 k49
          clear k0 k38 k39 k48 k49
          go_wp2_with fail
          refine (HC.out _).mono ?_
          rintro e w1 ⟨rfl, rfl⟩
          go_wp2_with fail
          refine (HFl.out _).mono ?_
          rintro e w1 ⟨rfl, rfl⟩
          go_wp2_with fail
          go_roundw
          case rel => exact ⟨{ a' with fl := bits .or .i64 a'.fl fv }, j + 1, by go_num, HL.out.2.1, HL.out.1.here.set 2 (.int .i64 (bits .or .i64 a'.fl fv)), HL.out.1.res.other (p := ⟨w.heap.size, 2, none⟩) (by show w.heap.size + 1 ≠ w.heap.size; omega) (.int .i64 (bits .or .i64 a'.fl fv)), HL.out.1.only.setCell (by show w.heap.size < w.heap.size → _; omega) (.int .i64 (bits .or .i64 a'.fl fv)), ⟨wf.fg, wf.bg, bits_or_i64 _ _⟩, al.out⟩
          case measure => have := HL.out.2.2.2; simp [intOf]; omega
        · rw [he] at al
          subst hc
          subst hb
          have hne : (fv != 0) = true := by simpa using hf
          have al : Hid (allA { a' with fl := bits .andNot .i64 a'.fl fv } (l.drop (j + 1)) = R) := al
          clear he h1 hf
          have e0 : (x == 0) = false := beq_eq_false_iff_ne.2 k0
          have e38 : (x == 38) = false := beq_eq_false_iff_ne.2 k38
          have e48 : (x == 48) = false := beq_eq_false_iff_ne.2 k48
          have e39 : (x == 39) = false := beq_eq_false_iff_ne.2 k39
          have e49 : (x == 49) = false := beq_eq_false_iff_ne.2 k49
          clear k0 k38 k39 k48 k49
          go_wp2_with fail
          refine (HC.out _).mono ?_
          rintro e w1 ⟨rfl, rfl⟩
          go_wp2_with fail
          refine (HFl.out _).mono ?_
          rintro e w1 ⟨rfl, rfl⟩
          go_wp2_with fail
          go_roundw
          case rel => exact ⟨{ a' with fl := bits .andNot .i64 a'.fl fv }, j + 1, by go_num, HL.out.2.1, HL.out.1.here.set 2 (.int .i64 (bits .andNot .i64 a'.fl fv)), HL.out.1.res.other (p := ⟨w.heap.size, 2, none⟩) (by show w.heap.size + 1 ≠ w.heap.size; omega) (.int .i64 (bits .andNot .i64 a'.fl fv)), HL.out.1.only.setCell (by show w.heap.size < w.heap.size → _; omega) (.int .i64 (bits .andNot .i64 a'.fl fv)), ⟨wf.fg, wf.bg, bits_not_i64 _ _⟩, al.out⟩
          case measure => have := HL.out.2.2.2; simp [intOf]; omega
        · rw [he] at al
          subst hc
          subst hb
          have hf : fv = 0 := hf
          subst hf
          clear he h1
          have e0 : (x == 0) = false := beq_eq_false_iff_ne.2 k0
          have e38 : (x == 38) = false := beq_eq_false_iff_ne.2 k38
          have e48 : (x == 48) = false := beq_eq_false_iff_ne.2 k48
          have e39 : (x == 39) = false := beq_eq_false_iff_ne.2 k39
          have e49 : (x == 49) = false := beq_eq_false_iff_ne.2 k49
          clear k0 k38 k39 k48 k49
          go_wp2_with fail
          refine (HC.out _).mono ?_
          rintro e w1 ⟨rfl, rfl⟩
          go_wp2_with fail
          refine (HFl.out _).mono ?_
          rintro e w1 ⟨rfl, rfl⟩
          go_wp2_with fail
          go_roundw
          case rel => exact ⟨a', j + 1, by go_num, HL.out.2.1, HL.out.1.here, HL.out.1.res, HL.out.1.only, wf, al.out⟩
          case measure => have := HL.out.2.2.2; simp [intOf]; omega
      · obtain rfl : j = n := by omega
        have hRa : a' = R := by have := S.all; rw [List.drop_eq_nil_of_le (by omega), allA_nil] at this; exact this
        subst hRa
        have e0 : wr.cell? ⟨w.heap.size + 1, 0, none⟩ = some (.int .i64 0) := S.res.cell 0
        have e1 : wr.cell? ⟨w.heap.size + 1, 1, none⟩ = some (.int .i64 0) := S.res.cell 1
        have e2 : wr.cell? ⟨w.heap.size + 1, 2, none⟩ = some (.int .i64 0) := S.res.cell 2
        have f0 := S.res.free 0
        have f1 := S.res.free 1
        have f2 := S.res.free 2
        have HS := hide S
        clear S hln hz hj
        go_wp2_with fail
        exact bodyPost_ret (results_cell_row Tryd.results10 _ _ (w.heap.size + 1) 23 _ (0, 0) _ rfl (HS.out.res.set3 _ _ _) Tryd.underlying23 rfl (by kernel_rfl)) rfl ⟨rfl, HS.out.only.set3 (by omega) _ _ _⟩
end Go.Proofs.YtjfmebjjdiodbaaDoor
