/-
  Proves: for any attribute and any number AttrFlags tells true, and leaves all that was there as it was; the tables start as the program's text lays them.
-/
import Derived.Test.YtjfmebjjdiodbaaDoorAFl
namespace Go.Proofs.YtjfmebjjdiodbaaDoor.aflags
open Go Go.RowKit Go.ChangeShapes Go.WideShapes Go.ChangeAt

theorem at_one (x y z : Int) : (#[.int .i64 x, .int .i64 y, .int .i64 z] : Array Value).all (·.oneCell') = true := by simp [Value.oneCell']
theorem on_at : ∀ k, k < 6 → (#[.int .i64 3, .int .i64 4, .int .i64 5, .int .i64 7, .int .i64 8, .int .i64 9] : Array Value)[k]? = some (.int .i64 (onL.getD k 0)) := by
  intro k hk
  rcases (show k = 0 ∨ k = 1 ∨ k = 2 ∨ k = 3 ∨ k = 4 ∨ k = 5 by omega) with rfl | rfl | rfl | rfl | rfl | rfl <;> rfl
theorem fl_at : ∀ k, k < 6 → (#[.int .i64 4, .int .i64 8, .int .i64 16, .int .i64 32, .int .i64 64, .int .i64 128] : Array Value)[k]? = some (.int .i64 (flL.getD k 0)) := by
  intro k hk
  rcases (show k = 0 ∨ k = 1 ∨ k = 2 ∨ k = 3 ∨ k = 4 ∨ k = 5 by omega) with rfl | rfl | rfl | rfl | rfl | rfl <;> rfl
theorem on_small : ∀ k, k < 6 → 0 ≤ onL.getD k 0 ∧ onL.getD k 0 ≤ 9 := by
  intro k hk
  rcases (show k = 0 ∨ k = 1 ∨ k = 2 ∨ k = 3 ∨ k = 4 ∨ k = 5 by omega) with rfl | rfl | rfl | rfl | rfl | rfl <;> decide

set_option maxRecDepth 100000 in
theorem out (a : At) (ha : a.Wf) (n : Int) (h : rightA a = false) (w : World) (T : Tab w) :
    Calls Tryd.prog 5 #[a.val, .int .i64 n] w fun e w' => e = .returned (.bool true) ∧ Only [] w w' := by
  show Calls Tryd.prog 5 #[.agg #[.int .i64 a.fg, .int .i64 a.bg, .int .i64 a.fl], .int .i64 n] w _
  have o0 := (Only.refl [] w).alloc (.cells #[.int .i64 a.fg, .int .i64 a.bg, .int .i64 a.fl] 23)
  have hA := Has.new w 23 #[.int .i64 a.fg, .int .i64 a.bg, .int .i64 a.fl]
  have HK := hide (known_any _ (T.only o0 (by simp)))
  have HR := hide (fun w => right_any a ha w)
  rw [h] at HR
  unfold At.val At.cells at HR
  have HI := hide (And.intro o0 hA)
  clear o0 hA T ha h
  go_enter Tryd.func5, Tryd.ntmps5
  go_wp2_with fail
  refine (HK.out).mono ?_
  rintro e w1 ⟨rfl, ho⟩
  have hA := HI.out.2.only ho (by simp)
  have o1 := HI.out.1.trans ho (S := []) (by simp)
  have m0 : w1.cell? ⟨w.heap.size, 0, none⟩ = some (.int .i64 a.fg) := hA.cell 0
  have m1 : w1.cell? ⟨w.heap.size, 1, none⟩ = some (.int .i64 a.bg) := hA.cell 1
  have m2 : w1.cell? ⟨w.heap.size, 2, none⟩ = some (.int .i64 a.fl) := hA.cell 2
  have HO := hide o1
  clear hA ho o1 HI HK
  go_wp2_with fail
  refine (HR.out _).mono ?_
  rintro e w2 ⟨rfl, ho⟩
  go_wp2_with fail
  go_ret
  exact ⟨rfl, HO.out.trans ho (by simp)⟩

set_option maxRecDepth 100000 in
set_option maxHeartbeats 16000000 in
theorem main (a : At) (ha : a.Wf) (n : Int) (h : rightA a = true) (w : World) (T : Tab w) :
    Calls Tryd.prog 5 #[a.val, .int .i64 n] w fun e w' => e = .returned (.bool true) ∧ Only [] w w' := by
  show Calls Tryd.prog 5 #[.agg #[.int .i64 a.fg, .int .i64 a.bg, .int .i64 a.fl], .int .i64 n] w _
  have o0 := (Only.refl [] w).alloc (.cells #[.int .i64 a.fg, .int .i64 a.bg, .int .i64 a.fl] 23)
  have hA := Has.new w 23 #[.int .i64 a.fg, .int .i64 a.bg, .int .i64 a.fl]
  have HK := hide (known_any _ (T.only o0 (by simp)))
  have HR := hide (fun w => right_any a ha w)
  rw [h] at HR
  unfold At.val At.cells at HR
  have HI := hide (And.intro o0 (And.intro hA T))
  have HB := hide (And.intro ha trivial)
  obtain ⟨z, hz⟩ : ∃ z, z = n.tmod 6 := ⟨_, rfl⟩
  have hzu : z < 6 := by rw [hz]; exact Int.tmod_lt_of_pos _ (by omega)
  have hzl : -6 < z := by
    have h1 := Int.tmod_lt_of_pos (-n) (b := 6) (by omega)
    rw [Int.neg_tmod] at h1
    rw [hz]; omega
  have hm : n.tmod 6 = z := hz.symm
  obtain ⟨k, hk⟩ : ∃ k : Nat, (k : Int) = if z < 0 then 0 - z else z := ⟨(if z < 0 then 0 - z else z).toNat, by split <;> omega⟩
  have hk6 : k < 6 := by split at hk <;> omega
  have hx := on_set a k hk6
  have hx2 := fun b : At => on_back b k hk6
  have hs := on_small k hk6
  have c1 := on_at k hk6
  have c2 := fl_at k hk6
  generalize onL.getD k 0 = x at *
  generalize flL.getD k 0 = f at *
  obtain ⟨y, hy⟩ : ∃ y, y = x + 20 := ⟨_, rfl⟩
  have hw20 : IntKind.i64.wrap y = y := by rw [IntKind.wrap_i64]; omega
  have hw64 : Go.RowKit.wrap64 y = y := by unfold Go.RowKit.wrap64; omega
  rw [← hy] at hx2
  have HX := hide hx
  have HX2 := hide hx2
  have HW20 := hide (And.intro hw20 (And.intro hw64 hy.symm))
  clear hw20 hw64 hy
  have HC := hide (And.intro c1 (And.intro c2 hs))
  have hki : (k : Int) < 6 := by omega
  clear o0 hA T ha h hz hx hx2 hs c1 c2
  have hcase : (z < 0 ∧ 0 - z = (k : Int) ∧ -z = (k : Int)) ∨ (¬ z < 0 ∧ z = (k : Int)) := by
    by_cases h : z < 0
    · rw [if_pos h] at hk; omega
    · rw [if_neg h] at hk; omega
  clear hk
  rcases hcase with ⟨hneg, hkz1, hkz2⟩ | ⟨hneg, rfl⟩
  all_goals
    go_enter Tryd.func5, Tryd.ntmps5
    go_wp2_with fail
    refine (HK.out).mono ?_
    rintro e w1 ⟨rfl, ho⟩
    have hA := HI.out.2.1.only ho (by simp)
    have o1 := HI.out.1.trans ho (S := []) (by simp)
    have T1 := HI.out.2.2.only o1 (by simp)
    have m0 : w1.cell? ⟨w.heap.size, 0, none⟩ = some (.int .i64 a.fg) := hA.cell 0
    have m1 : w1.cell? ⟨w.heap.size, 1, none⟩ = some (.int .i64 a.bg) := hA.cell 1
    have m2 : w1.cell? ⟨w.heap.size, 2, none⟩ = some (.int .i64 a.fl) := hA.cell 2
    have HO := hide (And.intro o1 (And.intro hA T1))
    clear hA ho o1 T1
    go_wp2_with fail
    refine (HR.out _).mono ?_
    rintro e w2 ⟨rfl, ho⟩
    clear m0 m1 m2
    have oo := ((Only.refl [] w2).alloc (.cells #[.int .i64 3, .int .i64 4, .int .i64 5, .int .i64 7, .int .i64 8, .int .i64 9] 3)).alloc (.cells #[.int .i64 4, .int .i64 8, .int .i64 16, .int .i64 32, .int .i64 64, .int .i64 128] 3)
    have hA := (HO.out.2.1.only ho (by simp)).only oo (by simp)
    have oV := (HO.out.1.trans ho (S := []) (by simp)).trans oo (S := []) (by simp)
    have TV := (HO.out.2.2.only ho (by simp)).only oo (by simp)
    have hO := (Has.new w2 3 #[.int .i64 3, .int .i64 4, .int .i64 5, .int .i64 7, .int .i64 8, .int .i64 9]).alloc (.cells #[.int .i64 4, .int .i64 8, .int .i64 16, .int .i64 32, .int .i64 64, .int .i64 128] 3)
    have hF := Has.new (w2.alloc (.cells #[.int .i64 3, .int .i64 4, .int .i64 5, .int .i64 7, .int .i64 8, .int .i64 9] 3)) 3 #[.int .i64 4, .int .i64 8, .int .i64 16, .int .i64 32, .int .i64 64, .int .i64 128]
    simp only [World.size_alloc] at hF
    have HV := hide (And.intro oV (And.intro hA (And.intro hO (And.intro hF TV))))
    clear oo hA oV TV hO hF ho HO
    go_upto_region 10 with fail
    obtain ⟨oV, hA, hO, hF, TV⟩ := HV.out
    generalize (w2.alloc (.cells #[.int .i64 3, .int .i64 4, .int .i64 5, .int .i64 7, .int .i64 8, .int .i64 9] 3)).alloc (.cells #[.int .i64 4, .int .i64 8, .int .i64 16, .int .i64 32, .int .i64 64, .int .i64 128] 3) = V at *
    have HV := hide (And.intro oV (And.intro hA (And.intro hO (And.intro hF TV))))
    have eo := later_cell ((hO.cell k).trans HC.out.1)
    have m0 := later_cell (show V.cell? ⟨w.heap.size, 0, none⟩ = some (.int .i64 a.fg) from hA.cell 0)
    have m1 := later_cell (show V.cell? ⟨w.heap.size, 1, none⟩ = some (.int .i64 a.bg) from hA.cell 1)
    have m2 := later_cell (show V.cell? ⟨w.heap.size, 2, none⟩ = some (.int .i64 a.fl) from hA.cell 2)
    clear oV hA hO hF TV
    have HAP := hide (fun (w' : World) (ho : Only [] V w') (g : Nat) (hh : Holds w' 1 (some ⟨g, 0, none⟩) 1 (ivals [x])) => apply_any a HB.out.1 (some ⟨g, 0, none⟩) 1 1 [x] w' (HV.out.2.2.2.2.only ho (by simp)) hh rfl (by omega))
    rw [apply_one a x HX.out.2.1 HX.out.2.2, HX.out.1] at HAP
    obtain ⟨xf, hxf⟩ : ∃ xf, xf = bits .or .i64 a.fl f := ⟨_, rfl⟩
    rw [← hxf] at HAP
    unfold At.val At.cells at HAP
    have HXF := hide hxf
    clear hxf
    refine region_loose 8 94 (fun i => if i = 5 then some (isRow V.heap.size [x]) else if i = 6 then some (isVal (.agg #[.int .i64 a.fg, .int .i64 a.bg, .int .i64 xf])) else if i = 7 then some (isBox V.heap.size 23 #[.int .i64 0, .int .i64 0, .int .i64 0]) else none) (by kernel_rfl) (by kernel_rfl) (by kernel_rfl) (by rfl) (by rfl) (fun i hi => ?_) (fun i S hS => ?_) ?_
    · have hi : 9 ≤ i := hi
      show (if i = 5 then _ else _) = none
      iterate 3 rw [if_neg (by omega)]
    · repeat' split at hS
      all_goals first | (injection hS with hS; subst hS; first | exact isBox_later _ _ _ | exact isRow_later _ _ | exact fun _ _ _ _ _ => trivial) | cases hS
    simp only [List.take_succ_cons, List.take_zero, List.drop_succ_cons, List.drop_zero]
    refine wpLoose_chunk 5 (by kernel_rfl) (by rfl) ?_
    simp only [List.take_succ_cons, List.take_zero, List.drop_succ_cons, List.drop_zero, List.length_cons, List.length_nil, Nat.zero_add, Nat.reduceAdd]
    iterate 5 (go_big_quiet_step (fail))
    refine wpQuiet_nil ?_
    refine wpLoose_step (isRow V.heap.size [x]) rfl (by rfl) ⟨_, 0, rfl⟩ (fun w' ho hk => ?_) (fun v hv => ?_)
    · go_simp
      exact isRow_new (L := [x]) ho.size
    obtain ⟨gr, rfl⟩ := hv
    go_simp
    refine wpLoose_step (isVal (.agg #[.int .i64 a.fg, .int .i64 a.bg, .int .i64 xf])) rfl (by rfl) ⟨_, rfl⟩ (fun w' ho hk => ?_) (fun v hv => ?_)
    · have k1 := hk _ (Array.mem_of_getElem? (i := 1) (by rfl)) (by rfl)
      have k1 : (isRow V.heap.size [x]).1 (.slice (some ⟨gr, 0, none⟩) 1 1) ∧ (isRow V.heap.size [x]).2 (.slice (some ⟨gr, 0, none⟩) 1 1) w' := k1
      have k2 := (k1.2 gr rfl).2
      go_simp
      exact ⟨rfl, (HAP.out w' ho _ k2).mono fun e w'' h => isVal_of h⟩
    obtain rfl := hv
    go_simp
    refine wpLoose_step (isBox V.heap.size 23 #[.int .i64 0, .int .i64 0, .int .i64 0]) rfl (by rfl) ⟨_, 0, rfl⟩ (fun w' ho hk => ?_) (fun v hv => ?_)
    · go_simp
      exact isBox_new ho.size
    obtain ⟨g8, rfl⟩ := hv
    go_simp
    intro w9 ho hT
    have hbox := hT 7 (by omega)
    have hbox : (isBox V.heap.size 23 #[.int .i64 0, .int .i64 0, .int .i64 0]).1 (.pointer (some ⟨g8, 0, none⟩)) ∧ (isBox V.heap.size 23 #[.int .i64 0, .int .i64 0, .int .i64 0]).2 (.pointer (some ⟨g8, 0, none⟩)) w9 := hbox
    obtain ⟨hg, hHas⟩ := hbox.2 g8 rfl
    clear hT hbox
    refine list_store_row' rfl 23 (.tmp 8) (.tmp 30) rfl g8 #[.int .i64 a.fg, .int .i64 a.bg, .int .i64 xf] rfl rfl 23 _ hHas (by kernel_rfl) rfl (at_one _ _ _) ?_
    intro w10 hT10 hO10
    have o10 : Only [] V w10 := ho.trans hO10 (by intro i hi hlt; simp at hi; omega)
    have HV := hide (And.intro (HV.out.1.trans o10 (by simp)) (And.intro (HV.out.2.1.only o10 (by simp)) (And.intro (HV.out.2.2.1.only o10 (by simp)) (And.intro (HV.out.2.2.2.1.only o10 (by simp)) (And.intro (HV.out.2.2.2.2.only o10 (by simp)) hT10)))))
    clear eo m0 m1 m2 hHas hO10 hg ho hT10 o10 HAP
    go_upto_region 11 with fail
    obtain ⟨oV, hA, hO, hF, TV, h8⟩ := HV.out
    have eo := later_cell ((hO.cell k).trans HC.out.1)
    have m0 := later_cell (show w10.cell? ⟨g8, 0, none⟩ = some (.int .i64 a.fg) from h8.cell 0)
    have m1 := later_cell (show w10.cell? ⟨g8, 1, none⟩ = some (.int .i64 a.bg) from h8.cell 1)
    have m2 := later_cell (show w10.cell? ⟨g8, 2, none⟩ = some (.int .i64 xf) from h8.cell 2)
    clear oV hA hO hF TV h8
    have hxw : (⟨a.fg, a.bg, xf⟩ : At).Wf := ⟨HB.out.1.fg, HB.out.1.bg, by rw [HXF.out]; exact bits_or_i64 _ _⟩
    have HXW := hide hxw
    clear hxw
    have HAP := hide (fun (w' : World) (ho : Only [] w10 w') (g : Nat) (hh : Holds w' 1 (some ⟨g, 0, none⟩) 1 (ivals [y])) => apply_any ⟨a.fg, a.bg, xf⟩ HXW.out (some ⟨g, 0, none⟩) 1 1 [y] w' (HV.out.2.2.2.2.1.only ho (by simp)) hh rfl (by omega))
    obtain ⟨yf, hyf0⟩ : ∃ yf, yf = bits .andNot .i64 xf f := ⟨_, rfl⟩
    rw [apply_one _ y (HX2.out ⟨a.fg, a.bg, xf⟩).2.1 (HX2.out ⟨a.fg, a.bg, xf⟩).2.2, (HX2.out ⟨a.fg, a.bg, xf⟩).1] at HAP
    rw [← hyf0] at HAP
    unfold At.val At.cells at HAP
    have hyf : bits .andNot .i64 a.fl f = yf := by rw [hyf0, HXF.out, not_or]
    have HYF := hide hyf
    clear hyf hyf0
    obtain ⟨hw20, hw64, hy20⟩ := HW20.out
    go_simp
    refine region_loose 9 94 (fun i => if i = 6 then some (isRow w10.heap.size [y]) else if i = 7 then some (isVal (.agg #[.int .i64 a.fg, .int .i64 a.bg, .int .i64 yf])) else if i = 8 then some (isBox w10.heap.size 23 #[.int .i64 0, .int .i64 0, .int .i64 0]) else none) (by kernel_rfl) (by kernel_rfl) (by kernel_rfl) (by rfl) (by rfl) (fun i hi => ?_) (fun i S hS => ?_) ?_
    · have hi : 10 ≤ i := hi
      show (if i = 6 then _ else _) = none
      iterate 3 rw [if_neg (by omega)]
    · repeat' split at hS
      all_goals first | (injection hS with hS; subst hS; first | exact isBox_later _ _ _ | exact isRow_later _ _ | exact fun _ _ _ _ _ => trivial) | cases hS
    simp only [List.take_succ_cons, List.take_zero, List.drop_succ_cons, List.drop_zero]
    refine wpLoose_chunk 6 (by kernel_rfl) (by rfl) ?_
    simp only [List.take_succ_cons, List.take_zero, List.drop_succ_cons, List.drop_zero, List.length_cons, List.length_nil, Nat.zero_add, Nat.reduceAdd]
    iterate 6 (go_big_quiet_step (fail))
    refine wpQuiet_nil ?_
    refine wpLoose_step (isRow w10.heap.size [y]) rfl (by rfl) ⟨_, 0, rfl⟩ (fun w' ho hk => ?_) (fun v hv => ?_)
    · go_simp
      exact isRow_new (L := [y]) ho.size
    obtain ⟨gr, rfl⟩ := hv
    go_simp
    refine wpLoose_step (isVal (.agg #[.int .i64 a.fg, .int .i64 a.bg, .int .i64 yf])) rfl (by rfl) ⟨_, rfl⟩ (fun w' ho hk => ?_) (fun v hv => ?_)
    · have k1 := hk _ (Array.mem_of_getElem? (i := 1) (by rfl)) (by rfl)
      have k1 : (isRow w10.heap.size [y]).1 (.slice (some ⟨gr, 0, none⟩) 1 1) ∧ (isRow w10.heap.size [y]).2 (.slice (some ⟨gr, 0, none⟩) 1 1) w' := k1
      have k2 := (k1.2 gr rfl).2
      go_simp
      exact ⟨rfl, (HAP.out w' ho _ k2).mono fun e w'' h => isVal_of h⟩
    obtain rfl := hv
    go_simp
    refine wpLoose_step (isBox w10.heap.size 23 #[.int .i64 0, .int .i64 0, .int .i64 0]) rfl (by rfl) ⟨_, 0, rfl⟩ (fun w' ho hk => ?_) (fun v hv => ?_)
    · go_simp
      exact isBox_new ho.size
    obtain ⟨g9, rfl⟩ := hv
    go_simp
    intro w9 ho hT
    have hbox := hT 8 (by omega)
    have hbox : (isBox w10.heap.size 23 #[.int .i64 0, .int .i64 0, .int .i64 0]).1 (.pointer (some ⟨g9, 0, none⟩)) ∧ (isBox w10.heap.size 23 #[.int .i64 0, .int .i64 0, .int .i64 0]).2 (.pointer (some ⟨g9, 0, none⟩)) w9 := hbox
    obtain ⟨hg, hHas⟩ := hbox.2 g9 rfl
    clear hT hbox
    refine list_store_row' rfl 23 (.tmp 9) (.tmp 38) rfl g9 #[.int .i64 a.fg, .int .i64 a.bg, .int .i64 yf] rfl rfl 23 _ hHas (by kernel_rfl) rfl (at_one _ _ _) ?_
    intro w11 hT11 hO11
    have o11 : Only [] w10 w11 := ho.trans hO11 (by intro i hi hlt; simp at hi; omega)
    have HV := hide (And.intro (HV.out.1.trans o11 (by simp)) (And.intro (HV.out.2.1.only o11 (by simp)) (And.intro (HV.out.2.2.2.1.only o11 (by simp)) (And.intro (HV.out.2.2.2.2.1.only o11 (by simp)) (And.intro (HV.out.2.2.2.2.2.only o11 (by simp)) hT11)))))
    clear eo m0 m1 m2 hHas hO11 hg ho hT11 o11 HAP hw20 hw64 hy20
    go_upto_region 12 with fail
    obtain ⟨oV, hA, hF, TV, h8, h9⟩ := HV.out
    have m0 : w11.cell? ⟨w.heap.size, 0, none⟩ = some (.int .i64 a.fg) := hA.cell 0
    have m1 : w11.cell? ⟨w.heap.size, 1, none⟩ = some (.int .i64 a.bg) := hA.cell 1
    have m2 : w11.cell? ⟨w.heap.size, 2, none⟩ = some (.int .i64 a.fl) := hA.cell 2
    have oa := (Only.refl [] w11).alloc (.cells #[.int .i64 1, .int .i64 2] 3)
    have ha12 : Holds (w11.alloc (.cells #[.int .i64 1, .int .i64 2] 3)) 1 (some ⟨w11.heap.size, 0, none⟩) 2 (ivals [1, 2]) := Holds.lit w11 #[.int .i64 1, .int .i64 2] 3
    have HAP := hide (apply_any a HB.out.1 (some ⟨w11.heap.size, 0, none⟩) 2 2 [1, 2] _ (TV.only oa (by simp)) ha12 rfl (by omega))
    have HZ1 : Hid (applyA (applyA a [1, 2]) [22] = { a with fl := bits .andNot .i64 a.fl 3 }) := hide (apply_12 a)
    have hzw : (applyA a [1, 2]).Wf := by unfold applyA; rw [if_neg (by simp)]; exact runA_wf _ HB.out.1 _
    generalize applyA a [1, 2] = Z1 at *
    have HZW := hide hzw
    have HOA := hide oa
    clear oV hA hF TV h8 h9 oa ha12 hzw
    unfold At.val At.cells at HAP
    go_wp2_with fail
    refine (HAP.out).mono ?_
    rintro e w12 ⟨rfl, ho⟩
    have o12 := HOA.out.trans ho (S := []) (by simp)
    have ob := o12.trans ((Only.refl [] w12).alloc (.cells #[.int .i64 22] 3)) (S := []) (by simp)
    have hb22 : Holds (w12.alloc (.cells #[.int .i64 22] 3)) 1 (some ⟨w12.heap.size, 0, none⟩) 1 (ivals [22]) := Holds.lit w12 #[.int .i64 22] 3
    have HAP2 := hide (apply_any Z1 HZW.out (some ⟨w12.heap.size, 0, none⟩) 1 1 [22] _ (HV.out.2.2.2.1.only ob (by simp)) hb22 rfl (by omega))
    rw [HZ1.out] at HAP2
    obtain ⟨zf, hzf⟩ : ∃ zf, bits .andNot .i64 a.fl 3 = zf := ⟨_, rfl⟩
    rw [hzf] at HAP2
    have HZF := hide hzf
    have HOB := hide ob
    clear o12 ob hb22 ho HAP HOA hzf m0 m1 m2
    unfold At.val At.cells at HAP2
    go_wp2_with fail
    refine (HAP2.out).mono ?_
    rintro e w13 ⟨rfl, ho⟩
    have o13 := HOB.out.trans ho (S := []) (by simp)
    have oc := o13.trans ((Only.refl [] w13).alloc (.cells #[.int .i64 a.fg, .int .i64 a.bg, .int .i64 zf] 23)) (S := []) (by simp)
    have h10 := Has.new w13 23 #[.int .i64 a.fg, .int .i64 a.bg, .int .i64 zf]
    have HOC := hide (And.intro oc h10)
    clear o13 oc h10 ho HOB HAP2
    go_upto_region 13 with fail
    obtain ⟨oc, h10⟩ := HOC.out
    generalize w13.alloc (.cells #[.int .i64 a.fg, .int .i64 a.bg, .int .i64 zf] 23) = U at *
    obtain ⟨oV, hA, hF, TV, h8, h9⟩ := HV.out
    have oU := oV.trans oc (S := []) (by simp)
    have hA := hA.only oc (by simp)
    have hF := hF.only oc (by simp)
    have TU := TV.only oc (by simp)
    have h8 := h8.only oc (by simp)
    have h9 := h9.only oc (by simp)
    have a0 := later_cell (show U.cell? ⟨w.heap.size, 0, none⟩ = some (.int .i64 a.fg) from hA.cell 0)
    have a1 := later_cell (show U.cell? ⟨w.heap.size, 1, none⟩ = some (.int .i64 a.bg) from hA.cell 1)
    have a2 := later_cell (show U.cell? ⟨w.heap.size, 2, none⟩ = some (.int .i64 a.fl) from hA.cell 2)
    have b0 := later_cell (show U.cell? ⟨g8, 0, none⟩ = some (.int .i64 a.fg) from h8.cell 0)
    have b1 := later_cell (show U.cell? ⟨g8, 1, none⟩ = some (.int .i64 a.bg) from h8.cell 1)
    have b2 := later_cell (show U.cell? ⟨g8, 2, none⟩ = some (.int .i64 xf) from h8.cell 2)
    have c0 := later_cell (show U.cell? ⟨g9, 0, none⟩ = some (.int .i64 a.fg) from h9.cell 0)
    have c1 := later_cell (show U.cell? ⟨g9, 1, none⟩ = some (.int .i64 a.bg) from h9.cell 1)
    have c2 := later_cell (show U.cell? ⟨g9, 2, none⟩ = some (.int .i64 yf) from h9.cell 2)
    have d2 := later_cell (show U.cell? ⟨w13.heap.size, 2, none⟩ = some (.int .i64 zf) from h10.cell 2)
    have ef := later_cell ((hF.cell k).trans HC.out.2.1)
    have HAN := hide (fun X : Later U => apply_any ⟨a.fg, a.bg, xf⟩ HXW.out none 0 0 [] X.val (TU.only X.only (by simp)) (Holds.empty _ _ _) rfl (Nat.le_refl _))
    have hnil : ∀ q : At, applyA q [] = At.zero := fun _ => rfl
    rw [hnil] at HAN
    unfold At.val At.cells At.zero at HAN
    have heq := fun w => at_eq At.zero At.zero w
    rw [At.eqB_self] at heq
    unfold At.val At.cells At.zero at heq
    have hxf := HXF.out.symm
    have hyf := HYF.out
    have hzf := HZF.out
    have HOU := hide oU
    clear oc h10 oV hA hF TV TU h8 h9 oU hnil HOC HV
    refine region_later_tail 50 (by kernel_rfl) (by kernel_rfl) ?_
    simp only [List.take_succ_cons, List.take_zero, List.drop_succ_cons, List.drop_zero]
    iterate 46 (go_big_quiet_step (fail))
    go_big_quiet_step ((go_at_call 9; refine later_of (HAN.out _)))
    iterate 3 (go_big_quiet_step (fail))
    refine wpQuiet_nil ?_
    rintro _ ⟨X, rfl⟩
    change wpList _ _ _ _ _ X.val
    go_wp2_with fail
    go_ret
    exact ⟨rfl, HOU.out.trans X.only (by simp)⟩

theorem core (a : At) (ha : a.Wf) (n : Int) (w : World) (T : Tab w) :
    Calls Tryd.prog 5 #[a.val, .int .i64 n] w fun e w' => e = .returned (.bool true) ∧ Only [] w w' := by
  cases h : rightA a with
  | false => exact out a ha n h w T
  | true => exact main a ha n h w T

set_option maxRecDepth 100000 in
theorem lifted (os : Os) (started : os.Started) (H : Type) (enc : TypeId × Value → H) :
    ReturnsInHanded {} Tryd.checked os 5 .any (fun w args => (Rows.attrFlagsSpec.pre enc Tryd.prog Tryd.f5 [] false w args ∧ laidMetH Tryd.prog laidB w) ∧ sizedMet enc Tryd.prog Tryd.f5 (OpenSpec.ofChange Rows.attrFlagsSpec) false w args)
      (Rows.attrFlagsSpec.post enc Tryd.prog Tryd.f5 false true false false) := by
  refine returnsInHanded_of_change_and (C := Tryd.checked) (X := fun w _ => laidMetH Tryd.prog laidB w) (fun _ _ _ hh h => h.of_heap hh) own_knob started (by kernel_rfl) Tryd.func5
    (ChangeSpec.witness_shaped (enc := enc) (C := Tryd.checked) (os := os) (X := fun w _ => laidMetH Tryd.prog laidB w) false (World.doorLaid Tryd.prog 400 os) #[.agg #[.int .i64 0, .int .i64 0, .int .i64 0], .int .i64 0] 8 rfl (World.shaped_of_RefB (by kernel_rfl) (by kernel_rfl)) (by kernel_rfl) (by kernel_rfl) (by kernel_rfl) (door_met os _)) ?_
  intro W base args ds gs before hval0 hW _ _ hL _
  have hval : ∀ (j : Nat) t v, Tryd.f5.params[j]? = some t → args[j]? = some v → Value.okWide Tryd.prog W .any base t v := hval0
  have hW' := hW
  obtain ⟨p, q, hA0, hV, rfl, hfz, hnd⟩ := hW
  have hA : DataW.TrodAll enc Tryd.prog W 0 (fun _ => true) true Tryd.f5.params.toList args.toList ds p := hA0
  rw [Tryd.params5] at hA hval
  obtain ⟨v0, vs0, d0, ds0, p0, q0, hargs, rfl, rfl, h0, r0⟩ := trodAll_cons hA
  obtain ⟨v1, vs1, d1, ds1, p1, q1, rfl, rfl, rfl, h1, r1⟩ := trodAll_cons r0
  obtain ⟨rfl, rfl, rfl⟩ := trodAll_nil r1
  obtain rfl : args = #[v0, v1] := by cases args; simp_all
  obtain ⟨a0, rfl, ha0⟩ := open_attr (hval 0 23 v0 rfl rfl) h0
  obtain ⟨z1, rfl, rfl, rfl, _⟩ := open_int Tryd.underlying3 (hval 1 3 v1 rfl rfl) h1
  refine (core a0 ha0 z1 W (tab_of_laid hL)).mono fun e W' ⟨he, ho⟩ => ?_
  subst he
  exact ⟨_, rfl, law_post rfl hW' (by intro t ht; revert t; exact of_decide_eq_true (by kernel_rfl)) rfl rfl ho⟩

theorem holds : Rows.AttrFlagsSaid :=
  OpenClaim.holds_of_wide 5 Tryd.f5 rfl rfl rfl rfl rfl rfl rfl ⟨rfl, rfl, rfl, rfl, rfl⟩ rfl rfl rfl rfl rfl (by kernel_rfl) Tryd.func5 (by kernel_rfl)
    (of_decide_eq_true (by kernel_rfl)) (by unfold Func.isWrapper; first | (rw [if_pos (by decide +kernel)]; kernel_rfl) | (rw [if_neg (by decide +kernel)]; exact ⟨rfl, rfl⟩))
    (fun os started H enc _ => lifted os started H enc)

theorem proved : Rows.AttrFlagsCardSaid :=
  Claim7.holds_tied_plain_at .later [] Rows.attrFlagsCard.laidKinds true Rows.attrFlagsCard.stood.harness false
    holds (fun _ h => by cases h) (by kernel_rfl) (fun _ h => by cases h) attrFlags_row_tie rfl ⟨rfl, rfl⟩ (by kernel_rfl) rfl
    (fun f fn hf hfn => by
      obtain rfl : f = 5 := Option.some.inj ((show Tryd.prog.funcNamed "phosphor/phosphorlaw12.AttrFlags" = some 5 by kernel_rfl).symm.trans hf) |>.symm
      obtain rfl : fn = Tryd.f5 := (Option.some.inj (Tryd.func5.symm.trans hfn)).symm
      exact ⟨by kernel_rfl, fun j t ht => by
        rw [Tryd.params5] at ht
        have hm : t ∈ [23, 3] := by simpa using Array.mem_of_getElem? ht
        have hall : ([23, 3].all fun u => !Tryd.prog.wantsStandIn u) = true := by kernel_rfl
        exact (show Tryd.prog.wantsStandIn t = false by simpa using List.all_eq_true.1 hall t hm)⟩)
    (by kernel_rfl)
end Go.Proofs.YtjfmebjjdiodbaaDoor.aflags
