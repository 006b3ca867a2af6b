/-
  Proves: for every two matrices and every place, PixelDraws tells true, and leaves all that was there as it was.
-/
import Derived.Test.YtngaabnmhcncmaaPxTd
import Derived.Test.YtngaabnmhcncmaaPxMt
import Derived.Test.YtngaabnmhcncmaaPxT
import Derived.Test.YtngaabnmhcncmaaPxL
import Derived.Test.YtngaabnmhcncmaaLaw
import Derived.Test.YtngaabnmhcncmaaOpen
import Derived.Test.YtngaabnmhcncmaaLoose
namespace Go.Proofs.Ytngaabnmhcncmaa.pdraws
open Go Go.RowKit Go.ChangeShapes Go.WideShapes Go.ChangeAt

/-- A call that tells a new matrix: of these sides, of these bytes. -/
def isMat (W H : Nat) (l : List UInt8) : (Value → Prop) × (Value → World → Prop) :=
  (fun v => ∃ A c, v = .agg #[.int .i64 (W : Int), .int .i64 (H : Int), .slice A l.length c], fun v w => ∀ A c, v = .agg #[.int .i64 (W : Int), .int .i64 (H : Int), .slice A l.length c] → Holds w 1 A l.length (bvals l))
/-- One that tells this. -/
def isVal (u : Value) : (Value → Prop) × (Value → World → Prop) := (fun v => v = u, fun _ _ => True)
theorem isMat_of {B W H : Nat} {l : List UInt8} {w : World} {e : Ending} {w' : World} (h : ∃ v, e = .returned v ∧ Own w' B W H v l ∧ Only [] w w') : ∃ v, e = .returned v ∧ Only [] w w' ∧ (isMat W H l).1 v ∧ (isMat W H l).2 v w' := by
  obtain ⟨v, rfl, ⟨A, c, rfl, ho⟩, h1⟩ := h
  refine ⟨_, rfl, h1, ⟨A, c, rfl⟩, fun A' c' he => ?_⟩
  simp only [mval] at he
  injection he with he
  injection he with he
  simp at he
  obtain ⟨rfl, rfl⟩ := he
  exact Holds.of_own ho
theorem isVal_of {u : Value} {w : World} {e : Ending} {w' : World} (h : e = .returned u ∧ Only [] w w') : ∃ v, e = .returned v ∧ Only [] w w' ∧ (isVal u).1 v ∧ (isVal u).2 v w' := ⟨u, h.1, h.2, rfl, trivial⟩
theorem isMat_later (W H : Nat) (l : List UInt8) : ∀ v w w', Only [] w w' → (isMat W H l).2 v w → (isMat W H l).2 v w' := fun v w w' ho h A c he => (h A c he).keep ho (by simp)

set_option maxRecDepth 100000 in
set_option maxHeartbeats 8000000 in
theorem core (W H : Nat) (A : Option Addr) (n c : Nat) (l : List UInt8) (W' H' : Nat) (A' : Option Addr) (n' c' : Nat) (l' : List UInt8) (x y : Int) (w : World)
    (hok : okM W H n) (hn : n ≤ 16384) (hl : l.length = n) (hc : n ≤ c) (hA : A = none → c = 0 ∧ n = 0) (hb : Holds w 1 A n (bvals l))
    (hok' : okM W' H' n') (hn' : n' ≤ 16384) (hl' : l'.length = n') (hc' : n' ≤ c') (hb' : Holds w 1 A' n' (bvals l'))
    (hx : -9223372036854775808 ≤ x ∧ x ≤ 9223372036854775807) (hy : -9223372036854775808 ≤ y ∧ y ≤ 9223372036854775807) :
    Calls Try.prog 5 #[mval W H A n c, mval W' H' A' n' c', .int .i64 x, .int .i64 y] w fun e w' => e = .returned (.bool true) ∧ Only [] w w' := by
  show Calls Try.prog 5 #[.agg #[.int .i64 W, .int .i64 H, .slice A n c], .agg #[.int .i64 W', .int .i64 H', .slice A' n' c'], .int .i64 x, .int .i64 y] w _
  have HK := hide (fun w => known_any w)
  have HF := hide (fun w => few_any W H A n c w)
  rw [decide_eq_true hn] at HF
  have HF' := hide (fun w => few_any W' H' A' n' c' w)
  rw [decide_eq_true hn'] at HF'
  have HO := hide (fun w => of_any W H A n c w)
  have HO' := hide (fun w => of_any W' H' A' n' c' w)
  have HR := hide (fun w => tRight_any W H A n c w)
  rw [hok.right] at HR
  have HR' := hide (fun w => tRight_any W' H' A' n' c' w)
  rw [hok'.right] at HR'
  have HD := hide (fun w (h : Holds w 1 A n (bvals l)) (h' : Holds w 1 A' n' (bvals l')) => draw_any W H A n c l W' H' A' n' c' l' x y w h hl hok hA h' hl' hok' hc' hx hy)
  have HTD := hide (fun w (h : Holds w 1 A n (bvals l)) (h' : Holds w 1 A' n' (bvals l')) => tDraw_any W H A n c l W' H' A' n' c' l' x y w h hl hok h' hl' hok' hx hy)
  generalize drawL W H W' H' x y l l' = DL at *
  have HAl := hide (fun w A1 A2 c1 c2 (h : Holds w 1 A1 DL.length (bvals DL)) (h' : Holds w 1 A2 DL.length (bvals DL)) => alike_any W H W H A1 A2 _ _ c1 c2 DL DL w h h')
  rw [sameB_self] at HAl
  have HS := hide (fun w (h : Holds w 1 A n (bvals l)) (h' : Holds w 1 A' n' (bvals l')) => same_any W H W' H' A A' n n' c c' l l' w h h' hl hl' hok hok' hc hc')
  have HTS := hide (fun w (h : Holds w 1 A n (bvals l)) (h' : Holds w 1 A' n' (bvals l')) => tSame_any W H W' H' A A' n n' c c' l l' w h h')
  generalize sameB W H W' H' l l' = bs at *
  have HSS := hide (fun w (h : Holds w 1 A n (bvals l)) => same_any W H W H A A n n c c l l w h h hl hl hok hok hc hc)
  rw [sameB_self] at HSS
  obtain ⟨w0, hw0⟩ : ∃ w0, w0 = (w.alloc (.cells #[.int .i64 (W : Int), .int .i64 (H : Int), .slice A n c] 24)).alloc (.cells #[.int .i64 (W' : Int), .int .i64 (H' : Int), .slice A' n' c'] 24) := ⟨_, rfl⟩
  have o0 : Only [] w w0 := by rw [hw0]; exact ((Only.refl [] w).alloc _).alloc _
  have m0 : Mt w0 w.heap.size 24 W H A n c l := by rw [hw0]; exact (Mt.new hb).only ((Only.refl [] _).alloc _)
  have q0 : Mt w0 (w.heap.size + 1) 24 W' H' A' n' c' l' := ⟨by rw [hw0]; exact Has.new' _ _ _ _ (by simp), hb'.keep o0 (by simp)⟩
  have HM0 := hide (And.intro o0 (And.intro m0 q0))
  unfold mval at HF HF' HO HO' HR HR' HD HTD HAl HS HTS HSS
  clear hok hn hl hc hA hb hok' hn' hl' hc' hb' hx hy o0 m0 q0
  go_enter Try.func5, Try.ntmps5
  go_wp2_with fail
  rw [← hw0]
  clear hw0
  refine (HK.out _).mono ?_
  rintro e w1 ⟨rfl, ho1⟩
  have HM := hide (And.intro (HM0.out.1.trans ho1 (S := []) (by simp)) (And.intro (HM0.out.2.1.only ho1) (HM0.out.2.2.only ho1)))
  obtain ⟨b0, b1, b2⟩ := HM.out.2.1.cells
  obtain ⟨d0, d1, d2⟩ := HM.out.2.2.cells
  clear ho1 HM0 HK
  go_wp2_with fail
  refine (HF.out _).mono ?_
  rintro e w2 ⟨rfl, ho2⟩
  have HM := hide (And.intro (HM.out.1.trans ho2 (S := []) (by simp)) (And.intro (HM.out.2.1.only ho2) (HM.out.2.2.only ho2)))
  obtain ⟨b0, b1, b2⟩ := HM.out.2.1.cells
  obtain ⟨d0, d1, d2⟩ := HM.out.2.2.cells
  clear ho2 HF
  go_wp2_with fail
  refine (HF'.out _).mono ?_
  rintro e w3 ⟨rfl, ho3⟩
  have HM := hide (And.intro (HM.out.1.trans ho3 (S := []) (by simp)) (And.intro (HM.out.2.1.only ho3) (HM.out.2.2.only ho3)))
  obtain ⟨b0, b1, b2⟩ := HM.out.2.1.cells
  obtain ⟨d0, d1, d2⟩ := HM.out.2.2.cells
  clear ho3 HF'
  go_wp2_with fail
  refine (HO.out _).mono ?_
  rintro e w4 ⟨rfl, ho4⟩
  have HM := hide (And.intro (HM.out.1.trans ho4 (S := []) (by simp)) (And.intro (HM.out.2.1.only ho4) (HM.out.2.2.only ho4)))
  clear ho4
  go_wp2_with fail
  refine (HR.out _).mono ?_
  rintro e w5 ⟨rfl, ho5⟩
  have HM := hide (And.intro (HM.out.1.trans ho5 (S := []) (by simp)) (And.intro (HM.out.2.1.only ho5) (HM.out.2.2.only ho5)))
  obtain ⟨b0, b1, b2⟩ := HM.out.2.1.cells
  obtain ⟨d0, d1, d2⟩ := HM.out.2.2.cells
  clear ho5 HR
  go_wp2_with fail
  refine (HO'.out _).mono ?_
  rintro e w6 ⟨rfl, ho6⟩
  have HM := hide (And.intro (HM.out.1.trans ho6 (S := []) (by simp)) (And.intro (HM.out.2.1.only ho6) (HM.out.2.2.only ho6)))
  clear ho6
  go_wp2_with fail
  refine (HR'.out _).mono ?_
  rintro e w7 ⟨rfl, ho7⟩
  have HM := hide (And.intro (HM.out.1.trans ho7 (S := []) (by simp)) (And.intro (HM.out.2.1.only ho7) (HM.out.2.2.only ho7)))
  obtain ⟨b0, b1, b2⟩ := HM.out.2.1.cells
  obtain ⟨d0, d1, d2⟩ := HM.out.2.2.cells
  clear ho7 HR'
  go_wp2_with fail
  have b0 := later_cell b0
  have b1 := later_cell b1
  have b2 := later_cell b2
  have d0 := later_cell d0
  have d1 := later_cell d1
  have d2 := later_cell d2
  have hM : ∀ w', Only [] w7 w' → Holds w' 1 A n (bvals l) ∧ Holds w' 1 A' n' (bvals l') := fun w' h => ⟨(HM.out.2.1.only h).row, (HM.out.2.2.only h).row⟩
  have HMM := hide hM
  clear hM
  have hbb : (bs == bs) = true := by simp
  refine region_loose 29 60 (fun i => if i = 4 then some (isMat W H DL) else if i = 6 then some (isVal (.agg #[.int .i64 (W : Int), .int .i64 (H : Int), .slice A n c])) else if i = 8 then some (isVal (.agg #[.int .i64 (W' : Int), .int .i64 (H' : Int), .slice A' n' c']))
    else if i = 11 then some (isMat W H DL) else if i = 12 then some (isVal (.bool true)) else if i = 16 then some (isVal (.bool bs)) else if i = 18 then some (isVal (.agg #[.int .i64 (W : Int), .int .i64 (H : Int), .slice A n c])) else if i = 20 then some (isVal (.agg #[.int .i64 (W' : Int), .int .i64 (H' : Int), .slice A' n' c']))
    else if i = 21 then some (isVal (.bool bs)) else if i = 27 then some (isVal (.bool true)) else none) (by kernel_rfl) (by kernel_rfl) (by kernel_rfl) (by rfl) (by rfl) (fun i hi => ?_) (fun i S hS => ?_) ?_
  · have hi : 30 ≤ i := hi
    show (if i = 4 then _ else _) = none
    iterate 10 rw [if_neg (by omega)]
  · repeat' split at hS
    all_goals first | (injection hS with hS; subst hS; first | exact isMat_later _ _ _ | exact fun _ _ _ _ _ => trivial) | cases hS
  simp only [List.take_succ_cons, List.take_zero, List.drop_succ_cons, List.drop_zero]
  refine wpLoose_chunk 4 (by kernel_rfl) (by rfl) ?_
  simp only [List.take_succ_cons, List.take_zero, List.drop_succ_cons, List.drop_zero, List.length_cons, List.length_nil, Nat.zero_add, Nat.reduceAdd]
  iterate 4 (go_big_quiet_step (fail))
  refine wpQuiet_nil ?_
  refine wpLoose_step (isMat W H DL) rfl (by rfl) ⟨_, none, 0, rfl⟩ (fun w' ho hk => ?_) (fun v hv => ?_)
  · go_simp
    exact ⟨rfl, (HD.out w' (HMM.out w' ho).1 (HMM.out w' ho).2).mono fun e w'' h => isMat_of h⟩
  obtain ⟨A1, c1, rfl⟩ := hv
  go_simp
  refine wpLoose_chunk 1 (by kernel_rfl) (by rfl) ?_
  simp only [List.take_succ_cons, List.take_zero, List.drop_succ_cons, List.drop_zero, List.length_cons, List.length_nil, Nat.zero_add, Nat.reduceAdd]
  (go_big_quiet_step (fail))
  refine wpQuiet_nil ?_
  refine wpLoose_step (isVal (.agg #[.int .i64 (W : Int), .int .i64 (H : Int), .slice A n c])) rfl (by rfl) ⟨_, rfl⟩ (fun w' ho hk => ?_) (fun v hv => ?_)
  · go_simp
    exact ⟨rfl, (HO.out w').mono fun e w'' h => isVal_of h⟩
  obtain rfl := hv
  go_simp
  refine wpLoose_chunk 1 (by kernel_rfl) (by rfl) ?_
  simp only [List.take_succ_cons, List.take_zero, List.drop_succ_cons, List.drop_zero, List.length_cons, List.length_nil, Nat.zero_add, Nat.reduceAdd]
  (go_big_quiet_step (fail))
  refine wpQuiet_nil ?_
  refine wpLoose_step (isVal (.agg #[.int .i64 (W' : Int), .int .i64 (H' : Int), .slice A' n' c'])) rfl (by rfl) ⟨_, rfl⟩ (fun w' ho hk => ?_) (fun v hv => ?_)
  · go_simp
    exact ⟨rfl, (HO'.out w').mono fun e w'' h => isVal_of h⟩
  obtain rfl := hv
  go_simp
  refine wpLoose_chunk 2 (by kernel_rfl) (by rfl) ?_
  simp only [List.take_succ_cons, List.take_zero, List.drop_succ_cons, List.drop_zero, List.length_cons, List.length_nil, Nat.zero_add, Nat.reduceAdd]
  iterate 2 (go_big_quiet_step (fail))
  refine wpQuiet_nil ?_
  refine wpLoose_step (isMat W H DL) rfl (by rfl) ⟨_, none, 0, rfl⟩ (fun w' ho hk => ?_) (fun v hv => ?_)
  · go_simp
    exact ⟨rfl, (HTD.out w' (HMM.out w' ho).1 (HMM.out w' ho).2).mono fun e w'' h => isMat_of h⟩
  obtain ⟨A2, c2, rfl⟩ := hv
  go_simp
  refine wpLoose_step (isVal (.bool true)) rfl (by rfl) ⟨_, rfl⟩ (fun w' ho hk => ?_) (fun v hv => ?_)
  · have k1 := hk _ (Array.mem_of_getElem? (i := 0) (by rfl)) (by rfl)
    have k1 : (isMat W H DL).1 (.agg #[.int .i64 (W : Int), .int .i64 (H : Int), .slice A1 DL.length c1]) ∧ (isMat W H DL).2 (.agg #[.int .i64 (W : Int), .int .i64 (H : Int), .slice A1 DL.length c1]) w' := k1
    have k2 := hk _ (Array.mem_of_getElem? (i := 1) (by rfl)) (by rfl)
    have k2 : (isMat W H DL).1 (.agg #[.int .i64 (W : Int), .int .i64 (H : Int), .slice A2 DL.length c2]) ∧ (isMat W H DL).2 (.agg #[.int .i64 (W : Int), .int .i64 (H : Int), .slice A2 DL.length c2]) w' := k2
    go_simp
    exact ⟨rfl, (HAl.out w' A1 A2 c1 c2 (k1.2 A1 c1 rfl) (k2.2 A2 c2 rfl)).mono fun e w'' h => isVal_of h⟩
  obtain rfl := hv
  go_simp
  refine wpLoose_chunk 3 (by kernel_rfl) (by rfl) ?_
  simp only [List.take_succ_cons, List.take_zero, List.drop_succ_cons, List.drop_zero, List.length_cons, List.length_nil, Nat.zero_add, Nat.reduceAdd]
  iterate 3 (go_big_quiet_step (fail))
  refine wpQuiet_nil ?_
  refine wpLoose_step (isVal (.bool bs)) rfl (by rfl) ⟨_, rfl⟩ (fun w' ho hk => ?_) (fun v hv => ?_)
  · go_simp
    exact ⟨rfl, (HS.out w' (HMM.out w' ho).1 (HMM.out w' ho).2).mono fun e w'' h => isVal_of h⟩
  obtain rfl := hv
  go_simp
  refine wpLoose_chunk 1 (by kernel_rfl) (by rfl) ?_
  simp only [List.take_succ_cons, List.take_zero, List.drop_succ_cons, List.drop_zero, List.length_cons, List.length_nil, Nat.zero_add, Nat.reduceAdd]
  (go_big_quiet_step (fail))
  refine wpQuiet_nil ?_
  refine wpLoose_step (isVal (.agg #[.int .i64 (W : Int), .int .i64 (H : Int), .slice A n c])) rfl (by rfl) ⟨_, rfl⟩ (fun w' ho hk => ?_) (fun v hv => ?_)
  · go_simp
    exact ⟨rfl, (HO.out w').mono fun e w'' h => isVal_of h⟩
  obtain rfl := hv
  go_simp
  refine wpLoose_chunk 1 (by kernel_rfl) (by rfl) ?_
  simp only [List.take_succ_cons, List.take_zero, List.drop_succ_cons, List.drop_zero, List.length_cons, List.length_nil, Nat.zero_add, Nat.reduceAdd]
  (go_big_quiet_step (fail))
  refine wpQuiet_nil ?_
  refine wpLoose_step (isVal (.agg #[.int .i64 (W' : Int), .int .i64 (H' : Int), .slice A' n' c'])) rfl (by rfl) ⟨_, rfl⟩ (fun w' ho hk => ?_) (fun v hv => ?_)
  · go_simp
    exact ⟨rfl, (HO'.out w').mono fun e w'' h => isVal_of h⟩
  obtain rfl := hv
  go_simp
  refine wpLoose_step (isVal (.bool bs)) rfl (by rfl) ⟨_, rfl⟩ (fun w' ho hk => ?_) (fun v hv => ?_)
  · go_simp
    exact ⟨rfl, (HTS.out w' (HMM.out w' ho).1 (HMM.out w' ho).2).mono fun e w'' h => isVal_of h⟩
  obtain rfl := hv
  go_simp
  refine wpLoose_chunk 5 (by kernel_rfl) (by rfl) ?_
  simp only [List.take_succ_cons, List.take_zero, List.drop_succ_cons, List.drop_zero, List.length_cons, List.length_nil, Nat.zero_add, Nat.reduceAdd]
  iterate 5 (go_big_quiet_step (fail))
  refine wpQuiet_nil ?_
  refine wpLoose_step (isVal (.bool true)) rfl (by rfl) ⟨_, rfl⟩ (fun w' ho hk => ?_) (fun v hv => ?_)
  · go_simp
    exact ⟨rfl, (HSS.out w' (HMM.out w' ho).1).mono fun e w'' h => isVal_of h⟩
  obtain rfl := hv
  go_simp
  refine wpLoose_chunk 1 (by kernel_rfl) (by rfl) ?_
  simp only [List.take_succ_cons, List.take_zero, List.drop_succ_cons, List.drop_zero, List.length_cons, List.length_nil, Nat.zero_add, Nat.reduceAdd]
  (go_big_quiet_step (fail))
  refine wpQuiet_nil ?_
  intro w' ho hT
  clear b0 b1 b2 d0 d1 d2 hT
  go_wp2_with fail
  go_ret
  exact ⟨by simp, HM.out.1.trans ho (by simp)⟩
set_option maxRecDepth 100000 in
set_option maxHeartbeats 8000000 in
/-- Nothing to look at: true is told. -/
theorem out (W H : Int) (A : Option Addr) (n c : Nat) (W' H' : Int) (A' : Option Addr) (n' c' : Nat) (x y : Int) (w : World) (h : 16384 < n ∨ 16384 < n' ∨ rightB W H n = false ∨ rightB W' H' n' = false) :
    Calls Try.prog 5 #[mval W H A n c, mval W' H' A' n' c', .int .i64 x, .int .i64 y] w fun e w' => e = .returned (.bool true) ∧ Only [] w w' := by
  show Calls Try.prog 5 #[.agg #[.int .i64 W, .int .i64 H, .slice A n c], .agg #[.int .i64 W', .int .i64 H', .slice A' n' c'], .int .i64 x, .int .i64 y] w _
  have HK := hide (fun w => known_any w)
  have HF := hide (fun w => few_any W H A n c w)
  have HF' := hide (fun w => few_any W' H' A' n' c' w)
  have HO := hide (fun w => of_any W H A n c w)
  have HO' := hide (fun w => of_any W' H' A' n' c' w)
  have HR := hide (fun w => tRight_any W H A n c w)
  have HR' := hide (fun w => tRight_any W' H' A' n' c' w)
  obtain ⟨w0, hw0⟩ : ∃ w0, w0 = (w.alloc (.cells #[.int .i64 W, .int .i64 H, .slice A n c] 24)).alloc (.cells #[.int .i64 W', .int .i64 H', .slice A' n' c'] 24) := ⟨_, rfl⟩
  have o0 : Only [] w w0 := by rw [hw0]; exact ((Only.refl [] w).alloc _).alloc _
  have m0 : Has w0 w.heap.size 24 #[.int .i64 W, .int .i64 H, .slice A n c] := by rw [hw0]; exact (Has.new w _ _).alloc _
  have q0 : Has w0 (w.heap.size + 1) 24 #[.int .i64 W', .int .i64 H', .slice A' n' c'] := by rw [hw0]; exact Has.new' _ _ _ _ (by simp)
  have HC := hide (fun (w' : World) (ho : Only [] w0 w') => And.intro ((m0.only ho (by simp)).cell 0) (And.intro ((m0.only ho (by simp)).cell 1) (And.intro ((m0.only ho (by simp)).cell 2) (And.intro ((q0.only ho (by simp)).cell 0) (And.intro ((q0.only ho (by simp)).cell 1) ((q0.only ho (by simp)).cell 2))))))
  simp only [List.getElem?_toArray, List.getElem?_cons_zero, List.getElem?_cons_succ] at HC
  have HO0 := hide o0
  unfold mval at HF HF' HO HO' HR HR'
  clear m0 q0 o0
  by_cases f1 : n ≤ 16384
  · rw [decide_eq_true f1] at HF
    by_cases f2 : n' ≤ 16384
    · rw [decide_eq_true f2] at HF'
      cases f3 : rightB W H n with
      | false =>
        rw [f3] at HR
        clear h f1 f2 f3 HR' HO'
        go_enter Try.func5, Try.ntmps5
        go_wp2_with fail
        rw [← hw0]
        clear hw0
        refine (HK.out _).mono ?_
        rintro e w1 ⟨rfl, o1⟩
        obtain ⟨b0, b1, b2, d0, d1, d2⟩ := HC.out w1 o1
        go_wp2_with fail
        refine (HF.out _).mono ?_
        rintro e w2 ⟨rfl, ho2⟩
        have o2 := o1.trans ho2 (S := []) (by simp)
        obtain ⟨b0, b1, b2, d0, d1, d2⟩ := HC.out w2 o2
        go_wp2_with fail
        refine (HF'.out _).mono ?_
        rintro e w3 ⟨rfl, ho3⟩
        have o3 := o2.trans ho3 (S := []) (by simp)
        obtain ⟨b0, b1, b2, d0, d1, d2⟩ := HC.out w3 o3
        go_wp2_with fail
        refine (HO.out _).mono ?_
        rintro e w4 ⟨rfl, ho4⟩
        have o4 := o3.trans ho4 (S := []) (by simp)
        go_wp2_with fail
        refine (HR.out _).mono ?_
        rintro e w5 ⟨rfl, ho5⟩
        go_wp2_with fail
        go_ret
        exact ⟨rfl, HO0.out.trans (o4.trans ho5 (S := []) (by simp)) (by simp)⟩
      | true =>
        rw [f3] at HR
        have f4 : rightB W' H' n' = false := by
          rcases h with h | h | h | h
          · omega
          · omega
          · rw [h] at f3; cases f3
          · exact h
        rw [f4] at HR'
        clear h f1 f2 f3 f4
        go_enter Try.func5, Try.ntmps5
        go_wp2_with fail
        rw [← hw0]
        clear hw0
        refine (HK.out _).mono ?_
        rintro e w1 ⟨rfl, o1⟩
        obtain ⟨b0, b1, b2, d0, d1, d2⟩ := HC.out w1 o1
        go_wp2_with fail
        refine (HF.out _).mono ?_
        rintro e w2 ⟨rfl, ho2⟩
        have o2 := o1.trans ho2 (S := []) (by simp)
        obtain ⟨b0, b1, b2, d0, d1, d2⟩ := HC.out w2 o2
        go_wp2_with fail
        refine (HF'.out _).mono ?_
        rintro e w3 ⟨rfl, ho3⟩
        have o3 := o2.trans ho3 (S := []) (by simp)
        obtain ⟨b0, b1, b2, d0, d1, d2⟩ := HC.out w3 o3
        go_wp2_with fail
        refine (HO.out _).mono ?_
        rintro e w4 ⟨rfl, ho4⟩
        have o4 := o3.trans ho4 (S := []) (by simp)
        go_wp2_with fail
        refine (HR.out _).mono ?_
        rintro e w5 ⟨rfl, ho5⟩
        have o5 := o4.trans ho5 (S := []) (by simp)
        obtain ⟨b0, b1, b2, d0, d1, d2⟩ := HC.out w5 o5
        clear ho2 ho3 ho4 ho5 o1 o2 o3 o4
        go_wp2_with fail
        refine (HO'.out _).mono ?_
        rintro e w6 ⟨rfl, ho6⟩
        have o6 := o5.trans ho6 (S := []) (by simp)
        go_wp2_with fail
        refine (HR'.out _).mono ?_
        rintro e w7 ⟨rfl, ho7⟩
        go_wp2_with fail
        go_ret
        exact ⟨rfl, HO0.out.trans (o6.trans ho7 (S := []) (by simp)) (by simp)⟩
    · rw [decide_eq_false f2] at HF'
      clear h f1 f2 HR' HO' HR HO
      go_enter Try.func5, Try.ntmps5
      go_wp2_with fail
      rw [← hw0]
      clear hw0
      refine (HK.out _).mono ?_
      rintro e w1 ⟨rfl, o1⟩
      obtain ⟨b0, b1, b2, d0, d1, d2⟩ := HC.out w1 o1
      go_wp2_with fail
      refine (HF.out _).mono ?_
      rintro e w2 ⟨rfl, ho2⟩
      have o2 := o1.trans ho2 (S := []) (by simp)
      obtain ⟨b0, b1, b2, d0, d1, d2⟩ := HC.out w2 o2
      go_wp2_with fail
      refine (HF'.out _).mono ?_
      rintro e w3 ⟨rfl, ho3⟩
      go_wp2_with fail
      go_ret
      exact ⟨rfl, HO0.out.trans (o2.trans ho3 (S := []) (by simp)) (by simp)⟩
  · rw [decide_eq_false f1] at HF
    clear h f1 HR' HO' HR HO HF'
    go_enter Try.func5, Try.ntmps5
    go_wp2_with fail
    rw [← hw0]
    clear hw0
    refine (HK.out _).mono ?_
    rintro e w1 ⟨rfl, o1⟩
    obtain ⟨b0, b1, b2, d0, d1, d2⟩ := HC.out w1 o1
    go_wp2_with fail
    refine (HF.out _).mono ?_
    rintro e w2 ⟨rfl, ho2⟩
    go_wp2_with fail
    go_ret
    exact ⟨rfl, HO0.out.trans (o1.trans ho2 (S := []) (by simp)) (by simp)⟩

theorem whole (W H : Int) (A : Option Addr) (n c : Nat) (l : List UInt8) (W' H' : Int) (A' : Option Addr) (n' c' : Nat) (l' : List UInt8) (x y : Int) (w : World)
    (hl : l.length = n) (hc : n ≤ c) (hA : A = none → c = 0 ∧ n = 0) (hb : Holds w 1 A n (bvals l)) (hl' : l'.length = n') (hc' : n' ≤ c') (hb' : Holds w 1 A' n' (bvals l'))
    (hx : -9223372036854775808 ≤ x ∧ x ≤ 9223372036854775807) (hy : -9223372036854775808 ≤ y ∧ y ≤ 9223372036854775807) :
    Calls Try.prog 5 #[mval W H A n c, mval W' H' A' n' c', .int .i64 x, .int .i64 y] w fun e w' => e = .returned (.bool true) ∧ Only [] w w' := by
  by_cases h : 16384 < n ∨ 16384 < n' ∨ rightB W H n = false ∨ rightB W' H' n' = false
  · exact out W H A n c W' H' A' n' c' x y w h
  · have hr : rightB W H n = true := by cases hx : rightB W H n with
      | true => rfl
      | false => exact absurd (.inr (.inr (.inl hx))) h
    have hr' : rightB W' H' n' = true := by cases hx : rightB W' H' n' with
      | true => rfl
      | false => exact absurd (.inr (.inr (.inr hx))) h
    obtain ⟨a, b, rfl, rfl, hok⟩ := rightB_ok hr
    obtain ⟨a', b', rfl, rfl, hok'⟩ := rightB_ok hr'
    exact core a b A n c l a' b' A' n' c' l' x y w hok (by omega) hl hc hA hb hok' (by omega) hl' hc' hb' hx hy
set_option maxRecDepth 100000 in
theorem lifted (os : Os) (started : os.Started) (H : Type) (enc : TypeId × Value → H) :
    ReturnsInHanded {} Try.checked os 5 .any (Rows.pixelDrawsSpec.pre6 enc Try.prog Try.f5 Rows.pixelDrawsRow.domain false)
      (Rows.pixelDrawsSpec.post enc Try.prog Try.f5 false true false false) := by
  refine returnsInHanded_of_change (C := Try.checked) own_knob started (by kernel_rfl) Try.func5
    (ChangeSpec.witness6 (enc := enc) (C := Try.checked) false ⟨#[], #[.agg #[.int .i64 0, .int .i64 0, .slice none 0 0], .agg #[.int .i64 0, .int .i64 0, .slice none 0 0], .int .i64 0, .int .i64 0], []⟩ 8 (by kernel_rfl) (by kernel_rfl) (by kernel_rfl) (by kernel_rfl)) ?_
  intro W base args ds gs before hval0 hW hcnd _
  have hval : ∀ (j : Nat) t v, Try.f5.params[j]? = some t → args[j]? = some v → Value.okWide Try.prog W .any base t v := hval0
  have hW' := hW
  obtain ⟨p, q, hA0, hV, rfl, hfz, hnd⟩ := hW
  have hA : DataW.TrodAll enc Try.prog W 0 (fun _ => true) true Try.f5.params.toList args.toList ds p := hA0
  rw [Try.params5] at hA hval
  obtain ⟨v0, vs0, d0, ds0, p0, q0, hargs, rfl, rfl, h0, r0⟩ := trodAll_cons hA
  obtain ⟨v1, vs1, d1, ds1, p1, q1, rfl, rfl, rfl, h1, r1⟩ := trodAll_cons r0
  obtain ⟨v2, vs2, d2, ds2, p2, q2, rfl, rfl, rfl, h2, r2⟩ := trodAll_cons r1
  obtain ⟨v3, vs3, d3, ds3, p3, q3, rfl, rfl, rfl, h3, r3⟩ := trodAll_cons r2
  obtain ⟨rfl, rfl, rfl⟩ := trodAll_nil r3
  obtain rfl : args = #[v0, v1, v2, v3] := by cases args; simp_all
  obtain ⟨W0, H0, A0, n0, c0, l0, rfl, hW0, hH0, hc0, cm0, hN0, hl0, hb0⟩ := open_mat (hval 0 24 v0 rfl rfl) h0
  obtain ⟨W1, H1, A1, n1, c1, l1, rfl, hW1, hH1, hc1, cm1, hN1, hl1, hb1⟩ := open_mat (hval 1 24 v1 rfl rfl) h1
  obtain ⟨z2, rfl, rfl, rfl, wf2⟩ := open_int Try.underlying3 (hval 2 3 v2 rfl rfl) h2
  have r2' := wf_i64 wf2
  obtain ⟨z3, rfl, rfl, rfl, wf3⟩ := open_int Try.underlying3 (hval 3 3 v3 rfl rfl) h3
  have r3' := wf_i64 wf3
  unfold maxLen at *
  refine (whole W0 H0 A0 n0 c0 l0 W1 H1 A1 n1 c1 l1 z2 z3 W hl0 hc0 hN0 hb0 hl1 hc1 hb1 r2' r3').mono fun e W' ⟨he, ho⟩ => ?_
  subst he
  exact ⟨_, rfl, law_post rfl hW' (by intro t ht; revert t; exact of_decide_eq_true (by kernel_rfl)) rfl rfl ho⟩

theorem proved : Rows.PixelDrawsSaid :=
  OpenClaim.holds_of_wide 5 Try.f5 rfl rfl rfl rfl rfl rfl rfl ⟨rfl, rfl, rfl, rfl, rfl⟩ rfl rfl rfl rfl rfl (by kernel_rfl) Try.func5 (by kernel_rfl)
    (of_decide_eq_true (by kernel_rfl)) (by unfold Func.isWrapper; first | (rw [if_pos (by decide +kernel)]; kernel_rfl) | (rw [if_neg (by decide +kernel)]; exact ⟨rfl, rfl⟩))
    (fun os started H enc _ => lifted os started H enc)
end Go.Proofs.Ytngaabnmhcncmaa.pdraws
