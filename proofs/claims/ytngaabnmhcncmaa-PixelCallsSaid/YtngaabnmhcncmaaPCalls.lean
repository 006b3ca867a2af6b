/-
  Proves: for every matrix, place, size and colour, PixelCalls tells true, and leaves all that was there as it was.
-/
import Derived.Test.YtngaabnmhcncmaaPxTf
import Derived.Test.YtngaabnmhcncmaaPxMt
import Derived.Test.YtngaabnmhcncmaaPxPp
import Derived.Test.YtngaabnmhcncmaaPxT
import Derived.Test.YtngaabnmhcncmaaPxL
import Derived.Test.YtngaabnmhcncmaaLaw
import Derived.Test.YtngaabnmhcncmaaOpen
namespace Go.Proofs.Ytngaabnmhcncmaa.pcalls
open Go Go.RowKit Go.ChangeShapes Go.WideShapes Go.ChangeAt

theorem isMat_of {B : Nat} {W H : Int} {l : List UInt8} {w : World} {e : Ending} {w' : World} (h : ∃ v, e = .returned v ∧ Own w' B W H v l ∧ Only [] w w') : ∃ v, e = .returned v ∧ Only [] w w' ∧ (isMat W H l).1 v ∧ (isMat W H l).2 v w' := by
  obtain ⟨v, rfl, ⟨A, c, rfl, ho⟩, h1⟩ := h
  refine ⟨_, rfl, h1, ⟨A, c, rfl⟩, fun A' c' he => ?_⟩
  simp only [mval] at he
  injection he with he
  injection he with he
  simp at he
  obtain ⟨rfl, rfl⟩ := he
  exact Holds.of_own ho
theorem isMatAnd_of {B : Nat} {W H : Int} {l : List UInt8} {u : Value} {w : World} {e : Ending} {w' : World} (h : ∃ v, e = .returned (.tuple #[v, u]) ∧ Own w' B W H v l ∧ Only [] w w') : ∃ v, e = .returned v ∧ Only [] w w' ∧ (isMatAnd W H l u).1 v ∧ (isMatAnd W H l u).2 v w' := by
  obtain ⟨v, rfl, ⟨A, c, rfl, ho⟩, h1⟩ := h
  refine ⟨_, rfl, h1, ⟨A, c, rfl⟩, fun A' c' he => ?_⟩
  simp only [mval] at he
  injection he with he
  injection he with he
  simp at he
  obtain ⟨rfl, rfl⟩ := he
  exact Holds.of_own ho

/-- Bytes do not lie in a block that holds none. -/
theorem ne_has {w : World} {A : Option Addr} {m g : Nat} {l : List UInt8} {t : TypeId} {cs : Array Value} (h : Holds w 1 A m (bvals l)) (hg : Has w g t cs) (hc : ∀ (i : Nat) (x : Int), cs[i]? ≠ some (.int .u8 x)) (hm : 0 < m) : ∀ ad, A = some ad → ad.block ≠ g := by
  have hl := h.1
  rw [bvals_length] at hl
  obtain ⟨b, o, rfl, hce⟩ := h.addr (by simp; omega)
  rintro ad he rfl
  injection he with he
  subst he
  have h0 := hce 0 _ (bvals_get l 0 (by omega))
  rw [hg.cell] at h0
  exact hc _ _ h0
theorem zero_no_byte (i : Nat) (x : Int) : (#[.int .i64 0, .int .i64 0, .slice none 0 0] : Array Value)[i]? ≠ some (.int .u8 x) := by
  intro h
  rcases i with _ | _ | _ | i <;> simp at h
/-- What the law's own boxes hold all along. -/
def Base (w : World) (W H : Int) (A : Option Addr) (n c : Nat) (l : List UInt8) (cx : Px) (w' : World) : Prop :=
  Only [] w w' ∧ Mt w' w.heap.size 24 W H A n c l ∧ Has w' (w.heap.size + 1) 41 cx.cells
theorem Base.on {w w1 w2 : World} {W H : Int} {A : Option Addr} {n c : Nat} {l : List UInt8} {cx : Px} (h : Base w W H A n c l cx w1) (ho : Only [] w1 w2) : Base w W H A n c l cx w2 :=
  ⟨h.1.trans ho (by simp), h.2.1.only ho, h.2.2.only ho (by simp)⟩
theorem box4 {w : World} {g : Nat} {t : TypeId} {cx : Px} (h : Has w g t cx.cells) : w.cell? ⟨g, 0, none⟩ = some (.int .u8 (cx.r.toNat : Int)) ∧ w.cell? ⟨g, 1, none⟩ = some (.int .u8 (cx.g.toNat : Int)) ∧ w.cell? ⟨g, 2, none⟩ = some (.int .u8 (cx.b.toNat : Int)) ∧ w.cell? ⟨g, 3, none⟩ = some (.int .u8 (cx.a.toNat : Int)) :=
  ⟨h.cell 0, h.cell 1, h.cell 2, h.cell 3⟩
theorem box3 {w : World} {g : Nat} {t : TypeId} {W H : Int} {A : Option Addr} {n c : Nat} (h : Has w g t #[.int .i64 W, .int .i64 H, .slice A n c]) : w.cell? ⟨g, 0, none⟩ = some (.int .i64 W) ∧ w.cell? ⟨g, 1, none⟩ = some (.int .i64 H) ∧ w.cell? ⟨g, 2, none⟩ = some (.slice A n c) :=
  ⟨h.cell 0, h.cell 1, h.cell 2⟩

/-- Both ways of fitting tell the same. -/
theorem fit_both (W H : Nat) (A : Option Addr) (n c : Nat) (l : List UInt8) (p q : Int) (hl : l.length = n) (hok : okM W H n) (hc : n ≤ c) : ∃ (X Y : Int) (L : List UInt8) (ee : Int),
    (∀ w, Holds w 1 A n (bvals l) → Calls Try.prog 30 #[mval W H A n c, .int .i64 p, .int .i64 q] w fun e w' => ∃ v, e = .returned (.tuple #[v, .int .i64 ee]) ∧ Own w' w.heap.size X Y v L ∧ Only [] w w') ∧
    (∀ w, Holds w 1 A n (bvals l) → Calls Try.prog 31 #[mval W H A n c, .int .i64 p, .int .i64 q] w fun e w' => ∃ v, e = .returned (.tuple #[v, .int .i64 ee]) ∧ Own w' w.heap.size X Y v L ∧ Only [] w w') := by
  cases hf : fitB W p q with
  | false => exact ⟨0, 0, [], 1, fun w _ => fit_bad W H A n c p q w hok hf, fun w _ => tFit_bad W H A n c p q w hf⟩
  | true =>
    have hmb : mayI p q = true := by unfold fitB at hf; rw [Bool.and_eq_true] at hf; exact hf.1
    obtain ⟨a, b, rfl, rfl, _, _⟩ := mayI_nat hmb
    exact ⟨a, b, fitL W H a b l, 0, fun w hb => fit_ok W H A n c l a b w hb hl hok hc hf, fun w hb => tFit_ok W H A n c l a b w hb hl hok hf⟩

set_option maxRecDepth 100000 in
set_option maxHeartbeats 8000000 in
theorem core (W H : Nat) (A : Option Addr) (n c : Nat) (l : List UInt8) (x y p q : Int) (cx : Px) (w : World) (hok : okM W H n) (hn : n ≤ 16384) (hl : l.length = n) (hc : n ≤ c) (hA : A = none → c = 0 ∧ n = 0) (hb : Holds w 1 A n (bvals l))
    (hx : -9223372036854775808 ≤ x ∧ x ≤ 9223372036854775807) (hy : -9223372036854775808 ≤ y ∧ y ≤ 9223372036854775807) (hp : -9223372036854775808 ≤ p ∧ p ≤ 9223372036854775807) (hq : -9223372036854775808 ≤ q ∧ q ≤ 9223372036854775807) :
    Calls Try.prog 4 #[mval W H A n c, .int .i64 x, .int .i64 y, .int .i64 p, .int .i64 q, cx.val] w fun e w' => e = .returned (.bool true) ∧ Only [] w w' := by
  show Calls Try.prog 4 #[.agg #[.int .i64 W, .int .i64 H, .slice A n c], .int .i64 x, .int .i64 y, .int .i64 p, .int .i64 q, .agg cx.cells] w _
  have HK := hide (fun w => known_any w)
  have HF := hide (fun w => few_any W H A n c w)
  rw [decide_eq_true hn] at HF
  have HO := hide (fun w => of_any W H A n c w)
  have HR := hide (fun w => tRight_any W H A n c w)
  rw [hok.right] at HR
  have HSm := hide (fun w => small_any p q w)
  have HAt := hide (fun w (h : Holds w 1 A n (bvals l)) => at_any W H A n c l x y w h hl hok hc hx hy)
  have HTAt := hide (fun w (h : Holds w 1 A n (bvals l)) => tAt_any W H A n c l x y w h hl hok)
  generalize atP W H l x y = pa at *
  have HSet := hide (fun w (h : Holds w 1 A n (bvals l)) => set_any W H A n c l x y cx w h hl hok hA hx hy)
  have HTSet := hide (fun w (h : Holds w 1 A n (bvals l)) => tSet_any W H A n c l x y cx w h hl hok)
  generalize setL W H l x y cx = SL at *
  generalize isIn W H x y = ia at *
  have HCut := hide (fun w (h : Holds w 1 A n (bvals l)) => cut_any W H A n c l x y p q w h hl hok hc hx hy hp hq)
  have HTCut := hide (fun w (h : Holds w 1 A n (bvals l)) => tCut_any W H A n c l x y p q w h hl hok hx hy hp hq)
  generalize cutL W H x y p q l = CL at *
  generalize cutW W H x y p q = cw at *
  generalize cutH W H x y p q = ch at *
  have HFill := hide (fun w (h : Holds w 1 A n (bvals l)) => fill_any W H A n c l x y p q cx w h hl hok hA hx hy hp hq)
  have HTFill := hide (fun w (h : Holds w 1 A n (bvals l)) => tFill_any W H A n c l x y p q cx w h hl hok hx hy hp hq)
  generalize partL (fun _ _ _ => cx) W H x y p q l = FL at *
  obtain ⟨X, Y, L3, ee, hf1, hf2⟩ := fit_both W H A n c l p q hl hok hc
  have HFit := hide hf1
  have HTFit := hide hf2
  have HAl := hide (fun w (X Y : Int) (L : List UInt8) A1 A2 c1 c2 (h : Holds w 1 A1 L.length (bvals L)) (h' : Holds w 1 A2 L.length (bvals L)) => by
    have := alike_any X Y X Y A1 A2 _ _ c1 c2 L L w h h'
    rw [sameB_self] at this
    exact this)
  have hne : ∀ w', (binOp .neq 40 (.agg pa.cells) (.agg pa.cells)).run Try.prog w' = .ok (.bool false) w' := fun w' => by
    have := arr_ne pa pa w'
    rw [pxEq_self] at this
    exact this
  have hgd : ∀ w', (eqGuard .neq 40 (.tmp 68) (.tmp 69) (.agg pa.cells) (.agg pa.cells)).run Try.prog w' = .ok () w' := fun w' => run_eqGuard_agg w' .neq 40 (.tmp 68) (.tmp 69) pa.cells pa.cells (by kernel_rfl)
  have HNe := hide (And.intro hne hgd)
  obtain ⟨w0, hw0⟩ : ∃ w0, w0 = (w.alloc (.cells #[.int .i64 (W : Int), .int .i64 (H : Int), .slice A n c] 24)).alloc (.cells cx.cells 41) := ⟨_, rfl⟩
  have hB0 : Base w W H A n c l cx w0 := by
    rw [hw0]
    exact ⟨((Only.refl [] w).alloc _).alloc _, (Mt.new hb).only ((Only.refl [] _).alloc _), Has.new' _ _ _ _ (by simp)⟩
  have HB := hide hB0
  obtain ⟨sm, hsm⟩ : ∃ sm, sm = smallB p q := ⟨_, rfl⟩
  rw [← hsm] at HSm
  unfold mval at HF HO HR HAt HTAt HSet HTSet HCut HTCut HFill HTFill HFit HTFit HAl
  unfold Px.val at HAt HTAt HSet HTSet HFill HTFill
  clear hok hn hl hc hA hb hx hy hp hq hf1 hf2 hne hgd hB0 hsm
  go_enter Try.func4, Try.ntmps4
  go_wp2_with fail
  rw [← hw0]
  clear hw0
  refine (HK.out _).mono ?_
  rintro e w1 ⟨rfl, ho⟩
  have HB := hide (HB.out.on ho)
  obtain ⟨b0, b1, b2⟩ := box3 HB.out.2.1.box
  clear ho HK
  go_wp2_with fail
  refine (HF.out _).mono ?_
  rintro e w2 ⟨rfl, ho⟩
  have HB := hide (HB.out.on ho)
  obtain ⟨b0, b1, b2⟩ := box3 HB.out.2.1.box
  clear ho HF
  go_wp2_with fail
  refine (HO.out _).mono ?_
  rintro e w3 ⟨rfl, ho⟩
  have HB := hide (HB.out.on ho)
  clear ho
  go_wp2_with fail
  refine (HR.out _).mono ?_
  rintro e w4 ⟨rfl, ho⟩
  have HB := hide (HB.out.on ho)
  obtain ⟨b0, b1, b2⟩ := box3 HB.out.2.1.box
  clear ho HR
  go_wp2_with fail
  refine (HAt.out _ HB.out.2.1.row).mono ?_
  rintro e w5 ⟨rfl, ho⟩
  unfold Px.cells
  have oa : Only [] w5 (w5.alloc (.cells pa.cells 41)) := (Only.refl [] w5).alloc _
  have HB := hide (HB.out.on (ho.trans oa (S := []) (by simp)))
  have qa : Has (w5.alloc (.cells pa.cells 41)) w5.heap.size 41 pa.cells := Has.new w5 _ _
  have HQ := hide qa
  obtain ⟨b0, b1, b2⟩ := box3 HB.out.2.1.box
  unfold Px.cells at b0 b1 b2
  clear ho oa qa HAt
  go_wp2_with fail
  refine (HO.out _).mono ?_
  rintro e w6 ⟨rfl, ho⟩
  have HB := hide (HB.out.on ho)
  have HQ := hide (HQ.out.only ho (by simp))
  clear ho
  go_wp2_with fail
  refine (HTAt.out _ HB.out.2.1.row).mono ?_
  rintro e w7 ⟨rfl, ho⟩
  unfold Px.cells
  have oa : Only [] w7 (w7.alloc (.cells pa.cells 40)) := (Only.refl [] w7).alloc _
  have qb : Has (w7.alloc (.cells pa.cells 40)) w7.heap.size 40 pa.cells := Has.new w7 _ _
  have HB := hide (HB.out.on (ho.trans oa (S := []) (by simp)))
  have HQ := hide (And.intro (HQ.out.only (ho.trans oa (S := []) (by simp)) (by simp)) qb)
  obtain ⟨b0, b1, b2⟩ := box3 HB.out.2.1.box
  obtain ⟨k0, k1, k2, k3⟩ := box4 HB.out.2.2
  unfold Px.cells at b0 b1 b2 k0 k1 k2 k3
  clear ho oa qb HTAt
  go_wp2_with fail
  refine (HSet.out _ HB.out.2.1.row).mono ?_
  rintro e w8 ⟨v, rfl, hown, ho⟩
  obtain ⟨A8, c8, rfl, hb8, _, _⟩ := own_mat hown
  have oa : Only [] w8 (w8.alloc (.cells #[.int .i64 (W : Int), .int .i64 (H : Int), .slice A8 SL.length c8] 24)) := (Only.refl [] w8).alloc _
  have qc : Mt (w8.alloc (.cells #[.int .i64 (W : Int), .int .i64 (H : Int), .slice A8 SL.length c8] 24)) w8.heap.size 24 W H A8 SL.length c8 SL := Mt.new hb8
  have ob := ho.trans oa (S := []) (by simp)
  have HB := hide (HB.out.on ob)
  have HQ := hide (And.intro (HQ.out.1.only ob (by simp)) (And.intro (HQ.out.2.only ob (by simp)) qc))
  obtain ⟨b0, b1, b2⟩ := box3 HB.out.2.1.box
  obtain ⟨k0, k1, k2, k3⟩ := box4 HB.out.2.2
  clear ho oa ob qc hown hb8 HSet
  go_wp2_with fail
  obtain ⟨wz, hwz⟩ : ∃ wz, wz = w8.alloc (.cells #[.int .i64 (W : Int), .int .i64 (H : Int), .slice A8 SL.length c8] 24) := ⟨_, rfl⟩
  rw [← hwz] at HB HQ b0 b1 b2 k0 k1 k2 k3
  rw [← hwz]
  clear hwz
  have b0 := later_cell b0
  have b1 := later_cell b1
  have b2 := later_cell b2
  have k0 := later_cell k0
  have k1 := later_cell k1
  have k2 := later_cell k2
  have k3 := later_cell k3
  refine region_loose_add 10 150 10 8 (fun i => if i = 1 then some (isVal (.agg #[.int .i64 (W : Int), .int .i64 (H : Int), .slice A n c])) else if i = 5 then some (isMatAnd W H SL (.bool ia)) else if i = 9 then some (isBox wz.heap.size 31 #[.int .i64 0, .int .i64 0, .slice none 0 0]) else none) (by kernel_rfl) (by kernel_rfl) (by kernel_rfl) (by kernel_rfl) (by kernel_rfl) (by kernel_rfl) (by kernel_rfl) (by rfl) (by rfl) (fun i hi => ?_) (fun i S hS => ?_) ?_
  · have hi : 12 ≤ i := hi
    show (if i = 1 then _ else _) = none
    iterate 3 rw [if_neg (by omega)]
  · repeat' split at hS
    all_goals first | (injection hS with hS; subst hS; first | exact isBox_later _ _ _ | exact isMatAnd_later _ _ _ _ | exact fun _ _ _ _ _ => trivial) | cases hS
  simp only [addE_s, addE_z, List.take_succ_cons, List.take_zero, List.drop_succ_cons, List.drop_zero]
  refine wpLoose_chunk 1 (by kernel_rfl) (by rfl) ?_
  simp only [List.take_succ_cons, List.take_zero, List.drop_succ_cons, List.drop_zero, List.length_cons, List.length_nil, Nat.zero_add]
  (go_big_quiet_step (fail))
  refine wpQuiet_nil ?_
  refine wpLoose_step (isVal (.agg #[.int .i64 (W : Int), .int .i64 (H : Int), .slice A n c])) rfl (by rfl) ⟨_, rfl⟩ (fun w' ho hk => ?_) (fun v hv => ?_)
  · go_simp
    exact ⟨rfl, (HO.out w').mono fun e w'' h => isVal_of h⟩
  obtain rfl := hv
  go_simp
  refine wpLoose_chunk 3 (by kernel_rfl) (by rfl) ?_
  simp only [List.take_succ_cons, List.take_zero, List.drop_succ_cons, List.drop_zero, List.length_cons, List.length_nil, Nat.zero_add, Nat.reduceAdd]
  iterate 3 (go_big_quiet_step (fail))
  refine wpQuiet_nil ?_
  refine wpLoose_step (isMatAnd W H SL (.bool ia)) rfl (by rfl) ⟨_, none, 0, rfl⟩ (fun w' ho hk => ?_) (fun v hv => ?_)
  · go_simp
    exact ⟨rfl, (HTSet.out w' (HB.out.on ho).2.1.row).mono fun e w'' h => isMatAnd_of h⟩
  obtain ⟨A9, c9, rfl⟩ := hv
  go_simp
  refine wpLoose_chunk 3 (by kernel_rfl) (by rfl) ?_
  simp only [List.take_succ_cons, List.take_zero, List.drop_succ_cons, List.drop_zero, List.length_cons, List.length_nil, Nat.zero_add, Nat.reduceAdd]
  iterate 3 (go_big_quiet_step (fail))
  refine wpQuiet_nil ?_
  refine wpLoose_step (isBox wz.heap.size 31 #[.int .i64 0, .int .i64 0, .slice none 0 0]) rfl (by rfl) ⟨_, 0, rfl⟩ (fun w' ho hk => ?_) (fun v hv => ?_)
  · go_simp
    exact isBox_new ho.size
  obtain ⟨g, rfl⟩ := hv
  go_simp
  intro w9 ho hT
  have hbox := hT 9 (by omega)
  have hbox : (isBox wz.heap.size 31 #[.int .i64 0, .int .i64 0, .slice none 0 0]).1 (.pointer (some ⟨g, 0, none⟩)) ∧ (isBox wz.heap.size 31 #[.int .i64 0, .int .i64 0, .slice none 0 0]).2 (.pointer (some ⟨g, 0, none⟩)) w9 := hbox
  obtain ⟨hg, hHas⟩ := hbox.2 g rfl
  have hmt := hT 5 (by omega)
  have hmt : (isMatAnd W H SL (.bool ia)).1 (.tuple #[.agg #[.int .i64 (W : Int), .int .i64 (H : Int), .slice A9 SL.length c9], .bool ia]) ∧ (isMatAnd W H SL (.bool ia)).2 (.tuple #[.agg #[.int .i64 (W : Int), .int .i64 (H : Int), .slice A9 SL.length c9], .bool ia]) w9 := hmt
  have hb9 := hmt.2 A9 c9 rfl
  clear hT hbox hmt b0 b1 b2 k0 k1 k2 k3
  go_wp2_with (refine list_store_row' rfl 31 (.tmp 19) (.tmp 66) rfl g #[.int .i64 (W : Int), .int .i64 (H : Int), .slice A9 SL.length c9] rfl rfl 31 _ hHas (by kernel_rfl) rfl (mat_one _ _ _ _ _) ?_; intro w10 hT10 hO10)
  refine normalOnly_intro ?_
  have o10 : Only [] wz w10 := ho.trans hO10 (by intro i hi hlt; simp at hi; omega)
  have hb10 : Holds w10 1 A9 SL.length (bvals SL) := hb9.keepPos hO10 fun h0 ad had _ => by
    have := ne_has hb9 hHas zero_no_byte h0 ad had
    simpa using this
  have qd : Mt w10 g 31 W H A9 SL.length c9 SL := ⟨hT10, hb10⟩
  have HB := hide (HB.out.on o10)
  have HQ := hide (And.intro (HQ.out.1.only o10 (by simp)) (And.intro (HQ.out.2.1.only o10 (by simp)) (And.intro (HQ.out.2.2.only o10) qd)))
  obtain ⟨b0, b1, b2⟩ := box3 HB.out.2.1.box
  obtain ⟨k0, k1, k2, k3⟩ := box4 HB.out.2.2
  clear ho hO10 hT10 o10 hb10 qd hb9 hHas hg HTSet
  go_wp2_with fail
  have HW := hide HQ.out
  obtain ⟨p0, p1, p2, p3⟩ := box4 HW.out.1
  obtain ⟨q0, q1, q2, q3⟩ := box4 HW.out.2.1
  obtain ⟨r0, r1, r2⟩ := HW.out.2.2.1.cells
  obtain ⟨s0, s1, s2⟩ := HW.out.2.2.2.cells
  have b0 := later_cell b0
  have b1 := later_cell b1
  have b2 := later_cell b2
  have k0 := later_cell k0
  have k1 := later_cell k1
  have k2 := later_cell k2
  have k3 := later_cell k3
  have p0 := later_cell p0
  have p1 := later_cell p1
  have p2 := later_cell p2
  have p3 := later_cell p3
  have q0 := later_cell q0
  have q1 := later_cell q1
  have q2 := later_cell q2
  have q3 := later_cell q3
  have r0 := later_cell r0
  have r1 := later_cell r1
  have r2 := later_cell r2
  have s0 := later_cell s0
  have s1 := later_cell s1
  have s2 := later_cell s2
  have hMM : ∀ w', Only [] w10 w' → Holds w' 1 A n (bvals l) ∧ Holds w' 1 A8 SL.length (bvals SL) ∧ Holds w' 1 A9 SL.length (bvals SL) := fun w' h => ⟨(HB.out.on h).2.1.row, (HW.out.2.2.1.only h).row, (HW.out.2.2.2.only h).row⟩
  have HMM := hide hMM
  obtain ⟨hne, hgd⟩ := HNe.out
  unfold Px.cells at hne hgd
  have hbn : (ia != ia) = false := by simp
  have hbe : (ia == ia) = true := by simp
  clear hMM
  refine region_loose 54 150 (fun i => if i = 11 then some (isVal (.bool true)) else if i = 25 then some (isMat (cw : Int) (ch : Int) CL) else if i = 27 then some (isVal (.agg #[.int .i64 (W : Int), .int .i64 (H : Int), .slice A n c])) else if i = 32 then some (isMat (cw : Int) (ch : Int) CL) else if i = 33 then some (isVal (.bool true))
    else if i = 43 then some (isMat (W : Int) (H : Int) FL) else if i = 45 then some (isVal (.agg #[.int .i64 (W : Int), .int .i64 (H : Int), .slice A n c])) else if i = 51 then some (isMat (W : Int) (H : Int) FL) else if i = 52 then some (isVal (.bool true)) else none) (by kernel_rfl) (by kernel_rfl) (by kernel_rfl) (by rfl) (by rfl) (fun i hi => ?_) (fun i S hS => ?_) ?_
  · have hi : 55 ≤ i := hi
    show (if i = 11 then _ else _) = none
    iterate 9 rw [if_neg (by omega)]
  · repeat' split at hS
    all_goals first | (injection hS with hS; subst hS; first | exact isMat_later _ _ _ | exact fun _ _ _ _ _ => trivial) | cases hS
  simp only [List.take_succ_cons, List.take_zero, List.drop_succ_cons, List.drop_zero]
  refine wpLoose_chunk 11 (by kernel_rfl) (by rfl) ?_
  simp only [List.take_succ_cons, List.take_zero, List.drop_succ_cons, List.drop_zero, List.length_cons, List.length_nil, Nat.zero_add, Nat.reduceAdd]
  iterate 11 (go_big_quiet_step (fail))
  refine wpQuiet_nil ?_
  refine wpLoose_step (isVal (.bool true)) rfl (by rfl) ⟨_, rfl⟩ (fun w' ho hk => ?_) (fun v hv => ?_)
  · go_simp
    exact ⟨rfl, (HAl.out w' W H SL A8 A9 c8 c9 (HMM.out w' ho).2.1 (HMM.out w' ho).2.2).mono fun e w'' h => isVal_of h⟩
  obtain rfl := hv
  go_simp
  refine wpLoose_chunk 13 (by kernel_rfl) (by rfl) ?_
  simp only [List.take_succ_cons, List.take_zero, List.drop_succ_cons, List.drop_zero, List.length_cons, List.length_nil, Nat.zero_add, Nat.reduceAdd]
  iterate 13 (go_big_quiet_step (fail))
  refine wpQuiet_nil ?_
  refine wpLoose_step (isMat (cw : Int) (ch : Int) CL) rfl (by rfl) ⟨_, none, 0, rfl⟩ (fun w' ho hk => ?_) (fun v hv => ?_)
  · go_simp
    exact ⟨rfl, (HCut.out w' (HMM.out w' ho).1).mono fun e w'' h => isMat_of h⟩
  obtain ⟨A11, c11, rfl⟩ := hv
  go_simp
  refine wpLoose_chunk 1 (by kernel_rfl) (by rfl) ?_
  simp only [List.take_succ_cons, List.take_zero, List.drop_succ_cons, List.drop_zero, List.length_cons, List.length_nil, Nat.zero_add, Nat.reduceAdd]
  (go_big_quiet_step (fail))
  refine wpQuiet_nil ?_
  refine wpLoose_step (isVal (.agg #[.int .i64 (W : Int), .int .i64 (H : Int), .slice A n c])) rfl (by rfl) ⟨_, rfl⟩ (fun w' ho hk => ?_) (fun v hv => ?_)
  · go_simp
    exact ⟨rfl, (HO.out w').mono fun e w'' h => isVal_of h⟩
  obtain rfl := hv
  go_simp
  refine wpLoose_chunk 4 (by kernel_rfl) (by rfl) ?_
  simp only [List.take_succ_cons, List.take_zero, List.drop_succ_cons, List.drop_zero, List.length_cons, List.length_nil, Nat.zero_add, Nat.reduceAdd]
  iterate 4 (go_big_quiet_step (fail))
  refine wpQuiet_nil ?_
  refine wpLoose_step (isMat (cw : Int) (ch : Int) CL) rfl (by rfl) ⟨_, none, 0, rfl⟩ (fun w' ho hk => ?_) (fun v hv => ?_)
  · go_simp
    exact ⟨rfl, (HTCut.out w' (HMM.out w' ho).1).mono fun e w'' h => isMat_of h⟩
  obtain ⟨A12, c12, rfl⟩ := hv
  go_simp
  refine wpLoose_step (isVal (.bool true)) rfl (by rfl) ⟨_, rfl⟩ (fun w' ho hk => ?_) (fun v hv => ?_)
  · have k1 := hk _ (Array.mem_of_getElem? (i := 0) (by rfl)) (by rfl)
    have k1 : (isMat (cw : Int) (ch : Int) CL).1 (.agg #[.int .i64 (cw : Int), .int .i64 (ch : Int), .slice A11 CL.length c11]) ∧ (isMat (cw : Int) (ch : Int) CL).2 (.agg #[.int .i64 (cw : Int), .int .i64 (ch : Int), .slice A11 CL.length c11]) w' := k1
    have k2 := hk _ (Array.mem_of_getElem? (i := 1) (by rfl)) (by rfl)
    have k2 : (isMat (cw : Int) (ch : Int) CL).1 (.agg #[.int .i64 (cw : Int), .int .i64 (ch : Int), .slice A12 CL.length c12]) ∧ (isMat (cw : Int) (ch : Int) CL).2 (.agg #[.int .i64 (cw : Int), .int .i64 (ch : Int), .slice A12 CL.length c12]) w' := k2
    go_simp
    exact ⟨rfl, (HAl.out w' (cw : Int) (ch : Int) CL A11 A12 c11 c12 (k1.2 A11 c11 rfl) (k2.2 A12 c12 rfl)).mono fun e w'' h => isVal_of h⟩
  obtain rfl := hv
  go_simp
  refine wpLoose_chunk 9 (by kernel_rfl) (by rfl) ?_
  simp only [List.take_succ_cons, List.take_zero, List.drop_succ_cons, List.drop_zero, List.length_cons, List.length_nil, Nat.zero_add, Nat.reduceAdd]
  iterate 9 (go_big_quiet_step (fail))
  refine wpQuiet_nil ?_
  refine wpLoose_step (isMat (W : Int) (H : Int) FL) rfl (by rfl) ⟨_, none, 0, rfl⟩ (fun w' ho hk => ?_) (fun v hv => ?_)
  · go_simp
    exact ⟨rfl, (HFill.out w' (HMM.out w' ho).1).mono fun e w'' h => isMat_of h⟩
  obtain ⟨A13, c13, rfl⟩ := hv
  go_simp
  refine wpLoose_chunk 1 (by kernel_rfl) (by rfl) ?_
  simp only [List.take_succ_cons, List.take_zero, List.drop_succ_cons, List.drop_zero, List.length_cons, List.length_nil, Nat.zero_add, Nat.reduceAdd]
  (go_big_quiet_step (fail))
  refine wpQuiet_nil ?_
  refine wpLoose_step (isVal (.agg #[.int .i64 (W : Int), .int .i64 (H : Int), .slice A n c])) rfl (by rfl) ⟨_, rfl⟩ (fun w' ho hk => ?_) (fun v hv => ?_)
  · go_simp
    exact ⟨rfl, (HO.out w').mono fun e w'' h => isVal_of h⟩
  obtain rfl := hv
  go_simp
  refine wpLoose_chunk 5 (by kernel_rfl) (by rfl) ?_
  simp only [List.take_succ_cons, List.take_zero, List.drop_succ_cons, List.drop_zero, List.length_cons, List.length_nil, Nat.zero_add, Nat.reduceAdd]
  iterate 5 (go_big_quiet_step (fail))
  refine wpQuiet_nil ?_
  refine wpLoose_step (isMat (W : Int) (H : Int) FL) rfl (by rfl) ⟨_, none, 0, rfl⟩ (fun w' ho hk => ?_) (fun v hv => ?_)
  · go_simp
    exact ⟨rfl, (HTFill.out w' (HMM.out w' ho).1).mono fun e w'' h => isMat_of h⟩
  obtain ⟨A14, c14, rfl⟩ := hv
  go_simp
  refine wpLoose_step (isVal (.bool true)) rfl (by rfl) ⟨_, rfl⟩ (fun w' ho hk => ?_) (fun v hv => ?_)
  · have k1 := hk _ (Array.mem_of_getElem? (i := 0) (by rfl)) (by rfl)
    have k1 : (isMat (W : Int) (H : Int) FL).1 (.agg #[.int .i64 (W : Int), .int .i64 (H : Int), .slice A13 FL.length c13]) ∧ (isMat (W : Int) (H : Int) FL).2 (.agg #[.int .i64 (W : Int), .int .i64 (H : Int), .slice A13 FL.length c13]) w' := k1
    have k2 := hk _ (Array.mem_of_getElem? (i := 1) (by rfl)) (by rfl)
    have k2 : (isMat (W : Int) (H : Int) FL).1 (.agg #[.int .i64 (W : Int), .int .i64 (H : Int), .slice A14 FL.length c14]) ∧ (isMat (W : Int) (H : Int) FL).2 (.agg #[.int .i64 (W : Int), .int .i64 (H : Int), .slice A14 FL.length c14]) w' := k2
    go_simp
    exact ⟨rfl, (HAl.out w' (W : Int) (H : Int) FL A13 A14 c13 c14 (k1.2 A13 c13 rfl) (k2.2 A14 c14 rfl)).mono fun e w'' h => isVal_of h⟩
  obtain rfl := hv
  go_simp
  refine wpLoose_chunk 1 (by kernel_rfl) (by rfl) ?_
  simp only [List.take_succ_cons, List.take_zero, List.drop_succ_cons, List.drop_zero, List.length_cons, List.length_nil, Nat.zero_add, Nat.reduceAdd]
  (go_big_quiet_step (fail))
  refine wpQuiet_nil ?_
  intro w11 ho hT
  clear hT b0 b1 b2 k0 k1 k2 k3 p0 p1 p2 p3 q0 q1 q2 q3 r0 r1 r2 s0 s1 s2 hne hgd hbn hbe HW HMM HCut HTCut HFill HTFill HNe
  have HB := hide (HB.out.on ho)
  obtain ⟨b0, b1, b2⟩ := box3 HB.out.2.1.box
  obtain ⟨k0, k1, k2, k3⟩ := box4 HB.out.2.2
  clear ho HQ
  go_wp2_with fail
  refine (HSm.out _).mono ?_
  rintro e w12 ⟨rfl, hw12⟩
  replace hw12 := hw12.symm
  subst hw12
  cases sm with
  | false =>
    go_wp2_with fail
    go_ret
    exact ⟨rfl, HB.out.1⟩
  | true =>
    go_wp2_with fail
    refine (HFit.out _ HB.out.2.1.row).mono ?_
    rintro e w13 ⟨v, rfl, hown, ho⟩
    obtain ⟨A15, c15, rfl, hb15, _, _⟩ := own_mat hown
    have oa : Only [] w13 (w13.alloc (.cells #[.int .i64 X, .int .i64 Y, .slice A15 L3.length c15] 24)) := (Only.refl [] w13).alloc _
    have qe : Mt (w13.alloc (.cells #[.int .i64 X, .int .i64 Y, .slice A15 L3.length c15] 24)) w13.heap.size 24 X Y A15 L3.length c15 L3 := Mt.new hb15
    have HB := hide (HB.out.on (ho.trans oa (S := []) (by simp)))
    have HQ := hide qe
    obtain ⟨b0, b1, b2⟩ := box3 HB.out.2.1.box
    clear ho oa qe hown hb15 HFit k0 k1 k2 k3
    go_wp2_with fail
    refine (HO.out _).mono ?_
    rintro e w14 ⟨rfl, ho⟩
    have HB := hide (HB.out.on ho)
    have HQ := hide (HQ.out.only ho)
    clear ho b0 b1 b2
    go_wp2_with fail
    refine (HTFit.out _ HB.out.2.1.row).mono ?_
    rintro e w15 ⟨v, rfl, hown, ho⟩
    obtain ⟨A16, c16, rfl, hb16, _, _⟩ := own_mat hown
    have oa : Only [] w15 (w15.alloc (.cells #[.int .i64 X, .int .i64 Y, .slice A16 L3.length c16] 31)) := (Only.refl [] w15).alloc _
    have qf : Mt (w15.alloc (.cells #[.int .i64 X, .int .i64 Y, .slice A16 L3.length c16] 31)) w15.heap.size 31 X Y A16 L3.length c16 L3 := Mt.new hb16
    have ob := ho.trans oa (S := []) (by simp)
    have HB := hide (HB.out.on ob)
    have HQ := hide (And.intro (HQ.out.only ob) qf)
    obtain ⟨r0, r1, r2⟩ := HQ.out.1.cells
    obtain ⟨s0, s1, s2⟩ := HQ.out.2.cells
    clear ho oa ob qf hown hb16 HTFit
    go_wp2_with fail
    refine (HAl.out _ X Y L3 A15 A16 c15 c16 HQ.out.1.row HQ.out.2.row).mono ?_
    rintro e w17 ⟨rfl, ho⟩
    have HB := hide (HB.out.on ho)
    clear ho HQ r0 r1 r2 s0 s1 s2
    go_wp2_with fail
    go_ret
    exact ⟨by simp, HB.out.1⟩
set_option maxRecDepth 100000 in
set_option maxHeartbeats 8000000 in
/-- Too many bytes, or not right: true is told. -/
theorem out (W H : Int) (A : Option Addr) (n c : Nat) (x y p q : Int) (cx : Px) (w : World) (h : 16384 < n ∨ rightB W H n = false) :
    Calls Try.prog 4 #[mval W H A n c, .int .i64 x, .int .i64 y, .int .i64 p, .int .i64 q, cx.val] w fun e w' => e = .returned (.bool true) ∧ Only [] w w' := by
  show Calls Try.prog 4 #[.agg #[.int .i64 W, .int .i64 H, .slice A n c], .int .i64 x, .int .i64 y, .int .i64 p, .int .i64 q, .agg cx.cells] w _
  have HK := hide (fun w => known_any w)
  have HF := hide (fun w => few_any W H A n c w)
  have HO := hide (fun w => of_any W H A n c w)
  have HR := hide (fun w => tRight_any W H A n c w)
  obtain ⟨w0, hw0⟩ : ∃ w0, w0 = (w.alloc (.cells #[.int .i64 W, .int .i64 H, .slice A n c] 24)).alloc (.cells cx.cells 41) := ⟨_, rfl⟩
  have o0 : Only [] w w0 := by rw [hw0]; exact ((Only.refl [] w).alloc _).alloc _
  have hb0 : Has w0 w.heap.size 24 #[.int .i64 W, .int .i64 H, .slice A n c] := by rw [hw0]; exact (Has.new w _ _).alloc _
  by_cases hn : n ≤ 16384
  · rw [decide_eq_true hn] at HF
    have hr : rightB W H n = false := by rcases h with h | h; omega; exact h
    rw [hr] at HR
    unfold mval at HF HO HR
    clear h hr hn
    go_enter Try.func4, Try.ntmps4
    go_wp2_with fail
    rw [← hw0]
    clear hw0
    refine (HK.out _).mono ?_
    rintro e w1 ⟨rfl, ho1⟩
    have hb1 := hb0.only ho1 (by simp)
    obtain ⟨b0, b1, b2⟩ := box3 hb1
    go_wp2_with fail
    refine (HF.out _).mono ?_
    rintro e w2 ⟨rfl, ho2⟩
    have hb2 := hb1.only ho2 (by simp)
    obtain ⟨b0, b1, b2⟩ := box3 hb2
    go_wp2_with fail
    refine (HO.out _).mono ?_
    rintro e w3 ⟨rfl, ho3⟩
    go_wp2_with fail
    refine (HR.out _).mono ?_
    rintro e w4 ⟨rfl, ho4⟩
    go_wp2_with fail
    go_ret
    exact ⟨rfl, (((o0.trans ho1 (S := []) (by simp)).trans ho2 (S := []) (by simp)).trans ho3 (S := []) (by simp)).trans ho4 (S := []) (by simp)⟩
  · rw [decide_eq_false hn] at HF
    unfold mval at HF
    clear h hn
    go_enter Try.func4, Try.ntmps4
    go_wp2_with fail
    rw [← hw0]
    clear hw0
    refine (HK.out _).mono ?_
    rintro e w1 ⟨rfl, ho1⟩
    have hb1 := hb0.only ho1 (by simp)
    obtain ⟨b0, b1, b2⟩ := box3 hb1
    go_wp2_with fail
    refine (HF.out _).mono ?_
    rintro e w2 ⟨rfl, ho2⟩
    go_wp2_with fail
    go_ret
    exact ⟨rfl, (o0.trans ho1 (S := []) (by simp)).trans ho2 (S := []) (by simp)⟩

theorem whole (W H : Int) (A : Option Addr) (n c : Nat) (l : List UInt8) (x y p q : Int) (cx : Px) (w : World) (hl : l.length = n) (hc : n ≤ c) (hA : A = none → c = 0 ∧ n = 0) (hb : Holds w 1 A n (bvals l))
    (hx : -9223372036854775808 ≤ x ∧ x ≤ 9223372036854775807) (hy : -9223372036854775808 ≤ y ∧ y ≤ 9223372036854775807) (hp : -9223372036854775808 ≤ p ∧ p ≤ 9223372036854775807) (hq : -9223372036854775808 ≤ q ∧ q ≤ 9223372036854775807) :
    Calls Try.prog 4 #[mval W H A n c, .int .i64 x, .int .i64 y, .int .i64 p, .int .i64 q, cx.val] w fun e w' => e = .returned (.bool true) ∧ Only [] w w' := by
  by_cases h : 16384 < n ∨ rightB W H n = false
  · exact out W H A n c x y p q cx w h
  · have hr : rightB W H n = true := by cases hx : rightB W H n with
      | true => rfl
      | false => exact absurd (.inr hx) h
    obtain ⟨a, b, rfl, rfl, hok⟩ := rightB_ok hr
    exact core a b A n c l x y p q cx w hok (by omega) hl hc hA hb hx hy hp hq
set_option maxRecDepth 100000 in
theorem lifted (os : Os) (started : os.Started) (H : Type) (enc : TypeId × Value → H) :
    ReturnsInHanded {} Try.checked os 4 .any (Rows.pixelCallsSpec.pre6 enc Try.prog Try.f4 Rows.pixelCallsRow.domain false)
      (Rows.pixelCallsSpec.post enc Try.prog Try.f4 false true false false) := by
  refine returnsInHanded_of_change (C := Try.checked) own_knob started (by kernel_rfl) Try.func4
    (ChangeSpec.witness6 (enc := enc) (C := Try.checked) false ⟨#[], #[.agg #[.int .i64 0, .int .i64 0, .slice none 0 0], .int .i64 0, .int .i64 0, .int .i64 0, .int .i64 0, .agg #[.int .u8 0, .int .u8 0, .int .u8 0, .int .u8 0]], []⟩ 8 (by kernel_rfl) (by kernel_rfl) (by kernel_rfl) (by kernel_rfl)) ?_
  intro W base args ds gs before hval0 hW hcnd _
  have hval : ∀ (j : Nat) t v, Try.f4.params[j]? = some t → args[j]? = some v → Value.okWide Try.prog W .any base t v := hval0
  have hW' := hW
  obtain ⟨p, q, hA0, hV, rfl, hfz, hnd⟩ := hW
  have hA : DataW.TrodAll enc Try.prog W 0 (fun _ => true) true Try.f4.params.toList args.toList ds p := hA0
  rw [Try.params4] at hA hval
  obtain ⟨v0, vs0, d0, ds0, p0, q0, hargs, rfl, rfl, h0, r0⟩ := trodAll_cons hA
  obtain ⟨v1, vs1, d1, ds1, p1, q1, rfl, rfl, rfl, h1, r1⟩ := trodAll_cons r0
  obtain ⟨v2, vs2, d2, ds2, p2, q2, rfl, rfl, rfl, h2, r2⟩ := trodAll_cons r1
  obtain ⟨v3, vs3, d3, ds3, p3, q3, rfl, rfl, rfl, h3, r3⟩ := trodAll_cons r2
  obtain ⟨v4, vs4, d4, ds4, p4, q4, rfl, rfl, rfl, h4, r4⟩ := trodAll_cons r3
  obtain ⟨v5, vs5, d5, ds5, p5, q5, rfl, rfl, rfl, h5, r5⟩ := trodAll_cons r4
  obtain ⟨rfl, rfl, rfl⟩ := trodAll_nil r5
  obtain rfl : args = #[v0, v1, v2, v3, v4, v5] := by cases args; simp_all
  obtain ⟨W0, H0, A0, n0, c0, l0, rfl, hW0, hH0, hc0, cm0, hN0, hl0, hb0⟩ := open_mat (hval 0 24 v0 rfl rfl) h0
  obtain ⟨z1, rfl, rfl, rfl, wf1⟩ := open_int Try.underlying3 (hval 1 3 v1 rfl rfl) h1
  have r1' := wf_i64 wf1
  obtain ⟨z2, rfl, rfl, rfl, wf2⟩ := open_int Try.underlying3 (hval 2 3 v2 rfl rfl) h2
  have r2' := wf_i64 wf2
  obtain ⟨z3, rfl, rfl, rfl, wf3⟩ := open_int Try.underlying3 (hval 3 3 v3 rfl rfl) h3
  have r3' := wf_i64 wf3
  obtain ⟨z4, rfl, rfl, rfl, wf4⟩ := open_int Try.underlying3 (hval 4 3 v4 rfl rfl) h4
  have r4' := wf_i64 wf4
  obtain ⟨x5, rfl⟩ := open_col (hval 5 41 v5 rfl rfl) h5
  unfold maxLen at *
  refine (whole W0 H0 A0 n0 c0 l0 z1 z2 z3 z4 x5 W hl0 hc0 hN0 hb0 r1' r2' r3' r4').mono fun e W' ⟨he, ho⟩ => ?_
  subst he
  exact ⟨_, rfl, law_post rfl hW' (by intro t ht; revert t; exact of_decide_eq_true (by kernel_rfl)) rfl rfl ho⟩

theorem proved : Rows.PixelCallsSaid :=
  OpenClaim.holds_of_wide 4 Try.f4 rfl rfl rfl rfl rfl rfl rfl ⟨rfl, rfl, rfl, rfl, rfl⟩ rfl rfl rfl rfl rfl (by kernel_rfl) Try.func4 (by kernel_rfl)
    (of_decide_eq_true (by kernel_rfl)) (by unfold Func.isWrapper; first | (rw [if_pos (by decide +kernel)]; kernel_rfl) | (rw [if_neg (by decide +kernel)]; exact ⟨rfl, rfl⟩))
    (fun os started H enc _ => lifted os started H enc)
end Go.Proofs.Ytngaabnmhcncmaa.pcalls
