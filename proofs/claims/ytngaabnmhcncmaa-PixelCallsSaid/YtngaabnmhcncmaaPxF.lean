/-
  Package pixel: New, At, Set.
-/
import Derived.Test.YtngaabnmhcncmaaPxE
import Derived.Laws.ResultCell
namespace Go.Proofs.Ytngaabnmhcncmaa
open Go Go.RowKit

/-- Two results, the first one in a cell's row. -/
theorem results_row_two {P : Program} {fn : Func} {p u : Tmp} {ty : TypeId} (h : fn.results = #[.cell p ty, .tmp u]) (tmps : Array Value) (w : World) (g : Nat) (t : TypeId) (cs : Array Value) (d : TypeDesc)
    (hp : tmps.getD p undef = .pointer (some ⟨g, 0, none⟩)) (hg : Has w g t cs)
    (hu : P.underlying ty = some d) (hd : (match d with | .struct _ | .array _ _ => true | _ => false) = true) (hi : (P.info? ty).map (·.size) = some cs.size) :
    (results fn tmps).run P w = .ok (.tuple #[.agg cs, tmps.getD u undef]) w := by
  rw [results_cell_tmp h, hp]
  simp [asAddr, Result.andThen, run_loadVar_row w g t ty cs (0, 0) d hg hu hd hi]
theorem Holds.row {w : World} {A : Option Addr} {n : Nat} {l : List UInt8} (h : Holds w 1 A n (bvals l)) (f k : Nat) (hk : f + k ≤ n) : Holds w 1 (A.map (·.add f)) k (bvals ((l.drop f).take k)) := by
  have := h.cut (f := f) (m := k) hk
  rw [Nat.mul_one, Nat.mul_one, ← bvals_drop, ← bvals_take] at this
  exact this
theorem at4_row (l : List UInt8) (f p k : Nat) (h : 4 * p + 4 ≤ k) : at4 ((l.drop (4 * f)).take k) p = at4 l (f + p) := by
  unfold at4
  rw [getD_take, getD_take, getD_take, getD_take, getD_drop, getD_drop, getD_drop, getD_drop, if_pos (by omega), if_pos (by omega), if_pos (by omega), if_pos (by omega)]
  rw [show 4 * f + 4 * p = 4 * (f + p) by omega, show 4 * f + (4 * p + 1) = 4 * (f + p) + 1 by omega, show 4 * f + (4 * p + 2) = 4 * (f + p) + 2 by omega, show 4 * f + (4 * p + 3) = 4 * (f + p) + 3 by omega]
theorem okM.fit {W H n x y : Nat} (h : okM W H n) (hx : x < W) (hy : y < H) : 4 * (y * W + x) + 4 ≤ n := by
  have h1 : (y + 1) * W ≤ H * W := Nat.mul_le_mul_right _ hy
  rw [Nat.succ_mul, Nat.mul_comm H] at h1
  have := h.2
  omega
theorem okM.le {W H n : Nat} (h : okM W H n) : n ≤ 268435456 := by
  have h2 := h.2
  rcases h.1 with ⟨rfl, rfl⟩ | h1 <;> omega
def px0 : Px := ⟨0, 0, 0, 0⟩
theorem px_one (c : Px) : c.cells.all (·.oneCell') = true := by simp [Px.cells, Value.oneCell']

/-- What At and Set ask: is the pixel there? -/
def isIn (W H : Nat) (x y : Int) : Bool := decide ((0 ≤ x ∧ x < (W : Int)) ∧ (0 ≤ y ∧ y < (H : Int)))
theorem isIn_of {W H : Nat} {x y : Int} (h : isIn W H x y = true) : ∃ a b : Nat, x = a ∧ y = b ∧ a < W ∧ b < H := by
  unfold isIn at h
  rw [decide_eq_true_iff] at h
  obtain ⟨a, rfl⟩ := Int.eq_ofNat_of_zero_le h.1.1
  obtain ⟨b, rfl⟩ := Int.eq_ofNat_of_zero_le h.2.1
  exact ⟨a, b, rfl, rfl, by omega, by omega⟩
/-- The pixel that At tells. -/
def atP (W H : Nat) (l : List UInt8) (x y : Int) : Px := if isIn W H x y = true then at4 l (y.toNat * W + x.toNat) else px0

set_option maxRecDepth 100000 in
set_option maxHeartbeats 4000000 in
theorem at_any (W H : Nat) (A : Option Addr) (n c : Nat) (l : List UInt8) (x y : Int) (w : World) (hb : Holds w 1 A n (bvals l)) (hl : l.length = n) (hok : okM W H n) (hn : n ≤ c)
    (hx : -9223372036854775808 ≤ x ∧ x ≤ 9223372036854775807) (hy : -9223372036854775808 ≤ y ∧ y ≤ 9223372036854775807) :
    Calls Try.prog 22 #[mval W H A n c, .int .i64 x, .int .i64 y] w fun e w' => e = .returned (.tuple #[(atP W H l x y).val, .bool (isIn W H x y)]) ∧ Only [] w w' := by
  have o2 : Only [] w ((w.alloc (.cells #[.int .i64 (W : Int), .int .i64 (H : Int), .slice A n c] 24)).alloc (.cells #[.int .u8 0, .int .u8 0, .int .u8 0, .int .u8 0] 41)) := ((Only.refl [] w).alloc _).alloc _
  have hz : Has ((w.alloc (.cells #[.int .i64 (W : Int), .int .i64 (H : Int), .slice A n c] 24)).alloc (.cells #[.int .u8 0, .int .u8 0, .int .u8 0, .int .u8 0] 41)) (w.heap.size + 1) 41 #[.int .u8 0, .int .u8 0, .int .u8 0, .int .u8 0] := Has.new' _ _ _ _ (by simp)
  have hb2 := hb.keep o2 (by simp)
  cases hin : isIn W H x y with
  | false =>
    have e0 : atP W H l x y = px0 := by unfold atP; rw [hin]; rfl
    rw [e0]
    have HS := hide (fun w => spot_out W H A n c x y w hok hn hx hy (by unfold isIn at hin; exact of_decide_eq_false hin))
    clear hin e0 hok hx hy hb hl
    show Calls Try.prog 22 #[.agg #[.int .i64 W, .int .i64 H, .slice A n c], .int .i64 x, .int .i64 y] w _
    go_enter Try.func22, Try.ntmps22
    go_wp2_with fail
    refine (HS.out _).mono ?_
    rintro e w1 ⟨rfl, ho1⟩
    have hz1 := hz.only ho1 (by simp)
    have o3 := o2.trans ho1 (S := []) (by simp)
    go_wp2_with (refine list_store_row' rfl 41 (.tmp 6) (.tmp 16) rfl (w.heap.size + 1) px0.cells rfl rfl 41 _ hz1 (by kernel_rfl) rfl (px_one px0) ?_; intro w3 hT3 hO3)
    exact bodyPost_ret (results_row_two Try.results22 _ _ (w.heap.size + 1) 41 _ _ rfl hT3 Try.underlying41 rfl (by kernel_rfl)) rfl ⟨rfl, o3.trans hO3 (by intro i hi hlt; simp at hi; omega)⟩
  | true =>
    obtain ⟨a, b, rfl, rfl, ha, hb'⟩ := isIn_of hin
    have e0 : atP W H l a b = at4 l (b * W + a) := by unfold atP; rw [if_pos hin]; rfl
    rw [e0]
    have hfit := hok.fit ha hb'
    have HS := hide (fun w => spot_in W H A n c a b w hok hn ha hb')
    have HF := hide (fun w (h : Holds w 1 A n (bvals l)) => first_any (A.map (·.add (4 * (b * W + a)))) 4 4 _ w (h.row (4 * (b * W + a)) 4 hfit) (by rw [List.length_take, List.length_drop]; omega) (by omega))
    rw [at4_row l (b * W + a) 0 4 (by omega), Nat.add_zero] at HF
    obtain ⟨cx, hcx⟩ : ∃ cx, cx = at4 l (b * W + a) := ⟨_, rfl⟩
    rw [← hcx] at HF ⊢
    have hv : rowV A (4 * (b * W + a)) 4 = .slice (A.map (·.add (4 * (b * W + a)))) 4 4 := rfl
    rw [hv] at HS
    generalize A.map (·.add (4 * (b * W + a))) = A' at *
    clear hin e0 hok hx hy hb hl hfit hcx hv ha hb'
    show Calls Try.prog 22 #[.agg #[.int .i64 W, .int .i64 H, .slice A n c], .int .i64 a, .int .i64 b] w _
    go_enter Try.func22, Try.ntmps22
    go_wp2_with fail
    refine (HS.out _).mono ?_
    rintro e w1 ⟨rfl, ho1⟩
    have hz1 := hz.only ho1 (by simp)
    have o3 := o2.trans ho1 (S := []) (by simp)
    have hb3 := hb2.keep ho1 (by simp)
    go_wp2_with fail
    refine (HF.out _ hb3).mono ?_
    rintro e w2 ⟨rfl, ho2⟩
    have hz2 := hz1.only ho2 (by simp)
    have o4 := o3.trans ho2 (S := []) (by simp)
    go_wp2_with (refine list_store_row' rfl 41 (.tmp 6) (.tmp 18) rfl (w.heap.size + 1) cx.cells rfl rfl 41 _ hz2 (by kernel_rfl) rfl (px_one cx) ?_; intro w3 hT3 hO3)
    exact bodyPost_ret (results_row_two Try.results22 _ _ (w.heap.size + 1) 41 _ _ rfl hT3 Try.underlying41 rfl (by kernel_rfl)) rfl ⟨rfl, o4.trans hO3 (by intro i hi hlt; simp at hi; omega)⟩

/-- The bytes that Set tells. -/
def setL (W H : Nat) (l : List UInt8) (x y : Int) (c : Px) : List UInt8 := if isIn W H x y = true then put4 l (y.toNat * W + x.toNat) c else l

theorem own_block {w : World} {B e n c : Nat} {A : Option Addr} {xs : List Value} (h : w.ownsRow B e 1 (.slice A n c) n xs) : ∀ ad, A = some ad → B ≤ ad.block ∧ ad.block < w.heap.size ∧ ad = ⟨ad.block, 0, none⟩ := by
  intro ad ha
  rcases h.2 with ⟨hv, _⟩ | ⟨g, cap, cur, hv, hb, hg, _⟩
  · injection hv with h1; rw [h1] at ha; cases ha
  · injection hv with h1
    rw [h1] at ha
    injection ha with ha
    subst ha
    exact ⟨hb, Has.lt (cs := cur) hg, rfl⟩
theorem own_none {w : World} {B e n c : Nat} {A : Option Addr} {xs : List Value} (h : w.ownsRow B e 1 (.slice A n c) n xs) : A = none → c = 0 ∧ n = 0 := by
  intro ha
  subst ha
  rcases h.2 with ⟨hv, h0⟩ | ⟨g, cap, cur, hv, _⟩
  · injection hv with _ _ h2; exact ⟨h2, h0⟩
  · injection hv with h1; cases h1
theorem own_cap {w : World} {B e n c : Nat} {A : Option Addr} {xs : List Value} (h : w.ownsRow B e 1 (.slice A n c) n xs) : n ≤ c ∧ c ≤ maxLen := by
  rcases h.2 with ⟨hv, h0⟩ | ⟨g, cap, cur, hv, _, _, h1, h2, _⟩
  · injection hv with _ _ h2; subst h2; subst h0; exact ⟨Nat.le_refl _, Nat.zero_le _⟩
  · injection hv with _ _ h3; subst h3; exact ⟨h1, h2⟩

set_option maxRecDepth 100000 in
set_option maxHeartbeats 4000000 in
theorem set_any (W H : Nat) (A : Option Addr) (n c : Nat) (l : List UInt8) (x y : Int) (cx : Px) (w : World) (hb : Holds w 1 A n (bvals l)) (hl : l.length = n) (hok : okM W H n) (hA : A = none → c = 0 ∧ n = 0)
    (hx : -9223372036854775808 ≤ x ∧ x ≤ 9223372036854775807) (hy : -9223372036854775808 ≤ y ∧ y ≤ 9223372036854775807) :
    Calls Try.prog 24 #[mval W H A n c, .int .i64 x, .int .i64 y, cx.val] w fun e w' => ∃ v, e = .returned (.tuple #[v, .bool (isIn W H x y)]) ∧ Own w' w.heap.size W H v (setL W H l x y cx) ∧ Only [] w w' := by
  have hn4 := hok.le
  obtain ⟨w0, hw0⟩ : ∃ w0, w0 = ((w.alloc (.cells #[.int .i64 (W : Int), .int .i64 (H : Int), .slice A n c] 24)).alloc (.cells cx.cells 41)).alloc (.cells #[.int .i64 0, .int .i64 0, .slice none 0 0] 24) := ⟨_, rfl⟩
  have o0 : Only [] w w0 := by rw [hw0]; exact (((Only.refl [] w).alloc _).alloc _).alloc _
  have s0 : w0.heap.size = w.heap.size + 3 := by rw [hw0]; simp
  have hc1 : Has w0 (w.heap.size + 1) 41 cx.cells := by rw [hw0]; exact (Has.new' _ _ _ _ (by simp)).alloc _
  have hz : Has w0 (w.heap.size + 1 + 1) 24 #[.int .i64 0, .int .i64 0, .slice none 0 0] := by rw [hw0]; exact Has.new' _ _ _ _ (by simp)
  have HL := hide (like_any W H A n c l w0 (hb.keep o0 (by simp)) hl (by omega) hA)
  subst hl
  show Calls Try.prog 24 #[.agg #[.int .i64 W, .int .i64 H, .slice A l.length c], .int .i64 x, .int .i64 y, .agg cx.cells] w _
  have HI := hide (And.intro hok (And.intro hx (And.intro hy hn4)))
  clear hok hx hy hn4 hb hA
  go_enter Try.func24, Try.ntmps24
  go_wp2_with fail
  rw [← hw0]
  refine (HL.out).mono ?_
  rintro e w1 ⟨v, rfl, ⟨A1, c1, rfl, how⟩, ho1⟩
  unfold mval
  have hz1 := hz.only ho1 (by simp)
  have hc2 := hc1.only ho1 (by simp)
  have o1 := o0.trans ho1 (S := []) (by simp)
  have HW := hide (And.intro o1 (And.intro how (And.intro hz1 hc2)))
  have hs1 := ho1.size
  clear hz hc1 o0 ho1 o1 hz1 hc2 HL hw0
  obtain ⟨hok, hx, hy, hn4⟩ := HI.out
  have hcap := own_cap how
  have hm : Has (w1.alloc (.cells #[.int .i64 (W : Int), .int .i64 (H : Int), .slice A1 l.length c1] 24)) w1.heap.size 24 #[.int .i64 (W : Int), .int .i64 (H : Int), .slice A1 l.length c1] := Has.new w1 _ _
  have oa : Only [] w1 (w1.alloc (.cells #[.int .i64 (W : Int), .int .i64 (H : Int), .slice A1 l.length c1] 24)) := (Only.refl [] w1).alloc _
  unfold maxLen at hcap
  cases hin : isIn W H x y with
  | false =>
    have e0 : setL W H l x y cx = l := by unfold setL; rw [hin]; rfl
    have E := hide (And.intro hin e0)
    have HS := hide (fun w => spot_out W H A1 l.length c1 x y w hok hcap.1 hx hy (by unfold isIn at hin; exact of_decide_eq_false hin))
    clear hin e0 hok hx hy how hcap
    go_wp2_with fail
    refine (HS.out _).mono ?_
    rintro e w2 ⟨rfl, ho2⟩
    have hm2 := hm.only ho2 (by simp)
    have oa2 := oa.trans ho2 (S := []) (by simp)
    have hz2 := HW.out.2.2.1.only oa2 (by simp)
    have m0 := hm2.cell 0
    have m1 := hm2.cell 1
    have m2 := hm2.cell 2
    simp only [List.getElem?_toArray, List.getElem?_cons_zero, List.getElem?_cons_succ] at m0 m1 m2
    clear hm oa ho2
    go_wp2_with (refine list_store_row' rfl 24 (.tmp 8) (.tmp 21) rfl (w.heap.size + 1 + 1) #[.int .i64 (W : Int), .int .i64 (H : Int), .slice A1 l.length c1] rfl rfl 24 _ hz2 (by kernel_rfl) rfl (mat_one _ _ _ _ _) ?_; intro w3 hT3 hO3)
    obtain ⟨q1, q2, q3, q4⟩ := HW.out
    refine bodyPost_ret (results_row_two Try.results24 _ _ (w.heap.size + 1 + 1) 24 _ _ rfl hT3 Try.underlying24 rfl (by kernel_rfl)) rfl ?_
    show ∃ v, _ = _ ∧ Own w3 w.heap.size W H v (setL W H l x y cx) ∧ Only [] w w3
    rw [E.out.2]
    refine ⟨_, by rw [E.out.1]; rfl, ⟨A1, c1, rfl, own_mono (own_keep (own_keep q2 oa2 (by simp)) hO3 ?_) (by omega)⟩, (q1.trans oa2 (S := []) (by simp)).trans hO3 (by intro i hi hlt; simp at hi; omega)⟩
    intro b hb hm
    cases A1 with
    | none => cases hb
    | some ad =>
      have := (own_block q2 ad rfl).1
      have hb' : ad.block = b := by injection hb
      simp at hm
      omega
  | true =>
    obtain ⟨a, b, rfl, rfl, ha, hb'⟩ := isIn_of hin
    have e0 : setL W H l a b cx = put4 l (b * W + a) cx := by unfold setL; rw [if_pos hin]; rfl
    have E := hide (And.intro hin e0)
    have hfit := hok.fit ha hb'
    have HS := hide (fun w => spot_in W H A1 l.length c1 a b w hok hcap.1 ha hb')
    obtain ⟨g, rfl, hg0, hg1, _, _⟩ := own_open how (by omega)
    have hv : rowV (some ⟨g, 0, none⟩) (4 * (b * W + a)) 4 = .slice (some ⟨g, 4 * (b * W + a), none⟩) 4 4 := by
      unfold rowV
      rw [if_neg (by omega), Option.map_some, add_zero_of]
    rw [hv] at HS
    have HF := hide (fun w (h : w.ownsRow w0.heap.size 5 1 (.slice (some ⟨g, 0, none⟩) l.length c1) l.length (bvals l)) => lay_any g (b * W + a) l.length c1 4 4 w0.heap.size l cx w h rfl hfit (by omega))
    generalize 4 * (b * W + a) = f at *
    generalize b * W + a = p at *
    clear hin e0 hok hx hy hcap hfit hv ha hb'
    go_wp2_with fail
    refine (HS.out _).mono ?_
    rintro e w2 ⟨rfl, ho2⟩
    have hm2 := hm.only ho2 (by simp)
    have oa2 := oa.trans ho2 (S := []) (by simp)
    have hz2 := HW.out.2.2.1.only oa2 (by simp)
    have hc2 := HW.out.2.2.2.only oa2 (by simp)
    have how2 := own_keep how oa2 (by simp)
    clear hm oa ho2
    go_wp2_with (refine wpList_load_row rfl 41 (.tmp 7) rfl (w.heap.size + 1) rfl 41 cx.cells (0, 0) _ hc2 Try.underlying41 rfl (by kernel_rfl) ?_)
    refine (HF.out _ how2).mono ?_
    rintro e w3 ⟨rfl, how3, ho3⟩
    have hm3 := hm2.only ho3 (by simp; omega)
    have hz3 := hz2.only ho3 (by simp; omega)
    have m0 := hm3.cell 0
    have m1 := hm3.cell 1
    have m2 := hm3.cell 2
    simp only [List.getElem?_toArray, List.getElem?_cons_zero, List.getElem?_cons_succ] at m0 m1 m2
    go_wp2_with (refine list_store_row' rfl 24 (.tmp 8) (.tmp 25) rfl (w.heap.size + 1 + 1) #[.int .i64 (W : Int), .int .i64 (H : Int), .slice (some ⟨g, 0, none⟩) l.length c1] rfl rfl 24 _ hz3 (by kernel_rfl) rfl (mat_one _ _ _ _ _) ?_; intro w4 hT4 hO4)
    obtain ⟨q1, q2, q3, q4⟩ := HW.out
    refine bodyPost_ret (results_row_two Try.results24 _ _ (w.heap.size + 1 + 1) 24 _ _ rfl hT4 Try.underlying24 rfl (by kernel_rfl)) rfl ?_
    show ∃ v, _ = _ ∧ Own w4 w.heap.size W H v (setL W H l a b cx) ∧ Only [] w w4
    rw [E.out.2]
    refine ⟨_, by rw [E.out.1]; rfl, ⟨some ⟨g, 0, none⟩, c1, by rw [put4_length]; rfl, ?_⟩, ((q1.trans oa2 (S := []) (by simp)).trans ho3 (by intro i hi hlt; simp at hi; omega)).trans hO4 (by intro i hi hlt; simp at hi; omega)⟩
    rw [put4_length]
    refine own_mono (own_keep how3 hO4 ?_) (by omega)
    intro b hb hm
    have hb' : g = b := by injection hb
    simp at hm
    omega
end Go.Proofs.Ytngaabnmhcncmaa
