/-
  The document's matrices: a twin; a pixel set.
-/
import Derived.Test.YtngaabnmhcncmaaPxW
import Derived.Deep.RegionHeld3
namespace Go.Proofs.Ytngaabnmhcncmaa
open Go Go.RowKit

/-- Onto the empty row that was made just now. -/
theorem step_twin {ops : Array Oper} {o : Oper} {a : Act} {K : Act → World → Prop} {Q : Exit → Act → World → Prop} {E : Prop} (hgd : o.guard = none) (s x : Operand)
    (ho : o.op = .call { callee := .builtin .append, args := #[s, x], argTypes := #[22, 22] }) (w : World) {A : Option Addr} {n c : Nat} {l : List UInt8} (hl : l.length = n) (hb : Holds w 1 A n (bvals l)) (hn : n ≤ 140737488355328)
    (g : Nat) (hg : g = w.heap.size) (hs : a.eval s = .slice (some ⟨g, 0, none⟩) 0 0) (hx : a.eval x = .slice A n c)
    (h : ∀ A' c' w', w'.ownsRow w.heap.size 5 1 (.slice A' n c') n (bvals l) → Only [] w w' → K (a.put o.dst (.slice A' n c')) w') :
    if Region.wanted o (yielded ops a.tmps) = true then Oper.wp Try.prog o a (w.alloc (.cells #[] 5)).drew K Q else E := by
  subst hg
  obtain ⟨i0, hi0, hz0, hz1, hz2⟩ := info_of u8_info
  have hol : (w.alloc (.cells #[] 5)).drew.ownsRow w.heap.size 5 1 (.slice (some ⟨w.heap.size, 0, none⟩) 0 0) 0 [] :=
    World.ownsRow_made w #[] 0 (Nat.le_refl _) (by simp [maxLen]) rfl
  have oa : Only [] w (w.alloc (.cells #[] 5)).drew := ((Only.refl [] w).alloc _).drew
  refine step_append _ hgd s x 22 ho w.heap.size 1 1 Try.underlying22 hi0 hz0 hz1 hz2 rfl (Nat.zero_lt_one) hol hs (hb.keep oa (by simp)) hx (bvals_one l) (by omega) (Nat.zero_lt_one) oa.size fun A' c' w' h1 h2 _ => ?_
  rw [Nat.zero_add] at h1 ⊢
  exact h A' c' w' (by simpa using h1) (oa.grown h2 (fun k hk hlt => by injection hk with hk; subst hk; exact absurd hlt (Nat.lt_irrefl _)))

set_option maxRecDepth 100000 in
set_option maxHeartbeats 4000000 in
theorem twin_any (W H : Int) (A : Option Addr) (n c : Nat) (l : List UInt8) (w : World) (h : Holds w 1 A n (bvals l)) (hl : l.length = n) (hn : n ≤ 140737488355328) :
    Calls Try.prog 51 #[mval W H A n c] w fun e w' => ∃ v, e = .returned v ∧ Own w' w.heap.size W H v l ∧ Only [] w w' := by
  show Calls Try.prog 51 #[.agg #[.int .i64 W, .int .i64 H, .slice A n c]] w _
  obtain ⟨w0, hw0⟩ : ∃ w0, w0 = (w.alloc (.cells #[.int .i64 W, .int .i64 H, .slice A n c] 31)).alloc (.cells #[.int .i64 0, .int .i64 0, .slice none 0 0] 31) := ⟨_, rfl⟩
  have hbx : Has w0 w.heap.size 31 #[.int .i64 W, .int .i64 H, .slice A n c] := by rw [hw0]; exact (Has.new w _ _).alloc _
  have hrs : Has w0 (w.heap.size + 1) 31 #[.int .i64 0, .int .i64 0, .slice none 0 0] := by rw [hw0]; exact Has.new' _ _ _ _ (by simp)
  have o2 : Only [] w w0 := by rw [hw0]; exact ((Only.refl [] w).alloc _).alloc _
  have h2 := h.keep o2 (by simp)
  go_enter Try.func51, Try.ntmps51
  go_wp2_with fail
  have h3 := h2
  have ha : ∀ w1, Only [] w0 w1 → w1.cell? ⟨w.heap.size, 0, none⟩ = some (.int .i64 W) ∧ w1.cell? ⟨w.heap.size, 1, none⟩ = some (.int .i64 H) ∧ w1.cell? ⟨w.heap.size, 2, none⟩ = some (.slice A n c) := fun w1 ho => ⟨(hbx.only ho (by simp)).cell 0, (hbx.only ho (by simp)).cell 1, (hbx.only ho (by simp)).cell 2⟩
  obtain ⟨b0, b1, b2⟩ := ha _ (Only.refl _ _)
  obtain ⟨a0, a1, a2⟩ := ha (w0.alloc (.cells #[] 5)).drew (((Only.refl _ _).alloc _).drew)
  have HC := hide (And.intro ha (And.intro h3 (And.intro hrs (And.intro o2 hl))))
  clear hbx hrs o2 h2 h h3 ha
  subst hw0
  go_region_held3 (fun w' => w'.cell? ⟨w.heap.size, 0, none⟩ = some (.int .i64 W) ∧ w'.cell? ⟨w.heap.size, 1, none⟩ = some (.int .i64 H) ∧ w'.cell? ⟨w.heap.size, 2, none⟩ = some (.slice A n c)) (go_keep) ((refine step_twin rfl (.tmp 7) (.tmp 9) rfl ((w.alloc (.cells #[.int .i64 W, .int .i64 H, .slice A n c] 31)).alloc (.cells #[.int .i64 0, .int .i64 0, .slice none 0 0] 31)) HC.out.2.2.2.2 HC.out.2.1 hn _ (by simp) rfl rfl ?_; intro A1 c1 w1 how ho1; obtain ⟨d0, d1, d2⟩ := HC.out.1 _ ho1; have hrz := HC.out.2.2.1.only ho1 (by simp); have r2 : w1.cell? ⟨w.heap.size + 1, 0, none⟩ = some (.int .i64 0) := hrz.cell 0; have r3 : w1.cell? ⟨w.heap.size + 1, 1, none⟩ = some (.int .i64 0) := hrz.cell 1; have r4 : w1.cell? ⟨w.heap.size + 1, 2, none⟩ = some (.slice none 0 0) := hrz.cell 2; have f2 : w1.frozen? ⟨w.heap.size + 1, 0, none⟩ = false := hrz.free 0; have f3 : w1.frozen? ⟨w.heap.size + 1, 1, none⟩ = false := hrz.free 1; have f4 : w1.frozen? ⟨w.heap.size + 1, 2, none⟩ = false := hrz.free 2))
  go_wp2_with fail
  have hfin : Has (((w1.setCell ⟨w.heap.size + 1, 0, none⟩ (.int .i64 W)).setCell ⟨w.heap.size + 1, 1, none⟩ (.int .i64 H)).setCell ⟨w.heap.size + 1, 2, none⟩ (.slice A1 n c1)) (w.heap.size + 1) 31 #[.int .i64 W, .int .i64 H, .slice A1 n c1] :=
    ((hrz.set 0 (.int .i64 W)).set 1 (.int .i64 H)).set 2 (.slice A1 n c1)
  have hw0 := HC.out.2.2.2.1.size
  obtain ⟨_, _, _, o2, hl⟩ := HC.out
  subst hl
  refine bodyPost_ret (results_cell_row Try.results51 _ _ (w.heap.size + 1) 31 _ (0, 0) _ rfl hfin Try.underlying31 rfl (by kernel_rfl)) rfl ⟨_, rfl, ⟨A1, c1, rfl, ?_⟩, ?_⟩
  · have hb : ∀ b, (Value.slice A1 l.length c1).ownBlock = some b → b ≠ w.heap.size + 1 := by
      intro b hb e
      rcases how.2 with ⟨h0, _⟩ | ⟨gb, cap, cur, hv, hge, _⟩
      · rw [h0] at hb; cases hb
      · rw [hv] at hb
        have h1 : gb = b := by simpa [Value.ownBlock] using hb
        simp at hge
        omega
    have hmono := own_mono how (base' := w.heap.size) hw0
    exact ownsRow_setCell_other (ownsRow_setCell_other (ownsRow_setCell_other hmono (fun h => hb _ h rfl) _) (fun h => hb _ h rfl) _) (fun h => hb _ h rfl) _
  · have hS : ∀ p : Addr, p.block = w.heap.size + 1 → p.block < w.heap.size → p.block ∈ ([] : List Nat) := fun p h1 h2 => by omega
    exact (((o2.trans ho1 (S := []) (by simp)).setCell (hS _ rfl) _).setCell (hS _ rfl) _).setCell (hS _ rfl) _

/-- A row of the call's own that has a byte lies in a block. -/
theorem own_at {w : World} {B n c : Nat} {A : Option Addr} {l : List UInt8} (h : w.ownsRow B 5 1 (.slice A n c) n (bvals l)) (hn : 0 < n) : ∃ g, A = some ⟨g, 0, none⟩ ∧ B ≤ g ∧ g < w.heap.size := by
  obtain ⟨g, hg, h1, h2, _⟩ := own_open h hn
  exact ⟨g, hg, h1, h2⟩

set_option maxRecDepth 100000 in
set_option maxHeartbeats 4000000 in
theorem tSet_any (W H : Nat) (A : Option Addr) (n c : Nat) (l : List UInt8) (x y : Int) (cx : Px) (w : World) (hb : Holds w 1 A n (bvals l)) (hl : l.length = n) (hok : okM W H n) :
    Calls Try.prog 25 #[mval W H A n c, .int .i64 x, .int .i64 y, cx.val] w fun e w' => ∃ v, e = .returned (.tuple #[v, .bool (isIn W H x y)]) ∧ Own w' w.heap.size W H v (setL W H l x y cx) ∧ Only [] w w' := by
  have hn4 := hok.le
  obtain ⟨w0, hw0⟩ : ∃ w0, w0 = ((w.alloc (.cells #[.int .i64 (W : Int), .int .i64 (H : Int), .slice A n c] 31)).alloc (.cells cx.cells 40)).alloc (.cells #[.int .i64 0, .int .i64 0, .slice none 0 0] 31) := ⟨_, rfl⟩
  have o0 : Only [] w w0 := by rw [hw0]; exact (((Only.refl [] w).alloc _).alloc _).alloc _
  have s0 : w0.heap.size = w.heap.size + 3 := by rw [hw0]; simp
  have hm0 : Has w0 w.heap.size 31 #[.int .i64 (W : Int), .int .i64 (H : Int), .slice A n c] := by rw [hw0]; exact ((Has.new w _ _).alloc _).alloc _
  have hc1 : Has w0 (w.heap.size + 1) 40 cx.cells := by rw [hw0]; exact (Has.new' _ _ _ _ (by simp)).alloc _
  have hz : Has w0 (w.heap.size + 1 + 1) 31 #[.int .i64 0, .int .i64 0, .slice none 0 0] := by rw [hw0]; exact Has.new' _ _ _ _ (by simp)
  have HL := hide (twin_any W H A n c l w0 (hb.keep o0 (by simp)) hl (by omega))
  subst hl
  have hno := hide (fun w => tIn_any W H A l.length c x y w)
  show Calls Try.prog 25 #[.agg #[.int .i64 W, .int .i64 H, .slice A l.length c], .int .i64 x, .int .i64 y, .agg cx.cells] w _
  have a0 := hm0.cell 0
  have a1 := hm0.cell 1
  have a2 := hm0.cell 2
  simp only [List.getElem?_toArray, List.getElem?_cons_zero, List.getElem?_cons_succ] at a0 a1 a2
  have HI := hide (And.intro hok (And.intro hm0 hn4))
  clear hok hn4 hb
  go_enter Try.func25, Try.ntmps25
  go_wp2_with fail
  rw [← hw0]
  refine (HL.out).mono ?_
  rintro e w1 ⟨v, rfl, ⟨A1, c1, rfl, how⟩, ho1⟩
  unfold mval
  have hm1 := HI.out.2.1.only ho1 (by simp)
  have hz1 := hz.only ho1 (by simp)
  have hc2 := hc1.only ho1 (by simp)
  have o1 := o0.trans ho1 (S := []) (by simp)
  have hs1 := ho1.size
  have HW := hide (And.intro o1 (And.intro how (And.intro hz1 (And.intro hc2 hm1))))
  have hm : Has (w1.alloc (.cells #[.int .i64 (W : Int), .int .i64 (H : Int), .slice A1 l.length c1] 31)) w1.heap.size 31 #[.int .i64 (W : Int), .int .i64 (H : Int), .slice A1 l.length c1] := Has.new w1 _ _
  have oa : Only [] w1 (w1.alloc (.cells #[.int .i64 (W : Int), .int .i64 (H : Int), .slice A1 l.length c1] 31)) := (Only.refl [] w1).alloc _
  have b0 := (hm1.alloc (.cells #[.int .i64 (W : Int), .int .i64 (H : Int), .slice A1 l.length c1] 31)).cell 0
  have b1 := (hm1.alloc (.cells #[.int .i64 (W : Int), .int .i64 (H : Int), .slice A1 l.length c1] 31)).cell 1
  have b2 := (hm1.alloc (.cells #[.int .i64 (W : Int), .int .i64 (H : Int), .slice A1 l.length c1] 31)).cell 2
  simp only [List.getElem?_toArray, List.getElem?_cons_zero, List.getElem?_cons_succ] at b0 b1 b2
  clear hz hc1 o0 ho1 o1 hz1 hc2 HL hw0 hm0 a0 a1 a2 hm1 how
  go_wp2_with fail
  refine (hno.out _).mono ?_
  rintro e w2 ⟨rfl, ho2⟩
  have hm2 := hm.only ho2 (by simp)
  have oa2 := oa.trans ho2 (S := []) (by simp)
  obtain ⟨q1, q2, q3, q4, q5⟩ := HW.out
  have hz2 := q3.only oa2 (by simp)
  have hc2 := q4.only oa2 (by simp)
  have how2 := own_keep q2 oa2 (by simp)
  have m0 := hm2.cell 0
  have m1 := hm2.cell 1
  have m2 := hm2.cell 2
  simp only [List.getElem?_toArray, List.getElem?_cons_zero, List.getElem?_cons_succ] at m0 m1 m2
  have HX := hide (And.intro q1 (And.intro how2 (And.intro oa2 (And.intro hm2 q2))))
  have HI2 := hide HI.out.1
  clear hm oa ho2 hno q1 q2 q3 q4 q5 how2 oa2 HW HI b0 b1 b2
  cases hin : isIn W H x y with
  | false =>
    have e0 : setL W H l x y cx = l := by unfold setL; rw [hin]; rfl
    have E := hide (And.intro hin e0)
    clear hin e0
    go_wp2_with (refine list_store_row' rfl 31 (.tmp 8) (.tmp 18) rfl (w.heap.size + 1 + 1) #[.int .i64 (W : Int), .int .i64 (H : Int), .slice A1 l.length c1] rfl rfl 31 _ hz2 (by kernel_rfl) rfl (mat_one _ _ _ _ _) ?_; intro w3 hT3 hO3)
    obtain ⟨q1, q2, q3, q4, q5⟩ := HX.out
    refine bodyPost_ret (results_row_two Try.results25 _ _ (w.heap.size + 1 + 1) 31 _ _ rfl hT3 Try.underlying31 rfl (by kernel_rfl)) rfl ?_
    show ∃ v, _ = _ ∧ Own w3 w.heap.size W H v (setL W H l x y cx) ∧ Only [] w w3
    rw [E.out.2]
    refine ⟨_, by rw [E.out.1]; rfl, ⟨A1, c1, rfl, own_mono (own_keep q2 hO3 ?_) (by omega)⟩, (q1.trans q3 (S := []) (by simp)).trans hO3 (by intro i hi hlt; simp at hi; omega)⟩
    intro b hb hm
    cases A1 with
    | none => cases hb
    | some ad =>
      have := (own_block q2 ad rfl).1
      have hb' : ad.block = b := by injection hb
      simp at hm
      omega
  | true =>
    obtain ⟨a, b, rfl, rfl, ha, hb'⟩ := isIn_of hin
    have e0 : setL W H l a b cx = put4 l (b * W + a) cx := by unfold setL; rw [if_pos hin]; rfl
    have E := hide (And.intro hin e0)
    have hfit := HI2.out.fit ha hb'
    have hle := HI2.out.le
    have hWs : W ≤ 100000 := by have := HI2.out; unfold okM at this; omega
    obtain ⟨g, rfl, hg0, hg1⟩ := own_at HX.out.2.1 (by omega)
    have HF := hide (fun w (h : w.ownsRow w0.heap.size 5 1 (.slice (some ⟨g, 0, none⟩) l.length c1) l.length (bvals l)) => put_any W H g l.length c1 w0.heap.size a b l cx w h rfl hfit (by omega) (by omega))
    clear hin e0 hfit hle hWs ha hb'
    go_wp2_with (refine wpList_load_row rfl 40 (.tmp 7) rfl (w.heap.size + 1) rfl 40 cx.cells (0, 0) _ hc2 Try.underlying40 rfl (by kernel_rfl) ?_)
    refine (HF.out _ HX.out.2.1).mono ?_
    rintro e w3 ⟨rfl, how3, ho3⟩
    have hgl := (own_block HX.out.2.2.2.2 _ rfl).2.1
    simp only [] at hgl
    have hm3 := HX.out.2.2.2.1.only ho3 (by simp; omega)
    have hz3 := hz2.only ho3 (by simp; omega)
    have m0 := hm3.cell 0
    have m1 := hm3.cell 1
    have m2 := hm3.cell 2
    simp only [List.getElem?_toArray, List.getElem?_cons_zero, List.getElem?_cons_succ] at m0 m1 m2
    go_wp2_with (refine list_store_row' rfl 31 (.tmp 8) (.tmp 24) rfl (w.heap.size + 1 + 1) #[.int .i64 (W : Int), .int .i64 (H : Int), .slice (some ⟨g, 0, none⟩) l.length c1] rfl rfl 31 _ hz3 (by kernel_rfl) rfl (mat_one _ _ _ _ _) ?_; intro w4 hT4 hO4)
    obtain ⟨q1, q2, q3, q4, q5⟩ := HX.out
    refine bodyPost_ret (results_row_two Try.results25 _ _ (w.heap.size + 1 + 1) 31 _ _ rfl hT4 Try.underlying31 rfl (by kernel_rfl)) rfl ?_
    show ∃ v, _ = _ ∧ Own w4 w.heap.size W H v (setL W H l a b cx) ∧ Only [] w w4
    rw [E.out.2]
    refine ⟨_, by rw [E.out.1]; rfl, ⟨some ⟨g, 0, none⟩, c1, by rw [put4_length]; unfold mval; rfl, ?_⟩, ((q1.trans q3 (S := []) (by simp)).trans ho3 (by intro i hi hlt; simp at hi; omega)).trans hO4 (by intro i hi hlt; simp at hi; omega)⟩
    rw [put4_length]
    refine own_mono (own_keep how3 hO4 ?_) (by omega)
    intro b hb hm
    have hb' : g = b := by injection hb
    simp at hm
    omega
end Go.Proofs.Ytngaabnmhcncmaa
