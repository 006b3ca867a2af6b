/-
  Package pixel: Over, and the document's.
-/
import Derived.Test.YtngaabnmhcncmaaProg
import Derived.Test.YtngaabnmhcncmaaPxP
import Derived.Test.YtngaabnmhcncmaaMem
import Derived.Test.YtngaabnmhcncmaaInt
import Derived.StillTailTactics
namespace Go.Proofs.Ytngaabnmhcncmaa
open Go Go.RowKit

theorem Has.new' (w : World) (t : TypeId) (cs : Array Value) (g : Nat) (hg : g = w.heap.size) : Has (w.alloc (.cells cs t)) g t cs := by subst hg; exact Has.new w t cs
/-- A pixel's cells, as an array. -/
def Px.cells (c : Px) : Array Value := #[.int .u8 (c.r.toNat : Int), .int .u8 (c.g.toNat : Int), .int .u8 (c.b.toNat : Int), .int .u8 (c.a.toNat : Int)]
def Px.val (c : Px) : Value := .agg c.cells

def ov1 (s d a : Nat) : Nat := (s * a + d * (255 - a) + 127) / 255
def over (d s : Px) : Px := ⟨UInt8.ofNat (ov1 s.r.toNat d.r.toNat s.a.toNat), UInt8.ofNat (ov1 s.g.toNat d.g.toNat s.a.toNat), UInt8.ofNat (ov1 s.b.toNat d.b.toNat s.a.toNat), 255⟩

theorem ov1_le {s d a : Nat} (hs : s ≤ 255) (hd : d ≤ 255) (ha : a ≤ 255) : s * a ≤ 65025 ∧ d * (255 - a) ≤ 65025 ∧ ov1 s d a ≤ 255 := by
  have h1 : s * a ≤ 255 * a := Nat.mul_le_mul_right _ hs
  have h2 : d * (255 - a) ≤ 255 * (255 - a) := Nat.mul_le_mul_right _ hd
  unfold ov1
  refine ⟨by omega, by omega, ?_⟩
  omega

/-- What stands of the new colour when k of its parts are reckoned. -/
def ovPart (d s : Px) (z : Nat) (k : Nat) : Array Value :=
  #[.int .u8 ((if 0 < k then ov1 s.r.toNat d.r.toNat s.a.toNat else 0 : Nat) : Int), .int .u8 ((if 1 < k then ov1 s.g.toNat d.g.toNat s.a.toNat else 0 : Nat) : Int), .int .u8 ((if 2 < k then ov1 s.b.toNat d.b.toNat s.a.toNat else 0 : Nat) : Int), .int .u8 (z : Int)]

theorem u8_back {n : Nat} (h : n ≤ 255) : (UInt8.ofNat n).toNat = n := by rw [UInt8.toNat_ofNat']; omega
theorem over_cells (d s : Px) : (over d s).cells = ovPart d s 255 3 := by
  have hr := d.r.toNat_lt; have hg := d.g.toNat_lt; have hb := d.b.toNat_lt
  have hr' := s.r.toNat_lt; have hg' := s.g.toNat_lt; have hb' := s.b.toNat_lt; have ha' := s.a.toNat_lt
  unfold over Px.cells ovPart
  simp only [u8_back (ov1_le (s := s.r.toNat) (d := d.r.toNat) (a := s.a.toNat) (by omega) (by omega) (by omega)).2.2, u8_back (ov1_le (s := s.g.toNat) (d := d.g.toNat) (a := s.a.toNat) (by omega) (by omega) (by omega)).2.2, u8_back (ov1_le (s := s.b.toNat) (d := d.b.toNat) (a := s.a.toNat) (by omega) (by omega) (by omega)).2.2]
  rfl

/-- One part, as the walk reckons it. -/
structure OvNum (s d a R : Nat) (X B Y U Z : Nat) : Prop where
  s0 : IntKind.i64.wrap (s : Int) = (s : Int)
  d0 : IntKind.i64.wrap (d : Int) = (d : Int)
  x : IntKind.i64.wrap ((s : Int) * (a : Int)) = (X : Int)
  b : IntKind.i64.wrap (255 - (a : Int)) = (B : Int)
  y : IntKind.i64.wrap ((d : Int) * (B : Int)) = (Y : Int)
  u : IntKind.i64.wrap ((X : Int) + (Y : Int)) = (U : Int)
  z : IntKind.i64.wrap ((U : Int) + 127) = (Z : Int)
  r : (Z : Int).tdiv 255 = (R : Int)
  r1 : (Z : Int) / 255 = (R : Int)
  rw : IntKind.i64.wrap (R : Int) = (R : Int)
  q : IntKind.u8.wrap (R : Int) = (R : Int)
  q1 : wrap64 (R : Int) = (R : Int)
  q2 : (R : Int) % 256 = (R : Int)
theorem ov_num {s d a : Nat} (hs : s ≤ 255) (hd : d ≤ 255) (ha : a ≤ 255) : ∃ R X B Y U Z, R = ov1 s d a ∧ OvNum s d a R X B Y U Z := by
  obtain ⟨h1, h2, h3⟩ := ov1_le hs hd ha
  refine ⟨ov1 s d a, s * a, 255 - a, d * (255 - a), s * a + d * (255 - a), s * a + d * (255 - a) + 127, rfl, ?_, ?_, ?_, ?_, ?_, ?_, ?_, ?_, ?_, ?_, ?_, IntWalk.wrap64_in _ ⟨by omega, by omega⟩, by omega⟩
  · rw [IntKind.wrap_i64]; omega
  · rw [IntKind.wrap_i64]; omega
  · rw [← Int.natCast_mul, IntKind.wrap_i64]; omega
  · rw [IntKind.wrap_i64]; omega
  · rw [← Int.natCast_mul, IntKind.wrap_i64]; omega
  · rw [← Int.natCast_add, IntKind.wrap_i64]; omega
  · rw [IntKind.wrap_i64]; omega
  · unfold ov1
    generalize s * a + d * (255 - a) + 127 = q
    rw [Int.tdiv_eq_ediv_of_nonneg (by omega)]; omega
  · unfold ov1; omega
  · rw [IntKind.wrap_i64]; omega
  · rw [IntKind.wrap_u8]; omega

set_option maxRecDepth 100000 in
set_option maxHeartbeats 4000000 in
theorem over_any (d s : Px) (w : World) : Calls Try.prog 36 #[d.val, s.val] w fun e w' => e = .returned (over d s).val ∧ Only [] w w' := by
  have b1 := s.r.toNat_lt; have b2 := s.g.toNat_lt; have b3 := s.b.toNat_lt; have b4 := s.a.toNat_lt
  have b5 := d.r.toNat_lt; have b6 := d.g.toNat_lt; have b7 := d.b.toNat_lt; have b8 := d.a.toNat_lt
  have HN0 := hide (ov_num (s := s.r.toNat) (d := d.r.toNat) (a := s.a.toNat) (by omega) (by omega) (by omega))
  have HN1 := hide (ov_num (s := s.g.toNat) (d := d.g.toNat) (a := s.a.toNat) (by omega) (by omega) (by omega))
  have HN2 := hide (ov_num (s := s.b.toNat) (d := d.b.toNat) (a := s.a.toNat) (by omega) (by omega) (by omega))
  have HE := hide (over_cells d s)
  obtain ⟨C, hC⟩ : ∃ C, C = (over d s).val := ⟨_, rfl⟩
  rw [← hC]
  have HC := hide hC
  clear hC
  show Calls Try.prog 36 #[.agg #[.int .u8 (d.r.toNat : Int), .int .u8 (d.g.toNat : Int), .int .u8 (d.b.toNat : Int), .int .u8 (d.a.toNat : Int)], .agg #[.int .u8 (s.r.toNat : Int), .int .u8 (s.g.toNat : Int), .int .u8 (s.b.toNat : Int), .int .u8 (s.a.toNat : Int)]] w _
  have hpart : ∀ k, Hid (ovPart d s 255 k = #[.int .u8 ((if 0 < k then ov1 s.r.toNat d.r.toNat s.a.toNat else 0 : Nat) : Int), .int .u8 ((if 1 < k then ov1 s.g.toNat d.g.toNat s.a.toNat else 0 : Nat) : Int), .int .u8 ((if 2 < k then ov1 s.b.toNat d.b.toNat s.a.toNat else 0 : Nat) : Int), .int .u8 255]) := fun k => hide rfl
  generalize d.r.toNat = dr at *
  generalize d.g.toNat = dg at *
  generalize d.b.toNat = db at *
  generalize d.a.toNat = da at *
  generalize s.r.toNat = sr at *
  generalize s.g.toNat = sg at *
  generalize s.b.toNat = sb at *
  generalize s.a.toNat = sa at *
  have ea : IntKind.i64.wrap (sa : Int) = (sa : Int) := by rw [IntKind.wrap_i64]; omega
  have hP0 : ovPart d s 255 0 = #[.int .u8 0, .int .u8 0, .int .u8 0, .int .u8 255] := (hpart 0).out
  have HP := hide (And.intro (hpart 1).out (And.intro (hpart 2).out (hpart 3).out))
  clear hpart
  go_enter Try.func36, Try.ntmps36
  go_wp2_with fail
  go_loopw [12] (fun i wr => ∃ j : Nat, j ≤ 3 ∧ i = .int .i64 j ∧ Has wr w.heap.size 41 #[.int .u8 (dr : Int), .int .u8 (dg : Int), .int .u8 (db : Int), .int .u8 (da : Int)] ∧ Has wr (w.heap.size + 1) 41 #[.int .u8 (sr : Int), .int .u8 (sg : Int), .int .u8 (sb : Int), .int .u8 (sa : Int)] ∧
    Has wr (w.heap.size + 1 + 1) 41 #[.int .u8 0, .int .u8 0, .int .u8 0, .int .u8 0] ∧ Has wr (w.heap.size + 1 + 1 + 1) 41 (ovPart d s 255 j) ∧ Only [] w wr) (fun i _ => 3 - (intOf i).toNat)
  case atStart =>
    refine ⟨0, by omega, rfl, ?_, ?_, ?_, ?_, ((((Only.refl [] w).alloc _).alloc _).alloc _).alloc _⟩
    · exact (((Has.new' w _ _ _ rfl).alloc _).alloc _).alloc _
    · exact ((Has.new' _ _ _ _ (by simp)).alloc _).alloc _
    · exact (Has.new' _ _ _ _ (by simp)).alloc _
    · rw [hP0]; exact Has.new' _ _ _ _ (by simp)
  case round =>
    obtain ⟨j, hj, rfl, h2, h3, h4, h6, ho⟩ := hrel
    have hj4 : j = 0 ∨ j = 1 ∨ j = 2 ∨ j = 3 := by omega
    have fr : ∀ i, wr.frozen? ⟨w.heap.size + 1 + 1 + 1, i, none⟩ = false := fun i => h6.free i
    rcases hj4 with rfl | rfl | rfl | rfl
    · obtain ⟨R, X, B, Y, U, Z, hR, N⟩ := HN0.out
      obtain ⟨n1, n2, n3, n4, n5, n6, n7, n8, n9, n10, n11, n12, n13⟩ := N
      have e1 : wr.cell? ⟨w.heap.size, 0, none⟩ = some (.int .u8 (dr : Int)) := h2.cell 0
      have e2 : wr.cell? ⟨w.heap.size + 1, 0, none⟩ = some (.int .u8 (sr : Int)) := h3.cell 0
      have e3 : wr.cell? ⟨w.heap.size + 1 + 1 + 1, 0, none⟩ = some (.int .u8 0) := by have := h6.cell 0; rw [hP0] at this; exact this
      have e4 := fr 0
      have HR := hide hR
      have HW := hide (And.intro h2 (And.intro h3 (And.intro h4 (And.intro h6 ho))))
      have HP0 := hide hP0
      clear h2 h3 h4 h6 ho fr hP0 hj hR
      go_wp2_with fail
      go_still_tail 19, (by kernel_rfl)
      change wpList _ _ _ _ _ wr.drew
      go_wp2_with fail
      go_roundw
      case rel =>
        obtain ⟨h2, h3, h4, h6, ho⟩ := HW.out
        refine ⟨1, by omega, rfl, (h2.other (p := ⟨w.heap.size + 1 + 1 + 1, 0, none⟩) (by show w.heap.size ≠ w.heap.size + 1 + 1 + 1; omega) _).drew, (h3.other (p := ⟨w.heap.size + 1 + 1 + 1, 0, none⟩) (by show w.heap.size + 1 ≠ w.heap.size + 1 + 1 + 1; omega) _).drew, (h4.other (p := ⟨w.heap.size + 1 + 1 + 1, 0, none⟩) (by show w.heap.size + 1 + 1 ≠ w.heap.size + 1 + 1 + 1; omega) _).drew, ?_, (ho.setCell (by show w.heap.size + 1 + 1 + 1 < w.heap.size → _; omega) _).drew⟩
        have h := (h6.set 0 (.int .u8 (R : Int))).drew
        rw [HP0.out, HR.out] at h
        rw [HP.out.1, HR.out]
        exact h
      case measure => simp [intOf]
    · obtain ⟨R, X, B, Y, U, Z, hR, N⟩ := HN1.out
      obtain ⟨n1, n2, n3, n4, n5, n6, n7, n8, n9, n10, n11, n12, n13⟩ := N
      have e1 : wr.cell? ⟨w.heap.size, 1, none⟩ = some (.int .u8 (dg : Int)) := h2.cell 1
      have e2 : wr.cell? ⟨w.heap.size + 1, 1, none⟩ = some (.int .u8 (sg : Int)) := h3.cell 1
      have e3 : wr.cell? ⟨w.heap.size + 1 + 1 + 1, 1, none⟩ = some (.int .u8 0) := by have := h6.cell 1; rw [HP.out.1] at this; exact this
      have e4 := fr 1
      have HR := hide hR
      have HW := hide (And.intro h2 (And.intro h3 (And.intro h4 (And.intro h6 ho))))
      have HP0 := hide hP0
      clear h2 h3 h4 h6 ho fr hP0 hj hR
      go_wp2_with fail
      go_still_tail 19, (by kernel_rfl)
      change wpList _ _ _ _ _ wr.drew
      go_wp2_with fail
      go_roundw
      case rel =>
        obtain ⟨h2, h3, h4, h6, ho⟩ := HW.out
        refine ⟨2, by omega, rfl, (h2.other (p := ⟨w.heap.size + 1 + 1 + 1, 1, none⟩) (by show w.heap.size ≠ w.heap.size + 1 + 1 + 1; omega) _).drew, (h3.other (p := ⟨w.heap.size + 1 + 1 + 1, 1, none⟩) (by show w.heap.size + 1 ≠ w.heap.size + 1 + 1 + 1; omega) _).drew, (h4.other (p := ⟨w.heap.size + 1 + 1 + 1, 1, none⟩) (by show w.heap.size + 1 + 1 ≠ w.heap.size + 1 + 1 + 1; omega) _).drew, ?_, (ho.setCell (by show w.heap.size + 1 + 1 + 1 < w.heap.size → _; omega) _).drew⟩
        have h := (h6.set 1 (.int .u8 (R : Int))).drew
        rw [HP.out.1, HR.out] at h
        rw [HP.out.2.1, HR.out]
        exact h
      case measure => simp [intOf]
    · obtain ⟨R, X, B, Y, U, Z, hR, N⟩ := HN2.out
      obtain ⟨n1, n2, n3, n4, n5, n6, n7, n8, n9, n10, n11, n12, n13⟩ := N
      have e1 : wr.cell? ⟨w.heap.size, 2, none⟩ = some (.int .u8 (db : Int)) := h2.cell 2
      have e2 : wr.cell? ⟨w.heap.size + 1, 2, none⟩ = some (.int .u8 (sb : Int)) := h3.cell 2
      have e3 : wr.cell? ⟨w.heap.size + 1 + 1 + 1, 2, none⟩ = some (.int .u8 0) := by have := h6.cell 2; rw [HP.out.2.1] at this; exact this
      have e4 := fr 2
      have HR := hide hR
      have HW := hide (And.intro h2 (And.intro h3 (And.intro h4 (And.intro h6 ho))))
      have HP0 := hide hP0
      clear h2 h3 h4 h6 ho fr hP0 hj hR
      go_wp2_with fail
      go_still_tail 19, (by kernel_rfl)
      change wpList _ _ _ _ _ wr.drew
      go_wp2_with fail
      go_roundw
      case rel =>
        obtain ⟨h2, h3, h4, h6, ho⟩ := HW.out
        refine ⟨3, by omega, rfl, (h2.other (p := ⟨w.heap.size + 1 + 1 + 1, 2, none⟩) (by show w.heap.size ≠ w.heap.size + 1 + 1 + 1; omega) _).drew, (h3.other (p := ⟨w.heap.size + 1 + 1 + 1, 2, none⟩) (by show w.heap.size + 1 ≠ w.heap.size + 1 + 1 + 1; omega) _).drew, (h4.other (p := ⟨w.heap.size + 1 + 1 + 1, 2, none⟩) (by show w.heap.size + 1 + 1 ≠ w.heap.size + 1 + 1 + 1; omega) _).drew, ?_, (ho.setCell (by show w.heap.size + 1 + 1 + 1 < w.heap.size → _; omega) _).drew⟩
        have h := (h6.set 2 (.int .u8 (R : Int))).drew
        rw [HP.out.2.1, HR.out] at h
        rw [HP.out.2.2, HR.out]
        exact h
      case measure => simp [intOf]
    · have HW := hide (And.intro h6 ho)
      have HP0 := hide hP0
      have e1 : wr.cell? ⟨w.heap.size + 1 + 1 + 1, 0, none⟩ = some (.int .u8 ((ov1 sr dr sa : Nat) : Int)) := by have := h6.cell 0; rw [HP.out.2.2] at this; exact this
      have e2 : wr.cell? ⟨w.heap.size + 1 + 1 + 1, 1, none⟩ = some (.int .u8 ((ov1 sg dg sa : Nat) : Int)) := by have := h6.cell 1; rw [HP.out.2.2] at this; exact this
      have e3 : wr.cell? ⟨w.heap.size + 1 + 1 + 1, 2, none⟩ = some (.int .u8 ((ov1 sb db sa : Nat) : Int)) := by have := h6.cell 2; rw [HP.out.2.2] at this; exact this
      have e4 : wr.cell? ⟨w.heap.size + 1 + 1 + 1, 3, none⟩ = some (.int .u8 255) := by have := h6.cell 3; rw [HP.out.2.2] at this; exact this
      have HW4 := hide h4
      have a1 := h4.cell 0; have a2 := h4.cell 1; have a3 := h4.cell 2; have a4 := h4.cell 3
      have b1 := h4.free 0; have b2 := h4.free 1; have b3 := h4.free 2; have b4 := h4.free 3
      simp only [List.getElem?_toArray, List.getElem?_cons_zero, List.getElem?_cons_succ] at a1 a2 a3 a4
      clear h2 h3 h4 h6 ho fr hP0 hj
      go_wp2_with fail
      have hr : Has ((((wr.setCell ⟨w.heap.size + 1 + 1, 0, none⟩ (.int .u8 ((ov1 sr dr sa : Nat) : Int))).setCell ⟨w.heap.size + 1 + 1, 1, none⟩ (.int .u8 ((ov1 sg dg sa : Nat) : Int))).setCell ⟨w.heap.size + 1 + 1, 2, none⟩ (.int .u8 ((ov1 sb db sa : Nat) : Int))).setCell ⟨w.heap.size + 1 + 1, 3, none⟩ (.int .u8 255)) (w.heap.size + 1 + 1) 41 (ovPart d s 255 3) := by
        rw [HP.out.2.2]
        have h := (((HW4.out.set 0 (.int .u8 ((ov1 sr dr sa : Nat) : Int))).set 1 (.int .u8 ((ov1 sg dg sa : Nat) : Int))).set 2 (.int .u8 ((ov1 sb db sa : Nat) : Int))).set 3 (.int .u8 255)
        exact h
      refine bodyPost_ret (results_cell_row Try.results36 _ _ (w.heap.size + 1 + 1) 41 (ovPart d s 255 3) (0, 0) _ rfl hr Try.underlying41 rfl (by kernel_rfl)) rfl ⟨?_, ?_⟩
      · rw [HC.out]; show Ending.returned (.agg _) = .returned (.agg (over d s).cells); rw [HE.out]
      · have h : ∀ p : Addr, p.block = w.heap.size + 1 + 1 → p.block < w.heap.size → p.block ∈ ([] : List Nat) := fun p h1 h2 => by omega
        exact (((HW.out.2.setCell (h _ rfl) _).setCell (h _ rfl) _).setCell (h _ rfl) _).setCell (h _ rfl) _

set_option maxRecDepth 100000 in
set_option maxHeartbeats 4000000 in
theorem refOver_any (d s : Px) (w : World) : Calls Try.prog 37 #[d.val, s.val] w fun e w' => e = .returned (over d s).val ∧ Only [] w w' := by
  have b1 := s.r.toNat_lt; have b2 := s.g.toNat_lt; have b3 := s.b.toNat_lt; have b4 := s.a.toNat_lt
  have b5 := d.r.toNat_lt; have b6 := d.g.toNat_lt; have b7 := d.b.toNat_lt; have b8 := d.a.toNat_lt
  have HN0 := hide (ov_num (s := s.r.toNat) (d := d.r.toNat) (a := s.a.toNat) (by omega) (by omega) (by omega))
  have HN1 := hide (ov_num (s := s.g.toNat) (d := d.g.toNat) (a := s.a.toNat) (by omega) (by omega) (by omega))
  have HN2 := hide (ov_num (s := s.b.toNat) (d := d.b.toNat) (a := s.a.toNat) (by omega) (by omega) (by omega))
  have HE := hide (And.intro (over_cells d s) (show ovPart d s 255 3 = (ovPart d s 0 3).setIfInBounds 3 (.int .u8 255) from rfl))
  obtain ⟨C, hC⟩ : ∃ C, C = (over d s).val := ⟨_, rfl⟩
  rw [← hC]
  have HC := hide hC
  clear hC
  show Calls Try.prog 37 #[.agg #[.int .u8 (d.r.toNat : Int), .int .u8 (d.g.toNat : Int), .int .u8 (d.b.toNat : Int), .int .u8 (d.a.toNat : Int)], .agg #[.int .u8 (s.r.toNat : Int), .int .u8 (s.g.toNat : Int), .int .u8 (s.b.toNat : Int), .int .u8 (s.a.toNat : Int)]] w _
  have hpart : ∀ k, Hid (ovPart d s 0 k = #[.int .u8 ((if 0 < k then ov1 s.r.toNat d.r.toNat s.a.toNat else 0 : Nat) : Int), .int .u8 ((if 1 < k then ov1 s.g.toNat d.g.toNat s.a.toNat else 0 : Nat) : Int), .int .u8 ((if 2 < k then ov1 s.b.toNat d.b.toNat s.a.toNat else 0 : Nat) : Int), .int .u8 0]) := fun k => hide rfl
  generalize d.r.toNat = dr at *
  generalize d.g.toNat = dg at *
  generalize d.b.toNat = db at *
  generalize d.a.toNat = da at *
  generalize s.r.toNat = sr at *
  generalize s.g.toNat = sg at *
  generalize s.b.toNat = sb at *
  generalize s.a.toNat = sa at *
  have ea : IntKind.i64.wrap (sa : Int) = (sa : Int) := by rw [IntKind.wrap_i64]; omega
  have hP0 : ovPart d s 0 0 = #[.int .u8 0, .int .u8 0, .int .u8 0, .int .u8 0] := (hpart 0).out
  have HP := hide (And.intro (hpart 1).out (And.intro (hpart 2).out (hpart 3).out))
  clear hpart
  go_enter Try.func37, Try.ntmps37
  go_wp2_with fail
  go_loopw [7] (fun i wr => ∃ j : Nat, j ≤ 3 ∧ i = .int .i64 j ∧ Has wr w.heap.size 40 #[.int .u8 (dr : Int), .int .u8 (dg : Int), .int .u8 (db : Int), .int .u8 (da : Int)] ∧ Has wr (w.heap.size + 1) 40 #[.int .u8 (sr : Int), .int .u8 (sg : Int), .int .u8 (sb : Int), .int .u8 (sa : Int)] ∧
    Has wr (w.heap.size + 1 + 1) 40 #[.int .u8 0, .int .u8 0, .int .u8 0, .int .u8 0] ∧ Has wr (w.heap.size + 1 + 1 + 1) 40 (ovPart d s 0 j) ∧ Only [] w wr) (fun i _ => 3 - (intOf i).toNat)
  case atStart =>
    refine ⟨0, by omega, rfl, ?_, ?_, ?_, ?_, ((((Only.refl [] w).alloc _).alloc _).alloc _).alloc _⟩
    · exact (((Has.new' w _ _ _ rfl).alloc _).alloc _).alloc _
    · exact ((Has.new' _ _ _ _ (by simp)).alloc _).alloc _
    · exact (Has.new' _ _ _ _ (by simp)).alloc _
    · rw [hP0]; exact Has.new' _ _ _ _ (by simp)
  case round =>
    obtain ⟨j, hj, rfl, h2, h3, h4, h6, ho⟩ := hrel
    have hj4 : j = 0 ∨ j = 1 ∨ j = 2 ∨ j = 3 := by omega
    have fr : ∀ i, wr.frozen? ⟨w.heap.size + 1 + 1 + 1, i, none⟩ = false := fun i => h6.free i
    rcases hj4 with rfl | rfl | rfl | rfl
    · obtain ⟨R, X, B, Y, U, Z, hR, N⟩ := HN0.out
      obtain ⟨n1, n2, n3, n4, n5, n6, n7, n8, n9, n10, n11, n12, n13⟩ := N
      have e1 : wr.cell? ⟨w.heap.size, 0, none⟩ = some (.int .u8 (dr : Int)) := h2.cell 0
      have e2 : wr.cell? ⟨w.heap.size + 1, 0, none⟩ = some (.int .u8 (sr : Int)) := h3.cell 0
      have e3 : wr.cell? ⟨w.heap.size + 1 + 1 + 1, 0, none⟩ = some (.int .u8 0) := by have := h6.cell 0; rw [hP0] at this; exact this
      have e4 := fr 0
      have HR := hide hR
      have HW := hide (And.intro h2 (And.intro h3 (And.intro h4 (And.intro h6 ho))))
      have HP0 := hide hP0
      clear h2 h3 h4 h6 ho fr hP0 hj hR
      go_wp2_with fail
      go_still_tail 19, (by kernel_rfl)
      change wpList _ _ _ _ _ wr.drew
      go_wp2_with fail
      go_roundw
      case rel =>
        obtain ⟨h2, h3, h4, h6, ho⟩ := HW.out
        refine ⟨1, by omega, rfl, (h2.other (p := ⟨w.heap.size + 1 + 1 + 1, 0, none⟩) (by show w.heap.size ≠ w.heap.size + 1 + 1 + 1; omega) _).drew, (h3.other (p := ⟨w.heap.size + 1 + 1 + 1, 0, none⟩) (by show w.heap.size + 1 ≠ w.heap.size + 1 + 1 + 1; omega) _).drew, (h4.other (p := ⟨w.heap.size + 1 + 1 + 1, 0, none⟩) (by show w.heap.size + 1 + 1 ≠ w.heap.size + 1 + 1 + 1; omega) _).drew, ?_, (ho.setCell (by show w.heap.size + 1 + 1 + 1 < w.heap.size → _; omega) _).drew⟩
        have h := (h6.set 0 (.int .u8 (R : Int))).drew
        rw [HP0.out, HR.out] at h
        rw [HP.out.1, HR.out]
        exact h
      case measure => simp [intOf]
    · obtain ⟨R, X, B, Y, U, Z, hR, N⟩ := HN1.out
      obtain ⟨n1, n2, n3, n4, n5, n6, n7, n8, n9, n10, n11, n12, n13⟩ := N
      have e1 : wr.cell? ⟨w.heap.size, 1, none⟩ = some (.int .u8 (dg : Int)) := h2.cell 1
      have e2 : wr.cell? ⟨w.heap.size + 1, 1, none⟩ = some (.int .u8 (sg : Int)) := h3.cell 1
      have e3 : wr.cell? ⟨w.heap.size + 1 + 1 + 1, 1, none⟩ = some (.int .u8 0) := by have := h6.cell 1; rw [HP.out.1] at this; exact this
      have e4 := fr 1
      have HR := hide hR
      have HW := hide (And.intro h2 (And.intro h3 (And.intro h4 (And.intro h6 ho))))
      have HP0 := hide hP0
      clear h2 h3 h4 h6 ho fr hP0 hj hR
      go_wp2_with fail
      go_still_tail 19, (by kernel_rfl)
      change wpList _ _ _ _ _ wr.drew
      go_wp2_with fail
      go_roundw
      case rel =>
        obtain ⟨h2, h3, h4, h6, ho⟩ := HW.out
        refine ⟨2, by omega, rfl, (h2.other (p := ⟨w.heap.size + 1 + 1 + 1, 1, none⟩) (by show w.heap.size ≠ w.heap.size + 1 + 1 + 1; omega) _).drew, (h3.other (p := ⟨w.heap.size + 1 + 1 + 1, 1, none⟩) (by show w.heap.size + 1 ≠ w.heap.size + 1 + 1 + 1; omega) _).drew, (h4.other (p := ⟨w.heap.size + 1 + 1 + 1, 1, none⟩) (by show w.heap.size + 1 + 1 ≠ w.heap.size + 1 + 1 + 1; omega) _).drew, ?_, (ho.setCell (by show w.heap.size + 1 + 1 + 1 < w.heap.size → _; omega) _).drew⟩
        have h := (h6.set 1 (.int .u8 (R : Int))).drew
        rw [HP.out.1, HR.out] at h
        rw [HP.out.2.1, HR.out]
        exact h
      case measure => simp [intOf]
    · obtain ⟨R, X, B, Y, U, Z, hR, N⟩ := HN2.out
      obtain ⟨n1, n2, n3, n4, n5, n6, n7, n8, n9, n10, n11, n12, n13⟩ := N
      have e1 : wr.cell? ⟨w.heap.size, 2, none⟩ = some (.int .u8 (db : Int)) := h2.cell 2
      have e2 : wr.cell? ⟨w.heap.size + 1, 2, none⟩ = some (.int .u8 (sb : Int)) := h3.cell 2
      have e3 : wr.cell? ⟨w.heap.size + 1 + 1 + 1, 2, none⟩ = some (.int .u8 0) := by have := h6.cell 2; rw [HP.out.2.1] at this; exact this
      have e4 := fr 2
      have HR := hide hR
      have HW := hide (And.intro h2 (And.intro h3 (And.intro h4 (And.intro h6 ho))))
      have HP0 := hide hP0
      clear h2 h3 h4 h6 ho fr hP0 hj hR
      go_wp2_with fail
      go_still_tail 19, (by kernel_rfl)
      change wpList _ _ _ _ _ wr.drew
      go_wp2_with fail
      go_roundw
      case rel =>
        obtain ⟨h2, h3, h4, h6, ho⟩ := HW.out
        refine ⟨3, by omega, rfl, (h2.other (p := ⟨w.heap.size + 1 + 1 + 1, 2, none⟩) (by show w.heap.size ≠ w.heap.size + 1 + 1 + 1; omega) _).drew, (h3.other (p := ⟨w.heap.size + 1 + 1 + 1, 2, none⟩) (by show w.heap.size + 1 ≠ w.heap.size + 1 + 1 + 1; omega) _).drew, (h4.other (p := ⟨w.heap.size + 1 + 1 + 1, 2, none⟩) (by show w.heap.size + 1 + 1 ≠ w.heap.size + 1 + 1 + 1; omega) _).drew, ?_, (ho.setCell (by show w.heap.size + 1 + 1 + 1 < w.heap.size → _; omega) _).drew⟩
        have h := (h6.set 2 (.int .u8 (R : Int))).drew
        rw [HP.out.2.1, HR.out] at h
        rw [HP.out.2.2, HR.out]
        exact h
      case measure => simp [intOf]
    · have HW := hide (And.intro h6 ho)
      have HP0 := hide hP0
      have e1 : wr.cell? ⟨w.heap.size + 1 + 1 + 1, 0, none⟩ = some (.int .u8 ((ov1 sr dr sa : Nat) : Int)) := by have := h6.cell 0; rw [HP.out.2.2] at this; exact this
      have e2 : wr.cell? ⟨w.heap.size + 1 + 1 + 1, 1, none⟩ = some (.int .u8 ((ov1 sg dg sa : Nat) : Int)) := by have := h6.cell 1; rw [HP.out.2.2] at this; exact this
      have e3 : wr.cell? ⟨w.heap.size + 1 + 1 + 1, 2, none⟩ = some (.int .u8 ((ov1 sb db sa : Nat) : Int)) := by have := h6.cell 2; rw [HP.out.2.2] at this; exact this
      have e4 : wr.cell? ⟨w.heap.size + 1 + 1 + 1, 3, none⟩ = some (.int .u8 0) := by have := h6.cell 3; rw [HP.out.2.2] at this; exact this
      have e5 := fr 3
      have HW4 := hide h4
      have a1 := h4.cell 0; have a2 := h4.cell 1; have a3 := h4.cell 2; have a4 := h4.cell 3
      have b1 := h4.free 0; have b2 := h4.free 1; have b3 := h4.free 2; have b4 := h4.free 3
      simp only [List.getElem?_toArray, List.getElem?_cons_zero, List.getElem?_cons_succ] at a1 a2 a3 a4
      clear h2 h3 h4 h6 ho fr hP0 hj
      go_wp2_with fail
      have h5 : Has (wr.setCell ⟨w.heap.size + 1 + 1 + 1, 3, none⟩ (.int .u8 255)) (w.heap.size + 1 + 1) 40 #[.int .u8 0, .int .u8 0, .int .u8 0, .int .u8 0] := HW4.out.other (p := ⟨w.heap.size + 1 + 1 + 1, 3, none⟩) (by show w.heap.size + 1 + 1 ≠ w.heap.size + 1 + 1 + 1; omega) _
      have hr : Has (((((wr.setCell ⟨w.heap.size + 1 + 1 + 1, 3, none⟩ (.int .u8 255)).setCell ⟨w.heap.size + 1 + 1, 0, none⟩ (.int .u8 ((ov1 sr dr sa : Nat) : Int))).setCell ⟨w.heap.size + 1 + 1, 1, none⟩ (.int .u8 ((ov1 sg dg sa : Nat) : Int))).setCell ⟨w.heap.size + 1 + 1, 2, none⟩ (.int .u8 ((ov1 sb db sa : Nat) : Int))).setCell ⟨w.heap.size + 1 + 1, 3, none⟩ (.int .u8 255)) (w.heap.size + 1 + 1) 40 (ovPart d s 255 3) := by
        rw [HE.out.2, HP.out.2.2]
        have h := (((h5.set 0 (.int .u8 ((ov1 sr dr sa : Nat) : Int))).set 1 (.int .u8 ((ov1 sg dg sa : Nat) : Int))).set 2 (.int .u8 ((ov1 sb db sa : Nat) : Int))).set 3 (.int .u8 255)
        exact h
      refine bodyPost_ret (results_cell_row Try.results37 _ _ (w.heap.size + 1 + 1) 40 (ovPart d s 255 3) (0, 0) _ rfl hr Try.underlying40 rfl (by kernel_rfl)) rfl ⟨?_, ?_⟩
      · rw [HC.out]; show Ending.returned (.agg _) = .returned (.agg (over d s).cells); rw [HE.out.1]
      · have h : ∀ p : Addr, w.heap.size ≤ p.block → p.block < w.heap.size → p.block ∈ ([] : List Nat) := fun p h1 h2 => by omega
        exact ((((HW.out.2.setCell (h _ (by show w.heap.size ≤ w.heap.size + 1 + 1 + 1; omega)) _).setCell (h _ (by show w.heap.size ≤ w.heap.size + 1 + 1; omega)) _).setCell (h _ (by show w.heap.size ≤ w.heap.size + 1 + 1; omega)) _).setCell (h _ (by show w.heap.size ≤ w.heap.size + 1 + 1; omega)) _).setCell (h _ (by show w.heap.size ≤ w.heap.size + 1 + 1; omega)) _
end Go.Proofs.Ytngaabnmhcncmaa
