/-
  The document's Cut.
-/
import Derived.Test.YtngaabnmhcncmaaPxY
namespace Go.Proofs.Ytngaabnmhcncmaa
open Go Go.RowKit

/-- How many columns, rows a part has of a matrix; its bytes. -/
def cutW (W H : Nat) (x y p q : Int) : Nat := wiR W H x y p q - wiL W H x y p q
def cutH (W H : Nat) (x y p q : Int) : Nat := wiB W H x y p q - wiT W H x y p q
def cutF (W a e : Nat) (l : List UInt8) (y x : Nat) (_ : Px) : Px := at4 l ((e + y) * W + (a + x))
def cutL (W H : Nat) (x y p q : Int) (l : List UInt8) : List UInt8 :=
  rowsF (cutF W (wiL W H x y p q) (wiT W H x y p q) l) (cutW W H x y p q) 0 (cutW W H x y p q) (List.replicate (4 * (cutW W H x y p q * cutH W H x y p q)) 0) 0 (cutH W H x y p q)
theorem cutL_length (W H : Nat) (x y p q : Int) (l : List UInt8) : (cutL W H x y p q l).length = 4 * (cutW W H x y p q * cutH W H x y p q) := by
  unfold cutL; rw [rowsF_length, List.length_replicate]
/-- Nothing lies within: no side, no byte. -/
theorem cut_none {W H : Nat} {x y p q : Int} (h : spL x p W = spR x p W ∨ spL y q H = spR y q H) (l : List UInt8) : cutW W H x y p q = 0 ∧ cutH W H x y p q = 0 ∧ cutL W H x y p q l = [] := by
  have h1 : cutW W H x y p q = 0 := by unfold cutW wiR wiL; rw [if_pos h, if_pos h]
  have h2 : cutH W H x y p q = 0 := by unfold cutH wiB wiT; rw [if_pos h, if_pos h]
  refine ⟨h1, h2, ?_⟩
  apply List.eq_nil_of_length_eq_zero
  rw [cutL_length, h1]; omega
theorem cut_some {W H : Nat} {x y p q : Int} (h : ¬ (spL x p W = spR x p W ∨ spL y q H = spR y q H)) : wiL W H x y p q = spL x p W ∧ wiR W H x y p q = spR x p W ∧ wiT W H x y p q = spL y q H ∧ wiB W H x y p q = spR y q H := by
  unfold wiL wiR wiT wiB
  rw [if_neg h, if_neg h, if_neg h, if_neg h]
  exact ⟨rfl, rfl, rfl, rfl⟩
/-- A pixel of a part is one of the matrix. -/
theorem atP_in {W H : Nat} {l : List UInt8} {x y : Nat} (hx : x < W) (hy : y < H) : isIn W H x y = true ∧ atP W H l x y = at4 l (y * W + x) := by
  have h : isIn W H x y = true := decide_eq_true ⟨⟨by omega, by omega⟩, by omega, by omega⟩
  exact ⟨h, by unfold atP; rw [if_pos h]; rfl⟩

set_option maxRecDepth 100000 in
set_option maxHeartbeats 8000000 in
theorem tCut_none (W H : Nat) (A : Option Addr) (n c : Nat) (x y p q : Int) (w : World) (hok : okM W H n)
    (hx : -9223372036854775808 ≤ x ∧ x ≤ 9223372036854775807) (hy : -9223372036854775808 ≤ y ∧ y ≤ 9223372036854775807) (hp : -9223372036854775808 ≤ p ∧ p ≤ 9223372036854775807) (hq : -9223372036854775808 ≤ q ∧ q ≤ 9223372036854775807)
    (h : spL x p W = spR x p W ∨ spL y q H = spR y q H) :
    Calls Try.prog 27 #[mval W H A n c, .int .i64 x, .int .i64 y, .int .i64 p, .int .i64 q] w fun e w' => ∃ v, e = .returned v ∧ Own w' w.heap.size 0 0 v [] ∧ Only [] w w' := by
  have hsd := hok.side
  obtain ⟨w0, hw0⟩ : ∃ w0, w0 = (w.alloc (.cells #[.int .i64 (W : Int), .int .i64 (H : Int), .slice A n c] 31)).alloc (.cells #[.int .i64 0, .int .i64 0, .slice none 0 0] 31) := ⟨_, rfl⟩
  have o0 : Only [] w w0 := by rw [hw0]; exact ((Only.refl [] w).alloc _).alloc _
  have hm0 : Has w0 w.heap.size 31 #[.int .i64 (W : Int), .int .i64 (H : Int), .slice A n c] := by rw [hw0]; exact (Has.new w _ _).alloc _
  have hz : Has w0 (w.heap.size + 1) 31 #[.int .i64 0, .int .i64 0, .slice none 0 0] := by rw [hw0]; exact Has.new' _ _ _ _ (by simp)
  have HX := hide (fun w => tSpan_any x p W w hx hp (by omega))
  have HY := hide (fun w => tSpan_any y q H w hy hq (by omega))
  have hL := sp_le x p W
  have hR := sp_le y q H
  generalize spL x p W = a at *
  generalize spR x p W = b at *
  generalize spL y q H = e at *
  generalize spR y q H = f at *
  have a0 := hm0.cell 0
  have a1 := hm0.cell 1
  simp only [List.getElem?_toArray, List.getElem?_cons_zero, List.getElem?_cons_succ] at a0 a1
  show Calls Try.prog 27 #[.agg #[.int .i64 W, .int .i64 H, .slice A n c], .int .i64 x, .int .i64 y, .int .i64 p, .int .i64 q] w _
  have HZ := hide (And.intro hz o0)
  clear hok hx hy hp hq hsd hm0 o0
  go_enter Try.func27, Try.ntmps27
  go_wp2_with fail
  rw [← hw0]
  clear hw0
  refine (HX.out _).mono ?_
  rintro e2 w2 ⟨rfl, rfl⟩
  go_wp2_with fail
  refine (HY.out _).mono ?_
  rintro e3 w3 ⟨rfl, rfl⟩
  by_cases h1 : b ≤ a
  · have i1 : (b : Int) ≤ (a : Int) := by omega
    clear h hL hR
    go_wp2_with (refine list_store_row' rfl 31 (.tmp 10) (.tmp 44) rfl (w.heap.size + 1) #[.int .i64 0, .int .i64 0, .slice none 0 0] rfl rfl 31 _ hz (by kernel_rfl) rfl (mat_one _ _ _ _ _) ?_; intro w4 hT4 hO4)
    exact bodyPost_ret (results_cell_row Try.results27 _ _ (w.heap.size + 1) 31 _ (0, 0) _ rfl hT4 Try.underlying31 rfl (by kernel_rfl)) rfl ⟨_, rfl, own_zero _ _, HZ.out.2.trans hO4 (by intro i hi hlt; simp at hi; omega)⟩
  · have i1 : ¬ (b : Int) ≤ (a : Int) := by omega
    have i2 : (f : Int) ≤ (e : Int) := by omega
    clear h hL hR
    go_wp2_with (refine list_store_row' rfl 31 (.tmp 10) (.tmp 44) rfl (w.heap.size + 1) #[.int .i64 0, .int .i64 0, .slice none 0 0] rfl rfl 31 _ hz (by kernel_rfl) rfl (mat_one _ _ _ _ _) ?_; intro w4 hT4 hO4)
    exact bodyPost_ret (results_cell_row Try.results27 _ _ (w.heap.size + 1) 31 _ (0, 0) _ rfl hT4 Try.underlying31 rfl (by kernel_rfl)) rfl ⟨_, rfl, own_zero _ _, HZ.out.2.trans hO4 (by intro i hi hlt; simp at hi; omega)⟩

set_option maxRecDepth 100000 in
set_option maxHeartbeats 8000000 in
theorem tCut_some (W H : Nat) (A : Option Addr) (n c : Nat) (l : List UInt8) (x y p q : Int) (w : World) (hb : Holds w 1 A n (bvals l)) (hl : l.length = n) (hok : okM W H n)
    (hx : -9223372036854775808 ≤ x ∧ x ≤ 9223372036854775807) (hy : -9223372036854775808 ≤ y ∧ y ≤ 9223372036854775807) (hp : -9223372036854775808 ≤ p ∧ p ≤ 9223372036854775807) (hq : -9223372036854775808 ≤ q ∧ q ≤ 9223372036854775807)
    (h : ¬ (spL x p W = spR x p W ∨ spL y q H = spR y q H)) :
    Calls Try.prog 27 #[mval W H A n c, .int .i64 x, .int .i64 y, .int .i64 p, .int .i64 q] w fun e w' => ∃ v, e = .returned v ∧ Own w' w.heap.size (cutW W H x y p q) (cutH W H x y p q) v (cutL W H x y p q l) ∧ Only [] w w' := by
  have hn4 := hok.le
  have hsd := hok.side
  obtain ⟨w0, hw0⟩ : ∃ w0, w0 = (w.alloc (.cells #[.int .i64 (W : Int), .int .i64 (H : Int), .slice A n c] 31)).alloc (.cells #[.int .i64 0, .int .i64 0, .slice none 0 0] 31) := ⟨_, rfl⟩
  have o0 : Only [] w w0 := by rw [hw0]; exact ((Only.refl [] w).alloc _).alloc _
  have s0 : w0.heap.size = w.heap.size + 2 := by rw [hw0]; simp
  have hm0 : Has w0 w.heap.size 31 #[.int .i64 (W : Int), .int .i64 (H : Int), .slice A n c] := by rw [hw0]; exact (Has.new w _ _).alloc _
  have hz : Has w0 (w.heap.size + 1) 31 #[.int .i64 0, .int .i64 0, .slice none 0 0] := by rw [hw0]; exact Has.new' _ _ _ _ (by simp)
  have HX := hide (fun w => tSpan_any x p W w hx hp (by omega))
  have HY := hide (fun w => tSpan_any y q H w hy hq (by omega))
  have hL := sp_le x p W
  have hR := sp_le y q H
  obtain ⟨c1, c2, c3, c4⟩ := cut_some h
  have hdef : cutL W H x y p q l = rowsF (cutF W (wiL W H x y p q) (wiT W H x y p q) l) (cutW W H x y p q) 0 (cutW W H x y p q) (List.replicate (4 * (cutW W H x y p q * cutH W H x y p q)) 0) 0 (cutH W H x y p q) := rfl
  have hcw : cutW W H x y p q = spR x p W - spL x p W := by unfold cutW; rw [c1, c2]
  have hch : cutH W H x y p q = spR y q H - spL y q H := by unfold cutH; rw [c3, c4]
  rw [c1, c3, hcw, hch] at hdef
  rw [hcw, hch]
  generalize cutL W H x y p q l = R at *
  clear c1 c2 c3 c4 hcw hch
  generalize spL x p W = a at *
  generalize spR x p W = b at *
  generalize spL y q H = e at *
  generalize spR y q H = f at *
  obtain ⟨k, hk⟩ : ∃ k, k = b - a := ⟨_, rfl⟩
  obtain ⟨g, hg⟩ : ∃ g, g = f - e := ⟨_, rfl⟩
  rw [← hk, ← hg] at hdef
  rw [← hk, ← hg]
  obtain ⟨D, hD⟩ : ∃ D, D = k * g := ⟨_, rfl⟩
  obtain ⟨N, hN⟩ : ∃ N, N = 4 * D := ⟨_, rfl⟩
  rw [← hD, ← hN] at hdef
  have hDle : D ≤ 16384 * 16384 := by rw [hD]; exact Nat.mul_le_mul (by omega) (by omega)
  have V1 := hide (wr_nat (z := (b : Int) - (a : Int)) (n := k) (by omega) (by omega))
  have V2 := hide (wr_nat (z := (f : Int) - (e : Int)) (n := g) (by omega) (by omega))
  have V3 := hide (wr_nat (z := 4 * (k : Int)) (n := 4 * k) (by omega) (by omega))
  have V4 := hide (wr_nat (z := 4 * (k : Int) * (g : Int)) (n := N) (by rw [hN, hD, ← Nat.mul_assoc]; push_cast; rfl) (by omega))
  have hmk : ∀ W : World, (Instr.makeSlice 22 (.int .i64 (N : Int)) (.int .i64 (N : Int))).run Try.prog W = .ok (.slice (some ⟨W.heap.size, 0, none⟩) N N) (W.alloc (.cells (bvals (List.replicate N 0)).toArray 5)) := by
    intro W
    have h := run_make_row' (P := Try.prog) 22 5 (.int .u8 0) 1 Try.underlying22 u8_info rfl .i64 .i64 N (by omega) (by omega) W
    rw [h, zeros_eq]
  have i1 : ¬ (b : Int) ≤ (a : Int) := by omega
  have i2 : ¬ (f : Int) ≤ (e : Int) := by omega
  have a0 := hm0.cell 0
  have a1 := hm0.cell 1
  simp only [List.getElem?_toArray, List.getElem?_cons_zero, List.getElem?_cons_succ] at a0 a1
  show Calls Try.prog 27 #[.agg #[.int .i64 W, .int .i64 H, .slice A n c], .int .i64 x, .int .i64 y, .int .i64 p, .int .i64 q] w _
  have hown := own_made w0 5 (List.replicate N 0) N (by simp) (by omega)
  have HZ := hide (And.intro hz (And.intro o0 (And.intro hm0 (And.intro hown s0))))
  have HI := hide (And.intro hok (And.intro hdef (And.intro hk (And.intro hg (And.intro hD (And.intro hN (And.intro hsd (And.intro hl (And.intro hn4 (And.intro hb (And.intro hL hR)))))))))))
  have hkg : k ≤ 16384 ∧ g ≤ 16384 ∧ a + k ≤ W ∧ e + g ≤ H ∧ k ≠ 0 ∧ g ≠ 0 := by omega
  have HB := hide hkg
  clear hok hx hy hp hq hsd hm0 o0 hz hdef hD hN hk hg hl hn4 hb hL hR h hDle hown hkg s0
  obtain ⟨v1, y1⟩ := V1.out
  obtain ⟨v2, y2⟩ := V2.out
  obtain ⟨v3, y3⟩ := V3.out
  obtain ⟨v4, y4⟩ := V4.out
  go_enter Try.func27, Try.ntmps27
  go_wp2_with fail
  rw [← hw0]
  clear hw0
  refine (HX.out _).mono ?_
  rintro e2 w2 ⟨rfl, hw2⟩
  replace hw2 := hw2.symm
  subst hw2
  go_wp2_with fail
  refine (HY.out _).mono ?_
  rintro e3 w3 ⟨rfl, hw3⟩
  replace hw3 := hw3.symm
  subst hw3
  go_wp2_with fail
  obtain ⟨w1, hw1⟩ : ∃ w1, w1 = w0.alloc (.cells (bvals (List.replicate N 0)).toArray 5) := ⟨_, rfl⟩
  have s1 : w1.heap.size = w0.heap.size + 1 := by rw [hw1]; simp
  have hS : TSt w0 w1 (w.heap.size + 1) k g (some ⟨w0.heap.size, 0, none⟩) N N (List.replicate N 0) (w1.alloc (.cells #[.int .i64 (k : Int), .int .i64 (g : Int), .slice (some ⟨w0.heap.size, 0, none⟩) N N] 31)) := by
    refine ⟨by simp, ?_, ?_, Has.new w1 _ _, ?_⟩
    · have h := HZ.out.2.2.2.1
      rw [← hw1] at h
      exact own_keep h ((Only.refl [] w1).alloc _) (by simp)
    · rw [hw1]; exact (HZ.out.1.alloc _).alloc _
    · rw [hw1]; exact ((Only.refl [] w0).alloc _).alloc _
  have HS0 := hide hS
  clear hS
  rw [← hw1]
  clear v1 v2 v3 v4 y1 y2 y3 y4 V1 V2 V3 V4 hmk a0 a1 i1 i2 hw1
  have e1 : decide (b ≤ a) = false := decide_eq_false (by have := HI.out.2.2.1; have := HB.out; omega)
  have e2 : decide (f ≤ e) = false := decide_eq_false (by have := HI.out.2.2.2.1; have := HB.out; omega)
  rw [e1, e2, Bool.or_false]
  clear e1 e2
  go_loopw [16] (fun i wr => ∃ (v j : Nat) (m : List UInt8), (j = e + v ∧ v ≤ g) ∧ i = .int .i64 j ∧ TSt w0 w1 (w.heap.size + 1) k g (some ⟨w0.heap.size, 0, none⟩) N N m wr ∧ rowsF (cutF W a e l) k 0 k m v (g - v) = R) (fun i _ => f - (intOf i).toNat)
  case atStart => exact ⟨0, e, List.replicate N 0, ⟨rfl, Nat.zero_le _⟩, rfl, HS0.out, HI.out.2.1.symm⟩
  case round =>
    obtain ⟨v, j, m, hj, rfl, S, hd⟩ := hrel
    have hfe : f = e + g := by have := HI.out.2.2.2.1; have := HI.out.2.2.2.2.2.2.2.2.2.2.2; omega
    have hba : b = a + k := by have := HI.out.2.2.1; have := HI.out.2.2.2.2.2.2.2.2.2.2.1; omega
    have hsd := HI.out.2.2.2.2.2.2.1
    have hkg := HB.out
    by_cases hlt : v < g
    · obtain ⟨R1, hR1⟩ : ∃ R1, R1 = rowF (cutF W a e l v) (v * k) m 0 k := ⟨_, rfl⟩
      have HS := hide (And.intro hd (And.intro hlt hR1))
      have HSS := hide S
      clear hd S hR1
      have hjf : j < f := by omega
      go_wp2_with fail
      go_loopw [17] (fun i wr => ∃ (u x : Nat) (m' : List UInt8), (x = a + u ∧ u ≤ k) ∧ i = .int .i64 x ∧ TSt w0 w1 (w.heap.size + 1) k g (some ⟨w0.heap.size, 0, none⟩) N N m' wr ∧ rowF (cutF W a e l v) (v * k) m' u (k - u) = R1) (fun i _ => b - (intOf i).toNat)
      case atStart => exact ⟨0, a, m, ⟨rfl, Nat.zero_le _⟩, rfl, HSS.out, HS.out.2.2.symm⟩
      case round =>
        obtain ⟨u, x1, m', hu, rfl, S, hd⟩ := hrel
        by_cases hkb : u < k
        · have hok := HI.out.1
          have hD := HI.out.2.2.2.2.1
          have hN := HI.out.2.2.2.2.2.1
          have hl := HI.out.2.2.2.2.2.2.2.1
          have hn4 := HI.out.2.2.2.2.2.2.2.2.1
          have hb := HI.out.2.2.2.2.2.2.2.2.2.1
          have hfit : 4 * (v * k + u) + 4 ≤ N := by
            have h1 : (v + 1) * k ≤ g * k := Nat.mul_le_mul_right _ hlt
            rw [Nat.succ_mul, Nat.mul_comm g k, ← hD] at h1
            omega
          have hNle : N ≤ 1000000000 := by
            have h1 : D ≤ W * H := by rw [hD]; exact Nat.mul_le_mul (by omega) (by omega)
            have h2 : n = 4 * (W * H) := hok.2
            omega
          obtain ⟨m0, m1, m2⟩ := S.cells
          rw [s1] at m0 m1 m2
          obtain ⟨hin, hat⟩ := atP_in (W := W) (H := H) (l := l) (x := x1) (y := j) (by omega) (by omega)
          have HA := hide (fun wr (h : Only [] w wr) => tAt_any W H A n c l x1 j wr (hb.keep h (by simp)) hl hok)
          rw [hin, hat] at HA
          have hF : cutF W a e l v u (at4 m' (v * k + u)) = at4 l (j * W + x1) := by unfold cutF; rw [← hj.1, ← hu.1]
          have HP := hide (fun w (h : w.ownsRow w0.heap.size 5 1 (.slice (some ⟨w0.heap.size, 0, none⟩) N N) N (bvals m')) => put_any k g w0.heap.size N N w0.heap.size u v m' (at4 l (j * W + x1)) w h S.mlen hfit (by omega) (by omega))
          have hnext : rowF (cutF W a e l v) (v * k) (put4 m' (v * k + u) (at4 l (j * W + x1))) (u + 1) (k - (u + 1)) = R1 := by
            rw [show k - u = (k - (u + 1)) + 1 by omega, rowF, hF] at hd
            exact hd
          have hmm := HZ.out.2.2.1.only S.only (by simp)
          have b0 := hmm.cell 0
          have b1 := hmm.cell 1
          have b2 := hmm.cell 2
          simp only [List.getElem?_toArray, List.getElem?_cons_zero, List.getElem?_cons_succ] at b0 b1 b2
          have HK := hide (And.intro S (And.intro hnext (And.intro (HZ.out.2.1.trans S.only (S := []) (by simp)) (And.intro hfe (And.intro hba (And.intro hsd (And.intro hkg (And.intro hj hu))))))))
          have i3 : x1 < b := by omega
          have V1 := hide (wr_nat (z := (x1 : Int) - (a : Int)) (n := u) (by omega) (by omega))
          have V2 := hide (wr_nat (z := (j : Int) - (e : Int)) (n := v) (by omega) (by omega))
          clear S hd hfit hnext hok hD hN hl hn4 hb hin hat hF hmm hNle hfe hba hsd hkg hj hu
          generalize at4 l (j * W + x1) = px at *
          go_wp2_with fail
          refine (HA.out _ HK.out.2.2.1).mono ?_
          rintro e4 w4 ⟨rfl, ho4⟩
          unfold Px.val Px.cells
          have oa : Only [] w4 (w4.alloc (.cells px.cells 40)) := (Only.refl [] w4).alloc _
          unfold Px.cells at oa
          have S4 := (HK.out.1.keep ho4).keep oa
          obtain ⟨m0, m1, m2⟩ := S4.cells
          rw [s1] at m0 m1 m2
          have H4 := hide S4
          clear S4 oa
          obtain ⟨v1, y1⟩ := V1.out
          obtain ⟨v2, y2⟩ := V2.out
          go_wp2_with fail
          refine (HP.out _ H4.out.own).mono ?_
          rintro e5 w5 ⟨rfl, how5, ho5⟩
          have S5 := H4.out.put (by have := HZ.out.2.2.2.2; omega) (by omega) (put4_length _ _ _) how5 ho5
          have H5 := hide S5
          have hjw : x1 ≤ 16384 := by have := HK.out; omega
          clear S5 how5 ho5 m0 m1 m2 v1 v2 y1 y2
          go_wp2_with fail
          go_roundw
          case rel => exact ⟨u + 1, x1 + 1, _, ⟨by have := HK.out; omega, hkb⟩, by go_num, H5.out, HK.out.2.1⟩
          case measure => simp [intOf]; omega
        · obtain rfl : u = k := by omega
          rw [Nat.sub_self] at hd
          have hd : m' = R1 := hd
          subst hd
          have i3 : ¬ x1 < b := by omega
          have hjw : j ≤ 16384 := by omega
          have HK := hide (And.intro S (And.intro hfe (And.intro hba (And.intro hsd (And.intro hkg (And.intro hj hu))))))
          clear S hfe hba hsd hkg hj hu
          go_wp2_with fail
          go_roundw
          case rel =>
            refine ⟨v + 1, j + 1, _, ⟨by have := HK.out; omega, hlt⟩, by go_num, HK.out.1, ?_⟩
            have hd := HS.out.1
            rw [show g - v = (g - (v + 1)) + 1 by omega, rowsF, ← HS.out.2.2] at hd
            exact hd
          case measure => simp [intOf]; omega
    · obtain rfl : v = g := by omega
      rw [Nat.sub_self] at hd
      have hd : m = R := hd
      subst hd
      obtain ⟨m0, m1, m2⟩ := S.cells
      rw [s1] at m0 m1 m2
      have hres := S.res
      have HS := hide S
      have i3 : ¬ j < f := by omega
      have HK := hide hsd
      clear S hlt hfe hba hsd hkg hj
      go_wp2_with (refine list_store_row' rfl 31 (.tmp 10) (.tmp 89) rfl (w.heap.size + 1) #[.int .i64 (k : Int), .int .i64 (v : Int), .slice (some ⟨w0.heap.size, 0, none⟩) N N] rfl rfl 31 _ hres (by kernel_rfl) rfl (mat_one _ _ _ _ _) ?_; intro w4 hT4 hO4)
      obtain ⟨h1, h2⟩ := HS.out.fin HZ.out.2.1 (by omega) (by have := HZ.out.2.2.2.2; omega) hO4
      exact bodyPost_ret (results_cell_row Try.results27 _ _ (w.heap.size + 1) 31 _ (0, 0) _ rfl hT4 Try.underlying31 rfl (by kernel_rfl)) rfl ⟨_, rfl, h1, h2⟩

theorem tCut_any (W H : Nat) (A : Option Addr) (n c : Nat) (l : List UInt8) (x y p q : Int) (w : World) (hb : Holds w 1 A n (bvals l)) (hl : l.length = n) (hok : okM W H n)
    (hx : -9223372036854775808 ≤ x ∧ x ≤ 9223372036854775807) (hy : -9223372036854775808 ≤ y ∧ y ≤ 9223372036854775807) (hp : -9223372036854775808 ≤ p ∧ p ≤ 9223372036854775807) (hq : -9223372036854775808 ≤ q ∧ q ≤ 9223372036854775807) :
    Calls Try.prog 27 #[mval W H A n c, .int .i64 x, .int .i64 y, .int .i64 p, .int .i64 q] w fun e w' => ∃ v, e = .returned v ∧ Own w' w.heap.size (cutW W H x y p q) (cutH W H x y p q) v (cutL W H x y p q l) ∧ Only [] w w' := by
  by_cases h : spL x p W = spR x p W ∨ spL y q H = spR y q H
  · obtain ⟨h1, h2, h3⟩ := cut_none h l
    rw [h1, h2, h3]
    exact tCut_none W H A n c x y p q w hok hx hy hp hq h
  · exact tCut_some W H A n c l x y p q w hb hl hok hx hy hp hq h
end Go.Proofs.Ytngaabnmhcncmaa
