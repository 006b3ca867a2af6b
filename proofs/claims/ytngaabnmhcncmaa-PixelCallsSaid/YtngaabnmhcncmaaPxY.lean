/-
  The document's Fill.
-/
import Derived.Test.YtngaabnmhcncmaaPxX
namespace Go.Proofs.Ytngaabnmhcncmaa
open Go Go.RowKit

/-- What a part of a matrix becomes, by what f says of row, column and old pixel. -/
def partL (f : Nat → Nat → Px → Px) (W H : Nat) (x y p q : Int) (l : List UInt8) : List UInt8 :=
  rowsF f W (spL x p W) (spR x p W - spL x p W) l (spL y q H) (spR y q H - spL y q H)
@[simp] theorem partL_length (f : Nat → Nat → Px → Px) (W H : Nat) (x y p q : Int) (l : List UInt8) : (partL f W H x y p q l).length = l.length := rowsF_length _ _ _ _ _ _ _
theorem okM.side {W H n : Nat} (h : okM W H n) : W ≤ 16384 ∧ H ≤ 16384 := by unfold okM at h; omega

/-- While pixels are put into a new matrix: it lies at block w1's end, its row of bytes m in a block between w0's end and w1's; the result at block tc. -/
structure TSt (w0 w1 : World) (tc : Nat) (W H : Nat) (A1 : Option Addr) (n c1 : Nat) (m : List UInt8) (wr : World) : Prop where
  mlen : m.length = n
  own : wr.ownsRow w0.heap.size 5 1 (.slice A1 n c1) n (bvals m)
  res : Has wr tc 31 #[.int .i64 0, .int .i64 0, .slice none 0 0]
  mat : Has wr w1.heap.size 31 #[.int .i64 (W : Int), .int .i64 (H : Int), .slice A1 n c1]
  only : Only [] w0 wr
theorem TSt.put {w0 w1 : World} {tc W H g n c1 : Nat} {m m' : List UInt8} {wr wr' : World} (h : TSt w0 w1 tc W H (some ⟨g, 0, none⟩) n c1 m wr) (ht : tc < w0.heap.size) (hg : w0.heap.size ≤ g ∧ g < w1.heap.size)
    (hl : m'.length = m.length) (ho : wr'.ownsRow w0.heap.size 5 1 (.slice (some ⟨g, 0, none⟩) n c1) n (bvals m')) (hx : Only [g] wr wr') : TSt w0 w1 tc W H (some ⟨g, 0, none⟩) n c1 m' wr' :=
  ⟨hl.trans h.mlen, ho, h.res.only hx (by simp; omega), h.mat.only hx (by simp; omega), h.only.trans hx (by intro i hi hlt; simp at hi; omega)⟩
theorem TSt.keep {w0 w1 : World} {tc W H n c1 : Nat} {A1 : Option Addr} {m : List UInt8} {wr wr' : World} (h : TSt w0 w1 tc W H A1 n c1 m wr) (hx : Only [] wr wr') : TSt w0 w1 tc W H A1 n c1 m wr' :=
  ⟨h.mlen, own_keep h.own hx (by simp), h.res.only hx (by simp), h.mat.only hx (by simp), h.only.trans hx (by simp)⟩
theorem TSt.cells {w0 w1 : World} {tc W H n c1 : Nat} {A1 : Option Addr} {m : List UInt8} {wr : World} (h : TSt w0 w1 tc W H A1 n c1 m wr) : wr.cell? ⟨w1.heap.size, 0, none⟩ = some (.int .i64 (W : Int)) ∧ wr.cell? ⟨w1.heap.size, 1, none⟩ = some (.int .i64 (H : Int)) ∧ wr.cell? ⟨w1.heap.size, 2, none⟩ = some (.slice A1 n c1) :=
  ⟨h.mat.cell 0, h.mat.cell 1, h.mat.cell 2⟩
/-- The result is stored: it is the call's own. -/
theorem TSt.fin {w w0 w1 : World} {tc W H n c1 : Nat} {A1 : Option Addr} {m : List UInt8} {wr w4 : World} (h : TSt w0 w1 tc W H A1 n c1 m wr) (o0 : Only [] w w0) (hw : w.heap.size ≤ tc) (ht : tc < w0.heap.size) (ho : Only [tc] wr w4) : Own w4 w.heap.size W H (mval W H A1 n c1) m ∧ Only [] w w4 := by
  obtain ⟨hl, hown, _, _, h1⟩ := h
  subst hl
  refine ⟨⟨A1, c1, rfl, own_mono (own_keep hown ho ?_) o0.size⟩, (o0.trans h1 (S := []) (by simp)).trans ho (by intro i hi hlt; simp at hi; omega)⟩
  intro b hb hm
  cases A1 with
  | none => cases hb
  | some ad =>
    have := (own_block hown ad rfl).1
    have hb' : ad.block = b := by injection hb
    simp at hm
    omega

set_option maxRecDepth 100000 in
set_option maxHeartbeats 8000000 in
theorem tFill_any (W H : Nat) (A : Option Addr) (n c : Nat) (l : List UInt8) (x y p q : Int) (cx : Px) (w : World) (hb : Holds w 1 A n (bvals l)) (hl : l.length = n) (hok : okM W H n)
    (hx : -9223372036854775808 ≤ x ∧ x ≤ 9223372036854775807) (hy : -9223372036854775808 ≤ y ∧ y ≤ 9223372036854775807) (hp : -9223372036854775808 ≤ p ∧ p ≤ 9223372036854775807) (hq : -9223372036854775808 ≤ q ∧ q ≤ 9223372036854775807) :
    Calls Try.prog 29 #[mval W H A n c, .int .i64 x, .int .i64 y, .int .i64 p, .int .i64 q, cx.val] w fun e w' => ∃ v, e = .returned v ∧ Own w' w.heap.size W H v (partL (fun _ _ _ => cx) W H x y p q l) ∧ Only [] w w' := by
  have hn4 := hok.le
  have hsd := hok.side
  obtain ⟨w0, hw0⟩ : ∃ w0, w0 = ((w.alloc (.cells #[.int .i64 (W : Int), .int .i64 (H : Int), .slice A n c] 31)).alloc (.cells cx.cells 40)).alloc (.cells #[.int .i64 0, .int .i64 0, .slice none 0 0] 31) := ⟨_, rfl⟩
  have o0 : Only [] w w0 := by rw [hw0]; exact (((Only.refl [] w).alloc _).alloc _).alloc _
  have s0 : w0.heap.size = w.heap.size + 3 := by rw [hw0]; simp
  have hm0 : Has w0 w.heap.size 31 #[.int .i64 (W : Int), .int .i64 (H : Int), .slice A n c] := by rw [hw0]; exact ((Has.new w _ _).alloc _).alloc _
  have hc1 : Has w0 (w.heap.size + 1) 40 cx.cells := by rw [hw0]; exact (Has.new' _ _ _ _ (by simp)).alloc _
  have hz : Has w0 (w.heap.size + 1 + 1) 31 #[.int .i64 0, .int .i64 0, .slice none 0 0] := by rw [hw0]; exact Has.new' _ _ _ _ (by simp)
  have HL := hide (twin_any W H A n c l w0 (hb.keep o0 (by simp)) hl (by omega))
  have HX := hide (fun w => tSpan_any x p W w hx hp (by omega))
  have HY := hide (fun w => tSpan_any y q H w hy hq (by omega))
  have hL := sp_le x p W
  have hR := sp_le y q H
  have hdef : partL (fun _ _ _ => cx) W H x y p q l = rowsF (fun _ _ _ => cx) W (spL x p W) (spR x p W - spL x p W) l (spL y q H) (spR y q H - spL y q H) := rfl
  generalize partL (fun _ _ _ => cx) W H x y p q l = R at *
  generalize spL x p W = a at *
  generalize spR x p W = b at *
  generalize spL y q H = e at *
  generalize spR y q H = f at *
  subst hl
  have HI := hide (And.intro hok (And.intro hL (And.intro hR (And.intro hdef (And.intro hsd hn4)))))
  have hm0c := hide hm0
  have a0 := hm0.cell 0
  have a1 := hm0.cell 1
  have a2 := hm0.cell 2
  simp only [List.getElem?_toArray, List.getElem?_cons_zero, List.getElem?_cons_succ] at a0 a1 a2
  show Calls Try.prog 29 #[.agg #[.int .i64 W, .int .i64 H, .slice A l.length c], .int .i64 x, .int .i64 y, .int .i64 p, .int .i64 q, .agg cx.cells] w _
  clear hok hn4 hb hL hR hdef hx hy hp hq hsd hm0
  go_enter Try.func29, Try.ntmps29
  go_wp2_with fail
  rw [← hw0]
  refine (HL.out).mono ?_
  rintro e1 w1 ⟨v, rfl, ⟨A1, c1, rfl, how⟩, ho1⟩
  unfold mval
  have hS : TSt w0 w1 (w.heap.size + 1 + 1) W H A1 l.length c1 l (w1.alloc (.cells #[.int .i64 (W : Int), .int .i64 (H : Int), .slice A1 l.length c1] 31)) :=
    ⟨rfl, own_keep how ((Only.refl [] w1).alloc _) (by simp), (hz.only ho1 (by simp)).alloc _, Has.new w1 _ _, ho1.alloc _⟩
  have hmm := (hm0c.out.only ho1 (by simp)).alloc (.cells #[.int .i64 (W : Int), .int .i64 (H : Int), .slice A1 l.length c1] 31)
  have b0 := hmm.cell 0
  have b1 := hmm.cell 1
  simp only [List.getElem?_toArray, List.getElem?_cons_zero, List.getElem?_cons_succ] at b0 b1
  have HS0 := hide (And.intro hS (And.intro hc1 (And.intro o0 (And.intro ho1.size how))))
  clear hz hc1 o0 ho1 HL hw0 a0 a1 a2 how hS hmm hm0c
  go_wp2_with fail
  refine (HX.out _).mono ?_
  rintro e2 w2 ⟨rfl, rfl⟩
  go_wp2_with fail
  refine (HY.out _).mono ?_
  rintro e3 w3 ⟨rfl, rfl⟩
  go_wp2_with fail
  go_loopw [18] (fun i wr => ∃ (j : Nat) (m : List UInt8), (e ≤ j ∧ j ≤ f) ∧ i = .int .i64 j ∧ TSt w0 w1 (w.heap.size + 1 + 1) W H A1 l.length c1 m wr ∧ rowsF (fun _ _ _ => cx) W a (b - a) m j (f - j) = R) (fun i _ => f - (intOf i).toNat)
  case atStart => exact ⟨e, l, ⟨Nat.le_refl _, HI.out.2.2.1.1⟩, rfl, HS0.out.1, HI.out.2.2.2.1.symm⟩
  case round =>
    obtain ⟨j, m, hj, rfl, S, hd⟩ := hrel
    have hjw : j ≤ 16384 := by have := HI.out.2.2.1.2; have := HI.out.2.2.2.2.1; omega
    by_cases hlt : j < f
    · obtain ⟨R1, hR1⟩ : ∃ R1, R1 = rowF (fun _ _ => cx) (j * W) m a (b - a) := ⟨_, rfl⟩
      have HS := hide (And.intro hd (And.intro hlt hR1))
      have HSS := hide S
      clear hd S hR1
      go_wp2_with fail
      go_loopw [19] (fun i wr => ∃ (k : Nat) (m' : List UInt8), (a ≤ k ∧ k ≤ b) ∧ i = .int .i64 k ∧ TSt w0 w1 (w.heap.size + 1 + 1) W H A1 l.length c1 m' wr ∧ rowF (fun _ _ => cx) (j * W) m' k (b - k) = R1) (fun i _ => b - (intOf i).toNat)
      case atStart => exact ⟨a, m, ⟨Nat.le_refl _, HI.out.2.1.1⟩, rfl, HSS.out, HS.out.2.2.symm⟩
      case round =>
        obtain ⟨k, m', hk, rfl, S, hd⟩ := hrel
        have hkw : k ≤ 16384 := by have := HI.out.2.1.2; have := HI.out.2.2.2.2.1; omega
        by_cases hkb : k < b
        · have hfit : 4 * (j * W + k) + 4 ≤ l.length := HI.out.1.fit (by have := HI.out.2.1.2; omega) (by have := HI.out.2.2.1.2; omega)
          obtain ⟨g, rfl, hg0, hg1⟩ := own_at S.own (by omega)
          have hg2 : g < w1.heap.size := (own_block HS0.out.2.2.2.2 _ rfl).2.1
          obtain ⟨m0, m1, m2⟩ := S.cells
          have HP := hide (fun w (h : w.ownsRow w0.heap.size 5 1 (.slice (some ⟨g, 0, none⟩) l.length c1) l.length (bvals m')) => put_any W H g l.length c1 w0.heap.size k j m' cx w h S.mlen hfit (by have := HI.out.2.2.2.2.2; omega) (by have := HI.out.2.2.2.2.1; have := HI.out.2.1.2; omega))
          have hnext : rowF (fun _ _ => cx) (j * W) (put4 m' (j * W + k) cx) (k + 1) (b - (k + 1)) = R1 := by
            rw [show b - k = (b - (k + 1)) + 1 by omega, rowF] at hd
            exact hd
          have hcc := HS0.out.2.1.only S.only (by simp)
          have HK := hide (And.intro S hnext)
          clear S hd hfit hnext
          go_wp2_with (refine wpList_load_row rfl 40 (.tmp 11) rfl (w.heap.size + 1) rfl 40 cx.cells (0, 0) _ hcc Try.underlying40 rfl (by kernel_rfl) ?_)
          refine (HP.out _ HK.out.1.own).mono ?_
          rintro e4 w4 ⟨rfl, how4, ho4⟩
          have S4 := HK.out.1.put (by omega) ⟨hg0, hg2⟩ (put4_length _ _ _) how4 ho4
          have H4 := hide S4
          clear S4 how4 ho4 hcc m0 m1 m2
          go_wp2_with fail
          go_roundw
          case rel => exact ⟨k + 1, _, ⟨by omega, hkb⟩, by go_num, H4.out, HK.out.2⟩
          case measure => simp [intOf]; omega
        · obtain rfl : k = b := by omega
          rw [Nat.sub_self] at hd
          have hd : m' = R1 := hd
          subst hd
          go_wp2_with fail
          go_roundw
          case rel =>
            refine ⟨j + 1, _, ⟨by omega, hlt⟩, by go_num, S, ?_⟩
            have hd := HS.out.1
            rw [show f - j = (f - (j + 1)) + 1 by omega, rowsF, ← HS.out.2.2] at hd
            exact hd
          case measure => simp [intOf]; omega
    · obtain rfl : j = f := by omega
      rw [Nat.sub_self] at hd
      have hd : m = R := hd
      subst hd
      obtain ⟨m0, m1, m2⟩ := S.cells
      have hres := S.res
      have HS := hide S
      clear S hlt
      go_wp2_with (refine list_store_row' rfl 31 (.tmp 12) (.tmp 55) rfl (w.heap.size + 1 + 1) #[.int .i64 (W : Int), .int .i64 (H : Int), .slice A1 l.length c1] rfl rfl 31 _ hres (by kernel_rfl) rfl (mat_one _ _ _ _ _) ?_; intro w4 hT4 hO4)
      obtain ⟨h1, h2⟩ := HS.out.fin HS0.out.2.2.1 (by omega) (by omega) hO4
      exact bodyPost_ret (results_cell_row Try.results29 _ _ (w.heap.size + 1 + 1) 31 _ (0, 0) _ rfl hT4 Try.underlying31 rfl (by kernel_rfl)) rfl ⟨_, rfl, h1, h2⟩
end Go.Proofs.Ytngaabnmhcncmaa
