/-
  The document's Draw.
-/
import Derived.Test.YtngaabnmhcncmaaPxFt
namespace Go.Proofs.Ytngaabnmhcncmaa
open Go Go.RowKit

set_option maxRecDepth 100000 in
set_option maxHeartbeats 8000000 in
theorem tDraw_any (W H : Nat) (A : Option Addr) (n c : Nat) (l : List UInt8) (W' H' : Nat) (A' : Option Addr) (n' c' : Nat) (l' : List UInt8) (x y : Int) (w : World)
    (hb : Holds w 1 A n (bvals l)) (hl : l.length = n) (hok : okM W H n)
    (hb' : Holds w 1 A' n' (bvals l')) (hl' : l'.length = n') (hok' : okM W' H' n')
    (hx : -9223372036854775808 ≤ x ∧ x ≤ 9223372036854775807) (hy : -9223372036854775808 ≤ y ∧ y ≤ 9223372036854775807) :
    Calls Try.prog 33 #[mval W H A n c, mval W' H' A' n' c', .int .i64 x, .int .i64 y] w fun e w' => ∃ v, e = .returned v ∧ Own w' w.heap.size W H v (drawL W H W' H' x y l l') ∧ Only [] w w' := by
  have hn4 := hok.le
  have hsd := hok.side
  have hsd' := hok'.side
  obtain ⟨w0, hw0⟩ : ∃ w0, w0 = ((w.alloc (.cells #[.int .i64 (W : Int), .int .i64 (H : Int), .slice A n c] 31)).alloc (.cells #[.int .i64 (W' : Int), .int .i64 (H' : Int), .slice A' n' c'] 31)).alloc (.cells #[.int .i64 0, .int .i64 0, .slice none 0 0] 31) := ⟨_, rfl⟩
  have o0 : Only [] w w0 := by rw [hw0]; exact (((Only.refl [] w).alloc _).alloc _).alloc _
  have s0 : w0.heap.size = w.heap.size + 3 := by rw [hw0]; simp
  have hm0 : Has w0 w.heap.size 31 #[.int .i64 (W : Int), .int .i64 (H : Int), .slice A n c] := by rw [hw0]; exact ((Has.new w _ _).alloc _).alloc _
  have hc1 : Has w0 (w.heap.size + 1) 31 #[.int .i64 (W' : Int), .int .i64 (H' : Int), .slice A' n' c'] := by rw [hw0]; exact (Has.new' _ _ _ _ (by simp)).alloc _
  have hz : Has w0 (w.heap.size + 1 + 1) 31 #[.int .i64 0, .int .i64 0, .slice none 0 0] := by rw [hw0]; exact Has.new' _ _ _ _ (by simp)
  have HL := hide (twin_any W H A n c l w0 (hb.keep o0 (by simp)) hl (by omega))
  have HX := hide (fun w => tSpan_any x W' W w hx (by omega) (by omega))
  have HY := hide (fun w => tSpan_any y H' H w hy (by omega) (by omega))
  have hL := sp_le x W' W
  have hR := sp_le y H' H
  have hsx : ∀ i : Nat, spL x W' W ≤ i → i < spR x W' W → x ≤ (i : Int) ∧ (i : Int) - x < W' := fun i h1 h2 => sp_src hsd'.1 h1 h2
  have hsy : ∀ i : Nat, spL y H' H ≤ i → i < spR y H' H → y ≤ (i : Int) ∧ (i : Int) - y < H' := fun i h1 h2 => sp_src hsd'.2 h1 h2
  have hdef : drawL W H W' H' x y l l' = rowsF (drawF W' x y l') W (spL x W' W) (spR x W' W - spL x W' W) l (spL y H' H) (spR y H' H - spL y H' H) := rfl
  generalize drawL W H W' H' x y l l' = R at *
  generalize spL x W' W = a at *
  generalize spR x W' W = b at *
  generalize spL y H' H = e at *
  generalize spR y H' H = f at *
  subst hl
  have HI := hide (And.intro hok (And.intro hL (And.intro hR (And.intro hdef (And.intro hsd hn4)))))
  have HJ := hide (And.intro hok' (And.intro hsx (And.intro hsy (And.intro (hb'.keep o0 (by simp)) (And.intro hl' hsd')))))
  have hm0c := hide hm0
  have a0 := hm0.cell 0
  have a1 := hm0.cell 1
  have a2 := hm0.cell 2
  simp only [List.getElem?_toArray, List.getElem?_cons_zero, List.getElem?_cons_succ] at a0 a1 a2
  show Calls Try.prog 33 #[.agg #[.int .i64 W, .int .i64 H, .slice A l.length c], .agg #[.int .i64 W', .int .i64 H', .slice A' n' c'], .int .i64 x, .int .i64 y] w _
  clear hok hn4 hb hL hR hdef hx hy hsd hm0 hb' hl' hok' hsx hsy hsd'
  go_enter Try.func33, Try.ntmps33
  go_wp2_with fail
  rw [← hw0]
  refine (HL.out).mono ?_
  rintro e1 w1 ⟨v, rfl, ⟨A1, c1, rfl, how⟩, ho1⟩
  unfold mval
  have hS : TSt w0 w1 (w.heap.size + 1 + 1) W H A1 l.length c1 l (w1.alloc (.cells #[.int .i64 (W : Int), .int .i64 (H : Int), .slice A1 l.length c1] 31)) :=
    ⟨rfl, own_keep how ((Only.refl [] w1).alloc _) (by simp), (hz.only ho1 (by simp)).alloc _, Has.new w1 _ _, ho1.alloc _⟩
  have hmm := (hm0c.out.only ho1 (by simp)).alloc (.cells #[.int .i64 (W : Int), .int .i64 (H : Int), .slice A1 l.length c1] 31)
  have hss := (hc1.only ho1 (by simp)).alloc (.cells #[.int .i64 (W : Int), .int .i64 (H : Int), .slice A1 l.length c1] 31)
  have b0 := hmm.cell 0
  have b1 := hmm.cell 1
  have d0 := hss.cell 0
  have d1 := hss.cell 1
  simp only [List.getElem?_toArray, List.getElem?_cons_zero, List.getElem?_cons_succ] at b0 b1 d0 d1
  have HS0 := hide (And.intro hS (And.intro hc1 (And.intro o0 (And.intro ho1.size how))))
  clear hz hc1 o0 ho1 HL hw0 a0 a1 a2 how hS hmm hm0c hss
  go_wp2_with fail
  refine (HX.out _).mono ?_
  rintro e2 w2 ⟨rfl, hw2⟩
  replace hw2 := hw2.symm
  subst hw2
  go_wp2_with fail
  refine (HY.out _).mono ?_
  rintro e3 w3 ⟨rfl, hw3⟩
  replace hw3 := hw3.symm
  subst hw3
  clear b0 b1 d0 d1
  go_wp2_with fail
  go_loopw [14] (fun i wr => ∃ (j : Nat) (m : List UInt8), (e ≤ j ∧ j ≤ f) ∧ i = .int .i64 j ∧ TSt w0 w1 (w.heap.size + 1 + 1) W H A1 l.length c1 m wr ∧ rowsF (drawF W' x y l') W a (b - a) m j (f - j) = R) (fun i _ => f - (intOf i).toNat)
  case atStart => exact ⟨e, l, ⟨Nat.le_refl _, HI.out.2.2.1.1⟩, rfl, HS0.out.1, HI.out.2.2.2.1.symm⟩
  case round =>
    obtain ⟨j, m, hj, rfl, S, hd⟩ := hrel
    have hjw : j ≤ 16384 := by have := HI.out.2.2.1.2; have := HI.out.2.2.2.2.1; omega
    by_cases hlt : j < f
    · obtain ⟨R1, hR1⟩ : ∃ R1, R1 = rowF (drawF W' x y l' j) (j * W) m a (b - a) := ⟨_, rfl⟩
      have HS := hide (And.intro hd (And.intro hlt hR1))
      have HSS := hide S
      clear hd S hR1
      go_wp2_with fail
      go_loopw [15] (fun i wr => ∃ (k : Nat) (m' : List UInt8), (a ≤ k ∧ k ≤ b) ∧ i = .int .i64 k ∧ TSt w0 w1 (w.heap.size + 1 + 1) W H A1 l.length c1 m' wr ∧ rowF (drawF W' x y l' j) (j * W) m' k (b - k) = R1) (fun i _ => b - (intOf i).toNat)
      case atStart => exact ⟨a, m, ⟨Nat.le_refl _, HI.out.2.1.1⟩, rfl, HSS.out, HS.out.2.2.symm⟩
      case round =>
        obtain ⟨k, m', hk, rfl, S, hd⟩ := hrel
        have hkw : k ≤ 16384 := by have := HI.out.2.1.2; have := HI.out.2.2.2.2.1; omega
        by_cases hkb : k < b
        · have hfit : 4 * (j * W + k) + 4 ≤ l.length := HI.out.1.fit (by have := HI.out.2.1.2; omega) (by have := HI.out.2.2.1.2; omega)
          obtain ⟨g, rfl, hg0, hg1⟩ := own_at S.own (by omega)
          have hg2 : g < w1.heap.size := (own_block HS0.out.2.2.2.2 _ rfl).2.1
          obtain ⟨hok', hsx, hsy, hb', hl', hsd'⟩ := HJ.out
          have h1 := hsx k hk.1 hkb
          have h2 := hsy j hj.1 hlt
          obtain ⟨s, hs⟩ : ∃ s : Nat, (k : Int) - x = s := ⟨((k : Int) - x).toNat, by omega⟩
          obtain ⟨t, ht⟩ : ∃ t : Nat, (j : Int) - y = t := ⟨((j : Int) - y).toNat, by omega⟩
          have V1 := hide (wr_nat hs (by omega))
          have V2 := hide (wr_nat ht (by omega))
          obtain ⟨hin, hat⟩ := atP_in (W := W') (H := H') (l := l') (x := s) (y := t) (by omega) (by omega)
          obtain ⟨hin2, hat2⟩ := atP_in (W := W) (H := H) (l := m') (x := k) (y := j) (by have := HI.out.2.1.2; omega) (by have := HI.out.2.2.1.2; omega)
          have HA := hide (fun wr (h : Only [] w0 wr) => tAt_any W' H' A' n' c' l' s t wr (hb'.keep h (by simp)) hl' hok')
          rw [hin, hat] at HA
          have HA2 := hide (fun wr (h : wr.ownsRow w0.heap.size 5 1 (.slice (some ⟨g, 0, none⟩) l.length c1) l.length (bvals m')) => tAt_any W H (some ⟨g, 0, none⟩) l.length c1 m' k j wr (Holds.of_own h) S.mlen HI.out.1)
          rw [hin2, hat2] at HA2
          have hF : drawF W' x y l' j k (at4 m' (j * W + k)) = over (at4 m' (j * W + k)) (at4 l' (t * W' + s)) := by unfold drawF; rw [hs, ht]; rfl
          have HP := hide (fun px w (h : w.ownsRow w0.heap.size 5 1 (.slice (some ⟨g, 0, none⟩) l.length c1) l.length (bvals m')) => put_any W H g l.length c1 w0.heap.size k j m' px w h S.mlen hfit (by have := HI.out.2.2.2.2.2; omega) (by have := HI.out.2.2.2.2.1; have := HI.out.2.1.2; omega))
          have hnext : rowF (drawF W' x y l' j) (j * W) (put4 m' (j * W + k) (over (at4 m' (j * W + k)) (at4 l' (t * W' + s)))) (k + 1) (b - (k + 1)) = R1 := by
            rw [show b - k = (b - (k + 1)) + 1 by omega, rowF, hF] at hd
            exact hd
          have HO := hide (fun d s w => refOver_any d s w)
          have hss := HS0.out.2.1.only S.only (by simp)
          have q0 := hss.cell 0
          have q1 := hss.cell 1
          have q2 := hss.cell 2
          simp only [List.getElem?_toArray, List.getElem?_cons_zero, List.getElem?_cons_succ] at q0 q1 q2
          have HK := hide (And.intro S hnext)
          obtain ⟨v1, y1⟩ := V1.out
          obtain ⟨v2, y2⟩ := V2.out
          generalize at4 m' (j * W + k) = c1' at *
          generalize at4 l' (t * W' + s) = c2' at *
          clear S hd hfit hnext hok' hsx hsy hb' hl' hsd' h1 h2 hin hat hin2 hat2 hF hss V1 V2 hs ht
          go_wp2_with fail
          refine (HA.out _ HK.out.1.only).mono ?_
          rintro e4 w4 ⟨rfl, ho4⟩
          unfold Px.val Px.cells
          have oa : Only [] w4 (w4.alloc (.cells #[.int .u8 (c2'.r.toNat : Int), .int .u8 (c2'.g.toNat : Int), .int .u8 (c2'.b.toNat : Int), .int .u8 (c2'.a.toNat : Int)] 40)) := (Only.refl [] w4).alloc _
          have hsv : Has (w4.alloc (.cells #[.int .u8 (c2'.r.toNat : Int), .int .u8 (c2'.g.toNat : Int), .int .u8 (c2'.b.toNat : Int), .int .u8 (c2'.a.toNat : Int)] 40)) w4.heap.size 40 #[.int .u8 (c2'.r.toNat : Int), .int .u8 (c2'.g.toNat : Int), .int .u8 (c2'.b.toNat : Int), .int .u8 (c2'.a.toNat : Int)] := Has.new w4 _ _
          have S4 := (HK.out.1.keep ho4).keep oa
          obtain ⟨m0, m1, m2⟩ := S4.cells
          have H4 := hide (And.intro S4 hsv)
          clear S4 hsv oa ho4 q0 q1 q2 v1 v2 y1 y2 HA
          go_wp2_with fail
          refine (HA2.out _ H4.out.1.own).mono ?_
          rintro e5 w5 ⟨rfl, ho5⟩
          unfold Px.val Px.cells
          have ob : Only [] w5 (w5.alloc (.cells #[.int .u8 (c1'.r.toNat : Int), .int .u8 (c1'.g.toNat : Int), .int .u8 (c1'.b.toNat : Int), .int .u8 (c1'.a.toNat : Int)] 40)) := (Only.refl [] w5).alloc _
          have hdv : Has (w5.alloc (.cells #[.int .u8 (c1'.r.toNat : Int), .int .u8 (c1'.g.toNat : Int), .int .u8 (c1'.b.toNat : Int), .int .u8 (c1'.a.toNat : Int)] 40)) w5.heap.size 40 #[.int .u8 (c1'.r.toNat : Int), .int .u8 (c1'.g.toNat : Int), .int .u8 (c1'.b.toNat : Int), .int .u8 (c1'.a.toNat : Int)] := Has.new w5 _ _
          have S5 := (H4.out.1.keep ho5).keep ob
          have hsv5 := (H4.out.2.only ho5 (by simp)).only ob (by simp)
          obtain ⟨m0, m1, m2⟩ := S5.cells
          have p0 := hsv5.cell 0
          have p1 := hsv5.cell 1
          have p2 := hsv5.cell 2
          have p3 := hsv5.cell 3
          have d0 := hdv.cell 0
          have d1 := hdv.cell 1
          have d2 := hdv.cell 2
          have d3 := hdv.cell 3
          simp only [List.getElem?_toArray, List.getElem?_cons_zero, List.getElem?_cons_succ] at p0 p1 p2 p3 d0 d1 d2 d3
          have H5 := hide S5
          have HOv : Hid (∀ w, Calls Try.prog 37 #[.agg #[.int .u8 (c1'.r.toNat : Int), .int .u8 (c1'.g.toNat : Int), .int .u8 (c1'.b.toNat : Int), .int .u8 (c1'.a.toNat : Int)], .agg #[.int .u8 (c2'.r.toNat : Int), .int .u8 (c2'.g.toNat : Int), .int .u8 (c2'.b.toNat : Int), .int .u8 (c2'.a.toNat : Int)]] w fun e w' => e = .returned (over c1' c2').val ∧ Only [] w w') := hide (fun w => HO.out c1' c2' w)
          clear S5 hsv5 hdv ob ho5 HA2 H4 HO
          go_wp2_with fail
          have m0 := later_cell m0
          have m1 := later_cell m1
          have m2 := later_cell m2
          have p0 := later_cell p0
          have p1 := later_cell p1
          have p2 := later_cell p2
          have p3 := later_cell p3
          have d0 := later_cell d0
          have d1 := later_cell d1
          have d2 := later_cell d2
          have d3 := later_cell d3
          refine region_later_tail 6 (by kernel_rfl) (by kernel_rfl) ?_
          simp only [List.take_succ_cons, List.take_zero, List.drop_succ_cons, List.drop_zero]
          iterate 5 (go_big_quiet_step (fail))
          go_big_quiet_step ((go_at_call 37; refine later_of (HOv.out _)))
          refine wpQuiet_nil ?_
          rintro _ ⟨X, rfl⟩
          change wpList _ _ _ _ _ X.val
          clear m0 m1 m2 p0 p1 p2 p3 d0 d1 d2 d3 HOv
          go_wp2_with fail
          refine (HP.out _ _ (H5.out.keep X.only).own).mono ?_
          rintro e6 w6 ⟨rfl, how6, ho6⟩
          have S6 := (H5.out.keep X.only).put (by omega) ⟨hg0, hg2⟩ (put4_length _ _ _) how6 ho6
          have H6 := hide S6
          clear S6 how6 ho6 HP H5
          go_wp2_with fail
          go_roundw
          case rel => exact ⟨k + 1, _, ⟨by omega, hkb⟩, by go_num, H6.out, HK.out.2⟩
          case measure => simp [intOf]; omega
        · obtain rfl : k = b := by omega
          rw [Nat.sub_self] at hd
          have hd : m' = R1 := hd
          subst hd
          go_wp2_with fail
          go_roundw
          case rel =>
            refine ⟨j + 1, _, ⟨by omega, hlt⟩, by go_num, S, ?_⟩
            have hd := HS.out.1
            rw [show f - j = (f - (j + 1)) + 1 by omega, rowsF, ← HS.out.2.2] at hd
            exact hd
          case measure => simp [intOf]; omega
    · obtain rfl : j = f := by omega
      rw [Nat.sub_self] at hd
      have hd : m = R := hd
      subst hd
      obtain ⟨m0, m1, m2⟩ := S.cells
      have hres := S.res
      have HS := hide S
      clear S hlt
      go_wp2_with (refine list_store_row' rfl 31 (.tmp 8) (.tmp 77) rfl (w.heap.size + 1 + 1) #[.int .i64 (W : Int), .int .i64 (H : Int), .slice A1 l.length c1] rfl rfl 31 _ hres (by kernel_rfl) rfl (mat_one _ _ _ _ _) ?_; intro w4 hT4 hO4)
      obtain ⟨h1, h2⟩ := HS.out.fin HS0.out.2.2.1 (by omega) (by omega) hO4
      exact bodyPost_ret (results_cell_row Try.results33 _ _ (w.heap.size + 1 + 1) 31 _ (0, 0) _ rfl hT4 Try.underlying31 rfl (by kernel_rfl)) rfl ⟨_, rfl, h1, h2⟩
end Go.Proofs.Ytngaabnmhcncmaa
