/-
  Package pixel: Draw.
-/
import Derived.Test.YtngaabnmhcncmaaPxDr
import Derived.Test.YtngaabnmhcncmaaTail
namespace Go.Proofs.Ytngaabnmhcncmaa
open Go Go.RowKit

/-- What a pixel becomes of which another matrix, laid at x, y, has one above it. -/
def drawF (W' : Nat) (x y : Int) (l' : List UInt8) (j i : Nat) (c : Px) : Px := over c (at4 l' (((j : Int) - y).toNat * W' + ((i : Int) - x).toNat))
/-- All bytes of what is drawn. -/
def drawL (W H W' H' : Nat) (x y : Int) (l l' : List UInt8) : List UInt8 := partL (drawF W' x y l') W H x y (W' : Int) (H' : Int) l
theorem sp_src {x : Int} {p W i : Nat} (hp : p ≤ 16384) (h1 : spL x p W ≤ i) (h2 : i < spR x p W) : x ≤ (i : Int) ∧ (i : Int) - x < p := by
  unfold spL at h1
  unfold spR at h2
  split at h2
  · omega
  · rw [if_neg (by assumption)] at h1; omega
theorem wi_src {W H p q j i : Nat} {x y : Int} (hp : p ≤ 16384) (hq : q ≤ 16384) (h1 : wiL W H x y p q ≤ i) (h2 : i < wiR W H x y p q) (h3 : wiT W H x y p q ≤ j) (h4 : j < wiB W H x y p q) :
    (x ≤ (i : Int) ∧ (i : Int) - x < p) ∧ y ≤ (j : Int) ∧ (j : Int) - y < q := by
  unfold wiL at h1
  unfold wiR at h2
  unfold wiT at h3
  unfold wiB at h4
  by_cases h : spL x (p : Int) W = spR x (p : Int) W ∨ spL y (q : Int) H = spR y (q : Int) H
  · rw [if_pos h] at h2; omega
  · rw [if_neg h] at h1 h2 h3 h4
    exact ⟨sp_src hp h1 h2, sp_src hq h3 h4⟩

set_option maxRecDepth 100000 in
set_option maxHeartbeats 8000000 in
theorem draw_any (W H : Nat) (A : Option Addr) (n c : Nat) (l : List UInt8) (W' H' : Nat) (A' : Option Addr) (n' c' : Nat) (l' : List UInt8) (x y : Int) (w : World)
    (hb : Holds w 1 A n (bvals l)) (hl : l.length = n) (hok : okM W H n) (hA : A = none → c = 0 ∧ n = 0)
    (hb' : Holds w 1 A' n' (bvals l')) (hl' : l'.length = n') (hok' : okM W' H' n') (hc' : n' ≤ c')
    (hx : -9223372036854775808 ≤ x ∧ x ≤ 9223372036854775807) (hy : -9223372036854775808 ≤ y ∧ y ≤ 9223372036854775807) :
    Calls Try.prog 32 #[mval W H A n c, mval W' H' A' n' c', .int .i64 x, .int .i64 y] w fun e w' => ∃ v, e = .returned v ∧ Own w' w.heap.size W H v (drawL W H W' H' x y l l') ∧ Only [] w w' := by
  have hn4 := hok.le
  have hsd := hok.side
  have hsd' := hok'.side
  obtain ⟨w0, hw0⟩ : ∃ w0, w0 = ((w.alloc (.cells #[.int .i64 (W : Int), .int .i64 (H : Int), .slice A n c] 24)).alloc (.cells #[.int .i64 (W' : Int), .int .i64 (H' : Int), .slice A' n' c'] 24)).alloc (.cells #[.int .i64 0, .int .i64 0, .slice none 0 0] 24) := ⟨_, rfl⟩
  have o0 : Only [] w w0 := by rw [hw0]; exact (((Only.refl [] w).alloc _).alloc _).alloc _
  have s0 : w0.heap.size = w.heap.size + 3 := by rw [hw0]; simp
  have hm0 : Has w0 w.heap.size 24 #[.int .i64 (W : Int), .int .i64 (H : Int), .slice A n c] := by rw [hw0]; exact ((Has.new w _ _).alloc _).alloc _
  have hc1 : Has w0 (w.heap.size + 1) 24 #[.int .i64 (W' : Int), .int .i64 (H' : Int), .slice A' n' c'] := by rw [hw0]; exact (Has.new' _ _ _ _ (by simp)).alloc _
  have hz : Has w0 (w.heap.size + 1 + 1) 24 #[.int .i64 0, .int .i64 0, .slice none 0 0] := by rw [hw0]; exact Has.new' _ _ _ _ (by simp)
  have HL := hide (like_any W H A n c l w0 (hb.keep o0 (by simp)) hl (by omega) hA)
  have HG := hide (fun w => right_any W' H' A' n' c' w)
  rw [hok'.right] at HG
  have HW := hide (fun w => within_any W H A n c x y W' H' w hok hx hy (by omega) (by omega))
  have hle := wi_le W H x y W' H'
  have hdef : drawL W H W' H' x y l l' = rowsF (drawF W' x y l') W (wiL W H x y W' H') (wiR W H x y W' H' - wiL W H x y W' H') l (wiT W H x y W' H') (wiB W H x y W' H' - wiT W H x y W' H') := part_wi _ W H x y W' H' l
  have hsrc : ∀ j i : Nat, wiL W H x y W' H' ≤ i → i < wiR W H x y W' H' → wiT W H x y W' H' ≤ j → j < wiB W H x y W' H' → (x ≤ (i : Int) ∧ (i : Int) - x < W') ∧ y ≤ (j : Int) ∧ (j : Int) - y < H' := fun j i h1 h2 h3 h4 => wi_src hsd'.1 hsd'.2 h1 h2 h3 h4
  generalize drawL W H W' H' x y l l' = R at *
  generalize wiL W H x y W' H' = a at *
  generalize wiR W H x y W' H' = b at *
  generalize wiT W H x y W' H' = e at *
  generalize wiB W H x y W' H' = f at *
  subst hl
  have HI := hide (And.intro hok (And.intro hle (And.intro hdef (And.intro hsd hn4))))
  have HJ := hide (And.intro hok' (And.intro hsrc (And.intro (hb'.keep o0 (by simp)) (And.intro hl' (And.intro hc' (And.intro hsd' (hb'.blk)))))))
  have hm0c := hide hm0
  have a0 := hm0.cell 0
  have a1 := hm0.cell 1
  have a2 := hm0.cell 2
  simp only [List.getElem?_toArray, List.getElem?_cons_zero, List.getElem?_cons_succ] at a0 a1 a2
  show Calls Try.prog 32 #[.agg #[.int .i64 W, .int .i64 H, .slice A l.length c], .agg #[.int .i64 W', .int .i64 H', .slice A' n' c'], .int .i64 x, .int .i64 y] w _
  clear hok hn4 hb hle hdef hx hy hsd hm0 hA hb' hl' hok' hc' hsrc hsd'
  go_enter Try.func32, Try.ntmps32
  go_wp2_with fail
  rw [← hw0]
  refine (HL.out).mono ?_
  rintro e1 w1 ⟨v, rfl, ⟨A1, c1, rfl, how⟩, ho1⟩
  unfold mval
  have hmm := (hm0c.out.only ho1 (by simp)).alloc (.cells #[.int .i64 (W : Int), .int .i64 (H : Int), .slice A1 l.length c1] 24)
  have hss := (hc1.only ho1 (by simp)).alloc (.cells #[.int .i64 (W : Int), .int .i64 (H : Int), .slice A1 l.length c1] 24)
  have b0 := hss.cell 0
  have b1 := hss.cell 1
  have b2 := hss.cell 2
  simp only [List.getElem?_toArray, List.getElem?_cons_zero, List.getElem?_cons_succ] at b0 b1 b2
  have HS0 := hide (And.intro how (And.intro hz (And.intro hc1 (And.intro o0 (And.intro ho1 (And.intro hmm hss))))))
  clear hz hc1 o0 ho1 HL hw0 a0 a1 a2 how hmm hm0c hss
  go_wp2_with fail
  refine (HG.out _).mono ?_
  rintro eg wg ⟨rfl, hog⟩
  have d0 := (HS0.out.2.2.2.2.2.1.only hog (by simp)).cell 0
  have d1 := (HS0.out.2.2.2.2.2.1.only hog (by simp)).cell 1
  have d2 := (HS0.out.2.2.2.2.2.1.only hog (by simp)).cell 2
  have b0 := (HS0.out.2.2.2.2.2.2.only hog (by simp)).cell 0
  have b1 := (HS0.out.2.2.2.2.2.2.only hog (by simp)).cell 1
  have b2 := (HS0.out.2.2.2.2.2.2.only hog (by simp)).cell 2
  simp only [List.getElem?_toArray, List.getElem?_cons_zero, List.getElem?_cons_succ] at b0 b1 b2 d0 d1 d2
  have HOG := hide hog
  clear hog
  go_wp2_with fail
  refine (HW.out _).mono ?_
  rintro e2 w2 ⟨rfl, ho2⟩
  unfold aval
  obtain ⟨how, hz, hc1, o0, ho1, _, _⟩ := HS0.out
  have hog := HOG.out
  have oa := ((Only.refl [] w1).alloc (.cells #[.int .i64 (W : Int), .int .i64 (H : Int), .slice A1 l.length c1] 24)).trans hog (S := []) (by simp)
  have hs2 := ho2.size
  have hs1 := ho1.size
  have hsg := hog.size
  have ob := (Only.refl [] w2).alloc (.cells #[.int .i64 (a : Int), .int .i64 (b : Int), .int .i64 (e : Int), .int .i64 (f : Int)] 79)
  have oc := (oa.trans ho2 (S := []) (by simp)).trans ob (S := []) (by simp)
  simp only [World.size_alloc] at hsg
  have hS : PSt w0 w1.heap.size w2.heap.size (w.heap.size + 1 + 1) W H A1 l.length c1 #[.int .i64 (a : Int), .int .i64 (b : Int), .int .i64 (e : Int), .int .i64 (f : Int)] l (w2.alloc (.cells #[.int .i64 (a : Int), .int .i64 (b : Int), .int .i64 (e : Int), .int .i64 (f : Int)] 79)) :=
    ⟨rfl, own_keep how oc (by simp), (hz.only ho1 (by simp)).only oc (by simp), (((Has.new w1 _ _).only hog (by simp)).only ho2 (by simp)).only ob (by simp), Has.new w2 _ _, ho1.trans oc (by simp)⟩
  have HS := hide (And.intro hS (And.intro hc1 (And.intro o0 (And.intro hs1 (And.intro how (And.intro (Nat.lt_of_lt_of_le hsg hs2) (own_cap how)))))))
  obtain ⟨r0, r1, r2, r3⟩ := hS.areas
  clear hS HS0 how hz hc1 o0 ho1 ho2 oa ob oc hs1 hs2 b0 b1 b2 HW HG d0 d1 d2 hog HOG hsg
  go_wp2_with fail
  go_loopw [11] (fun i wr => ∃ (j : Nat) (m : List UInt8), (e ≤ j ∧ j ≤ f) ∧ i = .int .i64 j ∧ PSt w0 w1.heap.size w2.heap.size (w.heap.size + 1 + 1) W H A1 l.length c1 #[.int .i64 (a : Int), .int .i64 (b : Int), .int .i64 (e : Int), .int .i64 (f : Int)] m wr ∧ rowsF (drawF W' x y l') W a (b - a) m j (f - j) = R) (fun i _ => f - (intOf i).toNat)
  case atStart => exact ⟨e, l, ⟨Nat.le_refl _, HI.out.2.1.2.2.1⟩, rfl, HS.out.1, HI.out.2.2.1.symm⟩
  case round =>
    obtain ⟨j, m, hj, rfl, S, hd⟩ := hrel
    have hjw : j ≤ 16384 := by have := HI.out; omega
    by_cases hlt : j < f
    · obtain ⟨K, hK⟩ : ∃ K, K = b - a := ⟨_, rfl⟩
      have hab : a < b := HI.out.2.1.2.2.2.2 (by omega)
      have hfit := HI.out.1.fit (x := b - 1) (y := j) (by have := HI.out; omega) (by have := HI.out; omega)
      have hbk : b = a + K := by omega
      obtain ⟨g, rfl, hg0, hg1⟩ := own_at S.own (by omega)
      have hg2 : g < w1.heap.size := by
        obtain ⟨g', hg', _, hg2⟩ := own_at HS.out.2.2.2.2.1 (by omega)
        injection hg' with h; injection h with h; omega
      have hcap := HS.out.2.2.2.2.2.2.1
      have HR := hide (fun w' => row_any W H (some ⟨g, 0, none⟩) l.length c1 j a K w' (by have := HI.out.2.2.2.1; omega) (by omega) (by have := HI.out; omega) (by omega))
      rw [← hbk] at HR
      obtain ⟨hok', hsrc, hb', hl', hc', hsd', hblk'⟩ := HJ.out
      have hs1 := hsrc j a (Nat.le_refl _) hab hj.1 hlt
      have hs2 := hsrc j (b - 1) (by omega) (by omega) hj.1 hlt
      obtain ⟨v, hv⟩ : ∃ v : Nat, (j : Int) - y = v := ⟨((j : Int) - y).toNat, by omega⟩
      obtain ⟨s, hs⟩ : ∃ s : Nat, (a : Int) - x = s := ⟨((a : Int) - x).toNat, by omega⟩
      have hsk : (b : Int) - x = ((s + K : Nat) : Int) := by omega
      have hfit' := hok'.fit (x := s + K - 1) (y := v) (by omega) (by omega)
      have HR' := hide (fun w' => row_any W' H' A' n' c' v s K w' (by omega) (by omega) (by omega) (by omega))
      have V1 := hide (wr_nat hv (by omega))
      have V2 := hide (wr_nat hs (by omega))
      have V3 := hide (wr_nat hsk (by omega))
      obtain ⟨F, hF⟩ : ∃ F, F = j * W + a := ⟨_, rfl⟩
      obtain ⟨G, hG⟩ : ∃ G, G = v * W' + s := ⟨_, rfl⟩
      rw [← hF] at HR
      rw [← hG] at HR'
      obtain ⟨R1, hR1⟩ : ∃ R1, R1 = rowF (drawF W' x y l' j) (j * W) m a K := ⟨_, rfl⟩
      have hrow := hb'.row (4 * G) (4 * K) (by omega)
      have hval : rowV A' (4 * G) (4 * K) = .slice (A'.map (·.add (4 * G))) (4 * K) (4 * K) := by unfold rowV; rw [if_neg (by omega)]
      have hEq : rowF (fun i c => over c (at4 ((l'.drop (4 * G)).take (4 * K)) (i - a))) (j * W) m a K = R1 := by
        rw [hR1]
        refine rowF_congr fun i c h1 h2 => ?_
        unfold drawF
        rw [at4_row l' G (i - a) (4 * K) (by omega), show ((j : Int) - y).toNat = v by omega, show ((i : Int) - x).toNat = s + (i - a) by omega, hG, Nat.add_assoc]
      have HD := hide (fun w' (h : Only [] wr w') => drawRow_any g l.length c1 w0.heap.size K (j * W) a m ((l'.drop (4 * G)).take (4 * K)) (A'.map (·.add (4 * G))) w' (own_keep S.own h (by simp)) S.mlen (by omega) (hrow.keep (S.only.trans h (S := []) (by simp)) (by simp)) (by rw [List.length_take, List.length_drop]; omega) (fun ad had _ => by
        obtain ⟨ad0, e1, e2⟩ := Option.map_eq_some_iff.1 had
        have := hblk' (by omega) ad0 e1
        rw [← e2, add_block]
        have := HS.out.2.2.1.size
        omega))
      rw [hEq, ← hval, ← hF] at HD
      rw [← hK] at hd
      have hss := HS.out.2.1.only S.only (by simp)
      obtain ⟨m0, m1, m2⟩ := S.cells
      obtain ⟨r0, r1, r2, r3⟩ := S.areas
      have q0 := hss.cell 0
      have q1 := hss.cell 1
      have q2 := hss.cell 2
      simp only [List.getElem?_toArray, List.getElem?_cons_zero, List.getElem?_cons_succ] at q0 q1 q2
      have HS2 := hide (And.intro S (And.intro hd (And.intro hlt (And.intro hR1 (And.intro hK (And.intro hg0 (And.intro hg2 hss)))))))
      have HKeep := hide (fun w' (h : Only [] wr w') => And.intro (S.keep h) (hss.only h (by simp)))
      generalize rowV (some ⟨g, 0, none⟩) (4 * F) (4 * K) = v0 at *
      generalize rowV A' (4 * G) (4 * K) = v2 at *
      obtain ⟨x1, y1⟩ := V1.out
      obtain ⟨x2, y2⟩ := V2.out
      obtain ⟨x3, y3⟩ := V3.out
      obtain ⟨E, hE⟩ : ∃ E, E = s + K := ⟨_, rfl⟩
      rw [← hE] at x3 y3 HR'
      clear S hd hR1 hK hg0 hg2 hss hok' hsrc hb' hl' hc' hsd' hblk' hs1 hs2 hsk hfit hfit' hcap hrow hval hEq hF hG hbk hab V1 V2 V3 hv hs hE
      go_wp2_with fail
      have m0 := later_cell m0
      have m1 := later_cell m1
      have m2 := later_cell m2
      have r0 := later_cell r0
      have r1 := later_cell r1
      have q0 := later_cell q0
      have q1 := later_cell q1
      have q2 := later_cell q2
      clear r2 r3
      refine region_later_tail 20 (by kernel_rfl) (by kernel_rfl) ?_
      simp only [List.take_succ_cons, List.take_zero, List.drop_succ_cons, List.drop_zero]
      iterate 6 (go_big_quiet_step (fail))
      go_big_quiet_step ((go_at_call 54; refine later_of (HR.out _)))
      iterate 12 (go_big_quiet_step (fail))
      go_big_quiet_step ((go_at_call 54; refine later_of (HR'.out _)))
      refine wpQuiet_nil ?_
      rintro _ ⟨X, rfl⟩
      change wpList _ _ _ _ _ X.val
      go_wp2_with fail
      refine (HD.out _ X.only).mono ?_
      rintro e5 w5 ⟨rfl, how5, ho5⟩
      have S5 := ((HS2.out.1.keep X.only).put (by have := HS.out; omega) ⟨HS2.out.2.2.2.2.2.1, HS2.out.2.2.2.2.2.2.1, by have := HS.out; omega⟩ (by rw [HS2.out.2.2.2.1, rowF_length]) how5 ho5)
      have H5 := hide S5
      clear S5 how5 ho5 m0 m1 m2 r0 r1 q0 q1 q2 HR HR' HD HKeep
      go_wp2_with fail
      go_roundw
      case rel =>
        refine ⟨j + 1, _, ⟨by omega, hlt⟩, by go_num, H5.out, ?_⟩
        have hd := HS2.out.2.1
        rw [← HS2.out.2.2.2.2.1]
        rw [show f - j = (f - (j + 1)) + 1 by omega, rowsF, ← HS2.out.2.2.2.1] at hd
        exact hd
      case measure => simp [intOf]; omega
    · obtain rfl : j = f := by omega
      rw [Nat.sub_self] at hd
      have hd : m = R := hd
      subst hd
      obtain ⟨m0, m1, m2⟩ := S.cells
      obtain ⟨r0, r1, r2, r3⟩ := S.areas
      have hres := S.res
      have HS3 := hide S
      clear S hlt
      go_wp2_with (refine list_store_row' rfl 24 (.tmp 8) (.tmp 55) rfl (w.heap.size + 1 + 1) #[.int .i64 (W : Int), .int .i64 (H : Int), .slice A1 l.length c1] rfl rfl 24 _ hres (by kernel_rfl) rfl (mat_one _ _ _ _ _) ?_; intro w4 hT4 hO4)
      obtain ⟨h1, h2⟩ := HS3.out.fin HS.out.2.2.1 (by omega) (by omega) hO4
      exact bodyPost_ret (results_cell_row Try.results32 _ _ (w.heap.size + 1 + 1) 24 _ (0, 0) _ rfl hT4 Try.underlying24 rfl (by kernel_rfl)) rfl ⟨_, rfl, h1, h2⟩
end Go.Proofs.Ytngaabnmhcncmaa
