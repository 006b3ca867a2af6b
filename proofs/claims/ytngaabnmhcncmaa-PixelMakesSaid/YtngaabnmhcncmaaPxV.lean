/-
  The document's From, of as many bytes as it wants.
-/
import Derived.Test.YtngaabnmhcncmaaPxU
namespace Go.Proofs.Ytngaabnmhcncmaa
open Go Go.RowKit

/-- Where the loops stand: the bytes so far. -/
structure FromSt (w w1 : World) (x y N c1 : Nat) (A1 : Option Addr) (m : List UInt8) (wr : World) : Prop where
  mlen : m.length = N
  own : wr.ownsRow (w.heap.size + 1) 5 1 (.slice A1 N c1) N (bvals m)
  res : Has wr w.heap.size 31 #[.int .i64 0, .int .i64 0, .slice none 0 0]
  mat : Has wr w1.heap.size 31 #[.int .i64 (x : Int), .int .i64 (y : Int), .slice A1 N c1]
  only : Only [] w wr

theorem FromSt.set {w w1 : World} {x y N c1 g : Nat} {m : List UInt8} {wr : World} (h : FromSt w w1 x y N c1 (some ⟨g, 0, none⟩) m wr) (hg : w.heap.size < g ∧ g < w1.heap.size) (i b : Nat) (hb : b < 256) :
    FromSt w w1 x y N c1 (some ⟨g, 0, none⟩) (m.set i (UInt8.ofNat b)) (wr.setCell ⟨g, i, none⟩ (.int .u8 (b : Int))) :=
  ⟨by simpa using h.mlen, by rw [← bvals_set _ _ _ hb]; exact own_set h.own i _, h.res.other (p := ⟨g, i, none⟩) (by show w.heap.size ≠ g; omega) _, h.mat.other (p := ⟨g, i, none⟩) (by show w1.heap.size ≠ g; omega) _, h.only.setCell (by show g < w.heap.size → _; omega) _⟩
theorem FromSt.drewN {w w1 : World} {x y N c1 : Nat} {A1 : Option Addr} {m : List UInt8} {wr : World} (h : FromSt w w1 x y N c1 A1 m wr) (n : Nat) : FromSt w w1 x y N c1 A1 m (wr.drewN n) :=
  ⟨h.mlen, h.own, h.res.drewN n, h.mat.drewN n, h.only.drewN n⟩

set_option maxRecDepth 100000 in
set_option maxHeartbeats 8000000 in
theorem from_ok (W H : Int) (nn : Nat) (A : Option Addr) (n c : Nat) (l : List UInt8) (w : World) (hn : nn = 3 ∨ nn = 4) (hf : faultE W H nn n = 0) (hb : Holds w 1 A n (bvals l)) (hl : l.length = n) :
    Calls Try.prog 16 #[.int .i64 W, .int .i64 H, .slice A n c, .int .i64 (nn : Int)] w fun e w' => ∃ v, e = .returned (.tuple #[v, .int .i64 0]) ∧ Own w' w.heap.size W H v (fromL nn l (W.toNat * H.toNat)) ∧ Only [] w w' := by
  obtain ⟨x, y, rfl, rfl, hm, hnN⟩ := faultE_ok hf
  obtain ⟨_, _, e1, e2, hxy, hok⟩ := mayI_nat hm
  obtain rfl : x = _ := by exact_mod_cast e1
  obtain rfl : y = _ := by exact_mod_cast e2
  have HN := hide (tNew_any x y)
  have hsym : mayI y x = mayI x y := by unfold mayI; rw [Int.mul_comm]; congr 1; apply propext; constructor <;> (rintro (h | h); exact .inl ⟨h.2, h.1⟩; exact .inr ⟨h.2.1, h.1, h.2.2⟩)
  have E1 : newW x y = x := by unfold newW; rw [hm]; rfl
  have E2 : newW y x = y := by unfold newW; rw [hsym, hm]; rfl
  have E3 : newL x y = List.replicate (4 * (x * y)) 0 := by unfold newL; rw [hm]; rfl
  have E4 : newE7 x y = 0 := by unfold newE7; rw [hm]; rfl
  rw [E1, E2, E3, E4] at HN
  have hz : Has (w.alloc (.cells #[.int .i64 0, .int .i64 0, .slice none 0 0] 31)) w.heap.size 31 #[.int .i64 0, .int .i64 0, .slice none 0 0] := Has.new w _ _
  have o0 : Only [] w (w.alloc (.cells #[.int .i64 0, .int .i64 0, .slice none 0 0] 31)) := (Only.refl [] w).alloc _
  have hs : (w.alloc (.cells #[.int .i64 0, .int .i64 0, .slice none 0 0] 31)).heap.size = w.heap.size + 1 := by simp
  have hxx := hok.1
  obtain ⟨K, hK⟩ : ∃ K, K = x * y := ⟨_, rfl⟩
  obtain ⟨D, hD⟩ : ∃ D, D = nn * x := ⟨_, rfl⟩
  have hN : n = D * y := by rw [hnN, hD, Nat.mul_assoc nn x y, Nat.mul_comm (x * y) nn]
  have hN2 : n = nn * K := by rw [hnN, hK, Nat.mul_comm]
  have hKb : K ≤ 67108864 := by omega
  have hDb : D ≤ 4 * 16384 ∧ n ≤ 4 * 67108864 := by
    rcases hn with rfl | rfl <;> omega
  have W1 := hide (wr_nat (z := (nn : Int) * (x : Int)) (n := D) (by rw [hD]; exact (Int.natCast_mul nn x).symm) (by omega))
  have W2 := hide (wr_nat (z := (D : Int) * (y : Int)) (n := n) (by rw [hN]; exact (Int.natCast_mul D y).symm) (by omega))
  have W3 := hide (wr_nat (z := (x : Int) * (y : Int)) (n := K) (by rw [hK]; exact (Int.natCast_mul x y).symm) (by omega))
  have hR : fromL nn l ((x : Int).toNat * (y : Int).toNat) = rowF (fun i _ => pxN nn l i) 0 (List.replicate (4 * K) 0) 0 K := by
    unfold fromL
    rw [Int.toNat_natCast, Int.toNat_natCast, ← hK]
  rw [← hK] at HN
  generalize fromL nn l ((x : Int).toNat * (y : Int).toNat) = R at *
  have hlen : (List.replicate (4 * K) (0 : UInt8)).length = 4 * K := by simp
  have HR := hide (And.intro hR (And.intro hlen (And.intro hb (And.intro hl (And.intro hKb (And.intro hN2 hDb))))))
  have hn4 : nn ≤ 4 := by omega
  clear hR hlen hb hl hKb hN2 hN hD hDb hxx hok hxy hm E1 E2 E3 E4 hsym hK e1 e2 hf hnN
  obtain ⟨w1', x1'⟩ := W1.out
  obtain ⟨w2', x2'⟩ := W2.out
  obtain ⟨w3', x3'⟩ := W3.out
  clear W1 W2 W3
  go_enter Try.func16, Try.ntmps16
  go_wp2_with fail
  refine (HN.out _).mono ?_
  rintro e w1 ⟨v, rfl, ⟨A1, c1, rfl, how⟩, ho1⟩
  rw [HR.out.2.1] at how ⊢
  have H0 := hide (And.intro how (And.intro ho1 (And.intro (hz.only ho1 (by simp)) (And.intro (o0.trans ho1 (S := []) (by simp)) hs))))
  clear how ho1 hz o0 hs HN
  unfold mval
  have hn1 : ¬ (n : Int) < (n : Int) := by omega
  go_wp2_with fail
  go_loopw [12] (fun i wr => ∃ (j : Nat) (m : List UInt8), j ≤ K ∧ i = .int .i64 j ∧ FromSt w w1 x y (4 * K) c1 A1 m wr ∧ rowF (fun i _ => pxN nn l i) 0 m j (K - j) = R) (fun i _ => K - (intOf i).toNat)
  case atStart =>
    obtain ⟨how, ho1, hz1, o1, hs⟩ := H0.out
    refine ⟨0, List.replicate (4 * K) 0, Nat.zero_le _, rfl, ⟨HR.out.2.1, ?_, hz1.alloc _, Has.new w1 _ _, o1.alloc _⟩, HR.out.1.symm⟩
    rw [← hs]
    exact own_keep how ((Only.refl [] w1).alloc _) (by simp)
  case round =>
    obtain ⟨j, m, hj, rfl, S, hd⟩ := hrel
    by_cases hlt : j < K
    · obtain ⟨g, rfl, hg0, _, hfr, hcell⟩ := own_open S.own (by omega)
      have hg1 : g < w1.heap.size := (own_block H0.out.1 _ rfl).2.1
      have hgg : w.heap.size < g ∧ g < w1.heap.size := ⟨by omega, hg1⟩
      have m2 : wr.cell? ⟨w1.heap.size, 2, none⟩ = some (.slice (some ⟨g, 0, none⟩) (4 * K) c1) := S.mat.cell 2
      obtain ⟨p, hp⟩ : ∃ p, p = 4 * j := ⟨_, rfl⟩
      obtain ⟨u, hu⟩ : ∃ u, u = 4 * j + 3 := ⟨_, rfl⟩
      obtain ⟨z, hz⟩ : ∃ z, z = nn * j := ⟨_, rfl⟩
      have hKb := HR.out.2.2.2.2.1
      have hzn : z + nn ≤ n := by rw [HR.out.2.2.2.2.2.1, hz, ← Nat.mul_succ]; exact Nat.mul_le_mul_left _ hlt
      have hnb := HR.out.2.2.2.2.2.2.2
      have V1 := hide (wr_nat (z := 4 * (j : Int)) (n := p) (by omega) (by omega))
      have V2 := hide (wr_nat (z := (p : Int) + 3) (n := u) (by omega) (by omega))
      have V3 := hide (wr_nat (z := (nn : Int) * (j : Int)) (n := z) (by rw [hz]; exact (Int.natCast_mul nn j).symm) (by omega))
      have i1 : (u : Int) < ((4 * K : Nat) : Int) := by omega
      have i1' : u < 4 * K := by omega
      obtain ⟨b3, c3⟩ : ∃ b : Nat, wr.cell? ⟨g, u, none⟩ = some (.int .u8 (b : Int)) := ⟨_, hcell u _ (bvals_get m u (by rw [S.mlen]; omega))⟩
      have f3 := hfr u
      have hS0 := S.set hgg u 255 (by omega)
      rw [hu] at hS0
      have hS0' : FromSt w w1 x y (4 * K) c1 (some ⟨g, 0, none⟩) (fillK m l nn j 0) (wr.setCell ⟨g, 4 * j + 3, none⟩ (.int .u8 255)) := hS0
      rw [← hu] at hS0'
      have hmlen := S.mlen
      have HS := hide (And.intro hS0' (And.intro hd (And.intro hlt (And.intro hmlen (And.intro hp (And.intro hu (And.intro hz (And.intro hzn (And.intro i1' (by omega : 4 * j + 4 ≤ 4 * K))))))))))
      obtain ⟨v1, y1⟩ := V1.out
      obtain ⟨v2, y2⟩ := V2.out
      have hqb : p ≤ 300000000 ∧ z ≤ 300000000 := by omega
      have HQ := hide hqb
      clear S hd hcell hfr hS0 hS0' hp hu hz hzn hmlen V1 V2 hj hnb hqb
      generalize 4 * K = N at *
      go_wp2_with fail
      generalize wr.setCell ⟨g, u, none⟩ (.int .u8 255) = wa at *
      clear c3 f3 v1 y1 v2 y2 i1 i1' m2
      go_loopw [13] (fun k wb => ∃ q : Nat, q ≤ nn ∧ k = .int .i64 q ∧ FromSt w w1 x y N c1 (some ⟨g, 0, none⟩) (fillK m l nn j q) wb) (fun k _ => nn - (intOf k).toNat)
      case atStart => exact ⟨0, Nat.zero_le _, rfl, HS.out.1⟩
      case round =>
        obtain ⟨q, hq, rfl, S⟩ := hrel
        by_cases hqn : q < nn
        · obtain ⟨hS0, hd, _, hmlen, hp, hu, hz, hzn, hun, hjN⟩ := HS.out
          obtain ⟨g', hg', _, _, hfr, hcell⟩ := own_open S.own (by omega)
          obtain rfl : g = g' := by injection hg' with h; injection h
          have m2 : wr.cell? ⟨w1.heap.size, 2, none⟩ = some (.slice (some ⟨g, 0, none⟩) N c1) := S.mat.cell 2
          have hqb := HQ.out
          obtain ⟨r, hr⟩ : ∃ r, r = z + q := ⟨_, rfl⟩
          obtain ⟨t, ht⟩ : ∃ t, t = p + q := ⟨_, rfl⟩
          have V1 := hide (wr_nat (z := 4 * (j : Int)) (n := p) (by omega) (by omega))
          have V2 := hide (wr_nat (z := (p : Int) + (q : Int)) (n := t) (by omega) (by omega))
          have V4 := hide (wr_nat (z := (z : Int) + (q : Int)) (n := r) (by omega) (by omega))
          have hrn : r < n := by omega
          have htN : t < N := by omega
          have i1 : (r : Int) < (n : Int) := by omega
          have i2 : (t : Int) < (N : Int) := by omega
          have oA : Only [] w wr := S.only
          obtain ⟨bb, oo, rfl, hbc⟩ := (HR.out.2.2.1.keep oA (by simp)).addr (by rw [bvals_length, HR.out.2.2.2.1]; omega)
          have k1 := cell_of hbc (i := r) (by rw [HR.out.2.2.2.1]; exact hrn)
          have hgd : ∃ b : Nat, (l.getD r 0).toNat = b ∧ b < 256 ∧ UInt8.ofNat b = l.getD r 0 := ⟨(l.getD r 0).toNat, rfl, (l.getD r 0).toNat_lt, by simp⟩
          obtain ⟨b, hb1, hb2, hb3⟩ := hgd
          rw [hb1] at k1
          obtain ⟨b4, k2⟩ : ∃ b : Nat, wr.cell? ⟨g, t, none⟩ = some (.int .u8 (b : Int)) := ⟨_, hcell t _ (bvals_get _ t (by rw [fillK_length]; omega))⟩
          have f2 := hfr t
          have hS1 := S.set hgg t b hb2
          have hnx : (fillK m l nn j q).set t (UInt8.ofNat b) = fillK m l nn j (q + 1) := by
            show _ = (fillK m l nn j q).set (4 * j + q) (l.getD (nn * j + q) 0)
            rw [hb3, ht, hr, hp, hz]
          rw [hnx] at hS1
          have HS1 := hide hS1
          have hq1 : q < nn := hqn
          obtain ⟨v1, y1⟩ := V1.out
          obtain ⟨v2, y2⟩ := V2.out
          obtain ⟨v3, y3⟩ := V3.out
          obtain ⟨v4, y4⟩ := V4.out
          clear hS0 hd hmlen hp hu hz hzn hun hjN hfr hcell hbc hS1 hnx hb1 hb2 hb3 S V1 V2 V3 V4 hq hr ht hqb oA
          go_wp2_with fail
          go_region
          go_wp2_with fail
          go_roundw
          case rel => exact ⟨q + 1, hq1, by go_num, HS1.out.drewN 1⟩
          case measure => simp [intOf]; omega
        · obtain rfl : q = nn := by omega
          have hend := fillK_all m l q j hn (by have := HS.out.2.2.2.1; have := HS.out.2.2.2.2.2.2.2.2.2; omega)
          go_wp2_with fail
          go_roundw
          case rel =>
            refine ⟨j + 1, put4 m j (pxN q l j), hlt, by go_num, ?_, ?_⟩
            · rw [← hend]; exact S
            · have hd := HS.out.2.1
              rw [show K - j = (K - (j + 1)) + 1 by omega, rowF, Nat.zero_add] at hd
              exact hd
          case measure => simp [intOf]; omega
    · obtain rfl : j = K := by omega
      rw [Nat.sub_self] at hd
      have hd : m = R := hd
      subst hd
      have m0 := S.mat.cell 0
      have m1 := S.mat.cell 1
      have m2 := S.mat.cell 2
      simp only [List.getElem?_toArray, List.getElem?_cons_zero, List.getElem?_cons_succ] at m0 m1 m2
      have hres := S.res
      have HS := hide S
      clear S hlt
      go_wp2_with (refine list_store_row' rfl 31 (.tmp 8) (.tmp 75) rfl w.heap.size #[.int .i64 (x : Int), .int .i64 (y : Int), .slice A1 (4 * j) c1] rfl rfl 31 _ hres (by kernel_rfl) rfl (mat_one _ _ _ _ _) ?_; intro w4 hT4 hO4)
      have S := HS.out
      refine bodyPost_ret (results_row_two Try.results16 _ _ w.heap.size 31 _ _ rfl hT4 Try.underlying31 rfl (by kernel_rfl)) rfl ⟨_, rfl, ⟨A1, c1, by rw [S.mlen]; rfl, ?_⟩, S.only.trans hO4 (by intro i hi hlt; simp at hi; omega)⟩
      rw [S.mlen]
      refine own_mono (own_keep S.own hO4 ?_) (by omega)
      intro b hb hm
      cases A1 with
      | none => cases hb
      | some ad =>
        have := (own_block S.own ad rfl).1
        have hb' : ad.block = b := by injection hb
        simp at hm
        omega
end Go.Proofs.Ytngaabnmhcncmaa
