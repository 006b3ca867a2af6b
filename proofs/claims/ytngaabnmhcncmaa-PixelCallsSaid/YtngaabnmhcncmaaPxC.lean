/-
  Package pixel: one pixel read, laid.
-/
import Derived.Test.YtngaabnmhcncmaaPxB
import Derived.Test.YtngaabnmhcncmaaPxO
import Derived.BigRegion
namespace Go.Proofs.Ytngaabnmhcncmaa
open Go Go.RowKit

theorem getD_of {l : List UInt8} {i : Nat} (h : i < l.length) : l.getD i 0 = l[i] := by simp [List.getD_eq_getElem?_getD, h]
theorem cell_of {w : World} {l : List UInt8} {b o : Nat} (hc : ∀ j u, (bvals l)[j]? = some u → w.cell? ⟨b, o + j, none⟩ = some u) {i : Nat} (h : i < l.length) : w.cell? ⟨b, o + i, none⟩ = some (.int .u8 ((l.getD i 0).toNat : Int)) := by
  rw [getD_of h]; exact hc i _ (bvals_get l i h)

set_option maxRecDepth 100000 in
set_option maxHeartbeats 4000000 in
theorem first_any (A : Option Addr) (n c : Nat) (l : List UInt8) (w : World) (hb : Holds w 1 A n (bvals l)) (hl : l.length = n) (hn : 4 ≤ n) :
    Calls Try.prog 49 #[.slice A n c] w fun e w' => e = .returned (at4 l 0).val ∧ Only [] w w' := by
  obtain ⟨b, o, rfl, hc⟩ := hb.addr (by simp; omega)
  have hv : (at4 l 0).val = .agg #[.int .u8 ((l.getD 0 0).toNat : Int), .int .u8 ((l.getD 1 0).toNat : Int), .int .u8 ((l.getD 2 0).toNat : Int), .int .u8 ((l.getD 3 0).toNat : Int)] := rfl
  rw [hv]
  have c0 := cell_of hc (i := 0) (by omega)
  have c1 := cell_of hc (i := 1) (by omega)
  have c2 := cell_of hc (i := 2) (by omega)
  have c3 := cell_of hc (i := 3) (by omega)
  rw [Nat.add_zero] at c0
  have hblt : b < w.heap.size := hb.blk (by omega) _ rfl
  generalize (l.getD 0 0).toNat = x0 at *
  generalize (l.getD 1 0).toNat = x1 at *
  generalize (l.getD 2 0).toNat = x2 at *
  generalize (l.getD 3 0).toNat = x3 at *
  have o1 : Only [] w (w.alloc (.cells #[.int .u8 0, .int .u8 0, .int .u8 0, .int .u8 0] 41)) := (Only.refl [] w).alloc _
  rw [← o1.cell (p := ⟨b, o, none⟩) hblt (by simp)] at c0
  rw [← o1.cell (p := ⟨b, o + 1, none⟩) hblt (by simp)] at c1
  rw [← o1.cell (p := ⟨b, o + 2, none⟩) hblt (by simp)] at c2
  rw [← o1.cell (p := ⟨b, o + 3, none⟩) hblt (by simp)] at c3
  have hz : Has (w.alloc (.cells #[.int .u8 0, .int .u8 0, .int .u8 0, .int .u8 0] 41)).drew w.heap.size 41 #[.int .u8 0, .int .u8 0, .int .u8 0, .int .u8 0] := (Has.new w _ _).drew
  have hone : (#[Value.int .u8 (x0 : Int), .int .u8 (x1 : Int), .int .u8 (x2 : Int), .int .u8 (x3 : Int)] : Array Value).all (·.oneCell') = true := by simp [Value.oneCell']
  have j0 : 0 < n := by omega
  have j1 : 1 < n := by omega
  have j2 : 2 < n := by omega
  have j3 : 3 < n := by omega
  have i0 : (0 : Int) < (n : Int) := by omega
  have i1 : (1 : Int) < (n : Int) := by omega
  have i2 : (2 : Int) < (n : Int) := by omega
  have i3 : (3 : Int) < (n : Int) := by omega
  clear hc hb hv
  go_enter Try.func49, Try.ntmps49
  go_wp2_with fail
  generalize w.alloc (.cells #[.int .u8 0, .int .u8 0, .int .u8 0, .int .u8 0] 41) = w0 at *
  go_still_tail 13, (by kernel_rfl)
  change wpList _ _ _ _ _ w0.drew
  go_wp2_with (refine list_store_row' rfl 41 (.tmp 2) (.tmp 15) rfl w.heap.size #[.int .u8 (x0 : Int), .int .u8 (x1 : Int), .int .u8 (x2 : Int), .int .u8 (x3 : Int)] rfl rfl 41 _ hz (by kernel_rfl) rfl hone ?_; intro w2 hT2 hO2)
  exact bodyPost_ret (results_cell_row Try.results49 _ _ w.heap.size 41 _ (0, 0) _ rfl hT2 Try.underlying41 rfl (by kernel_rfl)) rfl ⟨rfl, o1.drew.trans hO2 (by intro i hi hlt; simp at hi; omega)⟩

set_option maxRecDepth 100000 in
set_option maxHeartbeats 4000000 in
theorem lay_any (g p n cc k c2 B : Nat) (l : List UInt8) (c : Px) (w : World) (ho : w.ownsRow B 5 1 (.slice (some ⟨g, 0, none⟩) n cc) n (bvals l)) (hl : l.length = n) (hp : 4 * p + 4 ≤ n) (hk : 4 ≤ k) :
    Calls Try.prog 46 #[.slice (some ⟨g, 4 * p, none⟩) k c2, c.val] w fun e w' => e = .returned (.tuple #[]) ∧ w'.ownsRow B 5 1 (.slice (some ⟨g, 0, none⟩) n cc) n (bvals (put4 l p c)) ∧ Only [g] w w' := by
  obtain ⟨g', hg', hgB, hlt, hfr, hcell⟩ := own_open ho (by omega)
  obtain rfl : g = g' := by injection hg' with h; injection h
  show Calls Try.prog 46 #[.slice (some ⟨g, 4 * p, none⟩) k c2, .agg #[.int .u8 (c.r.toNat : Int), .int .u8 (c.g.toNat : Int), .int .u8 (c.b.toNat : Int), .int .u8 (c.a.toNat : Int)]] w _
  have e0 := hcell (4 * p) _ (bvals_get l (4 * p) (by omega))
  have e1 := hcell (4 * p + 1) _ (bvals_get l (4 * p + 1) (by omega))
  have e2 := hcell (4 * p + 2) _ (bvals_get l (4 * p + 2) (by omega))
  have e3 := hcell (4 * p + 3) _ (bvals_get l (4 * p + 3) (by omega))
  generalize (l[4 * p]'(by omega)).toNat = y0 at *
  generalize (l[4 * p + 1]'(by omega)).toNat = y1 at *
  generalize (l[4 * p + 2]'(by omega)).toNat = y2 at *
  generalize (l[4 * p + 3]'(by omega)).toNat = y3 at *
  have o1 : Only [] w (w.alloc (.cells #[.int .u8 (c.r.toNat : Int), .int .u8 (c.g.toNat : Int), .int .u8 (c.b.toNat : Int), .int .u8 (c.a.toNat : Int)] 41)) := (Only.refl [] w).alloc _
  have hc1 : Has (w.alloc (.cells #[.int .u8 (c.r.toNat : Int), .int .u8 (c.g.toNat : Int), .int .u8 (c.b.toNat : Int), .int .u8 (c.a.toNat : Int)] 41)) w.heap.size 41 #[.int .u8 (c.r.toNat : Int), .int .u8 (c.g.toNat : Int), .int .u8 (c.b.toNat : Int), .int .u8 (c.a.toNat : Int)] := Has.new w _ _
  have q0 := hc1.cell 0
  have q1 := hc1.cell 1
  have q2 := hc1.cell 2
  have q3 := hc1.cell 3
  have f0 := (o1.frozen (p := ⟨g, 4 * p, none⟩) hlt (by simp)).trans (hfr _)
  have f1 := (o1.frozen (p := ⟨g, 4 * p + 1, none⟩) hlt (by simp)).trans (hfr _)
  have f2 := (o1.frozen (p := ⟨g, 4 * p + 2, none⟩) hlt (by simp)).trans (hfr _)
  have f3 := (o1.frozen (p := ⟨g, 4 * p + 3, none⟩) hlt (by simp)).trans (hfr _)
  rw [← o1.cell (p := ⟨g, 4 * p, none⟩) hlt (by simp)] at e0
  rw [← o1.cell (p := ⟨g, 4 * p + 1, none⟩) hlt (by simp)] at e1
  rw [← o1.cell (p := ⟨g, 4 * p + 2, none⟩) hlt (by simp)] at e2
  rw [← o1.cell (p := ⟨g, 4 * p + 3, none⟩) hlt (by simp)] at e3
  simp only [List.getElem?_toArray, List.getElem?_cons_zero, List.getElem?_cons_succ] at q0 q1 q2 q3
  have ho1 := own_keep ho o1 (by simp)
  have j0 : 0 < k := by omega
  have j1 : 1 < k := by omega
  have j2 : 2 < k := by omega
  have j3 : 3 < k := by omega
  have hput : bvals (put4 l p c) = ((((bvals l).set (4 * p) (.int .u8 (c.r.toNat : Int))).set (4 * p + 1) (.int .u8 (c.g.toNat : Int))).set (4 * p + 2) (.int .u8 (c.b.toNat : Int))).set (4 * p + 3) (.int .u8 (c.a.toNat : Int)) := by
    unfold put4 bvals
    simp only [List.map_set]
  have HI := hide (And.intro ho1 (And.intro o1 hput))
  clear ho hfr hcell hput ho1 hl hp hc1
  go_enter Try.func46, Try.ntmps46
  go_wp2_with fail
  generalize w.alloc (.cells #[.int .u8 (c.r.toNat : Int), .int .u8 (c.g.toNat : Int), .int .u8 (c.b.toNat : Int), .int .u8 (c.a.toNat : Int)] 41) = w0 at *
  generalize c.r.toNat = z0 at *
  generalize c.g.toNat = z1 at *
  generalize c.b.toNat = z2 at *
  generalize c.a.toNat = z3 at *
  go_region
  go_wp2_with fail
  go_end0
  obtain ⟨h1, h2, h3⟩ := HI.out
  refine ⟨rfl, ?_, ((((h2.of_nil (T := [g])).setCell (by simp) _).setCell (by simp) _).setCell (by simp) _).setCell (by simp) _ |>.drew⟩
  rw [h3]
  exact own_set (own_set (own_set (own_set h1 _ _) _ _) _ _) _ _
end Go.Proofs.Ytngaabnmhcncmaa
