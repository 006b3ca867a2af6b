/-
  The document's matrices: parts of sides, whether a pixel is there, a twin, a pixel put, a pixel told.
-/
import Derived.Test.YtngaabnmhcncmaaPxR
import Derived.Test.YtngaabnmhcncmaaLater
namespace Go.Proofs.Ytngaabnmhcncmaa
open Go Go.RowKit

set_option maxRecDepth 100000 in
set_option maxHeartbeats 4000000 in
theorem tSpan_any (t n : Int) (most : Nat) (w : World) (ht : -9223372036854775808 ≤ t ∧ t ≤ 9223372036854775807) (hn : -9223372036854775808 ≤ n ∧ n ≤ 9223372036854775807) (hm : most ≤ 1000000000) :
    Calls Try.prog 55 #[.int .i64 t, .int .i64 n, .int .i64 (most : Int)] w fun e w' => e = .returned (.tuple #[.int .i64 (spL t n most : Nat), .int .i64 (spR t n most : Nat)]) ∧ w' = w := by
  have hL : spL t n most = if n < 1 ∨ (most : Int) ≤ t ∨ t ≤ -(min n 1048576) then 0 else (max t 0).toNat := rfl
  have hR : spR t n most = if n < 1 ∨ (most : Int) ≤ t ∨ t ≤ -(min n 1048576) then 0 else (min (t + min n 1048576) (most : Int)).toNat := rfl
  generalize spL t n most = l at *
  generalize spR t n most = r at *
  by_cases h1 : n < 1
  · rw [if_pos (by omega)] at hL hR
    subst hL; subst hR
    go_enter Try.func55, Try.ntmps55
    go_wp2_with fail
    go_ret2
    exact ⟨rfl, rfl⟩
  by_cases h2 : (most : Int) ≤ t
  · rw [if_pos (by omega)] at hL hR
    subst hL; subst hR
    go_enter Try.func55, Try.ntmps55
    go_wp2_with fail
    go_ret2
    exact ⟨rfl, rfl⟩
  have key : ∀ m : Int, m = min n 1048576 → 1 ≤ m ∧ m ≤ 1048576 := fun m h => by omega
  by_cases h0 : 1048576 < n
  · by_cases h3 : t ≤ -1048576
    · rw [if_pos (by omega)] at hL hR
      subst hL; subst hR
      go_enter Try.func55, Try.ntmps55
      go_wp2_with fail
      go_ret2
      exact ⟨rfl, rfl⟩
    · rw [if_neg (by omega)] at hL hR
      have W1 : wrap64 (t + 1048576) = t + 1048576 := IntWalk.wrap64_in _ ⟨by omega, by omega⟩
      have hL : (l : Int) = if t < 0 then 0 else t := by omega
      have hR : (r : Int) = if (most : Int) < t + 1048576 then (most : Int) else t + 1048576 := by omega
      by_cases h4 : (most : Int) < t + 1048576
      · rw [if_pos h4] at hR
        by_cases h5 : t < 0
        · rw [if_pos h5] at hL
          rw [hL, hR]
          clear hL hR key
          go_enter Try.func55, Try.ntmps55
          go_wp2_with fail
          go_ret2
          exact ⟨rfl, rfl⟩
        · rw [if_neg h5] at hL
          rw [hL, hR]
          clear hL hR key
          go_enter Try.func55, Try.ntmps55
          go_wp2_with fail
          go_ret2
          exact ⟨rfl, rfl⟩
      · rw [if_neg h4] at hR
        by_cases h5 : t < 0
        · rw [if_pos h5] at hL
          rw [hL, hR]
          clear hL hR key
          go_enter Try.func55, Try.ntmps55
          go_wp2_with fail
          go_ret2
          exact ⟨rfl, rfl⟩
        · rw [if_neg h5] at hL
          rw [hL, hR]
          clear hL hR key
          go_enter Try.func55, Try.ntmps55
          go_wp2_with fail
          go_ret2
          exact ⟨rfl, rfl⟩
  · have W0 : wrap64 (-n) = -n := IntWalk.wrap64_in _ ⟨by omega, by omega⟩
    by_cases h3 : t ≤ -n
    · rw [if_pos (by omega)] at hL hR
      subst hL; subst hR
      go_enter Try.func55, Try.ntmps55
      go_wp2_with fail
      go_ret2
      exact ⟨rfl, rfl⟩
    · rw [if_neg (by omega)] at hL hR
      have W1 : wrap64 (t + n) = t + n := IntWalk.wrap64_in _ ⟨by omega, by omega⟩
      have hL : (l : Int) = if t < 0 then 0 else t := by omega
      have hR : (r : Int) = if (most : Int) < t + n then (most : Int) else t + n := by omega
      by_cases h4 : (most : Int) < t + n
      · rw [if_pos h4] at hR
        by_cases h5 : t < 0
        · rw [if_pos h5] at hL
          rw [hL, hR]
          clear hL hR key
          go_enter Try.func55, Try.ntmps55
          go_wp2_with fail
          go_ret2
          exact ⟨rfl, rfl⟩
        · rw [if_neg h5] at hL
          rw [hL, hR]
          clear hL hR key
          go_enter Try.func55, Try.ntmps55
          go_wp2_with fail
          go_ret2
          exact ⟨rfl, rfl⟩
      · rw [if_neg h4] at hR
        by_cases h5 : t < 0
        · rw [if_pos h5] at hL
          rw [hL, hR]
          clear hL hR key
          go_enter Try.func55, Try.ntmps55
          go_wp2_with fail
          go_ret2
          exact ⟨rfl, rfl⟩
        · rw [if_neg h5] at hL
          rw [hL, hR]
          clear hL hR key
          go_enter Try.func55, Try.ntmps55
          go_wp2_with fail
          go_ret2
          exact ⟨rfl, rfl⟩

set_option maxRecDepth 100000 in
set_option maxHeartbeats 4000000 in
theorem tIn_any (W H : Nat) (A : Option Addr) (n c : Nat) (x y : Int) (w : World) :
    Calls Try.prog 50 #[mval W H A n c, .int .i64 x, .int .i64 y] w fun e w' => e = .returned (.bool (isIn W H x y)) ∧ Only [] w w' := by
  show Calls Try.prog 50 #[.agg #[.int .i64 W, .int .i64 H, .slice A n c], .int .i64 x, .int .i64 y] w _
  have hno : ¬ ((0 ≤ x ∧ x < (W : Int)) ∧ (0 ≤ y ∧ y < (H : Int))) → isIn W H x y = false := fun h => decide_eq_false h
  by_cases h1 : 0 ≤ x
  · by_cases h2 : 0 ≤ y
    · by_cases h3 : x < (W : Int)
      · by_cases h4 : y < (H : Int)
        · have hy : isIn W H x y = true := decide_eq_true ⟨⟨h1, h3⟩, h2, h4⟩
          rw [hy]
          clear hy hno
          go_enter Try.func50, Try.ntmps50
          go_wp2_with fail
          go_ret
          exact ⟨rfl, (Only.refl [] w).alloc _⟩
        · rw [hno (by omega)]
          clear hno
          go_enter Try.func50, Try.ntmps50
          go_wp2_with fail
          go_ret
          exact ⟨rfl, (Only.refl [] w).alloc _⟩
      · rw [hno (by omega)]
        clear hno
        go_enter Try.func50, Try.ntmps50
        go_wp2_with fail
        go_ret
        exact ⟨rfl, (Only.refl [] w).alloc _⟩
    · rw [hno (by omega)]
      clear hno
      go_enter Try.func50, Try.ntmps50
      go_wp2_with fail
      go_ret
      exact ⟨rfl, (Only.refl [] w).alloc _⟩
  · rw [hno (by omega)]
    clear hno
    go_enter Try.func50, Try.ntmps50
    go_wp2_with fail
    go_ret
    exact ⟨rfl, (Only.refl [] w).alloc _⟩

/-- A pixel's first k bytes put. -/
def putK (l : List UInt8) (p : Nat) (c : Px) : Nat → List UInt8
  | 0 => l
  | k + 1 => (putK l p c k).set (4 * p + k) (c.at k)
@[simp] theorem putK_length (l : List UInt8) (p : Nat) (c : Px) (k : Nat) : (putK l p c k).length = l.length := by
  induction k with
  | zero => rfl
  | succ k ih => simp [putK, ih]
theorem putK_all (l : List UInt8) (p : Nat) (c : Px) : putK l p c 4 = put4 l p c := rfl

set_option maxRecDepth 100000 in
set_option maxHeartbeats 4000000 in
theorem put_any (W H : Nat) (g n cc B x y : Nat) (l : List UInt8) (c : Px) (w : World) (ho : w.ownsRow B 5 1 (.slice (some ⟨g, 0, none⟩) n cc) n (bvals l)) (hl : l.length = n) (hp : 4 * (y * W + x) + 4 ≤ n) (hn : n ≤ 1000000000) (hx : x ≤ 100000) :
    Calls Try.prog 52 #[mval W H (some ⟨g, 0, none⟩) n cc, .int .i64 (x : Int), .int .i64 (y : Int), c.val] w fun e w' => e = .returned (.tuple #[]) ∧ w'.ownsRow B 5 1 (.slice (some ⟨g, 0, none⟩) n cc) n (bvals (put4 l (y * W + x) c)) ∧ Only [g] w w' := by
  have hglt := (own_block ho _ rfl).2.1
  obtain ⟨w0, hw0⟩ : ∃ w0, w0 = (w.alloc (.cells #[.int .i64 (W : Int), .int .i64 (H : Int), .slice (some ⟨g, 0, none⟩) n cc] 31)).alloc (.cells c.cells 40) := ⟨_, rfl⟩
  have o0 : Only [] w w0 := by rw [hw0]; exact ((Only.refl [] w).alloc _).alloc _
  have hm0 : Has w0 w.heap.size 31 #[.int .i64 (W : Int), .int .i64 (H : Int), .slice (some ⟨g, 0, none⟩) n cc] := by rw [hw0]; exact (Has.new w _ _).alloc _
  have hc0 : Has w0 (w.heap.size + 1) 40 c.cells := by rw [hw0]; exact Has.new' _ _ _ _ (by simp)
  have how0 := own_keep ho o0 (by simp)
  obtain ⟨D, hD⟩ : ∃ D, D = y * W := ⟨_, rfl⟩
  have m1 : (y : Int) * (W : Int) = (D : Int) := by rw [hD]; exact (Int.natCast_mul y W).symm
  rw [← hD] at hp ⊢
  obtain ⟨p, hpp⟩ : ∃ p, p = D + x := ⟨_, rfl⟩
  obtain ⟨f, hf⟩ : ∃ f, f = 4 * p := ⟨_, rfl⟩
  rw [← hpp] at hp ⊢
  have V1 := hide (wr_nat (z := (D : Int)) (n := D) rfl (by omega))
  have V2 := hide (wr_nat (z := (D : Int) + (x : Int)) (n := p) (by omega) (by omega))
  have V3 := hide (wr_nat (z := 4 * (p : Int)) (n := f) (by omega) (by omega))
  have HF := hide (And.intro hf (And.intro hp (And.intro hl (And.intro hn hglt))))
  show Calls Try.prog 52 #[.agg #[.int .i64 W, .int .i64 H, .slice (some ⟨g, 0, none⟩) n cc], .int .i64 (x : Int), .int .i64 (y : Int), .agg c.cells] w _
  have H0 := hide (And.intro o0 (And.intro hm0 (And.intro hc0 how0)))
  obtain ⟨v1, y1⟩ := V1.out
  obtain ⟨v2, y2⟩ := V2.out
  obtain ⟨v3, y3⟩ := V3.out
  clear V1 V2 V3 hf hp hpp hD hl hn hx o0 hm0 hc0 how0 ho hglt
  go_enter Try.func52, Try.ntmps52
  go_wp2_with fail
  rw [← hw0]
  clear hw0
  go_loopw [9] (fun k wr => ∃ q : Nat, q ≤ 4 ∧ k = .int .i64 q ∧ wr.ownsRow B 5 1 (.slice (some ⟨g, 0, none⟩) n cc) n (bvals (putK l p c q)) ∧ Only [g] w0 wr) (fun k _ => 4 - (intOf k).toNat)
  case atStart => exact ⟨0, Nat.zero_le _, rfl, H0.out.2.2.2, Only.refl _ _⟩
  case round =>
    obtain ⟨q, hq, rfl, how, ho⟩ := hrel
    obtain ⟨o0, hm0, hc0, how0⟩ := H0.out
    have hglt := HF.out.2.2.2.2
    by_cases hlt : q < 4
    · obtain ⟨g', hg', _, _, hfr, hcell⟩ := own_open how (by have := HF.out.2.1; omega)
      obtain rfl : g = g' := by injection hg' with h; injection h
      obtain ⟨t, ht⟩ : ∃ t, t = f + q := ⟨_, rfl⟩
      have hh := HF.out
      have V1 := hide (wr_nat (z := (f : Int) + (q : Int)) (n := t) (by omega) (by omega))
      have htn : t < n := by omega
      have htn' : (t : Int) < (n : Int) := by omega
      have m2 : wr.cell? ⟨w.heap.size, 2, none⟩ = some (.slice (some ⟨g, 0, none⟩) n cc) := (hm0.only ho (by simp; omega)).cell 2
      have kc : wr.cell? ⟨w.heap.size + 1, q, none⟩ = some (.int .u8 ((c.at q).toNat : Int)) := ((hc0.only ho (by simp; omega)).cell q).trans (px_cell c q hlt)
      obtain ⟨b4, k2⟩ : ∃ b : Nat, wr.cell? ⟨g, t, none⟩ = some (.int .u8 (b : Int)) := ⟨_, hcell t _ (bvals_get _ t (by rw [putK_length]; omega))⟩
      have f2 := hfr t
      have hset := own_set how t (.int .u8 ((c.at q).toNat : Int))
      have hb : (c.at q).toNat < 256 := (c.at q).toNat_lt
      rw [bvals_set _ _ _ hb, show UInt8.ofNat (c.at q).toNat = c.at q by simp, show (putK l p c q).set t (c.at q) = putK l p c (q + 1) by rw [ht, HF.out.1]; rfl] at hset
      have HS := hide (And.intro hset ho)
      have q4 : (q : Int) < 4 := by omega
      have q0 : (0 : Int) ≤ (q : Int) := by omega
      obtain ⟨v4, y4⟩ := V1.out
      generalize (c.at q).toNat = b at *
      clear hset ho how hfr hcell hh hb V1 ht o0 hm0 hc0 how0 hglt hq
      go_wp2_with fail
      go_region
      go_wp2_with fail
      go_roundw
      case rel => exact ⟨q + 1, hlt, by go_num, HS.out.1, (HS.out.2.setCell (by simp) _).drew⟩
      case measure => simp [intOf]; omega
    · obtain rfl : q = 4 := by omega
      rw [putK_all] at how
      go_wp2_with fail
      go_end0
      exact ⟨rfl, how, (o0.of_nil (T := [g])).trans ho (by simp)⟩

set_option maxRecDepth 100000 in
set_option maxHeartbeats 8000000 in
theorem tAt_any (W H : Nat) (A : Option Addr) (n c : Nat) (l : List UInt8) (x y : Int) (w : World) (hb : Holds w 1 A n (bvals l)) (hl : l.length = n) (hok : okM W H n) :
    Calls Try.prog 23 #[mval W H A n c, .int .i64 x, .int .i64 y] w fun e w' => e = .returned (.tuple #[(atP W H l x y).val, .bool (isIn W H x y)]) ∧ Only [] w w' := by
  have o2 : Only [] w ((w.alloc (.cells #[.int .i64 (W : Int), .int .i64 (H : Int), .slice A n c] 31)).alloc (.cells #[.int .u8 0, .int .u8 0, .int .u8 0, .int .u8 0] 40)) := ((Only.refl [] w).alloc _).alloc _
  have hz : Has ((w.alloc (.cells #[.int .i64 (W : Int), .int .i64 (H : Int), .slice A n c] 31)).alloc (.cells #[.int .u8 0, .int .u8 0, .int .u8 0, .int .u8 0] 40)) (w.heap.size + 1) 40 #[.int .u8 0, .int .u8 0, .int .u8 0, .int .u8 0] := Has.new' _ _ _ _ (by simp)
  have hm : Has ((w.alloc (.cells #[.int .i64 (W : Int), .int .i64 (H : Int), .slice A n c] 31)).alloc (.cells #[.int .u8 0, .int .u8 0, .int .u8 0, .int .u8 0] 40)) w.heap.size 31 #[.int .i64 (W : Int), .int .i64 (H : Int), .slice A n c] := (Has.new w _ _).alloc _
  have hb2 := hb.keep o2 (by simp)
  have HI := hide (fun w => tIn_any W H A n c x y w)
  cases hin : isIn W H x y with
  | false =>
    have e0 : atP W H l x y = px0 := by unfold atP; rw [hin]; rfl
    rw [e0]
    rw [hin] at HI
    clear hin e0 hok hb hl
    show Calls Try.prog 23 #[.agg #[.int .i64 W, .int .i64 H, .slice A n c], .int .i64 x, .int .i64 y] w _
    go_enter Try.func23, Try.ntmps23
    go_wp2_with fail
    refine (HI.out _).mono ?_
    rintro e w1 ⟨rfl, ho1⟩
    have hz1 := hz.only ho1 (by simp)
    have o3 := o2.trans ho1 (S := []) (by simp)
    go_wp2_with (refine list_store_row' rfl 40 (.tmp 6) (.tmp 14) rfl (w.heap.size + 1) px0.cells rfl rfl 40 _ hz1 (by kernel_rfl) rfl (px_one px0) ?_; intro w3 hT3 hO3)
    exact bodyPost_ret (results_row_two Try.results23 _ _ (w.heap.size + 1) 40 _ _ rfl hT3 Try.underlying40 rfl (by kernel_rfl)) rfl ⟨rfl, o3.trans hO3 (by intro i hi hlt; simp at hi; omega)⟩
  | true =>
    obtain ⟨a, b, rfl, rfl, ha, hb'⟩ := isIn_of hin
    have e0 : atP W H l a b = at4 l (b * W + a) := by unfold atP; rw [if_pos hin]; rfl
    rw [e0]
    rw [hin] at HI
    have hfit := hok.fit ha hb'
    have hle := hok.le
    obtain ⟨D, hD⟩ : ∃ D, D = b * W := ⟨_, rfl⟩
    have m1 : (b : Int) * (W : Int) = (D : Int) := by rw [hD]; exact (Int.natCast_mul b W).symm
    rw [← hD] at hfit ⊢
    obtain ⟨p, hpp⟩ : ∃ p, p = D + a := ⟨_, rfl⟩
    obtain ⟨f, hf⟩ : ∃ f, f = 4 * p := ⟨_, rfl⟩
    rw [← hpp] at hfit ⊢
    have V1 := hide (wr_nat (z := (D : Int)) (n := D) rfl (by omega))
    have V2 := hide (wr_nat (z := (D : Int) + (a : Int)) (n := p) (by omega) (by omega))
    have V3 := hide (wr_nat (z := 4 * (p : Int)) (n := f) (by omega) (by omega))
    obtain ⟨f1, hf1⟩ : ∃ f1, f1 = f + 1 := ⟨_, rfl⟩
    obtain ⟨f2, hf2⟩ : ∃ f2, f2 = f + 2 := ⟨_, rfl⟩
    obtain ⟨f3, hf3⟩ : ∃ f3, f3 = f + 3 := ⟨_, rfl⟩
    have V4 := hide (wr_nat (z := (f : Int) + 1) (n := f1) (by omega) (by omega))
    have V5 := hide (wr_nat (z := (f : Int) + 2) (n := f2) (by omega) (by omega))
    have V6 := hide (wr_nat (z := (f : Int) + 3) (n := f3) (by omega) (by omega))
    have i0 : f < n ∧ f1 < n ∧ f2 < n ∧ f3 < n := by omega
    obtain ⟨i0, i1, i2, i3⟩ := i0
    have j0 : (f : Int) < (n : Int) := by omega
    have j1 : (f1 : Int) < (n : Int) := by omega
    have j2 : (f2 : Int) < (n : Int) := by omega
    have j3 : (f3 : Int) < (n : Int) := by omega
    obtain ⟨bb, oo, rfl, hcell⟩ := hb2.addr (by rw [bvals_length]; omega)
    have c0 := cell_of hcell (i := f) (by omega)
    have c1 := cell_of hcell (i := f1) (by omega)
    have c2 := cell_of hcell (i := f2) (by omega)
    have c3 := cell_of hcell (i := f3) (by omega)
    have hv : (at4 l p).val = .agg #[.int .u8 ((l.getD f 0).toNat : Int), .int .u8 ((l.getD f1 0).toNat : Int), .int .u8 ((l.getD f2 0).toNat : Int), .int .u8 ((l.getD f3 0).toNat : Int)] := by rw [hf3, hf2, hf1, hf]; rfl
    rw [hv]
    generalize (l.getD f 0).toNat = z0 at *
    generalize (l.getD f1 0).toNat = z1 at *
    generalize (l.getD f2 0).toNat = z2 at *
    generalize (l.getD f3 0).toNat = z3 at *
    have H0 := hide (And.intro o2 (And.intro hz hm))
    have hk0 : ∀ w1, Only [] ((w.alloc (.cells #[.int .i64 (W : Int), .int .i64 (H : Int), .slice (some ⟨bb, oo, none⟩) n c] 31)).alloc (.cells #[.int .u8 0, .int .u8 0, .int .u8 0, .int .u8 0] 40)) w1 → w1.cell? ⟨bb, oo + f, none⟩ = some (.int .u8 (z0 : Int)) ∧ w1.cell? ⟨bb, oo + f1, none⟩ = some (.int .u8 (z1 : Int)) ∧ w1.cell? ⟨bb, oo + f2, none⟩ = some (.int .u8 (z2 : Int)) ∧ w1.cell? ⟨bb, oo + f3, none⟩ = some (.int .u8 (z3 : Int)) := fun w1 ho => by
      have hlt := World.block_lt_of_cell? _ _ c0
      exact ⟨(ho.cell (p := ⟨bb, oo + f, none⟩) hlt (by simp)).trans c0, (ho.cell (p := ⟨bb, oo + f1, none⟩) hlt (by simp)).trans c1, (ho.cell (p := ⟨bb, oo + f2, none⟩) hlt (by simp)).trans c2, (ho.cell (p := ⟨bb, oo + f3, none⟩) hlt (by simp)).trans c3⟩
    have HK := hide hk0
    obtain ⟨v1, y1⟩ := V1.out
    obtain ⟨v2, y2⟩ := V2.out
    obtain ⟨v3, y3⟩ := V3.out
    clear V1 V2 V3 hin e0 hok hb hl hb2 hfit hle hD hpp hf hf1 hf2 hf3 ha hb' hcell hv o2 hz hm c0 c1 c2 c3 hk0
    show Calls Try.prog 23 #[.agg #[.int .i64 W, .int .i64 H, .slice (some ⟨bb, oo, none⟩) n c], .int .i64 a, .int .i64 b] w _
    go_enter Try.func23, Try.ntmps23
    go_wp2_with fail
    refine (HI.out _).mono ?_
    rintro e w1 ⟨rfl, ho1⟩
    obtain ⟨o2, hz, hm⟩ := H0.out
    obtain ⟨k0, k1, k2, k3⟩ := HK.out _ ho1
    have hz1 := hz.only ho1 (by simp)
    have hm1 := hm.only ho1 (by simp)
    have o3 := o2.trans ho1 (S := []) (by simp)
    have a0 : w1.cell? ⟨w.heap.size, 0, none⟩ = some (.int .i64 (W : Int)) := hm1.cell 0
    have a2 : w1.cell? ⟨w.heap.size, 2, none⟩ = some (.slice (some ⟨bb, oo, none⟩) n c) := hm1.cell 2
    have HZ := hide (And.intro hz1 o3)
    have r0 : w1.cell? ⟨w.heap.size + 1, 0, none⟩ = some (.int .u8 0) := hz1.cell 0
    have r1 : w1.cell? ⟨w.heap.size + 1, 1, none⟩ = some (.int .u8 0) := hz1.cell 1
    have r2 : w1.cell? ⟨w.heap.size + 1, 2, none⟩ = some (.int .u8 0) := hz1.cell 2
    have r3 : w1.cell? ⟨w.heap.size + 1, 3, none⟩ = some (.int .u8 0) := hz1.cell 3
    have s0 := hz1.free 0
    have s1 := hz1.free 1
    have s2 := hz1.free 2
    have s3 := hz1.free 3
    clear ho1 hm hz hz1 hm1 o2 o3 HI
    go_wp2_with fail
    obtain ⟨v4, y4⟩ := V4.out
    obtain ⟨v5, y5⟩ := V5.out
    obtain ⟨v6, y6⟩ := V6.out
    clear V4 V5 V6 v1 y1 v2 y2 v3 y3
    go_still_tail 24, (by kernel_rfl)
    change wpList _ _ _ _ _ w1.drew
    obtain ⟨hz1, o3⟩ := HZ.out
    have hz2 := hz1.drew
    have o4 := o3.drew
    go_wp2_with (refine list_store_row' rfl 40 (.tmp 6) (.tmp 45) rfl (w.heap.size + 1) #[.int .u8 (z0 : Int), .int .u8 (z1 : Int), .int .u8 (z2 : Int), .int .u8 (z3 : Int)] rfl rfl 40 _ hz2 (by kernel_rfl) rfl (by simp [Value.oneCell']) ?_; intro w3 hT3 hO3)
    exact bodyPost_ret (results_row_two Try.results23 _ _ (w.heap.size + 1) 40 _ _ rfl hT3 Try.underlying40 rfl (by kernel_rfl)) rfl ⟨rfl, o4.trans hO3 (by intro i hi hlt; simp at hi; omega)⟩
end Go.Proofs.Ytngaabnmhcncmaa
