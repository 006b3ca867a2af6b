/-
  The document's From.
-/
import Derived.Test.YtngaabnmhcncmaaPxT
namespace Go.Proofs.Ytngaabnmhcncmaa
open Go Go.RowKit

/-- The pixel that nn bytes make. -/
def pxN (nn : Nat) (l : List UInt8) (i : Nat) : Px := ⟨l.getD (nn * i) 0, l.getD (nn * i + 1) 0, l.getD (nn * i + 2) 0, if nn = 4 then l.getD (nn * i + 3) 0 else 255⟩
def fromL (nn : Nat) (l : List UInt8) (k : Nat) : List UInt8 := rowF (fun i _ => pxN nn l i) 0 (List.replicate (4 * k) 0) 0 k
theorem fromL_3 (l : List UInt8) (k : Nat) : fromL 3 l k = rgbL l k := rfl
theorem fromL_4 (l : List UInt8) (k : Nat) (h : l.length = 4 * k) : fromL 4 l k = l := all_at4 _ l k (by simp) h

/-- A pixel's bytes laid one by one, the last one first. -/
def fillK (m l : List UInt8) (nn i : Nat) : Nat → List UInt8
  | 0 => m.set (4 * i + 3) 255
  | q + 1 => (fillK m l nn i q).set (4 * i + q) (l.getD (nn * i + q) 0)
@[simp] theorem fillK_length (m l : List UInt8) (nn i q : Nat) : (fillK m l nn i q).length = m.length := by
  induction q with
  | zero => simp [fillK]
  | succ q ih => simp [fillK, ih]
theorem fillK_all (m l : List UInt8) (nn i : Nat) (hn : nn = 3 ∨ nn = 4) (h : 4 * i + 4 ≤ m.length) : fillK m l nn i nn = put4 m i (pxN nn l i) := by
  apply ext_getD
  · simp
  · intro z _
    rcases hn with rfl | rfl
    · show (((( m.set (4 * i + 3) 255).set (4 * i + 0) _).set (4 * i + 1) _).set (4 * i + 2) _).getD z 0 = ((((m.set (4 * i) _).set (4 * i + 1) _).set (4 * i + 2) _).set (4 * i + 3) _).getD z 0
      rw [getD_set _ _ _ _ (by simp; omega), getD_set _ _ _ _ (by simp; omega), getD_set _ _ _ _ (by simp; omega), getD_set _ _ _ _ (by omega), getD_set _ _ _ _ (by simp; omega), getD_set _ _ _ _ (by simp; omega), getD_set _ _ _ _ (by simp; omega), getD_set _ _ _ _ (by omega)]
      by_cases h3 : 4 * i + 3 = z
      · rw [if_neg (by omega), if_neg (by omega), if_neg (by omega), if_pos h3, if_pos h3]; rfl
      · rw [if_neg h3]
        by_cases h2 : 4 * i + 2 = z
        · rw [if_pos h2, if_neg h3, if_pos h2]; rfl
        · rw [if_neg h2, if_neg h3, if_neg h2]
          rfl
    · show ((((( m.set (4 * i + 3) 255).set (4 * i + 0) _).set (4 * i + 1) _).set (4 * i + 2) _).set (4 * i + 3) _).getD z 0 = ((((m.set (4 * i) _).set (4 * i + 1) _).set (4 * i + 2) _).set (4 * i + 3) _).getD z 0
      rw [getD_set _ _ _ _ (by simp; omega), getD_set _ _ _ _ (by simp; omega), getD_set _ _ _ _ (by simp; omega), getD_set _ _ _ _ (by simp; omega), getD_set _ _ _ _ (by omega), getD_set _ _ _ _ (by simp; omega), getD_set _ _ _ _ (by simp; omega), getD_set _ _ _ _ (by simp; omega), getD_set _ _ _ _ (by omega)]
      by_cases h3 : 4 * i + 3 = z
      · rw [if_pos h3, if_pos h3]; rfl
      · rw [if_neg h3, if_neg h3, if_neg h3]
        rfl

set_option maxRecDepth 100000 in
set_option maxHeartbeats 8000000 in
theorem from_bad (W H : Int) (nn : Nat) (A : Option Addr) (n c : Nat) (w : World) (hn : nn = 3 ∨ nn = 4) (hf : ¬ faultE W H nn n = 0) :
    Calls Try.prog 16 #[.int .i64 W, .int .i64 H, .slice A n c, .int .i64 (nn : Int)] w fun e w' => ∃ v, e = .returned (.tuple #[v, .int .i64 (faultE W H nn n : Nat)]) ∧ Own w' w.heap.size 0 0 v [] ∧ Only [] w w' := by
  have HN := hide (tNew_any W H)
  have hz : Has (w.alloc (.cells #[.int .i64 0, .int .i64 0, .slice none 0 0] 31)) w.heap.size 31 #[.int .i64 0, .int .i64 0, .slice none 0 0] := Has.new w _ _
  have o0 : Only [] w (w.alloc (.cells #[.int .i64 0, .int .i64 0, .slice none 0 0] 31)) := (Only.refl [] w).alloc _
  have hfe : faultE W H nn n = if mayI W H = false then 1 else if (n : Int) < W * H * nn then 2 else if W * H * nn < (n : Int) then 5 else 0 := rfl
  cases hm : mayI W H with
  | false =>
    rw [if_pos hm] at hfe
    rw [hfe]
    have E4 : newE7 W H = 1 := by unfold newE7; rw [hm]; rfl
    rw [E4] at HN
    clear hfe hm E4 hf
    go_enter Try.func16, Try.ntmps16
    go_wp2_with fail
    refine (HN.out _).mono ?_
    rintro e w1 ⟨v, rfl, ⟨A1, c1, rfl, how⟩, ho1⟩
    unfold mval
    have hz1 := (hz.only ho1 (by simp)).alloc (.cells #[.int .i64 (newW W H), .int .i64 (newW H W), .slice A1 (newL W H).length c1] 31)
    have o1 := (o0.trans ho1 (S := []) (by simp)).alloc (.cells #[.int .i64 (newW W H), .int .i64 (newW H W), .slice A1 (newL W H).length c1] 31)
    go_wp2_with (refine list_store_row' rfl 31 (.tmp 8) (.tmp 22) rfl w.heap.size #[.int .i64 0, .int .i64 0, .slice none 0 0] rfl rfl 31 _ hz1 (by kernel_rfl) rfl (mat_one _ _ _ _ _) ?_; intro w3 hT3 hO3)
    exact bodyPost_ret (results_row_two Try.results16 _ _ w.heap.size 31 _ _ rfl hT3 Try.underlying31 rfl (by kernel_rfl)) rfl ⟨_, rfl, own_zero _ _, o1.trans hO3 (by intro i hi hlt; simp at hi; omega)⟩
  | true =>
    rw [if_neg (by simp [hm])] at hfe
    have E4 : newE7 W H = 0 := by unfold newE7; rw [hm]; rfl
    rw [E4] at HN
    obtain ⟨x, y, rfl, rfl, hxy, hok⟩ := mayI_nat hm
    have hxx := hok.1
    obtain ⟨D, hD⟩ : ∃ D, D = nn * x := ⟨_, rfl⟩
    obtain ⟨N, hN⟩ : ∃ N, N = D * y := ⟨_, rfl⟩
    have hN2 : N = nn * (x * y) := by rw [hN, hD, Nat.mul_assoc]
    have eN : (x : Int) * (y : Int) * (nn : Int) = (N : Int) := by rw [hN2, Int.natCast_mul, Int.natCast_mul, Int.mul_comm]
    rw [eN] at hfe
    have hb : D ≤ 4 * 16384 ∧ N ≤ 4 * 67108864 := by
      rcases hn with rfl | rfl <;> omega
    have W1 := hide (wr_nat (z := (nn : Int) * (x : Int)) (n := D) (by rw [hD]; exact (Int.natCast_mul nn x).symm) (by omega))
    have W2 := hide (wr_nat (z := (D : Int) * (y : Int)) (n := N) (by rw [hN]; exact (Int.natCast_mul D y).symm) (by omega))
    clear eN hN2 hN hD hb hxx hok hxy hm E4
    by_cases h1 : (n : Int) < (N : Int)
    · rw [if_pos h1] at hfe
      rw [hfe]
      clear hfe hf
      obtain ⟨w1, x1⟩ := W1.out
      obtain ⟨w2, x2⟩ := W2.out
      clear W1 W2
      go_enter Try.func16, Try.ntmps16
      go_wp2_with fail
      refine (HN.out _).mono ?_
      rintro e w1 ⟨v, rfl, ⟨A1, c1, rfl, how⟩, ho1⟩
      unfold mval
      have hz1 := (hz.only ho1 (by simp)).alloc (.cells #[.int .i64 (newW x y), .int .i64 (newW y x), .slice A1 (newL x y).length c1] 31)
      have o1 := (o0.trans ho1 (S := []) (by simp)).alloc (.cells #[.int .i64 (newW x y), .int .i64 (newW y x), .slice A1 (newL x y).length c1] 31)
      go_wp2_with (refine list_store_row' rfl 31 (.tmp 8) (.tmp 32) rfl w.heap.size #[.int .i64 0, .int .i64 0, .slice none 0 0] rfl rfl 31 _ hz1 (by kernel_rfl) rfl (mat_one _ _ _ _ _) ?_; intro w3 hT3 hO3)
      exact bodyPost_ret (results_row_two Try.results16 _ _ w.heap.size 31 _ _ rfl hT3 Try.underlying31 rfl (by kernel_rfl)) rfl ⟨_, rfl, own_zero _ _, o1.trans hO3 (by intro i hi hlt; simp at hi; omega)⟩
    · rw [if_neg h1] at hfe
      by_cases h2 : (N : Int) < (n : Int)
      · rw [if_pos h2] at hfe
        rw [hfe]
        clear hfe hf
        obtain ⟨w1, x1⟩ := W1.out
        obtain ⟨w2, x2⟩ := W2.out
        clear W1 W2
        go_enter Try.func16, Try.ntmps16
        go_wp2_with fail
        refine (HN.out _).mono ?_
        rintro e w1 ⟨v, rfl, ⟨A1, c1, rfl, how⟩, ho1⟩
        unfold mval
        have hz1 := (hz.only ho1 (by simp)).alloc (.cells #[.int .i64 (newW x y), .int .i64 (newW y x), .slice A1 (newL x y).length c1] 31)
        have o1 := (o0.trans ho1 (S := []) (by simp)).alloc (.cells #[.int .i64 (newW x y), .int .i64 (newW y x), .slice A1 (newL x y).length c1] 31)
        go_wp2_with (refine list_store_row' rfl 31 (.tmp 8) (.tmp 41) rfl w.heap.size #[.int .i64 0, .int .i64 0, .slice none 0 0] rfl rfl 31 _ hz1 (by kernel_rfl) rfl (mat_one _ _ _ _ _) ?_; intro w3 hT3 hO3)
        exact bodyPost_ret (results_row_two Try.results16 _ _ w.heap.size 31 _ _ rfl hT3 Try.underlying31 rfl (by kernel_rfl)) rfl ⟨_, rfl, own_zero _ _, o1.trans hO3 (by intro i hi hlt; simp at hi; omega)⟩
      · rw [if_neg h2] at hfe
        exact absurd hfe hf
end Go.Proofs.Ytngaabnmhcncmaa
