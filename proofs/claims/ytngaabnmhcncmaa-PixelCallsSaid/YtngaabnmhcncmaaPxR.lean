/-
  The document's matrices: sides, whether they are right, the same; what the laws ask of them.
-/
import Derived.Test.YtngaabnmhcncmaaPxK
namespace Go.Proofs.Ytngaabnmhcncmaa
open Go Go.RowKit

set_option maxRecDepth 100000 in
set_option maxHeartbeats 8000000 in
theorem tSize_any (x y : Int) (w : World) : Calls Try.prog 44 #[.int .i64 x, .int .i64 y] w fun e w' => e = .returned (.bool (mayI x y)) ∧ w' = w := by
  by_cases h0 : x = 0 ∧ y = 0
  · obtain ⟨rfl, rfl⟩ := h0
    have hm : mayI 0 0 = true := by decide
    rw [hm]; clear hm
    go_enter Try.func44, Try.ntmps44
    go_wp2_with fail
    go_ret
    exact ⟨rfl, rfl⟩
  have hno : ¬ (1 ≤ x ∧ x ≤ 16384) ∨ ¬ (1 ≤ y ∧ y ≤ 16384) → mayI x y = false := fun h => decide_eq_false (by rintro (h' | h'); exact h0 h'; rcases h with h | h; exact h h'.1; exact h h'.2.1)
  by_cases h1 : 1 ≤ x
  · have hx0 : ¬ x = 0 := by omega
    have hx0b : (x == 0) = false := beq_eq_false_iff_ne.2 hx0
    by_cases h2 : x ≤ 16384
    · by_cases h3 : 1 ≤ y
      · by_cases h4 : y ≤ 16384
        · have hxy : x * y ≤ 16384 * 16384 ∧ 0 ≤ x * y := ⟨Int.mul_le_mul h2 h4 (by omega) (by omega), Int.mul_nonneg (by omega) (by omega)⟩
          have hw : wrap64 (x * y) = x * y := IntWalk.wrap64_in _ ⟨by omega, by omega⟩
          by_cases h5 : x * y ≤ 67108864
          · have hm : mayI x y = true := decide_eq_true (.inr ⟨⟨h1, h2⟩, ⟨h3, h4⟩, h5⟩)
            rw [hm]
            clear hm hno h0
            go_enter Try.func44, Try.ntmps44
            go_wp2_with fail
            go_ret
            exact ⟨rfl, rfl⟩
          · have hm : mayI x y = false := decide_eq_false (by rintro (h' | h'); exact h0 h'; exact h5 h'.2.2)
            rw [hm]
            clear hm hno h0
            go_enter Try.func44, Try.ntmps44
            go_wp2_with fail
            go_ret
            exact ⟨rfl, rfl⟩
        · rw [hno (.inr (fun h => h4 h.2))]
          clear hno h0
          go_enter Try.func44, Try.ntmps44
          go_wp2_with fail
          go_ret
          exact ⟨rfl, rfl⟩
      · rw [hno (.inr (fun h => h3 h.1))]
        clear hno h0
        go_enter Try.func44, Try.ntmps44
        go_wp2_with fail
        go_ret
        exact ⟨rfl, rfl⟩
    · rw [hno (.inl (fun h => h2 h.2))]
      clear hno h0
      go_enter Try.func44, Try.ntmps44
      go_wp2_with fail
      go_ret
      exact ⟨rfl, rfl⟩
  · rw [hno (.inl (fun h => h1 h.1))]
    by_cases hx : x = 0
    · have hyb : (y == 0) = false := beq_eq_false_iff_ne.2 (fun h => h0 ⟨hx, h⟩)
      subst hx
      clear hno h0
      go_enter Try.func44, Try.ntmps44
      go_wp2_with fail
      go_ret
      exact ⟨by simp, rfl⟩
    · have hx0b : (x == 0) = false := beq_eq_false_iff_ne.2 hx
      clear hno h0
      go_enter Try.func44, Try.ntmps44
      go_wp2_with fail
      go_ret
      exact ⟨rfl, rfl⟩

set_option maxRecDepth 100000 in
set_option maxHeartbeats 4000000 in
theorem tRight_any (W H : Int) (A : Option Addr) (n c : Nat) (w : World) :
    Calls Try.prog 20 #[mval W H A n c] w fun e w' => e = .returned (.bool (rightB W H n)) ∧ Only [] w w' := by
  have HM := hide (tSize_any W H)
  have hr : rightB W H n = (mayI W H && decide ((n : Int) = 4 * W * H)) := by
    unfold rightB
    rw [show W * H * 4 = 4 * W * H by rw [Int.mul_comm (W * H) 4, Int.mul_assoc]]
  show Calls Try.prog 20 #[.agg #[.int .i64 W, .int .i64 H, .slice A n c]] w _
  rw [hr]
  clear hr
  cases hm : mayI W H with
  | false =>
    rw [hm] at HM
    clear hm
    go_enter Try.func20, Try.ntmps20
    go_wp2_with fail
    refine (HM.out _).mono ?_
    rintro e w1 ⟨rfl, rfl⟩
    go_wp2_with fail
    go_ret
    exact ⟨rfl, (Only.refl [] w).alloc _⟩
  | true =>
    rw [hm] at HM
    obtain ⟨x, y, rfl, rfl, hxy, hok⟩ := mayI_nat hm
    have hb := hok.1
    obtain ⟨D, hD⟩ : ∃ D, D = 4 * x := ⟨_, rfl⟩
    obtain ⟨E, hE⟩ : ∃ E, E = D * y := ⟨_, rfl⟩
    have hE2 : E = 4 * (x * y) := by rw [hE, hD, Nat.mul_assoc]
    have W1 := hide (wr_nat (z := 4 * (x : Int)) (n := D) (by omega) (by omega))
    have W2 := hide (wr_nat (z := (D : Int) * (y : Int)) (n := E) (by rw [hE]; exact (Int.natCast_mul D y).symm) (by omega))
    have hfin : (4 : Int) * (x : Int) * (y : Int) = (E : Int) := by rw [hE, hD, Int.natCast_mul, Int.natCast_mul]; rfl
    rw [hfin]
    obtain ⟨w1, x1⟩ := W1.out
    obtain ⟨w2, x2⟩ := W2.out
    clear hm hb hok hxy hD hE hE2 W1 W2 hfin
    go_enter Try.func20, Try.ntmps20
    go_wp2_with fail
    refine (HM.out _).mono ?_
    rintro e w1 ⟨rfl, rfl⟩
    go_wp2_with fail
    go_ret
    exact ⟨rfl, (Only.refl [] w).alloc _⟩

set_option maxRecDepth 100000 in
set_option maxHeartbeats 4000000 in
theorem tNew_any (W H : Int) (w : World) :
    Calls Try.prog 14 #[.int .i64 W, .int .i64 H] w fun e w' => ∃ v, e = .returned (.tuple #[v, .int .i64 (newE7 W H : Nat)]) ∧ Own w' w.heap.size (newW W H) (newW H W) v (newL W H) ∧ Only [] w w' := by
  have HM := hide (tSize_any W H)
  have hsym : mayI H W = mayI W H := by unfold mayI; rw [Int.mul_comm]; congr 1; apply propext; constructor <;> (rintro (h | h); exact .inl ⟨h.2, h.1⟩; exact .inr ⟨h.2.1, h.1, h.2.2⟩)
  have hz : Has (w.alloc (.cells #[.int .i64 0, .int .i64 0, .slice none 0 0] 31)) w.heap.size 31 #[.int .i64 0, .int .i64 0, .slice none 0 0] := Has.new w _ _
  have o0 : Only [] w (w.alloc (.cells #[.int .i64 0, .int .i64 0, .slice none 0 0] 31)) := (Only.refl [] w).alloc _
  cases hm : mayI W H with
  | false =>
    have E1 : newW W H = 0 := by unfold newW; rw [hm]; rfl
    have E2 : newW H W = 0 := by unfold newW; rw [hsym, hm]; rfl
    have E3 : newL W H = [] := by unfold newL; rw [hm]; rfl
    have E4 : newE7 W H = 1 := by unfold newE7; rw [hm]; rfl
    rw [E1, E2, E3, E4]
    rw [hm] at HM
    clear E1 E2 E3 E4 hsym hm
    go_enter Try.func14, Try.ntmps14
    go_wp2_with fail
    refine (HM.out _).mono ?_
    rintro e w1 ⟨rfl, rfl⟩
    go_wp2_with (refine list_store_row' rfl 31 (.tmp 4) (.tmp 10) rfl w.heap.size #[.int .i64 0, .int .i64 0, .slice none 0 0] rfl rfl 31 _ hz (by kernel_rfl) rfl (mat_one _ _ _ _ _) ?_; intro w3 hT3 hO3)
    exact bodyPost_ret (results_row_two Try.results14 _ _ w.heap.size 31 _ _ rfl hT3 Try.underlying31 rfl (by kernel_rfl)) rfl ⟨_, rfl, own_zero _ _, o0.trans hO3 (by intro i hi hlt; simp at hi; omega)⟩
  | true =>
    obtain ⟨x, y, rfl, rfl, hxy, hok⟩ := mayI_nat hm
    have E1 : newW x y = x := by unfold newW; rw [hm]; rfl
    have E2 : newW y x = y := by unfold newW; rw [hsym, hm]; rfl
    have E3 : newL x y = List.replicate (4 * (x * y)) 0 := by unfold newL; rw [hm]; rfl
    have E4 : newE7 x y = 0 := by unfold newE7; rw [hm]; rfl
    rw [E1, E2, E3, E4]
    rw [hm] at HM
    have hb := hok.1
    obtain ⟨D, hD⟩ : ∃ D, D = 4 * x := ⟨_, rfl⟩
    obtain ⟨N, hN⟩ : ∃ N, N = 4 * (x * y) := ⟨_, rfl⟩
    have hN2 : N = D * y := by rw [hN, hD, Nat.mul_assoc]
    have W1 := hide (wr_nat (z := 4 * (x : Int)) (n := D) (by omega) (by omega))
    have W2 := hide (wr_nat (z := (D : Int) * (y : Int)) (n := N) (by rw [hN2]; exact (Int.natCast_mul D y).symm) (by omega))
    have hmk : ∀ W : World, (Instr.makeSlice 22 (.int .i64 (N : Int)) (.int .i64 (N : Int))).run Try.prog W = .ok (.slice (some ⟨W.heap.size, 0, none⟩) N N) (W.alloc (.cells (bvals (List.replicate N 0)).toArray 5)) := by
      intro W
      have h := run_make_row' (P := Try.prog) 22 5 (.int .u8 0) 1 Try.underlying22 u8_info rfl .i64 .i64 N (by omega) (by omega) W
      rw [h, zeros_eq]
    rw [← hN]
    have hNb : N ≤ 140737488355328 := by omega
    have hm1 : Has ((w.alloc (.cells #[.int .i64 0, .int .i64 0, .slice none 0 0] 31)).alloc (.cells (bvals (List.replicate N 0)).toArray 5)) w.heap.size 31 #[.int .i64 0, .int .i64 0, .slice none 0 0] := hz.alloc _
    have hown := own_made (w.alloc (.cells #[.int .i64 0, .int .i64 0, .slice none 0 0] 31)) 5 (List.replicate N 0) N (by simp) hNb
    have hs : (w.alloc (.cells #[.int .i64 0, .int .i64 0, .slice none 0 0] 31)).heap.size = w.heap.size + 1 := by simp
    rw [hs] at hown
    have H0 := hide (And.intro hown o0)
    obtain ⟨w1, x1⟩ := W1.out
    obtain ⟨w2, x2⟩ := W2.out
    clear E1 E2 E3 E4 hsym hm hxy hok hb hD hN hN2 W1 W2 hown o0 hNb hs
    go_enter Try.func14, Try.ntmps14
    go_wp2_with fail
    refine (HM.out _).mono ?_
    rintro e w1 ⟨rfl, rfl⟩
    go_wp2_with (refine list_store_row' rfl 31 (.tmp 4) (.tmp 18) rfl w.heap.size #[.int .i64 (x : Int), .int .i64 (y : Int), .slice (some ⟨w.heap.size + 1, 0, none⟩) N N] rfl rfl 31 _ hm1 (by kernel_rfl) rfl (mat_one _ _ _ _ _) ?_; intro w3 hT3 hO3)
    have hlen : (List.replicate N (0 : UInt8)).length = N := by simp
    refine bodyPost_ret (results_row_two Try.results14 _ _ w.heap.size 31 _ _ rfl hT3 Try.underlying31 rfl (by kernel_rfl)) rfl ⟨_, rfl, ⟨some ⟨w.heap.size + 1, 0, none⟩, N, by rw [hlen]; rfl, ?_⟩, (H0.out.2.alloc _).trans hO3 (by intro i hi hlt; simp at hi; omega)⟩
    rw [hlen]
    refine own_mono (own_keep H0.out.1 hO3 ?_) (by omega)
    intro b hb hm
    have : w.heap.size + 1 = b := by injection hb
    simp at hm
    omega

/-! What the laws ask of matrices. -/
set_option maxRecDepth 100000 in
theorem few_any (W H : Int) (A : Option Addr) (n c : Nat) (w : World) : Calls Try.prog 12 #[mval W H A n c] w fun e w' => e = .returned (.bool (decide (n ≤ 16384))) ∧ Only [] w w' := by
  show Calls Try.prog 12 #[.agg #[.int .i64 W, .int .i64 H, .slice A n c]] w _
  by_cases h : n ≤ 16384
  · rw [decide_eq_true h]
    have h' : (n : Int) ≤ 16384 := by omega
    clear h
    go_enter Try.func12, Try.ntmps12
    go_wp2_with fail
    go_ret
    exact ⟨rfl, (Only.refl [] w).alloc _⟩
  · rw [decide_eq_false h]
    have h' : ¬ (n : Int) ≤ 16384 := by omega
    clear h
    go_enter Try.func12, Try.ntmps12
    go_wp2_with fail
    go_ret
    exact ⟨rfl, (Only.refl [] w).alloc _⟩

set_option maxRecDepth 100000 in
theorem of_any (W H : Int) (A : Option Addr) (n c : Nat) (w : World) : Calls Try.prog 21 #[mval W H A n c] w fun e w' => e = .returned (mval W H A n c) ∧ Only [] w w' := by
  show Calls Try.prog 21 #[.agg #[.int .i64 W, .int .i64 H, .slice A n c]] w _
  have o2 : Only [] w ((w.alloc (.cells #[.int .i64 W, .int .i64 H, .slice A n c] 24)).alloc (.cells #[.int .i64 W, .int .i64 H, .slice A n c] 31)) := ((Only.refl [] w).alloc _).alloc _
  have hr : Has ((w.alloc (.cells #[.int .i64 W, .int .i64 H, .slice A n c] 24)).alloc (.cells #[.int .i64 W, .int .i64 H, .slice A n c] 31)) (w.heap.size + 1) 31 #[.int .i64 W, .int .i64 H, .slice A n c] := Has.new' _ _ _ _ (by simp)
  go_enter Try.func21, Try.ntmps21
  go_wp2_with fail
  exact bodyPost_ret (results_cell_row Try.results21 _ _ (w.heap.size + 1) 31 _ (0, 0) _ rfl hr Try.underlying31 rfl (by kernel_rfl)) rfl ⟨rfl, o2⟩

/-- Two matrices are the same. -/
def sameB (W H W' H' : Int) (l l' : List UInt8) : Bool := decide (W = W') && decide (H = H') && (l == l')

set_option maxRecDepth 100000 in
set_option maxHeartbeats 4000000 in
theorem tSame_any (W H W' H' : Int) (A A' : Option Addr) (n n' c c' : Nat) (l l' : List UInt8) (w : World) (hb : Holds w 1 A n (bvals l)) (hb' : Holds w 1 A' n' (bvals l')) :
    Calls Try.prog 35 #[mval W H A n c, mval W' H' A' n' c'] w fun e w' => e = .returned (.bool (sameB W H W' H' l l')) ∧ Only [] w w' := by
  show Calls Try.prog 35 #[.agg #[.int .i64 W, .int .i64 H, .slice A n c], .agg #[.int .i64 W', .int .i64 H', .slice A' n' c']] w _
  have o2 : Only [] w ((w.alloc (.cells #[.int .i64 W, .int .i64 H, .slice A n c] 31)).alloc (.cells #[.int .i64 W', .int .i64 H', .slice A' n' c'] 31)) := ((Only.refl [] w).alloc _).alloc _
  have s1 := str_of (hb.keep o2 (by simp)) c
  have s2 := str_of (hb'.keep o2 (by simp)) c'
  unfold sameB
  clear hb hb'
  by_cases h1 : W = W'
  · by_cases h2 : H = H'
    · rw [decide_eq_true h1, decide_eq_true h2]
      subst h1; subst h2
      go_enter Try.func35, Try.ntmps35
      go_wp2_with fail
      go_ret
      exact ⟨rfl, o2⟩
    · rw [decide_eq_true h1, decide_eq_false h2]
      subst h1
      have h2' : (H == H') = false := beq_eq_false_iff_ne.2 h2
      go_enter Try.func35, Try.ntmps35
      go_wp2_with fail
      go_ret
      exact ⟨rfl, o2⟩
  · rw [decide_eq_false h1]
    have h1' : (W == W') = false := beq_eq_false_iff_ne.2 h1
    go_enter Try.func35, Try.ntmps35
    go_wp2_with fail
    go_ret
    exact ⟨rfl, o2⟩
end Go.Proofs.Ytngaabnmhcncmaa
