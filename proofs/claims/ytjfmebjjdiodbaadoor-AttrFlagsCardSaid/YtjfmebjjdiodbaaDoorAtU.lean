/-
  Package attr: the palette's colours, what a colour looks like.
-/
import Derived.Test.YtjfmebjjdiodbaaDoorAtS
namespace Go.Proofs.YtjfmebjjdiodbaaDoor
open Go Go.RowKit

def basicA (n : Int) : C3 :=
  if isB n = false then C3.zero
  else if n < 16 then ⟨basicL.getD (3 * n.toNat) 0, basicL.getD (3 * n.toNat + 1) 0, basicL.getD (3 * n.toNat + 2) 0⟩
  else if n < 232 then ⟨levelL.getD ((n - 16).toNat / 36) 0, levelL.getD ((n - 16).toNat / 6 % 6) 0, levelL.getD ((n - 16).toNat % 6) 0⟩
  else ⟨8 + 10 * (n - 232), 8 + 10 * (n - 232), 8 + 10 * (n - 232)⟩

set_option maxRecDepth 100000 in
set_option maxHeartbeats 1000000 in
theorem basic_any (n : Int) (w : World) (T : Tab w) :
    Calls Tryd.prog 17 #[.int .i64 n] w fun e w' => e = .returned (basicA n).val ∧ Only [] w w' := by
  have HB := hide (isByte_any n)
  have hA : basicA n = if isB n = false then C3.zero
    else if n < 16 then ⟨basicL.getD (3 * n.toNat) 0, basicL.getD (3 * n.toNat + 1) 0, basicL.getD (3 * n.toNat + 2) 0⟩
    else if n < 232 then ⟨levelL.getD ((n - 16).toNat / 36) 0, levelL.getD ((n - 16).toNat / 6 % 6) 0, levelL.getD ((n - 16).toNat % 6) 0⟩
    else ⟨8 + 10 * (n - 232), 8 + 10 * (n - 232), 8 + 10 * (n - 232)⟩ := rfl
  generalize basicA n = R at *
  cases hb : isB n with
  | false =>
    rw [hb] at HB
    rw [if_pos hb] at hA
    clear hb
    subst hA
    go_enter Tryd.func17, Tryd.ntmps17
    go_wp2_with fail
    refine (HB.out _).mono ?_
    rintro e w1 ⟨rfl, rfl⟩
    go_wp2_with fail
    exact bodyPost_ret (results_cell_row Tryd.results17 _ _ w.heap.size 29 _ (0, 0) _ rfl (Has.new w _ _) Tryd.underlying29 rfl (by kernel_rfl)) rfl ⟨rfl, (Only.refl [] w).alloc _⟩
  | true =>
    rw [hb] at HB
    rw [if_neg (by rw [hb]; decide)] at hA
    obtain ⟨k0, k1⟩ := isB_iff.1 hb
    clear hb
    by_cases h16 : n < 16
    · rw [if_pos h16] at hA
      obtain ⟨k, rfl⟩ : ∃ k : Nat, n = k := ⟨n.toNat, by omega⟩
      rw [show ((k : Nat) : Int).toNat = k from rfl] at hA
      have t0 := T.basic (k * 3) (by omega)
      have t1 := T.basic (k * 3 + 1) (by omega)
      have t2 := T.basic (k * 3 + 2) (by omega)
      have l0 := T.lt1
      rw [Nat.mul_comm 3 k] at hA
      generalize basicL.getD (k * 3) 0 = x at *
      generalize basicL.getD (k * 3 + 1) 0 = y at *
      generalize basicL.getD (k * 3 + 2) 0 = z at *
      subst hA
      clear T
      go_enter Tryd.func17, Tryd.ntmps17
      go_wp2_with fail
      refine (HB.out _).mono ?_
      rintro e w1 ⟨rfl, rfl⟩
      go_wp2_with fail
      exact bodyPost_ret (results_cell_row Tryd.results17 _ _ w.heap.size 29 _ (0, 0) _ rfl (Has.new w _ _) Tryd.underlying29 rfl (by kernel_rfl)) rfl ⟨rfl, (Only.refl [] w).alloc _⟩
    rw [if_neg h16] at hA
    by_cases h232 : n < 232
    · rw [if_pos h232] at hA
      obtain ⟨k, rfl⟩ : ∃ k : Nat, n = (k : Int) + 16 := ⟨(n - 16).toNat, by omega⟩
      rw [show ((k : Int) + 16 - 16).toNat = k by omega] at hA
      have t0 := T.level (k / 36) (by omega)
      have t1 := T.level (k / 6 % 6) (by omega)
      have t2 := T.level (k % 6) (by omega)
      have l0 := T.lt2
      have r1 : IntKind.i64.wrap ((k : Int) / 36) = ((k / 36 : Nat) : Int) := by rw [IntKind.wrap_i64]; omega
      have r2 : IntKind.i64.wrap ((k : Int) / 6) = ((k / 6 : Nat) : Int) := by rw [IntKind.wrap_i64]; omega
      have r3 : ((k / 6 : Nat) : Int).tmod 6 = ((k / 6 % 6 : Nat) : Int) := by rw [Int.tmod_eq_emod_of_nonneg (by omega)]; omega
      have r4 : (k : Int).tmod 6 = ((k % 6 : Nat) : Int) := by rw [Int.tmod_eq_emod_of_nonneg (by omega)]; omega
      have b1 : ((k / 36 : Nat) : Int) < 6 := by omega
      have b2 : ((k / 6 % 6 : Nat) : Int) < 6 := by omega
      have b3 : ((k % 6 : Nat) : Int) < 6 := by omega
      have b4 : (k / 36 : Nat) < 6 := by omega
      have b5 : (k / 6 % 6 : Nat) < 6 := by omega
      have b6 : (k % 6 : Nat) < 6 := by omega
      generalize k / 36 = q1 at *
      generalize k / 6 % 6 = q2 at *
      generalize k % 6 = q3 at *
      generalize k / 6 = q4 at *
      generalize levelL.getD q1 0 = x at *
      generalize levelL.getD q2 0 = y at *
      generalize levelL.getD q3 0 = z at *
      subst hA
      clear T
      go_enter Tryd.func17, Tryd.ntmps17
      go_wp2_with fail
      refine (HB.out _).mono ?_
      rintro e w1 ⟨rfl, rfl⟩
      go_wp2_with fail
      have hh := Has.new w 29 #[.int .u8 0, .int .u8 0, .int .u8 0]
      have oo := (Only.refl [] w).alloc (.cells #[.int .u8 0, .int .u8 0, .int .u8 0] 29)
      have e0 := (oo.cell (p := ⟨1, q1, none⟩) l0 (by simp)).trans t0
      have e1 := (oo.cell (p := ⟨1, q2, none⟩) l0 (by simp)).trans t1
      have e2 := (oo.cell (p := ⟨1, q3, none⟩) l0 (by simp)).trans t2
      generalize w.alloc (.cells #[.int .u8 0, .int .u8 0, .int .u8 0] 29) = W at *
      have c0 : W.cell? ⟨w.heap.size, 0, none⟩ = some (.int .u8 0) := hh.cell 0
      have c1 : W.cell? ⟨w.heap.size, 1, none⟩ = some (.int .u8 0) := hh.cell 1
      have c2 : W.cell? ⟨w.heap.size, 2, none⟩ = some (.int .u8 0) := hh.cell 2
      have f0 := hh.free 0
      have f1 := hh.free 1
      have f2 := hh.free 2
      have HH := hide (And.intro hh oo)
      clear hh oo t0 t1 t2
      go_still_tail 14, (by kernel_rfl)
      change wpList _ _ _ _ _ W.drew
      go_wp2_with fail
      exact bodyPost_ret (results_cell_row Tryd.results17 _ _ w.heap.size 29 _ (0, 0) _ rfl (HH.out.1.set3 _ _ _).drew Tryd.underlying29 rfl (by kernel_rfl)) rfl ⟨rfl, (HH.out.2.set3 (by omega) _ _ _).drew⟩
    · rw [if_neg h232] at hA
      subst hA
      clear T
      go_enter Tryd.func17, Tryd.ntmps17
      go_wp2_with fail
      refine (HB.out _).mono ?_
      rintro e w1 ⟨rfl, rfl⟩
      go_wp2_with fail
      exact bodyPost_ret (results_cell_row Tryd.results17 _ _ w.heap.size 29 _ (0, 0) _ rfl (Has.new w _ _) Tryd.underlying29 rfl (by kernel_rfl)) rfl ⟨rfl, (Only.refl [] w).alloc _⟩

def colorA (c : Int) (fore : Bool) : C3 :=
  if rightI c = false then C3.zero else if kindA c = 33554432 then rgbA c else if kindA c = 16777216 then basicA (rgbA c).b else if fore = true then ⟨229, 229, 229⟩ else C3.zero

set_option maxRecDepth 100000 in
set_option maxHeartbeats 1000000 in
theorem color_any (c : Int) (fore : Bool) (hc : I64 c) (w : World) (T : Tab w) :
    Calls Tryd.prog 15 #[.int .i64 c, .bool fore] w fun e w' => e = .returned (colorA c fore).val ∧ Only [] w w' := by
  have HS := hide (split_any c hc)
  have HC := hide (isColor_any c hc)
  have HB := hide (fun w T => basic_any (rgbA c).b w T)
  have hA : colorA c fore = if rightI c = false then C3.zero else if kindA c = 33554432 then rgbA c else if kindA c = 16777216 then basicA (rgbA c).b else if fore = true then ⟨229, 229, 229⟩ else C3.zero := rfl
  have hx : ∀ x, IntKind.i64.wrap x = x → True := fun _ _ => trivial
  have hb : 0 ≤ (rgbA c).b ∧ (rgbA c).b ≤ 255 := by show 0 ≤ c % 256 ∧ c % 256 ≤ 255; omega
  generalize basicA (rgbA c).b = P at *
  generalize colorA c fore = R at *
  generalize kindA c = k at *
  generalize rgbA c = x at *
  generalize rightI c = v at *
  obtain ⟨r, g, b⟩ := x
  obtain ⟨pr, pg, pb⟩ := P
  obtain ⟨hb0, hb1⟩ := hb
  have hb0 : 0 ≤ b := hb0
  have hb1 : b ≤ 255 := hb1
  unfold C3.val C3.cells at HS
  unfold C3.val C3.cells at HB
  have HT := hide T
  clear hc T hx
  have hz := fun w1 => Has.new w1 29 #[.int .u8 0, .int .u8 0, .int .u8 0]
  have oz := fun w1 : World => (Only.refl [] w1).alloc (.cells #[.int .u8 0, .int .u8 0, .int .u8 0] 29)
  have hr := fun w1 => Has.new w1 29 #[.int .u8 r, .int .u8 g, .int .u8 b]
  have or := fun w1 : World => (Only.refl [] w1).alloc (.cells #[.int .u8 r, .int .u8 g, .int .u8 b] 29)
  have HZ := hide (And.intro hz (And.intro oz (And.intro hr or)))
  clear hz oz hr or
  cases v with
  | false =>
    rw [if_pos rfl] at hA
    subst hA
    go_enter Tryd.func15, Tryd.ntmps15
    go_wp2_with fail
    have h0 := HZ.out.1 w
    have o0 := HZ.out.2.1 w
    generalize w.alloc (.cells #[.int .u8 0, .int .u8 0, .int .u8 0] 29) = W at *
    have H0 := hide (And.intro h0 o0)
    clear h0 o0
    refine (HS.out _).mono ?_
    rintro e w1 ⟨rfl, ho⟩
    have h1 := H0.out.1.only ho (by simp)
    have o1 := H0.out.2.trans ho (S := []) (by simp)
    clear ho H0
    go_wp2_with fail
    have h2 := h1.only (HZ.out.2.2.2 w1) (by simp)
    have o2 := o1.trans (HZ.out.2.2.2 w1) (S := []) (by simp)
    generalize w1.alloc (.cells #[.int .u8 r, .int .u8 g, .int .u8 b] 29) = W1 at *
    have H2 := hide (And.intro h2 o2)
    clear h1 o1 h2 o2
    refine (HC.out _).mono ?_
    rintro e w2 ⟨rfl, ho⟩
    have h3 := H2.out.1.only ho (by simp)
    have o3 := H2.out.2.trans ho (S := []) (by simp)
    have c0 : w2.cell? ⟨w.heap.size, 0, none⟩ = some (.int .u8 0) := h3.cell 0
    have c1 : w2.cell? ⟨w.heap.size, 1, none⟩ = some (.int .u8 0) := h3.cell 1
    have c2 : w2.cell? ⟨w.heap.size, 2, none⟩ = some (.int .u8 0) := h3.cell 2
    have f0 := h3.free 0
    have f1 := h3.free 1
    have f2 := h3.free 2
    have H3 := hide (And.intro h3 o3)
    clear h3 o3 ho
    go_wp2_with fail
    exact bodyPost_ret (results_cell_row Tryd.results15 _ _ w.heap.size 29 _ (0, 0) _ rfl (H3.out.1.set3 _ _ _) Tryd.underlying29 rfl (by kernel_rfl)) rfl ⟨rfl, H3.out.2.set3 (by omega) _ _ _⟩
  | true =>
    rw [if_neg (by decide)] at hA
    by_cases k1 : k = 33554432
    · rw [if_pos k1] at hA
      subst hA
      subst k1
      go_enter Tryd.func15, Tryd.ntmps15
      go_wp2_with fail
      have h0 := HZ.out.1 w
      have o0 := HZ.out.2.1 w
      generalize w.alloc (.cells #[.int .u8 0, .int .u8 0, .int .u8 0] 29) = W at *
      have H0 := hide (And.intro h0 o0)
      clear h0 o0
      refine (HS.out _).mono ?_
      rintro e w1 ⟨rfl, ho⟩
      have h1 := H0.out.1.only ho (by simp)
      have o1 := H0.out.2.trans ho (S := []) (by simp)
      clear ho H0
      go_wp2_with fail
      have h2 := h1.only (HZ.out.2.2.2 w1) (by simp)
      have o2 := o1.trans (HZ.out.2.2.2 w1) (S := []) (by simp)
      have r2 := HZ.out.2.2.1 w1
      generalize w1.alloc (.cells #[.int .u8 r, .int .u8 g, .int .u8 b] 29) = W1 at *
      have H2 := hide (And.intro h2 (And.intro o2 r2))
      clear h1 o1 h2 o2 r2
      refine (HC.out _).mono ?_
      rintro e w2 ⟨rfl, ho⟩
      have h3 := H2.out.1.only ho (by simp)
      have o3 := H2.out.2.1.trans ho (S := []) (by simp)
      have r3 := H2.out.2.2.only ho (by simp)
      have c0 : w2.cell? ⟨w.heap.size, 0, none⟩ = some (.int .u8 0) := h3.cell 0
      have c1 : w2.cell? ⟨w.heap.size, 1, none⟩ = some (.int .u8 0) := h3.cell 1
      have c2 : w2.cell? ⟨w.heap.size, 2, none⟩ = some (.int .u8 0) := h3.cell 2
      have f0 := h3.free 0
      have f1 := h3.free 1
      have f2 := h3.free 2
      have d0 : w2.cell? ⟨w1.heap.size, 0, none⟩ = some (.int .u8 r) := r3.cell 0
      have d1 : w2.cell? ⟨w1.heap.size, 1, none⟩ = some (.int .u8 g) := r3.cell 1
      have d2 : w2.cell? ⟨w1.heap.size, 2, none⟩ = some (.int .u8 b) := r3.cell 2
      have H3 := hide (And.intro h3 o3)
      clear h3 o3 ho r3
      go_wp2_with fail
      exact bodyPost_ret (results_cell_row Tryd.results15 _ _ w.heap.size 29 _ (0, 0) _ rfl (H3.out.1.set3 _ _ _) Tryd.underlying29 rfl (by kernel_rfl)) rfl ⟨rfl, H3.out.2.set3 (by omega) _ _ _⟩
    · rw [if_neg k1] at hA
      have k1 : (k == 33554432) = false := beq_eq_false_iff_ne.2 k1
      by_cases k2 : k = 16777216
      · rw [if_pos k2] at hA
        subst hA
        subst k2
        go_enter Tryd.func15, Tryd.ntmps15
        go_wp2_with fail
        have h0 := HZ.out.1 w
        have o0 := HZ.out.2.1 w
        generalize w.alloc (.cells #[.int .u8 0, .int .u8 0, .int .u8 0] 29) = W at *
        have H0 := hide (And.intro h0 o0)
        clear h0 o0
        refine (HS.out _).mono ?_
        rintro e w1 ⟨rfl, ho⟩
        have h1 := H0.out.1.only ho (by simp)
        have o1 := H0.out.2.trans ho (S := []) (by simp)
        clear ho H0
        go_wp2_with fail
        have h2 := h1.only (HZ.out.2.2.2 w1) (by simp)
        have o2 := o1.trans (HZ.out.2.2.2 w1) (S := []) (by simp)
        have r2 := HZ.out.2.2.1 w1
        generalize w1.alloc (.cells #[.int .u8 r, .int .u8 g, .int .u8 b] 29) = W1 at *
        have H2 := hide (And.intro h2 (And.intro o2 r2))
        clear h1 o1 h2 o2 r2
        refine (HC.out _).mono ?_
        rintro e w2 ⟨rfl, ho⟩
        have h3 := H2.out.1.only ho (by simp)
        have o3 := H2.out.2.1.trans ho (S := []) (by simp)
        have r3 := H2.out.2.2.only ho (by simp)
        have c0 : w2.cell? ⟨w.heap.size, 0, none⟩ = some (.int .u8 0) := h3.cell 0
        have c1 : w2.cell? ⟨w.heap.size, 1, none⟩ = some (.int .u8 0) := h3.cell 1
        have c2 : w2.cell? ⟨w.heap.size, 2, none⟩ = some (.int .u8 0) := h3.cell 2
        have f0 := h3.free 0
        have f1 := h3.free 1
        have f2 := h3.free 2
        have d2 : w2.cell? ⟨w1.heap.size, 2, none⟩ = some (.int .u8 b) := r3.cell 2
        have t2 := HT.out.only o3 (by simp)
        have H3 := hide (And.intro h3 o3)
        have HP := hide (HB.out w2 t2)
        clear c0 c1 c2 f0 f1 f2 h3 o3 ho r3 t2
        go_wp2_with fail
        refine (HP.out).mono ?_
        rintro e w3 ⟨rfl, ho⟩
        have h4 := H3.out.1.only ho (by simp)
        have o4 := H3.out.2.trans ho (S := []) (by simp)
        have c0 : w3.cell? ⟨w.heap.size, 0, none⟩ = some (.int .u8 0) := h4.cell 0
        have c1 : w3.cell? ⟨w.heap.size, 1, none⟩ = some (.int .u8 0) := h4.cell 1
        have c2 : w3.cell? ⟨w.heap.size, 2, none⟩ = some (.int .u8 0) := h4.cell 2
        have f0 := h4.free 0
        have f1 := h4.free 1
        have f2 := h4.free 2
        have H4 := hide (And.intro h4 o4)
        clear h4 o4 ho
        go_wp2_with fail
        exact bodyPost_ret (results_cell_row Tryd.results15 _ _ w.heap.size 29 _ (0, 0) _ rfl (H4.out.1.set3 _ _ _) Tryd.underlying29 rfl (by kernel_rfl)) rfl ⟨rfl, H4.out.2.set3 (by omega) _ _ _⟩
      · rw [if_neg k2] at hA
        have k2 : (k == 16777216) = false := beq_eq_false_iff_ne.2 k2
        cases fore with
        | true =>
          rw [if_pos rfl] at hA
          subst hA
          go_enter Tryd.func15, Tryd.ntmps15
          go_wp2_with fail
          have h0 := HZ.out.1 w
          have o0 := HZ.out.2.1 w
          generalize w.alloc (.cells #[.int .u8 0, .int .u8 0, .int .u8 0] 29) = W at *
          have H0 := hide (And.intro h0 o0)
          clear h0 o0
          refine (HS.out _).mono ?_
          rintro e w1 ⟨rfl, ho⟩
          have h1 := H0.out.1.only ho (by simp)
          have o1 := H0.out.2.trans ho (S := []) (by simp)
          clear ho H0
          go_wp2_with fail
          have h2 := h1.only (HZ.out.2.2.2 w1) (by simp)
          have o2 := o1.trans (HZ.out.2.2.2 w1) (S := []) (by simp)
          have r2 := HZ.out.2.2.1 w1
          generalize w1.alloc (.cells #[.int .u8 r, .int .u8 g, .int .u8 b] 29) = W1 at *
          have H2 := hide (And.intro h2 (And.intro o2 r2))
          clear h1 o1 h2 o2 r2
          refine (HC.out _).mono ?_
          rintro e w2 ⟨rfl, ho⟩
          have h3 := H2.out.1.only ho (by simp)
          have o3 := H2.out.2.1.trans ho (S := []) (by simp)
          have r3 := H2.out.2.2.only ho (by simp)
          have c0 : w2.cell? ⟨w.heap.size, 0, none⟩ = some (.int .u8 0) := h3.cell 0
          have c1 : w2.cell? ⟨w.heap.size, 1, none⟩ = some (.int .u8 0) := h3.cell 1
          have c2 : w2.cell? ⟨w.heap.size, 2, none⟩ = some (.int .u8 0) := h3.cell 2
          have f0 := h3.free 0
          have f1 := h3.free 1
          have f2 := h3.free 2
          have H3 := hide (And.intro h3 o3)
          clear h3 o3 ho r3
          go_wp2_with fail
          exact bodyPost_ret (results_cell_row Tryd.results15 _ _ w.heap.size 29 _ (0, 0) _ rfl (H3.out.1.set3 _ _ _) Tryd.underlying29 rfl (by kernel_rfl)) rfl ⟨rfl, H3.out.2.set3 (by omega) _ _ _⟩
        | false =>
          rw [if_neg (by decide)] at hA
          subst hA
          go_enter Tryd.func15, Tryd.ntmps15
          go_wp2_with fail
          have h0 := HZ.out.1 w
          have o0 := HZ.out.2.1 w
          generalize w.alloc (.cells #[.int .u8 0, .int .u8 0, .int .u8 0] 29) = W at *
          have H0 := hide (And.intro h0 o0)
          clear h0 o0
          refine (HS.out _).mono ?_
          rintro e w1 ⟨rfl, ho⟩
          have h1 := H0.out.1.only ho (by simp)
          have o1 := H0.out.2.trans ho (S := []) (by simp)
          clear ho H0
          go_wp2_with fail
          have h2 := h1.only (HZ.out.2.2.2 w1) (by simp)
          have o2 := o1.trans (HZ.out.2.2.2 w1) (S := []) (by simp)
          have r2 := HZ.out.2.2.1 w1
          generalize w1.alloc (.cells #[.int .u8 r, .int .u8 g, .int .u8 b] 29) = W1 at *
          have H2 := hide (And.intro h2 (And.intro o2 r2))
          clear h1 o1 h2 o2 r2
          refine (HC.out _).mono ?_
          rintro e w2 ⟨rfl, ho⟩
          have h3 := H2.out.1.only ho (by simp)
          have o3 := H2.out.2.1.trans ho (S := []) (by simp)
          have r3 := H2.out.2.2.only ho (by simp)
          have c0 : w2.cell? ⟨w.heap.size, 0, none⟩ = some (.int .u8 0) := h3.cell 0
          have c1 : w2.cell? ⟨w.heap.size, 1, none⟩ = some (.int .u8 0) := h3.cell 1
          have c2 : w2.cell? ⟨w.heap.size, 2, none⟩ = some (.int .u8 0) := h3.cell 2
          have f0 := h3.free 0
          have f1 := h3.free 1
          have f2 := h3.free 2
          have H3 := hide (And.intro h3 o3)
          clear h3 o3 ho r3
          go_wp2_with fail
          exact bodyPost_ret (results_cell_row Tryd.results15 _ _ w.heap.size 29 _ (0, 0) _ rfl (H3.out.1.set3 _ _ _) Tryd.underlying29 rfl (by kernel_rfl)) rfl ⟨rfl, H3.out.2.set3 (by omega) _ _ _⟩
end Go.Proofs.YtjfmebjjdiodbaaDoor
