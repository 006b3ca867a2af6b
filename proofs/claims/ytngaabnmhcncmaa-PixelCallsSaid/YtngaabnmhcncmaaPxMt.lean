/-
  Matrices in boxes; what a fitted matrix is, pixel by pixel.
-/
import Derived.Test.YtngaabnmhcncmaaPxFt
namespace Go.Proofs.Ytngaabnmhcncmaa
open Go Go.RowKit

/-- A matrix that lies in a box, its bytes in a row. -/
structure Mt (w : World) (g : Nat) (t : TypeId) (W H : Int) (A : Option Addr) (n c : Nat) (l : List UInt8) : Prop where
  box : Has w g t #[.int .i64 W, .int .i64 H, .slice A n c]
  row : Holds w 1 A n (bvals l)
theorem Mt.only {w w' : World} {g : Nat} {t : TypeId} {W H : Int} {A : Option Addr} {n c : Nat} {l : List UInt8} (h : Mt w g t W H A n c l) (ho : Only [] w w') : Mt w' g t W H A n c l :=
  ⟨h.box.only ho (by simp), h.row.keep ho (by simp)⟩
theorem Mt.cells {w : World} {g : Nat} {t : TypeId} {W H : Int} {A : Option Addr} {n c : Nat} {l : List UInt8} (h : Mt w g t W H A n c l) :
    w.cell? ⟨g, 0, none⟩ = some (.int .i64 W) ∧ w.cell? ⟨g, 1, none⟩ = some (.int .i64 H) ∧ w.cell? ⟨g, 2, none⟩ = some (.slice A n c) := ⟨h.box.cell 0, h.box.cell 1, h.box.cell 2⟩
theorem Mt.new {w : World} {t : TypeId} {W H : Int} {A : Option Addr} {n c : Nat} {l : List UInt8} (h : Holds w 1 A n (bvals l)) : Mt (w.alloc (.cells #[.int .i64 W, .int .i64 H, .slice A n c] t)) w.heap.size t W H A n c l :=
  ⟨Has.new w _ _, h.keep ((Only.refl [] w).alloc _) (by simp)⟩
theorem sameB_self (W H : Int) (l : List UInt8) : sameB W H W H l l = true := by simp [sameB]
/-- An own matrix opened. -/
theorem own_mat {w : World} {B : Nat} {W H : Int} {v : Value} {l : List UInt8} (h : Own w B W H v l) : ∃ A c, v = .agg #[.int .i64 W, .int .i64 H, .slice A l.length c] ∧ Holds w 1 A l.length (bvals l) ∧ l.length ≤ c ∧ (A = none → c = 0 ∧ l.length = 0) := by
  obtain ⟨A, c, rfl, ho⟩ := h
  exact ⟨A, c, rfl, Holds.of_own ho, (own_cap ho).1, own_none ho⟩

theorem okM.nat {W H n : Nat} (h : okM W H n) : n = 4 * (W * H) := h.2
theorem fitL_length (W H p q : Nat) (l : List UInt8) : (fitL W H p q l).length = 4 * (p * q) := by unfold fitL; rw [rowsF_length, List.length_replicate]
theorem fitL_get (W H p q : Nat) (l : List UInt8) (i : Nat) (hi : i < 4 * (p * q)) : (fitL W H p q l).getD i 0 = (at4 l (i / 4 / p * H / q * W + i / 4 % p * W / p)).at (i % 4) := by
  have hp : 0 < p := Nat.pos_of_ne_zero fun h => by subst h; simp at hi
  have h1 : i / 4 / p < q := Nat.div_lt_of_lt_mul (by omega)
  have h2 := Nat.mod_lt (i / 4) hp
  unfold fitL
  rw [rowsF_get _ _ _ _ _ _ _ (by omega) (by rw [List.length_replicate, Nat.zero_add, Nat.mul_comm q p]; exact Nat.le_refl _), if_pos ⟨⟨Nat.zero_le _, by omega⟩, Nat.zero_le _, by omega⟩]
  rfl
theorem fitL_at4 (W H p q : Nat) (l : List UInt8) (X Y : Nat) (hX : X < p) (hY : Y < q) : at4 (fitL W H p q l) (Y * p + X) = at4 l (Y * H / q * W + X * W / p) := by
  have hfit : 4 * (Y * p + X) + 4 ≤ 4 * (p * q) := by
    have h1 : (Y + 1) * p ≤ q * p := Nat.mul_le_mul_right _ hY
    rw [Nat.succ_mul, Nat.mul_comm q p] at h1
    omega
  obtain ⟨e1, e2⟩ := place p Y X hX
  have hk : ∀ k, k < 4 → (fitL W H p q l).getD (4 * (Y * p + X) + k) 0 = (at4 l (Y * H / q * W + X * W / p)).at k := fun k hk => by
    rw [fitL_get _ _ _ _ _ _ (by omega), show (4 * (Y * p + X) + k) / 4 = Y * p + X by omega, show (4 * (Y * p + X) + k) % 4 = k by omega, e1, e2]
  show Px.mk _ _ _ _ = _
  have h0 := hk 0 (by omega)
  rw [Nat.add_zero] at h0
  rw [h0, hk 1 (by omega), hk 2 (by omega), hk 3 (by omega)]
  rfl
theorem div_same (y q : Nat) (hq : 0 < q) : y * q / q = y := Nat.mul_div_cancel y hq
/-- Fitted to its own size: itself. -/
theorem fit_self (W H : Nat) (l : List UInt8) (h : l.length = 4 * (W * H)) : fitL W H W H l = l := by
  refine ext_getD (by rw [fitL_length, h]) fun i hi => ?_
  rw [fitL_length] at hi
  have hW : 0 < W := Nat.pos_of_ne_zero fun h => by subst h; simp at hi
  have hH : 0 < H := Nat.pos_of_ne_zero fun h => by subst h; simp at hi
  rw [fitL_get _ _ _ _ _ _ hi, div_same _ _ hH, div_same _ _ hW, ← place_of, at4_at]
/-- To twice its size, and back. -/
theorem fit_twice (W H : Nat) (l : List UInt8) (h : l.length = 4 * (W * H)) : fitL (2 * W) (2 * H) W H (fitL W H (2 * W) (2 * H) l) = l := by
  refine ext_getD (by rw [fitL_length, h]) fun i hi => ?_
  rw [fitL_length] at hi
  have hW : 0 < W := Nat.pos_of_ne_zero fun h => by subst h; simp at hi
  have hH : 0 < H := Nat.pos_of_ne_zero fun h => by subst h; simp at hi
  have hy : i / 4 / W < H := Nat.div_lt_of_lt_mul (by omega)
  have hx := Nat.mod_lt (i / 4) hW
  have e1 : ∀ y z : Nat, 0 < z → y * (2 * z) / z = 2 * y := fun y z hz => by rw [Nat.mul_left_comm, ← Nat.mul_assoc]; exact Nat.mul_div_cancel _ hz
  have e2 : ∀ y z : Nat, 0 < z → 2 * y * z / (2 * z) = y := fun y z hz => by rw [Nat.mul_assoc, Nat.mul_div_mul_left _ _ (by omega)]; exact Nat.mul_div_cancel _ hz
  rw [fitL_get _ _ _ _ _ _ hi, e1 _ _ hH, e1 _ _ hW, fitL_at4 _ _ _ _ _ _ _ (by omega) (by omega), e2 _ _ hH, e2 _ _ hW, ← place_of, at4_at]
theorem fitB_self {W H n : Nat} (h : okM W H n) : fitB W W H = true := by
  unfold fitB
  have h1 := h.right
  unfold rightB at h1
  rw [Bool.and_eq_true] at h1
  rw [h1.1, Bool.true_and]
  rw [beq_iff_eq, decide_eq_decide]
  omega
theorem fitB_back {W H n : Nat} (h : okM W H n) : fitB (2 * W) W H = true := by
  unfold fitB
  have h1 := h.right
  unfold rightB at h1
  rw [Bool.and_eq_true] at h1
  rw [h1.1, Bool.true_and]
  rw [beq_iff_eq, decide_eq_decide]
  omega
theorem fitB_twice {W H n : Nat} (h : okM W H n) (hn : n ≤ 4096) : fitB W ((2 * W : Nat) : Int) ((2 * H : Nat) : Int) = decide (2 * W ≤ 16384 ∧ 2 * H ≤ 16384) ∧ (2 * W ≤ 16384 ∧ 2 * H ≤ 16384 → okM (2 * W) (2 * H) (4 * n)) := by
  have h2 : (2 * W) * (2 * H) = n := by rw [h.2]; rw [Nat.mul_assoc, Nat.mul_left_comm W 2 H]; omega
  have hI : ((2 * W : Nat) : Int) * ((2 * H : Nat) : Int) = (n : Int) := by rw [← h2]; exact (Int.natCast_mul _ _).symm
  have hc := h.1
  constructor
  · unfold fitB mayI
    rw [hI]
    have e : (decide (W = 0) == decide (((2 * W : Nat) : Int) = 0)) = true := by rw [beq_iff_eq, decide_eq_decide]; omega
    rw [e, Bool.and_true, decide_eq_decide]
    omega
  · intro hh
    refine ⟨?_, by rw [h2]⟩
    rw [h2]
    omega
end Go.Proofs.Ytngaabnmhcncmaa
