/-
  Plain facts on rows of PNG: what a filter takes a byte for, rows filtered and undone, samples, passes.
-/
namespace Go.Proofs.Ytopjkmobnmaaaaa

def dist (x y : Int) : Int := if x < y then y - x else x - y
/-- The nearest of three bytes to a + b - c. -/
def pae (a b c : UInt8) : UInt8 :=
  if dist b.toNat c.toNat ≤ dist a.toNat c.toNat ∧ dist b.toNat c.toNat ≤ dist ((a.toNat : Int) + b.toNat) (2 * (c.toNat : Int)) then a
  else if dist a.toNat c.toNat ≤ dist ((a.toNat : Int) + b.toNat) (2 * (c.toNat : Int)) then b else c
theorem pae_one (a b c : UInt8) : pae a b c = a ∨ pae a b c = b ∨ pae a b c = c := by
  unfold pae
  split
  · simp
  · split <;> simp
/-- What a filter takes a byte for. -/
def gs (k : Nat) (a b c : UInt8) : UInt8 := if k = 1 then a else if k = 2 then b else if k = 3 then UInt8.ofNat ((a.toNat + b.toNat) / 2) else if k = 4 then pae a b c else 0
/-- The byte s ahead of place i. -/
def lf (l : List UInt8) (i s : Nat) : UInt8 := if s ≤ i then l.getD (i - s) 0 else 0

/-- The first i bytes of a row undone (or done). -/
def fl (un : Bool) (k s : Nat) (u l : List UInt8) : Nat → List UInt8
  | 0 => []
  | i + 1 => fl un k s u l i ++ [if un then l.getD i 0 + gs k (lf (fl un k s u l i) i s) (u.getD i 0) (lf u i s) else l.getD i 0 - gs k (lf l i s) (u.getD i 0) (lf u i s)]

theorem fl_length (un : Bool) (k s : Nat) (u l : List UInt8) : ∀ i, (fl un k s u l i).length = i
  | 0 => rfl
  | i + 1 => by rw [fl, List.length_append, fl_length un k s u l i]; rfl
theorem fl_take (un : Bool) (k s : Nat) (u l : List UInt8) (i : Nat) : ∀ d, (fl un k s u l (i + d)).take i = fl un k s u l i
  | 0 => by rw [Nat.add_zero, List.take_of_length_le (by rw [fl_length]; omega)]
  | d + 1 => by rw [← Nat.add_assoc, fl, List.take_append_of_le_length (by rw [fl_length]; omega), fl_take un k s u l i d]
theorem getD_take (l : List UInt8) (i j : Nat) (h : j < i) : (l.take i).getD j 0 = l.getD j 0 := by
  simp only [List.getD_eq_getElem?_getD, List.getElem?_take, if_pos h]
theorem fl_getD (un : Bool) (k s : Nat) (u l : List UInt8) (i n : Nat) (hi : i < n) : (fl un k s u l n).getD i 0 = (fl un k s u l (i + 1)).getD i 0 := by
  have := fl_take un k s u l (i + 1) (n - (i + 1))
  rw [show i + 1 + (n - (i + 1)) = n by omega] at this
  rw [← this, getD_take _ _ _ (by omega)]
theorem fl_last (un : Bool) (k s : Nat) (u l : List UInt8) (i : Nat) : (fl un k s u l (i + 1)).getD i 0 = if un then l.getD i 0 + gs k (lf (fl un k s u l i) i s) (u.getD i 0) (lf u i s) else l.getD i 0 - gs k (lf l i s) (u.getD i 0) (lf u i s) := by
  rw [fl, List.getD_eq_getElem?_getD, List.getElem?_append_right (by rw [fl_length]; omega), fl_length, Nat.sub_self]
  rfl
theorem lf_take (l : List UInt8) (n i s : Nat) (h : i ≤ n) (hs : 1 ≤ s) : lf (l.take n) i s = lf l i s := by
  unfold lf
  by_cases hsi : s ≤ i
  · rw [if_pos hsi, if_pos hsi, getD_take _ _ _ (by omega)]
  · rw [if_neg hsi, if_neg hsi]
theorem lf_fl (un : Bool) (k s : Nat) (u l : List UInt8) (i n : Nat) (h : i ≤ n) (hs : 1 ≤ s) : lf (fl un k s u l n) i s = lf (fl un k s u l i) i s := by
  have := fl_take un k s u l i (n - i)
  rw [show i + (n - i) = n by omega] at this
  rw [← this, lf_take _ _ _ _ (Nat.le_refl _) hs]

theorem ext_getD8 {l m : List UInt8} (hl : l.length = m.length) (h : ∀ q, q < l.length → l.getD q 0 = m.getD q 0) : l = m := by
  apply List.ext_getElem hl
  intro q h1 h2
  have := h q h1
  simpa [List.getD_eq_getElem?_getD, h1, h2] using this
theorem take_snoc (l : List UInt8) (i : Nat) (h : i < l.length) : l.take (i + 1) = l.take i ++ [l.getD i 0] := by
  rw [List.take_succ_eq_append_getElem h, List.getD_eq_getElem?_getD, List.getElem?_eq_getElem h]
  rfl

/-- A row done, and undone again. -/
theorem undo_do (k s : Nat) (u l : List UInt8) (hs : 1 ≤ s) : ∀ i, i ≤ l.length → fl true k s u (fl false k s u l l.length) i = l.take i
  | 0, _ => rfl
  | i + 1, h => by
    rw [fl, undo_do k s u l hs i (by omega), take_snoc l i (by omega), if_pos rfl, fl_getD _ _ _ _ _ _ _ (by omega), fl_last, lf_take l i i s (Nat.le_refl _) hs]
    rw [if_neg (by simp), UInt8.sub_add_cancel]
theorem do_undo (k s : Nat) (u l : List UInt8) (hs : 1 ≤ s) : ∀ i, i ≤ l.length → fl false k s u (fl true k s u l l.length) i = l.take i
  | 0, _ => rfl
  | i + 1, h => by
    rw [fl, do_undo k s u l hs i (by omega), take_snoc l i (by omega), if_neg (by simp), fl_getD _ _ _ _ _ _ _ (by omega), fl_last, lf_fl true k s u l i l.length (by omega) hs]
    rw [if_pos rfl, UInt8.add_sub_cancel]
theorem flip_flip (un : Bool) (k s : Nat) (u l : List UInt8) (hs : 1 ≤ s) : fl (!un) k s u (fl un k s u l l.length) l.length = l := by
  cases un
  · have := undo_do k s u l hs l.length (Nat.le_refl _); rw [List.take_length] at this; exact this
  · have := do_undo k s u l hs l.length (Nat.le_refl _); rw [List.take_length] at this; exact this

/-- While a row is made: what there is, and zeros behind. -/
def fill (p : List UInt8) (n : Nat) : List UInt8 := p ++ List.replicate (n - p.length) 0
theorem fill_length (p : List UInt8) (n : Nat) (h : p.length ≤ n) : (fill p n).length = n := by unfold fill; simp; omega
theorem fill_nil (n : Nat) : fill [] n = List.replicate n 0 := by simp [fill]
theorem fill_all (p : List UInt8) (n : Nat) (h : p.length = n) : fill p n = p := by simp [fill, h]
theorem fill_set (p : List UInt8) (n : Nat) (b : UInt8) (h : p.length < n) : (fill p n).set p.length b = fill (p ++ [b]) n := by
  unfold fill
  rw [List.set_append, if_neg (by omega), Nat.sub_self, show n - p.length = (n - (p ++ [b]).length) + 1 by simp; omega, List.replicate_succ, List.set_cons_zero]
  simp
theorem lf_fill (p : List UInt8) (n s : Nat) (hs : 1 ≤ s) : lf (fill p n) p.length s = lf p p.length s := by
  unfold lf
  by_cases h : s ≤ p.length
  · rw [if_pos h, if_pos h]
    unfold fill
    simp only [List.getD_eq_getElem?_getD]
    rw [List.getElem?_append_left (by omega)]
  · rw [if_neg h, if_neg h]

/-- What filters say. -/
def fErr (k s : Int) (n m : Nat) : Nat := if (0 ≤ k ∧ k ≤ 4) ∧ (1 ≤ s ∧ s ≤ 8) ∧ (m = 0 ∨ m = n) then 0 else 1

/-! Samples. -/
def isDep (d : Int) : Bool := d == 1 || d == 2 || d == 4 || d == 8 || d == 16
def bitAt (l : List UInt8) (p : Nat) : Nat := (l.getD (p / 8) 0).toNat / 2 ^ (7 - p % 8) % 2
/-- The first k bits of sample i, of d bits each. -/
def smp (l : List UInt8) (d i : Nat) : Nat → Nat
  | 0 => 0
  | k + 1 => 2 * smp l d i k + bitAt l (i * d + k)
theorem smp_succ (l : List UInt8) (d i k : Nat) : smp l d i (k + 1) = 2 * smp l d i k + bitAt l (i * d + k) := rfl
theorem smp_lt (l : List UInt8) (d i : Nat) : ∀ k, smp l d i k < 2 ^ k
  | 0 => by simp [smp]
  | k + 1 => by have := smp_lt l d i k; have : bitAt l (i * d + k) < 2 := Nat.mod_lt _ (by omega); rw [smp, Nat.pow_succ]; omega
theorem two_step (x k : Nat) : 2 * (x / 2 % 2 ^ k) + x % 2 = x % 2 ^ (k + 1) := by
  rw [Nat.pow_succ, Nat.mul_comm (2 ^ k) 2, Nat.mod_mul]; omega
/-- Those within one byte. -/
theorem smp_in (l : List UInt8) (d i : Nat) : ∀ k, i * d % 8 + k ≤ 8 → smp l d i k = (l.getD (i * d / 8) 0).toNat / 2 ^ (8 - i * d % 8 - k) % 2 ^ k
  | 0, _ => by simp [smp, Nat.mod_one]
  | k + 1, h => by
    rw [smp, smp_in l d i k (by omega), ← two_step]
    have e1 : (i * d + k) / 8 = i * d / 8 := by omega
    have e2 : 7 - (i * d + k) % 8 = 8 - i * d % 8 - (k + 1) := by omega
    unfold bitAt
    rw [e1, e2, Nat.div_div_eq_div_mul, ← Nat.pow_succ, Nat.succ_eq_add_one, show 8 - i * d % 8 - (k + 1) + 1 = 8 - i * d % 8 - k by omega]
theorem smp_split (l : List UInt8) (i : Nat) : ∀ k, smp l 16 i (8 + k) = smp l 16 i 8 * 2 ^ k + smp l 8 (2 * i + 1) k
  | 0 => by simp [smp]
  | k + 1 => by
    rw [← Nat.add_assoc, smp_succ l 16 i (8 + k), smp_split l i k, smp_succ l 8 (2 * i + 1) k, show i * 16 + (8 + k) = (2 * i + 1) * 8 + k by omega, Nat.pow_succ]
    generalize smp l 16 i 8 = x
    generalize bitAt l ((2 * i + 1) * 8 + k) = y
    rw [Nat.mul_add, show 2 * (x * 2 ^ k) = x * (2 ^ k * 2) by rw [Nat.mul_comm 2, Nat.mul_assoc], Nat.add_assoc]
theorem smp_8 (l : List UInt8) (i : Nat) : smp l 8 i 8 = (l.getD i 0).toNat := by
  rw [smp_in l 8 i 8 (by omega), show i * 8 / 8 = i by omega, show 8 - i * 8 % 8 - 8 = 0 by omega, Nat.pow_zero, Nat.div_one]
  exact Nat.mod_eq_of_lt (l.getD i 0).toNat_lt
theorem smp_16 (l : List UInt8) (i : Nat) : smp l 16 i 16 = (l.getD (2 * i) 0).toNat * 256 + (l.getD (2 * i + 1) 0).toNat := by
  rw [smp_split l i 8, smp_8, smp_in l 16 i 8 (by omega), show i * 16 / 8 = 2 * i by omega, show 8 - i * 16 % 8 - 8 = 0 by omega, Nat.pow_zero, Nat.div_one, Nat.mod_eq_of_lt (l.getD (2 * i) 0).toNat_lt]
/-- All samples. -/
def smps (l : List UInt8) (d n : Nat) : List Nat := (List.range n).map fun i => smp l d i d
/-- What Samples says. -/
def sErr (d n : Int) (m : Nat) : Nat := if isDep d = true ∧ 0 ≤ n then (if 8 * m / d.toNat < n.toNat then 2 else 0) else 1
/-- How many bytes a row has. -/
def rowI (w s d : Int) : Int := if (1 ≤ w ∧ w ≤ 16384) ∧ (1 ≤ s ∧ s ≤ 4) ∧ isDep d = true then (w * s * d + 7) / 8 else 0

/-! Passes. -/
/-- How many of n columns (rows) there are, from x on, each d-th. -/
def upI (n x d : Int) : Int := if x < n then (n - x - 1) / d + 1 else 0
def sizeOkB (x y dx dy w h : Int) : Bool := decide ((1 ≤ w ∧ w ≤ 16384) ∧ (1 ≤ h ∧ h ≤ 16384) ∧ (1 ≤ dx ∧ 1 ≤ dy) ∧ (0 ≤ x ∧ 0 ≤ y) ∧ x < w ∧ y < h)
def sizeW (x y dx dy w h : Int) : Int := if sizeOkB x y dx dy w h = true then (w - x - 1) / dx + 1 else 0
def sizeH (x y dx dy w h : Int) : Int := if sizeOkB x y dx dy w h = true then (h - y - 1) / dy + 1 else 0

/-- Pass i of Adam7. -/
def adX (i : Nat) : Int := if i = 1 then 4 else if i = 3 then 2 else if i = 5 then 1 else 0
def adY (i : Nat) : Int := if i = 2 then 4 else if i = 4 then 2 else if i = 6 then 1 else 0
def adW (i : Nat) : Int := if i ≤ 1 then 8 else if i ≤ 3 then 4 else if i ≤ 5 then 2 else 1
def adH (i : Nat) : Int := if i ≤ 2 then 8 else if i ≤ 4 then 4 else 2
/-- What is known ahead of pass i + 1: how far apart columns and rows are. -/
def knW (i : Nat) : Int := if i = 0 then 8 else if i ≤ 2 then 4 else if i ≤ 4 then 2 else 1
def knH (i : Nat) : Int := if i ≤ 1 then 8 else if i ≤ 3 then 4 else if i ≤ 5 then 2 else 1

theorem up_sum (n d e : Int) (hn : 0 ≤ n) (h : (e = 8 ∧ d = 4) ∨ (e = 4 ∧ d = 2) ∨ (e = 2 ∧ d = 1)) : upI n 0 e + upI n d e = upI n 0 d := by
  unfold upI
  rcases h with ⟨rfl, rfl⟩ | ⟨rfl, rfl⟩ | ⟨rfl, rfl⟩ <;> (repeat' split) <;> omega
theorem up_one (n : Int) (hn : 0 ≤ n) : upI n 0 1 = n := by unfold upI; split <;> omega
theorem size_mul (x y dx dy w h : Int) (hw : 1 ≤ w ∧ w ≤ 16384) (hh : 1 ≤ h ∧ h ≤ 16384) (hd : 1 ≤ dx ∧ 1 ≤ dy) (hx : 0 ≤ x ∧ 0 ≤ y) : sizeW x y dx dy w h * sizeH x y dx dy w h = upI w x dx * upI h y dy := by
  unfold sizeW sizeH upI
  by_cases h1 : x < w
  · by_cases h2 : y < h
    · have : sizeOkB x y dx dy w h = true := decide_eq_true ⟨hw, hh, hd, hx, h1, h2⟩
      rw [if_pos this, if_pos this, if_pos h1, if_pos h2]
    · have : ¬ sizeOkB x y dx dy w h = true := fun hc => h2 (of_decide_eq_true hc).2.2.2.2.2
      rw [if_neg this, if_neg h2]; simp
  · have : ¬ sizeOkB x y dx dy w h = true := fun hc => h1 (of_decide_eq_true hc).2.2.2.2.1
    rw [if_neg this, if_neg h1]; simp
/-- How many pixels the first i passes have. -/
def adSum (w h : Int) : Nat → Int
  | 0 => 0
  | i + 1 => adSum w h i + sizeW (adX i) (adY i) (adW i) (adH i) w h * sizeH (adX i) (adY i) (adW i) (adH i) w h
theorem ad_in (w h : Int) (hw : 1 ≤ w ∧ w ≤ 16384) (hh : 1 ≤ h ∧ h ≤ 16384) : adSum w h 7 = w * h := by
  have step : ∀ i, i < 7 → sizeW (adX i) (adY i) (adW i) (adH i) w h * sizeH (adX i) (adY i) (adW i) (adH i) w h = upI w (adX i) (adW i) * upI h (adY i) (adH i) := fun i hi =>
    size_mul _ _ _ _ _ _ hw hh (by unfold adW adH; constructor <;> ((repeat' split) <;> omega)) (by unfold adX adY; constructor <;> ((repeat' split) <;> omega))
  simp only [adSum]
  rw [step 0 (by omega), step 1 (by omega), step 2 (by omega), step 3 (by omega), step 4 (by omega), step 5 (by omega), step 6 (by omega)]
  have w8 := up_sum w 4 8 (by omega) (by simp)
  have w4 := up_sum w 2 4 (by omega) (by simp)
  have w2 := up_sum w 1 2 (by omega) (by simp)
  have h8 := up_sum h 4 8 (by omega) (by simp)
  have h4 := up_sum h 2 4 (by omega) (by simp)
  have h2 := up_sum h 1 2 (by omega) (by simp)
  have wz := up_one w (by omega)
  have hz := up_one h (by omega)
  rw [wz] at w2
  rw [hz] at h2
  show 0 + upI w 0 8 * upI h 0 8 + upI w 4 8 * upI h 0 8 + upI w 0 4 * upI h 4 8 + upI w 2 4 * upI h 0 4 + upI w 0 2 * upI h 2 4 + upI w 1 2 * upI h 0 2 + upI w 0 1 * upI h 1 2 = w * h
  rw [Int.zero_add, ← Int.add_mul, w8, ← Int.mul_add, h8, ← Int.add_mul, w4, ← Int.mul_add, h4, ← Int.add_mul, w2, wz, ← Int.mul_add, h2]
theorem ad_out (w h : Int) (hn : ¬ ((1 ≤ w ∧ w ≤ 16384) ∧ (1 ≤ h ∧ h ≤ 16384))) : ∀ i, adSum w h i = 0
  | 0 => rfl
  | i + 1 => by
    have : ¬ sizeOkB (adX i) (adY i) (adW i) (adH i) w h = true := fun hc => hn ⟨(of_decide_eq_true hc).1, (of_decide_eq_true hc).2.1⟩
    rw [adSum, ad_out w h hn i]
    unfold sizeW
    rw [if_neg this]; simp
theorem size_range (x y dx dy w h : Int) : (0 ≤ sizeW x y dx dy w h ∧ sizeW x y dx dy w h ≤ 16384) ∧ (0 ≤ sizeH x y dx dy w h ∧ sizeH x y dx dy w h ≤ 16384) := by
  unfold sizeW sizeH
  by_cases hc : sizeOkB x y dx dy w h = true
  · have h := of_decide_eq_true hc
    rw [if_pos hc, if_pos hc]
    have key : ∀ n x d : Int, 0 ≤ n - x - 1 → n ≤ 16384 → 0 ≤ x → 1 ≤ d → 0 ≤ (n - x - 1) / d + 1 ∧ (n - x - 1) / d + 1 ≤ 16384 := fun n x d h1 h2 h3 h4 => by
      have a1 : 0 ≤ (n - x - 1) / d := Int.ediv_nonneg h1 (by omega)
      have a2 : (n - x - 1) / d ≤ n - x - 1 := Int.ediv_le_self d h1
      generalize (n - x - 1) / d = q at *
      omega
    exact ⟨key _ _ _ (by omega) h.1.2 h.2.2.2.1.1 h.2.2.1.1, key _ _ _ (by omega) h.2.1.2 h.2.2.2.1.2 h.2.2.1.2⟩
  · rw [if_neg hc, if_neg hc]; omega
end Go.Proofs.Ytopjkmobnmaaaaa
