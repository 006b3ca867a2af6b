/-
  Plain facts on matrices of pixels: four bytes each, put one behind the other; what comes of a part that is gone through.
-/
namespace Go.Proofs.Ytngaabnmhcncmaa

structure Px where
  r : UInt8
  g : UInt8
  b : UInt8
  a : UInt8

def Px.at (c : Px) (k : Nat) : UInt8 := if k = 0 then c.r else if k = 1 then c.g else if k = 2 then c.b else c.a
def at4 (l : List UInt8) (p : Nat) : Px := ⟨l.getD (4 * p) 0, l.getD (4 * p + 1) 0, l.getD (4 * p + 2) 0, l.getD (4 * p + 3) 0⟩
def put4 (l : List UInt8) (p : Nat) (c : Px) : List UInt8 := (((l.set (4 * p) c.r).set (4 * p + 1) c.g).set (4 * p + 2) c.b).set (4 * p + 3) c.a

@[simp] theorem put4_length (l : List UInt8) (p : Nat) (c : Px) : (put4 l p c).length = l.length := by simp [put4]

theorem getD_set (l : List UInt8) (i j : Nat) (v : UInt8) (h : i < l.length) : (l.set i v).getD j 0 = if i = j then v else l.getD j 0 := by
  simp only [List.getD_eq_getElem?_getD, List.getElem?_set]
  by_cases hij : i = j
  · subst hij; simp [h]
  · simp [hij]

theorem put4_get (l : List UInt8) (p : Nat) (c : Px) (h : 4 * p + 4 ≤ l.length) (q : Nat) : (put4 l p c).getD q 0 = if q / 4 = p then c.at (q % 4) else l.getD q 0 := by
  unfold put4
  rw [getD_set _ _ _ _ (by simp; omega), getD_set _ _ _ _ (by simp; omega), getD_set _ _ _ _ (by simp; omega), getD_set _ _ _ _ (by omega)]
  unfold Px.at
  by_cases hq : q / 4 = p
  · rw [if_pos hq]
    have h4 : q % 4 = 0 ∨ q % 4 = 1 ∨ q % 4 = 2 ∨ q % 4 = 3 := by omega
    rcases h4 with h4 | h4 | h4 | h4
    · rw [if_neg (by omega), if_neg (by omega), if_neg (by omega), if_pos (by omega), if_pos h4]
    · rw [if_neg (by omega), if_neg (by omega), if_pos (by omega), if_neg (by omega), if_pos h4]
    · rw [if_neg (by omega), if_pos (by omega), if_neg (by omega), if_neg (by omega), if_pos h4]
    · rw [if_pos (by omega), if_neg (by omega), if_neg (by omega), if_neg (by omega)]
  · rw [if_neg hq, if_neg (by omega), if_neg (by omega), if_neg (by omega), if_neg (by omega)]

theorem at4_at (l : List UInt8) (q : Nat) : (at4 l (q / 4)).at (q % 4) = l.getD q 0 := by
  unfold Px.at at4
  have h4 : q % 4 = 0 ∨ q % 4 = 1 ∨ q % 4 = 2 ∨ q % 4 = 3 := by omega
  rcases h4 with h4 | h4 | h4 | h4
  · rw [if_pos h4]; show l.getD (4 * (q / 4)) 0 = _; rw [show 4 * (q / 4) = q by omega]
  · rw [if_neg (by omega), if_pos h4]; show l.getD (4 * (q / 4) + 1) 0 = _; rw [show 4 * (q / 4) + 1 = q by omega]
  · rw [if_neg (by omega), if_neg (by omega), if_pos h4]; show l.getD (4 * (q / 4) + 2) 0 = _; rw [show 4 * (q / 4) + 2 = q by omega]
  · rw [if_neg (by omega), if_neg (by omega), if_neg (by omega)]; show l.getD (4 * (q / 4) + 3) 0 = _; rw [show 4 * (q / 4) + 3 = q by omega]

theorem at4_put_ne (l : List UInt8) (p p' : Nat) (c : Px) (h : 4 * p + 4 ≤ l.length) (hn : p' ≠ p) : at4 (put4 l p c) p' = at4 l p' := by
  unfold at4
  rw [put4_get _ _ _ h, put4_get _ _ _ h, put4_get _ _ _ h, put4_get _ _ _ h, if_neg (by omega), if_neg (by omega), if_neg (by omega), if_neg (by omega)]
theorem at4_put (l : List UInt8) (p : Nat) (c : Px) (h : 4 * p + 4 ≤ l.length) : at4 (put4 l p c) p = c := by
  unfold at4
  rw [put4_get _ _ _ h, put4_get _ _ _ h, put4_get _ _ _ h, put4_get _ _ _ h, if_pos (by omega), if_pos (by omega), if_pos (by omega), if_pos (by omega)]
  rw [show 4 * p % 4 = 0 by omega, show (4 * p + 1) % 4 = 1 by omega, show (4 * p + 2) % 4 = 2 by omega, show (4 * p + 3) % 4 = 3 by omega]
  rfl

theorem ext_getD {l m : List UInt8} (hl : l.length = m.length) (h : ∀ q, q < l.length → l.getD q 0 = m.getD q 0) : l = m := by
  apply List.ext_getElem hl
  intro q h1 h2
  have := h q h1
  simpa [List.getD_eq_getElem?_getD, h1, h2] using this

/-- k pixels of one row, from column i on: each becomes what f says of its column and of what it was. -/
def rowF (f : Nat → Px → Px) (base : Nat) : List UInt8 → Nat → Nat → List UInt8
  | l, _, 0 => l
  | l, i, k + 1 => rowF f base (put4 l (base + i) (f i (at4 l (base + i)))) (i + 1) k

/-- n rows, from row j on, columns a to a + k. -/
def rowsF (f : Nat → Nat → Px → Px) (W a k : Nat) : List UInt8 → Nat → Nat → List UInt8
  | l, _, 0 => l
  | l, j, n + 1 => rowsF f W a k (rowF (f j) (j * W) l a k) (j + 1) n

@[simp] theorem rowF_length (f : Nat → Px → Px) (base : Nat) (l : List UInt8) (i k : Nat) : (rowF f base l i k).length = l.length := by
  induction k generalizing l i with
  | zero => rfl
  | succ k ih => rw [rowF, ih, put4_length]
@[simp] theorem rowsF_length (f : Nat → Nat → Px → Px) (W a k : Nat) (l : List UInt8) (j n : Nat) : (rowsF f W a k l j n).length = l.length := by
  induction n generalizing l j with
  | zero => rfl
  | succ n ih => rw [rowsF, ih, rowF_length]

theorem rowF_get (f : Nat → Px → Px) (base : Nat) (l : List UInt8) (i k : Nat) (h : 4 * (base + i + k) ≤ l.length) (q : Nat) :
    (rowF f base l i k).getD q 0 = if base + i ≤ q / 4 ∧ q / 4 < base + i + k then (f (q / 4 - base) (at4 l (q / 4))).at (q % 4) else l.getD q 0 := by
  induction k generalizing l i with
  | zero => rw [if_neg (by omega)]; rfl
  | succ k ih =>
    rw [rowF, ih _ _ (by rw [put4_length]; omega)]
    by_cases h1 : q / 4 = base + i
    · rw [if_neg (by omega), if_pos (by omega), put4_get _ _ _ (by omega), if_pos h1, h1, show base + i - base = i by omega]
    · by_cases h2 : base + i ≤ q / 4 ∧ q / 4 < base + i + (k + 1)
      · rw [if_pos (by omega), if_pos h2, at4_put_ne _ _ _ _ (by omega) h1]
      · rw [if_neg (by omega), if_neg h2, put4_get _ _ _ (by omega), if_neg h1]

theorem rowF_at4 (f : Nat → Px → Px) (base : Nat) (l : List UInt8) (i k : Nat) (h : 4 * (base + i + k) ≤ l.length) (p : Nat) (hn : ¬ (base + i ≤ p ∧ p < base + i + k)) : at4 (rowF f base l i k) p = at4 l p := by
  unfold at4
  rw [rowF_get _ _ _ _ _ h, rowF_get _ _ _ _ _ h, rowF_get _ _ _ _ _ h, rowF_get _ _ _ _ _ h, if_neg (by omega), if_neg (by omega), if_neg (by omega), if_neg (by omega)]

/-- Where a pixel stands. -/
theorem place (W j i : Nat) (hi : i < W) : (j * W + i) / W = j ∧ (j * W + i) % W = i := by
  constructor
  · rw [Nat.mul_comm, Nat.mul_add_div (by omega), Nat.div_eq_of_lt hi]; omega
  · rw [Nat.mul_comm, Nat.mul_add_mod, Nat.mod_eq_of_lt hi]
theorem place_of (W p : Nat) : p = p / W * W + p % W := by rw [Nat.mul_comm]; exact (Nat.div_add_mod p W).symm

theorem in_row (W a k j p : Nat) (hW : a + k ≤ W) : (j * W + a ≤ p ∧ p < j * W + a + k) ↔ (p / W = j ∧ a ≤ p % W ∧ p % W < a + k) := by
  rcases Nat.eq_zero_or_pos W with h0 | h0
  · subst h0; constructor <;> (intro h; omega)
  · constructor
    · rintro ⟨h1, h2⟩
      obtain ⟨e1, e2⟩ := place W j (p - j * W) (by omega)
      rw [show j * W + (p - j * W) = p by omega] at e1 e2
      omega
    · rintro ⟨h1, h2, h3⟩
      have := place_of W p
      rw [h1] at this
      omega

theorem rowsF_get (f : Nat → Nat → Px → Px) (W a k : Nat) (l : List UInt8) (j n : Nat) (hW : a + k ≤ W) (h : 4 * ((j + n) * W) ≤ l.length) (q : Nat) :
    (rowsF f W a k l j n).getD q 0 = if (j ≤ q / 4 / W ∧ q / 4 / W < j + n) ∧ a ≤ q / 4 % W ∧ q / 4 % W < a + k then (f (q / 4 / W) (q / 4 % W) (at4 l (q / 4))).at (q % 4) else l.getD q 0 := by
  induction n generalizing l j with
  | zero => rw [if_neg (by omega)]; rfl
  | succ n ih =>
    have hj : (j + (n + 1)) * W = j * W + W + n * W := by rw [Nat.add_mul, Nat.succ_mul]; omega
    have hj1 : (j + 1 + n) * W = j * W + W + n * W := by rw [Nat.add_mul, Nat.succ_mul]
    have hrow : 4 * (j * W + a + k) ≤ l.length := by omega
    rw [rowsF, ih _ _ (by rw [rowF_length]; omega)]
    have hin := in_row W a k j (q / 4) hW
    by_cases h1 : q / 4 / W = j
    · rw [if_neg (by omega), rowF_get _ _ _ _ _ hrow]
      by_cases h2 : a ≤ q / 4 % W ∧ q / 4 % W < a + k
      · rw [if_pos (hin.2 ⟨h1, h2.1, h2.2⟩), if_pos ⟨⟨by omega, by omega⟩, h2⟩]
        have hp := place_of W (q / 4)
        rw [h1] at hp
        rw [h1, show q / 4 - j * W = q / 4 % W by omega]
      · rw [if_neg (fun h => h2 (hin.1 h).2), if_neg (fun h => h2 h.2)]
    · by_cases h2 : (j ≤ q / 4 / W ∧ q / 4 / W < j + (n + 1)) ∧ a ≤ q / 4 % W ∧ q / 4 % W < a + k
      · rw [if_pos ⟨⟨by omega, by omega⟩, h2.2⟩, if_pos h2, rowF_at4 _ _ _ _ _ hrow _ (fun h => h1 (hin.1 h).1)]
      · rw [if_neg (fun h => h2 ⟨⟨by omega, by omega⟩, h.2⟩), if_neg h2, rowF_get _ _ _ _ _ hrow, if_neg (fun h => h1 (hin.1 h).1)]

theorem rowF_congr {f g : Nat → Px → Px} {base : Nat} {l : List UInt8} {i k : Nat} (h : ∀ x c, i ≤ x → x < i + k → f x c = g x c) : rowF f base l i k = rowF g base l i k := by
  induction k generalizing l i with
  | zero => rfl
  | succ k ih => rw [rowF, rowF, h i _ (Nat.le_refl _) (by omega), ih (fun x c h1 h2 => h x c (by omega) (by omega))]
theorem rowsF_congr {f g : Nat → Nat → Px → Px} {W a k : Nat} {l : List UInt8} {j n : Nat} (h : ∀ y x c, j ≤ y → y < j + n → a ≤ x → x < a + k → f y x c = g y x c) : rowsF f W a k l j n = rowsF g W a k l j n := by
  induction n generalizing l j with
  | zero => rfl
  | succ n ih => rw [rowsF, rowsF, rowF_congr (fun x c h1 h2 => h j x c (Nat.le_refl _) (by omega) h1 h2), ih (fun y x c h1 h2 => h y x c (by omega) (by omega))]
/-- No column: nothing turns. -/
theorem rowsF_none (f : Nat → Nat → Px → Px) (W a : Nat) (l : List UInt8) (j n : Nat) : rowsF f W a 0 l j n = l := by
  induction n generalizing l j with
  | zero => rfl
  | succ n ih => rw [rowsF, ih]; rfl

theorem getD_take (l : List UInt8) (n q : Nat) : (l.take n).getD q 0 = if q < n then l.getD q 0 else 0 := by
  rw [List.getD_eq_getElem?_getD, List.getElem?_take]
  split
  · rw [List.getD_eq_getElem?_getD]
  · rfl
theorem getD_drop (l : List UInt8) (n q : Nat) : (l.drop n).getD q 0 = l.getD (n + q) 0 := by
  rw [List.getD_eq_getElem?_getD, List.getElem?_drop, List.getD_eq_getElem?_getD]
theorem getD_append (l m : List UInt8) (q : Nat) : (l ++ m).getD q 0 = if q < l.length then l.getD q 0 else m.getD (q - l.length) 0 := by
  rw [List.getD_eq_getElem?_getD, List.getElem?_append]
  split
  · rw [List.getD_eq_getElem?_getD]
  · rw [List.getD_eq_getElem?_getD]

/-- k pixels copied at once. -/
theorem copied (l m : List UInt8) (p s k : Nat) (hl : 4 * (p + k) ≤ l.length) (hm : 4 * (s + k) ≤ m.length) :
    l.take (4 * p) ++ (m.drop (4 * s)).take (4 * k) ++ l.drop (4 * (p + k)) = rowF (fun i _ => at4 m (s + i)) p l 0 k := by
  have h1 : (l.take (4 * p)).length = 4 * p := by rw [List.length_take]; omega
  have h2 : ((m.drop (4 * s)).take (4 * k)).length = 4 * k := by rw [List.length_take, List.length_drop]; omega
  apply ext_getD
  · rw [List.length_append, List.length_append, h1, h2, List.length_drop, rowF_length]; omega
  · intro q _
    rw [rowF_get _ _ _ _ _ (by omega), getD_append, getD_append, List.length_append, h1, h2, getD_take, getD_take, getD_drop, getD_drop]
    by_cases c1 : q < 4 * p
    · rw [if_pos (by omega), if_pos c1, if_pos c1, if_neg (by omega)]
    · by_cases c2 : q < 4 * p + 4 * k
      · rw [if_pos c2, if_neg c1, if_pos (by omega), if_pos (by omega)]
        have := at4_at m (4 * s + (q - 4 * p))
        rw [← this, show (4 * s + (q - 4 * p)) / 4 = s + (q / 4 - p) by omega, show (4 * s + (q - 4 * p)) % 4 = q % 4 by omega]
      · rw [if_neg c2, if_neg (by omega), show 4 * (p + k) + (q - (4 * p + 4 * k)) = q by omega]

/-- All bytes, a pixel each, are the bytes themselves. -/
theorem all_at4 (l m : List UInt8) (k : Nat) (hl : l.length = 4 * k) (hm : m.length = 4 * k) : rowF (fun i _ => at4 m i) 0 l 0 k = m := by
  apply ext_getD
  · rw [rowF_length, hl, hm]
  · intro q hq
    rw [rowF_length] at hq
    rw [rowF_get _ _ _ _ _ (by omega), if_pos (by omega), Nat.sub_zero, at4_at]
end Go.Proofs.Ytngaabnmhcncmaa
