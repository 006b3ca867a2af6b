/-
  Numbers of sums: CRC-32, bit by bit, and Adler-32, as functions of a list of bytes. Nothing of a program in it.
-/
import Derived.Test.YteimhpjhmpdmjaaNum
namespace Go.Proofs.Yteimhpjhmpdmjaa

/-- The polynomial, reflected. -/
def crcP : Nat := 3988292384

/-- One bit of the sum. -/
def crcBit (r : Nat) : Nat := if r % 2 = 1 then (r / 2) ^^^ crcP else r / 2

def crcIt : Nat → Nat → Nat
  | 0, r => r
  | k + 1, r => crcIt k (crcBit r)

/-- One byte of the sum. -/
def crcByte (r b : Nat) : Nat := crcIt 8 (r ^^^ b)

/-- A list of bytes. -/
def crcList (r : Nat) : List UInt8 → Nat
  | [] => r
  | b :: l => crcList (crcByte r b.toNat) l

theorem crcList_append (r : Nat) (l m : List UInt8) : crcList r (l ++ m) = crcList (crcList r l) m := by
  induction l generalizing r with
  | nil => rfl
  | cons b l ih => exact ih _

theorem crcBit_lt {r : Nat} (h : r < 4294967296) : crcBit r < 4294967296 := by
  unfold crcBit
  split
  · exact Nat.xor_lt_two_pow (n := 32) (by omega) (by decide)
  · omega

theorem crcIt_lt (k : Nat) {r : Nat} (h : r < 4294967296) : crcIt k r < 4294967296 := by
  induction k generalizing r with
  | zero => exact h
  | succ k ih => exact ih (crcBit_lt h)

theorem crcByte_lt {r b : Nat} (h : r < 4294967296) (hb : b < 256) : crcByte r b < 4294967296 :=
  crcIt_lt 8 (Nat.xor_lt_two_pow (n := 32) h (by omega))

theorem crcList_lt {r : Nat} (h : r < 4294967296) (l : List UInt8) : crcList r l < 4294967296 := by
  induction l generalizing r with
  | nil => exact h
  | cons b l ih => exact ih (crcByte_lt h b.toNat_lt)

theorem xor_left_comm' (a b c : Nat) : a ^^^ (b ^^^ c) = b ^^^ (a ^^^ c) := by rw [← Nat.xor_assoc, Nat.xor_comm a b, Nat.xor_assoc]
theorem xor_cancel_r {a b c : Nat} (h : a ^^^ c = b ^^^ c) : a = b := by
  have h2 : (a ^^^ c) ^^^ c = (b ^^^ c) ^^^ c := by rw [h]
  rwa [Nat.xor_assoc, Nat.xor_self, Nat.xor_zero, Nat.xor_assoc, Nat.xor_self, Nat.xor_zero] at h2
theorem xor_cancel_l {a b c : Nat} (h : c ^^^ a = c ^^^ b) : a = b := by
  rw [Nat.xor_comm c a, Nat.xor_comm c b] at h; exact xor_cancel_r h

theorem xor_half (x y : Nat) : (x ^^^ y) / 2 = (x / 2) ^^^ (y / 2) := by
  apply Nat.eq_of_testBit_eq
  intro i
  rw [Nat.testBit_xor, Nat.testBit_div_two, Nat.testBit_div_two, Nat.testBit_div_two, Nat.testBit_xor]

theorem xor_par (x y : Nat) : (x ^^^ y) % 2 = (x % 2 + y % 2) % 2 := by
  have h := Nat.testBit_xor x y 0
  simp only [Nat.testBit_zero] at h
  rcases Nat.mod_two_eq_zero_or_one x with hx | hx <;> rcases Nat.mod_two_eq_zero_or_one y with hy | hy <;> rcases Nat.mod_two_eq_zero_or_one (x ^^^ y) with hz | hz <;> simp_all

/-- The sum is linear. -/
theorem crcBit_xor (x y : Nat) : crcBit (x ^^^ y) = crcBit x ^^^ crcBit y := by
  unfold crcBit
  rw [xor_half, xor_par]
  rcases Nat.mod_two_eq_zero_or_one x with hx | hx <;> rcases Nat.mod_two_eq_zero_or_one y with hy | hy <;> rw [hx, hy]
  · simp
  · simp [Nat.xor_assoc]
  · simp; rw [Nat.xor_assoc, Nat.xor_assoc, Nat.xor_comm crcP]
  · simp
    rw [Nat.xor_assoc, xor_left_comm' crcP, Nat.xor_self, Nat.xor_zero]

theorem crcIt_xor (k x y : Nat) : crcIt k (x ^^^ y) = crcIt k x ^^^ crcIt k y := by
  induction k generalizing x y with
  | zero => rfl
  | succ k ih => rw [crcIt, crcBit_xor, ih]; rfl

theorem crcIt_pow (k y : Nat) : crcIt k (2 ^ k * y) = y := by
  induction k with
  | zero => simp [crcIt]
  | succ k ih =>
    rw [crcIt]
    have e : crcBit (2 ^ (k + 1) * y) = 2 ^ k * y := by
      unfold crcBit
      rw [Nat.pow_succ, Nat.mul_comm (2 ^ k) 2, Nat.mul_assoc, if_neg (by omega), Nat.mul_div_cancel_left _ (by omega)]
    rw [e, ih]

theorem split_xor (k x : Nat) : (x % 2 ^ k) ^^^ (2 ^ k * (x / 2 ^ k)) = x := by
  apply Nat.eq_of_testBit_eq
  intro i
  rw [Nat.testBit_xor, Nat.testBit_mod_two_pow, Nat.testBit_two_pow_mul, Nat.testBit_div_two_pow]
  by_cases h : i < k
  · simp [h, Nat.not_le.2 h]
  · simp [h, Nat.le_of_not_lt h, Nat.sub_add_cancel (Nat.le_of_not_lt h)]

/-- A table's step: of the low bits alone, and the others moved down. -/
theorem crcIt_table (k x : Nat) : crcIt k x = crcIt k (x % 2 ^ k) ^^^ (x / 2 ^ k) := by
  have h := crcIt_xor k (x % 2 ^ k) (2 ^ k * (x / 2 ^ k))
  rw [split_xor, crcIt_pow] at h
  exact h

theorem crcByte_table (r b : Nat) (hb : b < 256) : crcByte r b = crcIt 8 ((r ^^^ b) % 256) ^^^ (r / 256) := by
  unfold crcByte
  rw [crcIt_table]
  congr 1
  apply Nat.eq_of_testBit_eq
  intro i
  rw [Nat.testBit_div_two_pow, show (256 : Nat) = 2 ^ 8 from rfl, Nat.testBit_div_two_pow, Nat.testBit_xor, Nat.testBit_lt_two_pow (x := b) (i := i + 8)]
  · simp
  · exact Nat.lt_of_lt_of_le hb (Nat.pow_le_pow_right (n := 2) (i := 8) (by omega) (by omega))

/-- It can be undone. -/
theorem crcBit_inj {x y : Nat} (hx : x < 4294967296) (hy : y < 4294967296) (h : crcBit x = crcBit y) : x = y := by
  have key : ∀ z, z < 4294967296 → (crcBit z).testBit 31 = decide (z % 2 = 1) := by
    intro z hz
    have hh : (z / 2).testBit 31 = false := Nat.testBit_lt_two_pow (by omega)
    unfold crcBit
    rcases Nat.mod_two_eq_zero_or_one z with h | h
    · rw [if_neg (by omega), hh]; simp [h]
    · rw [if_pos h, Nat.testBit_xor, hh]; simp [h]; decide
  have h1 := key x hx
  rw [h, key y hy] at h1
  unfold crcBit at h
  rcases Nat.mod_two_eq_zero_or_one x with h2 | h2 <;> rcases Nat.mod_two_eq_zero_or_one y with h3 | h3 <;> rw [h2, h3] at h h1 <;> simp at h h1
  · omega
  · have := xor_cancel_r h
    omega

theorem crcIt_inj (k : Nat) {x y : Nat} (hx : x < 4294967296) (hy : y < 4294967296) (h : crcIt k x = crcIt k y) : x = y := by
  induction k generalizing x y with
  | zero => exact h
  | succ k ih => exact crcBit_inj hx hy (ih (crcBit_lt hx) (crcBit_lt hy) h)

theorem crcList_inj {x y : Nat} (hx : x < 4294967296) (hy : y < 4294967296) (l : List UInt8) (h : crcList x l = crcList y l) : x = y := by
  induction l generalizing x y with
  | nil => exact h
  | cons b l ih =>
    have h1 := ih (crcByte_lt hx b.toNat_lt) (crcByte_lt hy b.toNat_lt) h
    have hb := b.toNat_lt
    have h2 := crcIt_inj 8 (Nat.xor_lt_two_pow (n := 32) hx (by omega)) (Nat.xor_lt_two_pow (n := 32) hy (by omega)) h1
    exact xor_cancel_r h2

/-- One byte is another one: so is the sum. -/
theorem crcList_set {r : Nat} (hr : r < 4294967296) (l : List UInt8) (i : Nat) (b : UInt8) (hi : i < l.length) (hb : b ≠ l[i]) : crcList r (l.set i b) ≠ crcList r l := by
  induction l generalizing r i with
  | nil => simp at hi
  | cons a l ih =>
    cases i with
    | zero =>
      intro h
      have ha := a.toNat_lt
      have hb' := b.toNat_lt
      have h1 := crcList_inj (crcByte_lt hr hb') (crcByte_lt hr ha) l h
      have h2 := crcIt_inj 8 (Nat.xor_lt_two_pow (n := 32) hr (by omega)) (Nat.xor_lt_two_pow (n := 32) hr (by omega)) h1
      exact hb (UInt8.toNat_inj.1 (xor_cancel_l h2))
    | succ i => exact ih (crcByte_lt hr a.toNat_lt) i (by simpa using hi) (by simpa using hb)

/-- Adler's two numbers behind a list of bytes. -/
def adList (p : Nat × Nat) : List UInt8 → Nat × Nat
  | [] => p
  | b :: l => adList ((p.1 + b.toNat) % 65521, (p.2 + (p.1 + b.toNat) % 65521) % 65521) l

theorem adList_append (p : Nat × Nat) (l m : List UInt8) : adList p (l ++ m) = adList (adList p l) m := by
  induction l generalizing p with
  | nil => rfl
  | cons b l ih => exact ih _

theorem adList_lt {p : Nat × Nat} (h : p.1 < 65521 ∧ p.2 < 65521) (l : List UInt8) : (adList p l).1 < 65521 ∧ (adList p l).2 < 65521 := by
  induction l generalizing p with
  | nil => exact h
  | cons b l ih => exact ih ⟨Nat.mod_lt _ (by decide), Nat.mod_lt _ (by decide)⟩

/-- The same, with nothing taken away on the way. -/
def adFree (p : Nat × Nat) : List UInt8 → Nat × Nat
  | [] => p
  | b :: l => adFree (p.1 + b.toNat, p.2 + (p.1 + b.toNat)) l

theorem adFree_append (p : Nat × Nat) (l m : List UInt8) : adFree p (l ++ m) = adFree (adFree p l) m := by
  induction l generalizing p with
  | nil => rfl
  | cons b l ih => exact ih _

theorem adList_free (p : Nat × Nat) (l : List UInt8) : adList (p.1 % 65521, p.2 % 65521) l = ((adFree p l).1 % 65521, (adFree p l).2 % 65521) := by
  induction l generalizing p with
  | nil => rfl
  | cons b l ih =>
    rw [adList, adFree, ← ih]
    congr 1
    refine Prod.ext ?_ ?_
    · show (p.1 % 65521 + b.toNat) % 65521 = (p.1 + b.toNat) % 65521
      omega
    · show (p.2 % 65521 + (p.1 % 65521 + b.toNat) % 65521) % 65521 = (p.2 + (p.1 + b.toNat)) % 65521
      omega

theorem adFree_le (p : Nat × Nat) (l : List UInt8) : (adFree p l).1 ≤ p.1 + 255 * l.length ∧ (adFree p l).2 ≤ p.2 + l.length * (p.1 + 255 * l.length) := by
  induction l generalizing p with
  | nil => simp [adFree]
  | cons b l ih =>
    have hb := b.toNat_lt
    obtain ⟨h1, h2⟩ := ih (p.1 + b.toNat, p.2 + (p.1 + b.toNat))
    rw [adFree, List.length_cons]
    refine ⟨by omega, Nat.le_trans h2 ?_⟩
    show p.2 + (p.1 + b.toNat) + l.length * (p.1 + b.toNat + 255 * l.length) ≤ p.2 + (l.length + 1) * (p.1 + 255 * (l.length + 1))
    have h3 : l.length * (p.1 + b.toNat + 255 * l.length) ≤ l.length * (p.1 + 255 * (l.length + 1)) := Nat.mul_le_mul_left _ (by omega)
    rw [Nat.add_mul l.length 1, Nat.one_mul]
    omega

/-- All bytes together. -/
def sumOf : List UInt8 → Nat
  | [] => 0
  | b :: l => b.toNat + sumOf l

theorem adFree_fst (p : Nat × Nat) (l : List UInt8) : (adFree p l).1 = p.1 + sumOf l := by
  induction l generalizing p with
  | nil => rfl
  | cons b l ih => rw [adFree, ih, sumOf, Nat.add_assoc]

theorem sumOf_set (l : List UInt8) (i : Nat) (b : UInt8) (hi : i < l.length) : sumOf (l.set i b) + l[i].toNat = sumOf l + b.toNat := by
  induction l generalizing i with
  | nil => simp at hi
  | cons a l ih =>
    cases i with
    | zero => simp [sumOf]; omega
    | succ i =>
      have := ih i (by simpa using hi)
      simp [sumOf]; omega

theorem adList_set (p : Nat × Nat) (hp : p.1 < 65521 ∧ p.2 < 65521) (l : List UInt8) (i : Nat) (b : UInt8) (hi : i < l.length) (hb : b ≠ l[i]) : (adList p (l.set i b)).1 ≠ (adList p l).1 := by
  have e : p = (p.1 % 65521, p.2 % 65521) := Prod.ext (by show p.1 = p.1 % 65521; omega) (by show p.2 = p.2 % 65521; omega)
  rw [e, adList_free, adList_free]
  show (adFree p _).1 % 65521 ≠ (adFree p l).1 % 65521
  rw [adFree_fst, adFree_fst]
  have h := sumOf_set l i b hi
  have h1 : b.toNat ≠ l[i].toNat := fun h => hb (UInt8.toNat_inj.1 h)
  have h2 := b.toNat_lt
  have h3 := l[i].toNat_lt
  omega

/-- Both in one word. -/
def adWord (p : Nat × Nat) : Nat := p.2 * 65536 + p.1
theorem adWord_ne {p q : Nat × Nat} (hp : p.1 < 65521) (hq : q.1 < 65521) (h : p.1 ≠ q.1) : adWord p ≠ adWord q := by
  unfold adWord; omega
theorem adWord_or {s t : Nat} (hs : s < 65536) : (t * 65536) ||| s = adWord (s, t) := by
  unfold adWord
  rw [Nat.mul_comm, show (65536 : Nat) = 2 ^ 16 from rfl]
  exact (Nat.two_pow_add_eq_or_of_lt (i := 16) hs t).symm

/-- A bit that is turned makes another byte. -/
theorem flip_ne (b : UInt8) (k : Nat) (hk : k < 8) : UInt8.ofNat (b.toNat ^^^ 2 ^ k) ≠ b := by
  intro h
  have h2 := congrArg UInt8.toNat h
  have hb := b.toNat_lt
  have hp : 2 ^ k < 256 := Nat.pow_lt_pow_right (a := 2) (by omega) (n := 8) hk
  have hx : b.toNat ^^^ 2 ^ k < 256 := Nat.xor_lt_two_pow (n := 8) hb hp
  rw [UInt8.toNat_ofNat'] at h2
  rw [Nat.mod_eq_of_lt (by simpa using hx)] at h2
  have h3 : 2 ^ k = 0 := by
    have h4 : b.toNat ^^^ 2 ^ k = b.toNat ^^^ 0 := by rw [h2, Nat.xor_zero]
    exact xor_cancel_l h4
  have := Nat.two_pow_pos k
  omega

/-- The word that is told: all bits turned. -/
theorem not_inj {x y : Nat} (hx : x < 4294967296) (hy : y < 4294967296) (h : 4294967295 - x = 4294967295 - y) : x = y := by omega
end Go.Proofs.Yteimhpjhmpdmjaa
