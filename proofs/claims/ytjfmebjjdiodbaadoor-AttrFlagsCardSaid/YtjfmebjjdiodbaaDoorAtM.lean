/-
  Attributes, plain: flags as bits, colours as numbers, what one parameter and what a list of them makes.
-/
import Derived.Laws.BitsAllLaws
import Derived.Laws.Bits128
import Derived.IntWalk
import Derived.RowKit
namespace Go.Proofs.YtjfmebjjdiodbaaDoor
open Go Go.RowKit

theorem wrap_toInt (b : BitVec 64) : IntKind.i64.wrap (b.toNat : Int) = b.toInt := by
  rw [IntKind.wrap_i64, BitVec.toInt_eq_toNat_cond]
  have := b.isLt
  split <;> omega
theorem bits_or64 (x y : Int) : bits .or .i64 x y = (BitVec.ofInt 64 x ||| BitVec.ofInt 64 y).toInt := wrap_toInt _
theorem bits_and64 (x y : Int) : bits .and .i64 x y = (BitVec.ofInt 64 x &&& BitVec.ofInt 64 y).toInt := wrap_toInt _
theorem bits_not64 (x y : Int) : bits .andNot .i64 x y = (BitVec.ofInt 64 x &&& ~~~BitVec.ofInt 64 y).toInt := wrap_toInt _
abbrev I64 (x : Int) : Prop := -9223372036854775808 ≤ x ∧ x ≤ 9223372036854775807
theorem toInt_ofInt64 {x : Int} (h : I64 x) : (BitVec.ofInt 64 x).toInt = x := by
  rw [BitVec.toInt_ofInt]
  simp only [Int.bmod]
  split <;> omega
theorem toInt_i64 (b : BitVec 64) : I64 b.toInt := by
  have h1 := b.toInt_lt
  have h2 := b.le_toInt
  omega
theorem or_zero64 {x : Int} (h : I64 x) : bits .or .i64 x 0 = x := by
  rw [bits_or64, show BitVec.ofInt 64 0 = 0#64 from rfl, BitVec.or_zero, toInt_ofInt64 h]
theorem not_zero64 {x : Int} (h : I64 x) : bits .andNot .i64 x 0 = x := by
  rw [bits_not64, show ~~~BitVec.ofInt 64 0 = BitVec.allOnes 64 from by decide, BitVec.and_allOnes, toInt_ofInt64 h]
theorem not_12 (x : Int) : bits .andNot .i64 (bits .andNot .i64 x 1) 2 = bits .andNot .i64 x 3 := by
  rw [bits_not64, bits_not64, bits_not64, BitVec.ofInt_toInt, BitVec.and_assoc]
  congr 2
theorem bits_or_i64 (x y : Int) : I64 (bits .or .i64 x y) := by rw [bits_or64]; exact toInt_i64 _
theorem bits_not_i64 (x y : Int) : I64 (bits .andNot .i64 x y) := by rw [bits_not64]; exact toInt_i64 _

theorem nat_hi24 (n : Nat) (h : n < 18446744073709551616) : n &&& 18446744073692774400 = n / 16777216 * 16777216 := by
  have e : n &&& 18446744073692774400 = (n / 16777216 * 16777216 + n % 16777216) &&& 18446744073692774400 := by congr 1; omega
  apply Nat.eq_of_testBit_eq
  intro i
  rw [Nat.testBit_and]
  have h1 : (n / 16777216 * 16777216).testBit i = (decide (24 ≤ i) && n.testBit i) := by
    rw [show (16777216 : Nat) = 2 ^ 24 from rfl, ← Nat.shiftRight_eq_div_pow, ← Nat.shiftLeft_eq, Nat.testBit_shiftLeft, Nat.testBit_shiftRight]
    by_cases hi : 24 ≤ i
    · simp [hi]
    · simp [hi]
  have h2 : (18446744073692774400 : Nat).testBit i = (decide (24 ≤ i) && decide (i < 64)) := by
    rw [show (18446744073692774400 : Nat) = (2 ^ 40 - 1) <<< 24 from rfl, Nat.testBit_shiftLeft, Nat.testBit_two_pow_sub_one]
    by_cases hi : 24 ≤ i
    · by_cases hj : i < 64
      · simp [hi, hj]; omega
      · simp [hi, hj]; omega
    · simp [hi]
  rw [h1, h2]
  by_cases hj : i < 64
  · simp [hj, Bool.and_comm]
  · have : n.testBit i = false := Nat.testBit_lt_two_pow (Nat.lt_of_lt_of_le (show n < 2 ^ 64 from h) (Nat.pow_le_pow_right (by decide) (by omega)))
    simp [this]

/-- What kind of colour a number would be. -/
def kindA (c : Int) : Int := c / 16777216 * 16777216
theorem not_24 {c : Int} (h : I64 c) : bits .andNot .i64 c 16777215 = kindA c := by
  have e : ~~~BitVec.ofInt 64 16777215 = BitVec.ofNat 64 18446744073692774400 := by decide
  show IntKind.i64.wrap ((BitVec.ofInt 64 c &&& ~~~BitVec.ofInt 64 16777215).toNat : Nat) = _
  rw [e, BitVec.toNat_and, BitVec.toNat_ofInt, BitVec.toNat_ofNat]
  have hn : (c % ((2 ^ 64 : Nat) : Int)).toNat < 18446744073709551616 := by omega
  rw [show 18446744073692774400 % 2 ^ 64 = 18446744073692774400 from rfl, nat_hi24 _ hn, IntKind.wrap_i64]
  unfold kindA
  omega

/-- An attribute. -/
structure At where
  fg : Int
  bg : Int
  fl : Int
theorem At.ext {a b : At} (h1 : a.fg = b.fg) (h2 : a.bg = b.bg) (h3 : a.fl = b.fl) : a = b := by
  cases a; cases b; simp_all
def At.cells (a : At) : Array Value := #[.int .i64 a.fg, .int .i64 a.bg, .int .i64 a.fl]
def At.val (a : At) : Value := .agg a.cells
def At.zero : At := ⟨0, 0, 0⟩
structure At.Wf (a : At) : Prop where
  fg : I64 a.fg
  bg : I64 a.bg
  fl : I64 a.fl
theorem At.zero_wf : At.zero.Wf := ⟨by decide, by decide, by decide⟩

def flagL : List Int := [0, 1, 2, 4, 8, 16, 0, 32, 64, 128]
def isB (n : Int) : Bool := decide (0 ≤ n) && decide (n ≤ 255)
def At.set (a : At) (fore : Bool) (c : Int) : At := if fore then { a with fg := c } else { a with bg := c }
def palA (n : Int) : Int := 16777216 + n
def dirA (r g b : Int) : Int := 33554432 + r * 65536 + g * 256 + b

/-- How many parameters stand with 38, 48; 0: none can be told. -/
def longN (l : List Int) : Nat := if 2 < l.length ∧ l.getD 1 0 = 5 then 3 else if 4 < l.length ∧ l.getD 1 0 = 2 then 5 else 0
def longA (a : At) (fore : Bool) (l : List Int) : At :=
  if 2 < l.length ∧ l.getD 1 0 = 5 then (if isB (l.getD 2 0) then a.set fore (palA (l.getD 2 0)) else a)
  else if 4 < l.length ∧ l.getD 1 0 = 2 then (if isB (l.getD 2 0) && (isB (l.getD 3 0) && isB (l.getD 4 0)) then a.set fore (dirA (l.getD 2 0) (l.getD 3 0) (l.getD 4 0)) else a)
  else a
def usedL (l : List Int) : Nat := if longN l = 0 then l.length else longN l

/-- What one parameter makes, that is neither 38 nor 48. -/
def oneA (a : At) (n : Int) : At :=
  if n = 0 then At.zero
  else if 1 ≤ n ∧ n ≤ 9 then { a with fl := bits .or .i64 a.fl (flagL.getD n.toNat 0) }
  else if n = 22 then { a with fl := bits .andNot .i64 a.fl 3 }
  else if 23 ≤ n ∧ n ≤ 29 then { a with fl := bits .andNot .i64 a.fl (flagL.getD (n - 20).toNat 0) }
  else if 30 ≤ n ∧ n ≤ 37 then { a with fg := palA (n - 30) }
  else if n = 39 then { a with fg := 0 }
  else if 40 ≤ n ∧ n ≤ 47 then { a with bg := palA (n - 40) }
  else if n = 49 then { a with bg := 0 }
  else if 90 ≤ n ∧ n ≤ 97 then { a with fg := palA (n - 82) }
  else if 100 ≤ n ∧ n ≤ 107 then { a with bg := palA (n - 92) }
  else a
def stepA (a : At) (l : List Int) : At := if l.getD 0 0 = 38 then longA a true l else if l.getD 0 0 = 48 then longA a false l else oneA a (l.getD 0 0)
def usedA (l : List Int) : Nat := if l.getD 0 0 = 38 ∨ l.getD 0 0 = 48 then usedL l else 1

theorem longN_le (l : List Int) : longN l ≤ l.length := by
  unfold longN
  split
  · omega
  · split <;> omega
theorem usedA_pos {l : List Int} (h : l ≠ []) : 1 ≤ usedA l := by
  have := List.length_pos_iff.2 h
  unfold usedA usedL
  split
  · split <;> omega
  · omega
theorem usedA_le {l : List Int} (h : l ≠ []) : usedA l ≤ l.length := by
  have h1 := List.length_pos_iff.2 h
  have h2 := longN_le l
  unfold usedA usedL
  split
  · split <;> omega
  · omega

/-- What parameters make, at most so many steps. -/
def runA : Nat → At → List Int → At
  | 0, a, _ => a
  | k + 1, a, l => if l = [] then a else runA k (stepA a l) (l.drop (usedA l))
def allA (a : At) (l : List Int) : At := runA l.length a l
theorem runA_nil (k : Nat) (a : At) : runA k a [] = a := by cases k <;> simp [runA]
theorem runA_more : ∀ (k : Nat) (a : At) (l : List Int), l.length ≤ k → runA k a l = allA a l := by
  intro k
  induction k using Nat.strongRecOn with
  | _ k ih =>
    intro a l hl
    cases l with
    | nil => rw [runA_nil, allA, runA_nil]
    | cons x l =>
      have hp := usedA_pos (l := x :: l) (by simp)
      cases k with
      | zero => simp at hl
      | succ k =>
        have hd : ((x :: l).drop (usedA (x :: l))).length ≤ l.length := by rw [List.length_drop, List.length_cons]; omega
        have e1 := ih k (by omega) (stepA a (x :: l)) ((x :: l).drop (usedA (x :: l))) (by simp at hl; omega)
        unfold allA
        rw [List.length_cons]
        simp only [runA, List.cons_ne_nil, if_false]
        rw [e1]
        by_cases h : l.length = k
        · subst h; exact e1.symm
        · simp at hl
          exact (ih l.length (by omega) (stepA a (x :: l)) _ hd).symm
theorem allA_nil (a : At) : allA a [] = a := runA_nil _ _
theorem allA_step (a : At) {l : List Int} (h : l ≠ []) : allA a l = allA (stepA a l) (l.drop (usedA l)) := by
  cases l with
  | nil => exact absurd rfl h
  | cons x l =>
    have hp := usedA_pos (l := x :: l) (by simp)
    have hd : ((x :: l).drop (usedA (x :: l))).length ≤ l.length := by rw [List.length_drop, List.length_cons]; omega
    rw [← runA_more _ _ _ hd]
    unfold allA
    rw [List.length_cons]
    simp only [runA, List.cons_ne_nil, if_false]
/-- Apply. -/
def applyA (a : At) (l : List Int) : At := if l = [] then At.zero else allA a l

def Plain (l : List Int) : Prop := ∀ n ∈ l, n ≠ 38 ∧ n ≠ 48
theorem allA_plain (a : At) (l m : List Int) (h : Plain l) : allA a (l ++ m) = allA (l.foldl oneA a) m := by
  induction l generalizing a with
  | nil => rfl
  | cons n l ih =>
    obtain ⟨h1, h2⟩ := h n (by simp)
    rw [List.cons_append, allA_step a (by simp)]
    have e1 : stepA a (n :: (l ++ m)) = oneA a n := by simp [stepA, h1, h2]
    have e2 : usedA (n :: (l ++ m)) = 1 := by simp [usedA, h1, h2]
    rw [e1, e2, List.drop_succ_cons, List.drop_zero, ih _ (fun x hx => h x (by simp [hx])), List.foldl_cons]

theorem flagL_i64 (k : Nat) : I64 (flagL.getD k 0) := by
  by_cases h : k < 10
  · revert k; decide
  · rw [List.getD_eq_getElem?_getD, List.getElem?_eq_none (by show 10 ≤ k; omega)]; decide
theorem longA_wf {a : At} (h : a.Wf) (fore : Bool) (l : List Int) : (longA a fore l).Wf := by
  have hs : ∀ c, I64 c → (a.set fore c).Wf := fun c hc => by
    unfold At.set; split
    · exact ⟨hc, h.bg, h.fl⟩
    · exact ⟨h.fg, hc, h.fl⟩
  unfold longA
  split
  · split
    · rename_i hb
      refine hs _ ?_
      simp only [isB, Bool.and_eq_true, decide_eq_true_iff] at hb
      unfold palA; omega
    · exact h
  · split
    · split
      · rename_i hb
        refine hs _ ?_
        simp only [isB, Bool.and_eq_true, decide_eq_true_iff] at hb
        unfold dirA; omega
      · exact h
    · exact h
theorem oneA_wf {a : At} (h : a.Wf) (n : Int) : (oneA a n).Wf := by
  unfold oneA
  split
  · exact At.zero_wf
  split
  · exact ⟨h.fg, h.bg, bits_or_i64 _ _⟩
  split
  · exact ⟨h.fg, h.bg, bits_not_i64 _ _⟩
  split
  · exact ⟨h.fg, h.bg, bits_not_i64 _ _⟩
  split
  · exact ⟨by show I64 (palA _); unfold palA; omega, h.bg, h.fl⟩
  split
  · exact ⟨by show I64 0; decide, h.bg, h.fl⟩
  split
  · exact ⟨h.fg, by show I64 (palA _); unfold palA; omega, h.fl⟩
  split
  · exact ⟨h.fg, by show I64 0; decide, h.fl⟩
  split
  · exact ⟨by show I64 (palA _); unfold palA; omega, h.bg, h.fl⟩
  split
  · exact ⟨h.fg, by show I64 (palA _); unfold palA; omega, h.fl⟩
  exact h
theorem stepA_wf {a : At} (h : a.Wf) (l : List Int) : (stepA a l).Wf := by
  unfold stepA; split
  · exact longA_wf h _ _
  split
  · exact longA_wf h _ _
  · exact oneA_wf h _
theorem runA_wf (k : Nat) {a : At} (h : a.Wf) (l : List Int) : (runA k a l).Wf := by
  induction k generalizing a l with
  | zero => exact h
  | succ k ih =>
    unfold runA
    split
    · exact h
    · exact ih (stepA_wf h _) _
end Go.Proofs.YtjfmebjjdiodbaaDoor
