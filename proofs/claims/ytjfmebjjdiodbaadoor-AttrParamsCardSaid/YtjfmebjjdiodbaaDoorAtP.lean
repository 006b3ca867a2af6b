/-
  Attributes, plain: the parameters that make one of any other.
-/
import Derived.Test.YtjfmebjjdiodbaaDoorArR
namespace Go.Proofs.YtjfmebjjdiodbaaDoor
open Go Go.RowKit

def bitOn (fl : Int) (k : Nat) : Bool := bits .and .i64 fl (flagL.getD k 0) != 0
def flagsTo (fl : Int) : Nat → List Int
  | 0 => []
  | j + 1 => if bitOn fl j then flagsTo fl j ++ [(j : Int)] else flagsTo fl j
def pOf (c base : Int) : List Int :=
  if kindA c = 0 then [] else if kindA c = 33554432 then [base + 8, 2, (rgbA c).r, (rgbA c).g, (rgbA c).b]
  else if (rgbA c).b < 8 then [base + (rgbA c).b] else if (rgbA c).b < 16 then [base + 60 + (rgbA c).b - 8] else [base + 8, 5, (rgbA c).b]
def paramsL (a : At) : List Int := ((0 : Int) :: flagsTo a.fl 10) ++ pOf a.fg 30 ++ pOf a.bg 40

theorem flags_all : ∀ k : Fin 256, (flagsTo (k.val : Int) 10).length ≤ 8 ∧ (flagsTo (k.val : Int) 10).all (fun n => n != 38 && n != 48) = true ∧ ((flagsTo (k.val : Int) 10).foldl oneA At.zero).eqB ⟨0, 0, (k.val : Int)⟩ = true := by decide +kernel
theorem flags_ok {fl : Int} (h0 : 0 ≤ fl) (h1 : fl ≤ 255) : (flagsTo fl 10).length ≤ 8 ∧ Plain (flagsTo fl 10) ∧ (flagsTo fl 10).foldl oneA At.zero = ⟨0, 0, fl⟩ := by
  obtain ⟨k, rfl⟩ : ∃ k : Nat, fl = k := ⟨fl.toNat, by omega⟩
  obtain ⟨h2, h3, h4⟩ := flags_all ⟨k, by omega⟩
  refine ⟨h2, fun n hn => ?_, At.eqB_iff.1 h4⟩
  have := List.all_eq_true.1 h3 n hn
  simpa using this
theorem pOf_len (c base : Int) : (pOf c base).length ≤ 5 := by
  unfold pOf
  split
  · simp
  split
  · simp
  split
  · simp
  split
  · simp
  · simp
theorem long_pal (a : At) (fore : Bool) (h n : Int) (m : List Int) (hh : h = if fore = true then 38 else 48) (h0 : 0 ≤ n) (h1 : n ≤ 255) : allA a (h :: 5 :: n :: m) = allA (a.set fore (palA n)) m := by
  have hN : longN (h :: 5 :: n :: m) = 3 := by unfold longN; rw [if_pos ⟨by simp, rfl⟩]
  have hb : isB n = true := isB_iff.2 ⟨h0, h1⟩
  have hL : longA a fore (h :: 5 :: n :: m) = a.set fore (palA n) := by
    unfold longA
    rw [if_pos ⟨by simp, rfl⟩]
    show (if isB n = true then a.set fore (palA n) else a) = _
    rw [if_pos hb]
  rw [allA_step a (by simp)]
  have e2 : usedA (h :: 5 :: n :: m) = 3 := by
    unfold usedA usedL
    rw [hN]
    have : (h :: 5 :: n :: m).getD 0 0 = 38 ∨ (h :: 5 :: n :: m).getD 0 0 = 48 := by
      show h = 38 ∨ h = 48
      rw [hh]; split <;> simp
    rw [if_pos this]; rfl
  have e1 : stepA a (h :: 5 :: n :: m) = a.set fore (palA n) := by
    rw [← hL]
    unfold stepA
    show (if h = 38 then _ else if h = 48 then _ else _) = _
    cases fore with
    | true => rw [if_pos (by rw [hh]; rfl)]
    | false => rw [if_neg (by rw [hh]; decide), if_pos (by rw [hh]; rfl)]
  rw [e1, e2]
  rfl
theorem long_dir (a : At) (fore : Bool) (h r g b : Int) (m : List Int) (hh : h = if fore = true then 38 else 48) (hr : isB r = true) (hg : isB g = true) (hb : isB b = true) : allA a (h :: 2 :: r :: g :: b :: m) = allA (a.set fore (dirA r g b)) m := by
  have hN : longN (h :: 2 :: r :: g :: b :: m) = 5 := by
    unfold longN
    rw [if_neg (by rintro ⟨_, h2⟩; exact absurd h2 (by show ¬ (2 : Int) = 5; decide)), if_pos ⟨by simp, rfl⟩]
  have hL : longA a fore (h :: 2 :: r :: g :: b :: m) = a.set fore (dirA r g b) := by
    unfold longA
    rw [if_neg (by rintro ⟨_, h2⟩; exact absurd h2 (by show ¬ (2 : Int) = 5; decide)), if_pos ⟨by simp, rfl⟩]
    show (if (isB r && (isB g && isB b)) = true then a.set fore (dirA r g b) else a) = _
    rw [hr, hg, hb]
    rfl
  rw [allA_step a (by simp)]
  have e2 : usedA (h :: 2 :: r :: g :: b :: m) = 5 := by
    unfold usedA usedL
    rw [hN]
    have : (h :: 2 :: r :: g :: b :: m).getD 0 0 = 38 ∨ (h :: 2 :: r :: g :: b :: m).getD 0 0 = 48 := by
      show h = 38 ∨ h = 48
      rw [hh]; split <;> simp
    rw [if_pos this]; rfl
  have e1 : stepA a (h :: 2 :: r :: g :: b :: m) = a.set fore (dirA r g b) := by
    rw [← hL]
    unfold stepA
    show (if h = 38 then _ else if h = 48 then _ else _) = _
    cases fore with
    | true => rw [if_pos (by rw [hh]; rfl)]
    | false => rw [if_neg (by rw [hh]; decide), if_pos (by rw [hh]; rfl)]
  rw [e1, e2]
  rfl
theorem one_step (a : At) (n : Int) (m : List Int) (h1 : n ≠ 38) (h2 : n ≠ 48) : allA a (n :: m) = allA (oneA a n) m := by
  have := allA_plain a [n] m (fun x hx => by simp at hx; rw [hx]; exact ⟨h1, h2⟩)
  exact this
/-- A colour's parameters make that colour. -/
theorem pOf_makes (a : At) (fore : Bool) (c base : Int) (m : List Int) (hb : base = if fore = true then 30 else 40) (hc : rightI c = true) (h0 : c = 0 → a.set fore 0 = a) : allA a (pOf c base ++ m) = allA (a.set fore c) m := by
  unfold rightI at hc
  rw [decide_eq_true_iff] at hc
  rcases hc with rfl | ⟨h1, h2⟩ | ⟨h1, h2⟩
  · rw [h0 rfl]
    have : pOf 0 base = [] := by unfold pOf; rw [if_pos (by decide)]
    rw [this]; rfl
  · have hk : kindA c = 16777216 := by unfold kindA; omega
    have hn : (rgbA c).b = c - 16777216 := by show c % 256 = _; omega
    have hp : palA (c - 16777216) = c := by unfold palA; omega
    unfold pOf
    rw [if_neg (by rw [hk]; decide), if_neg (by rw [hk]; decide), hn]
    by_cases k1 : c - 16777216 < 8
    · rw [if_pos k1]
      have e1 : base + (c - 16777216) ≠ 38 := by rw [hb]; split <;> omega
      have e2 : base + (c - 16777216) ≠ 48 := by rw [hb]; split <;> omega
      show allA a ((base + (c - 16777216)) :: m) = _
      rw [one_step a _ m e1 e2]
      cases fore with
      | true =>
        rw [hb, if_pos rfl, oneA_30 a (by omega), show 30 + (c - 16777216) - 30 = c - 16777216 by omega, hp]
        rfl
      | false =>
        rw [hb, if_neg (by decide), oneA_40 a (by omega), show 40 + (c - 16777216) - 40 = c - 16777216 by omega, hp]
        rfl
    · rw [if_neg k1]
      by_cases k2 : c - 16777216 < 16
      · rw [if_pos k2]
        have e1 : base + 60 + (c - 16777216) - 8 ≠ 38 := by rw [hb]; split <;> omega
        have e2 : base + 60 + (c - 16777216) - 8 ≠ 48 := by rw [hb]; split <;> omega
        show allA a ((base + 60 + (c - 16777216) - 8) :: m) = _
        rw [one_step a _ m e1 e2]
        cases fore with
        | true =>
          rw [hb, if_pos rfl, oneA_90 a (by omega), show 30 + 60 + (c - 16777216) - 8 - 82 = c - 16777216 by omega, hp]
          rfl
        | false =>
          rw [hb, if_neg (by decide), oneA_100 a (by omega), show 40 + 60 + (c - 16777216) - 8 - 92 = c - 16777216 by omega, hp]
          rfl
      · rw [if_neg k2]
        show allA a ((base + 8) :: 5 :: (c - 16777216) :: m) = _
        rw [long_pal a fore (base + 8) (c - 16777216) m (by rw [hb]; cases fore <;> rfl) (by omega) (by omega), hp]
  · have hk : kindA c = 33554432 := by unfold kindA; omega
    have ho := rgbA_ok c
    unfold pOf
    rw [if_neg (by rw [hk]; decide), if_pos hk]
    have hd : dirA (rgbA c).r (rgbA c).g (rgbA c).b = c := by
      unfold dirA
      show 33554432 + c / 65536 % 256 * 65536 + c / 256 % 256 * 256 + c % 256 = c
      omega
    show allA a ((base + 8) :: 2 :: (rgbA c).r :: (rgbA c).g :: (rgbA c).b :: m) = _
    rw [long_dir a fore (base + 8) _ _ _ m (by rw [hb]; cases fore <;> rfl) (isB_iff.2 ho.r) (isB_iff.2 ho.g) (isB_iff.2 ho.b), hd]
theorem params_make (a b : At) (h : rightA a = true) : applyA b (paramsL a) = a := by
  obtain ⟨h1, h2, h3, h4⟩ := rightA_iff.1 h
  obtain ⟨_, f2, f3⟩ := flags_ok h3 h4
  unfold applyA paramsL
  rw [if_neg (by simp), List.append_assoc, allA_plain b ((0 : Int) :: flagsTo a.fl 10) _ (fun x hx => by
    rcases List.mem_cons.1 hx with rfl | hx
    · exact ⟨by decide, by decide⟩
    · exact f2 x hx)]
  show allA ((flagsTo a.fl 10).foldl oneA (oneA b 0)) _ = _
  rw [oneA_0, f3, pOf_makes ⟨0, 0, a.fl⟩ true a.fg 30 _ rfl h1 (fun _ => rfl)]
  have := pOf_makes (At.set ⟨0, 0, a.fl⟩ true a.fg) false a.bg 40 [] rfl h2 (fun _ => rfl)
  rw [List.append_nil, allA_nil] at this
  rw [this]
  rfl
theorem params_len (a : At) (h : rightA a = true) : 1 ≤ (paramsL a).length ∧ (paramsL a).length ≤ 19 := by
  obtain ⟨h1, h2, h3, h4⟩ := rightA_iff.1 h
  obtain ⟨f1, _, _⟩ := flags_ok h3 h4
  have p1 := pOf_len a.fg 30
  have p2 := pOf_len a.bg 40
  unfold paramsL
  simp only [List.length_append, List.length_cons]
  omega
end Go.Proofs.YtjfmebjjdiodbaaDoor
