/-
  The codes said a second time: New. | Streams of all kinds, plainly: one step in them, where they end.
-/
import Derived.Test.YtopjkmobnmaaaaaDoorMFlD
import Derived.Deep.RegionLaw
import Derived.Laws.MakeOwn
import Derived.Deep.OwnRows
import Derived.Test.YtopjkmobnmaaaaaDoorMHufQ
namespace Go.Proofs.YtopjkmobnmaaaaaDoor
open Go Go.RowKit

def nzc (l : List UInt8) : Nat := l.countP (fun b => b.toNat != 0)
def oneOf (l : List UInt8) : Nat := l.foldl (fun a b => if b.toNat ≠ 0 then b.toNat else a) 0
theorem nzc_snoc (l : List UInt8) (b : UInt8) : nzc (l ++ [b]) = nzc l + (if b.toNat ≠ 0 then 1 else 0) := by
  unfold nzc
  by_cases h : b.toNat = 0 <;> simp [h, List.countP_append]
theorem oneOf_snoc (l : List UInt8) (b : UInt8) : oneOf (l ++ [b]) = if b.toNat ≠ 0 then b.toNat else oneOf l := by
  unfold oneOf; rw [List.foldl_append]; rfl
theorem snoc_ind {P : List UInt8 → Prop} (h0 : P []) (h1 : ∀ l b, P l → P (l ++ [b])) (l : List UInt8) : P l := by
  have key : ∀ n, n ≤ l.length → P (l.take n) := by
    intro n
    induction n with
    | zero => intro _; simpa using h0
    | succ n ih =>
      intro hn
      rw [take_snoc (by omega)]
      exact h1 _ _ (ih (by omega))
  have := key l.length (Nat.le_refl _)
  rwa [List.take_length] at this
theorem nzc_zero {l : List UInt8} (h : nzc l = 0) (n : Nat) : cn l n = 0 := by
  induction l using snoc_ind with
  | h0 => exact cn_nil n
  | h1 l b ih =>
    rw [nzc_snoc] at h
    rw [cn_snoc, ih (by omega)]
    by_cases hb : b.toNat ≠ 0
    · rw [if_pos hb] at h; omega
    · rw [if_neg (by omega)]
theorem nzc_one {l : List UInt8} (h : nzc l = 1) (n : Nat) : cn l n = if n = oneOf l ∧ n ≠ 0 then 1 else 0 := by
  induction l using snoc_ind with
  | h0 => simp [nzc] at h
  | h1 l b ih =>
    rw [nzc_snoc] at h
    rw [cn_snoc, oneOf_snoc]
    by_cases hb : b.toNat ≠ 0
    · rw [if_pos hb] at h ⊢
      rw [nzc_zero (by omega), Nat.zero_add]
      by_cases h2 : b.toNat = n ∧ n ≠ 0
      · rw [if_pos h2, if_pos (by omega)]
      · rw [if_neg h2, if_neg (by omega)]
    · rw [if_neg hb] at h ⊢
      have e : (if b.toNat = n ∧ n ≠ 0 then 1 else 0) = 0 := if_neg (by omega)
      rw [ih (by omega), e, Nat.add_zero]
theorem oneOf_pos {l : List UInt8} (h : nzc l ≠ 0) : oneOf l ≠ 0 := by
  induction l using snoc_ind with
  | h0 => simp [nzc] at h
  | h1 l b ih =>
    rw [nzc_snoc] at h
    rw [oneOf_snoc]
    by_cases hb : b.toNat ≠ 0
    · rw [if_pos hb]; exact hb
    · rw [if_neg hb] at h ⊢; exact ih (by omega)
theorem nzc_Bf {l : List UInt8} (h : ∀ i, ln l i ≤ 15) : nzc l = Bf (cn l) 16 := by
  have key : ∀ j, j ≤ l.length → nzc (l.take j) = Bf (cn (l.take j)) 16 := by
    intro j
    induction j with
    | zero => intro _; rw [List.take_zero]; decide +kernel
    | succ j ih =>
      intro hj
      rw [take_snoc (by omega), nzc_snoc, ih (by omega)]
      have hb := h j
      rw [ln_get (by omega)] at hb
      have step : ∀ (m : List UInt8) (b : UInt8) (n : Nat), Bf (cn (m ++ [b])) n = Bf (cn m) n + if b.toNat ≠ 0 ∧ b.toNat < n then 1 else 0 := by
        intro m b n
        induction n with
        | zero => simp [Bf]
        | succ n ih2 =>
          rw [Bf_succ, Bf_succ, ih2, cn_snoc]
          by_cases h1 : b.toNat = n ∧ n ≠ 0
          · rw [if_pos h1, if_neg (by omega), if_pos (by omega)]; omega
          · rw [if_neg h1]
            by_cases h2 : b.toNat ≠ 0 ∧ b.toNat < n
            · rw [if_pos h2, if_pos (by omega)]; omega
            · rw [if_neg h2, if_neg (by omega)]; rfl
      rw [step]
      by_cases h1 : l[j].toNat ≠ 0
      · rw [if_pos h1, if_pos (by omega)]
      · rw [if_neg h1, if_neg (by omega)]
  have := key l.length (Nat.le_refl _)
  rwa [List.take_length] at this

/-- Both say the same of which tables may be. -/
theorem may_iff {l : List UInt8} (h : ∀ i, ln l i ≤ 15) : mayBe (cn l) = true ↔ ¬ (32768 < Sm (cn l) 16 ∨ (Sm (cn l) 16 < 32768 ∧ 0 < nzc l ∧ ¬ (nzc l = 1 ∧ oneOf l = 1))) := by
  have hB := nzc_Bf h
  constructor
  · intro hm hc
    have hle := mayBe_le hm
    unfold mayBe at hm
    rcases hc with hc | ⟨h1, h2, h3⟩
    · omega
    · rcases Bool.or_eq_true _ _ ▸ hm with hm | hm
      · rcases Bool.or_eq_true _ _ ▸ hm with hm | hm
        · have := of_decide_eq_true hm; omega
        · have h0 := (tEq_iff _ _).1 hm
          have : ∀ n, n ≤ 16 → Bf (cn l) n = 0 := by
            intro n hn
            induction n with
            | zero => rfl
            | succ n ih => rw [Bf_succ, ih (by omega), h0 n (by omega)]
          rw [this 16 (Nat.le_refl _)] at hB; omega
      · have h0 := (tEq_iff _ _).1 hm
        have : ∀ n, n ≤ 16 → Bf (cn l) n = if n ≤ 1 then 0 else 1 := by
          intro n hn
          induction n with
          | zero => rfl
          | succ n ih =>
            rw [Bf_succ, ih (by omega), h0 n (by omega)]
            by_cases h1 : n = 0
            · subst h1; rfl
            · by_cases h2 : n = 1
              · subst h2; rfl
              · rw [if_neg (by omega), if_neg h2, if_neg (by omega)]
        rw [this 16 (Nat.le_refl _), if_neg (by omega)] at hB
        refine h3 ⟨hB, ?_⟩
        have ho := oneOf_pos (l := l) (by omega)
        have h1' := nzc_one hB 1
        have := h0 1 (by omega)
        rw [if_pos rfl] at this
        rw [this] at h1'
        by_cases hc : (1 = oneOf l ∧ (1 : Nat) ≠ 0)
        · exact hc.1.symm
        · rw [if_neg hc] at h1'; omega
  · intro hc
    unfold mayBe
    by_cases h1 : Sm (cn l) 16 = 32768
    · rw [decide_eq_true h1]; rfl
    · have h2 : ¬ 0 < nzc l ∨ (nzc l = 1 ∧ oneOf l = 1) := by
        by_cases h3 : 0 < nzc l
        · right
          exact Decidable.byContradiction fun h4 => hc (.inr ⟨by omega, h3, h4⟩)
        · exact .inl h3
      rcases h2 with h2 | ⟨h2, h3⟩
      · have : tEq (cn l) (fun _ => 0) = true := (tEq_iff _ _).2 fun i _ => nzc_zero (by omega) i
        rw [this]; simp
      · have : tEq (cn l) (fun i => if i = 1 then 1 else 0) = true := (tEq_iff _ _).2 fun i _ => by
          rw [nzc_one h2, h3]
          by_cases hi : i = 1
          · rw [if_pos (by omega), if_pos hi]
          · rw [if_neg (by omega), if_neg hi]
        rw [this]; simp
end Go.Proofs.YtopjkmobnmaaaaaDoor


namespace Go.Proofs.YtopjkmobnmaaaaaDoor

/-- The next symbol in codes of the lengths l: it, an error (3: none), how many bits it has. -/
def huffN (l : List UInt8) (N p : Nat) : Nat × Nat × Nat := readM l N p 16
/-- How many bits are looked at. -/
def needN (l : List UInt8) (N p : Nat) : Nat := if (huffN l N p).2.1 = 0 then (huffN l N p).2.2 else Lg (cn l) 15

theorem scan_ge (l : List UInt8) (N p : Nat) : ∀ r n, r + n ≤ 16 → (scan l N p 16 r n).2.1 = 0 → n ≤ (scan l N p 16 r n).2.2
  | 0, n, _, h => by simp [scan] at h
  | r + 1, n, hr, h => by
    by_cases hb : bc N p n < Fs (cn l) n + cn l n
    · rw [scan_hit (by omega) hb]; exact Nat.le_refl _
    · rw [scan_next (by omega) hb] at h ⊢
      have := scan_ge l N p r (n + 1) (by omega) h
      omega
theorem scan_left (l : List UInt8) (N p left : Nat) : ∀ r n, n ≤ left + 1 → r + n ≤ 16 →
    scan l N p left r n = if left < (if (scan l N p 16 r n).2.1 = 0 then (scan l N p 16 r n).2.2 else r + n - 1) then (0, 2, 0) else scan l N p 16 r n
  | 0, n, hn, _ => by
    rw [if_neg]
    · rfl
    · simp [scan]; omega
  | r + 1, n, hn, hr => by
    by_cases hl : left < n
    · rw [scan_short hl, if_pos]
      split
      · rename_i h
        have := scan_ge l N p (r + 1) n hr h
        omega
      · omega
    · by_cases hb : bc N p n < Fs (cn l) n + cn l n
      · rw [scan_hit hl hb, scan_hit (by omega) hb, if_neg]
        show ¬ left < (if 0 = 0 then n else r + 1 + n - 1)
        rw [if_pos rfl]; omega
      · rw [scan_next hl hb, scan_next (by omega) hb, scan_left l N p left r (n + 1) (by omega) (by omega), show r + (n + 1) - 1 = r + 1 + n - 1 by omega]
theorem Lg_15 (c : Nat → Nat) : Lg c 15 ≤ 15 := Lg_le c 15
/-- What is read where only some bits are left. -/
theorem readM_left (l : List UInt8) (N p left : Nat) : readM l N p left = if left < needN l N p then (0, 2, 0) else huffN l N p := by
  have h := scan_left l N p left (Lg (cn l) 15) 1 (by omega) (by have := Lg_15 (cn l); omega)
  unfold readM needN huffN
  rw [h]
  unfold readM
  rfl
theorem huffN_err (l : List UInt8) (N p : Nat) : (huffN l N p).2.1 = 0 ∨ huffN l N p = (0, 3, 0) := by
  unfold huffN readM
  have key : ∀ r n, r + n ≤ 16 → (scan l N p 16 r n).2.1 = 0 ∨ scan l N p 16 r n = (0, 3, 0) := by
    intro r
    induction r with
    | zero => intro n _; exact .inr rfl
    | succ r ih =>
      intro n hn
      by_cases hb : bc N p n < Fs (cn l) n + cn l n
      · rw [scan_hit (by omega) hb]; exact .inl rfl
      · rw [scan_next (by omega) hb]; exact ih _ (by omega)
  exact key _ _ (by have := Lg_15 (cn l); omega)
theorem huffN_pos (l : List UInt8) (N p : Nat) (h : (huffN l N p).2.1 = 0) : 0 < (huffN l N p).2.2 := by
  have := scan_ge l N p (Lg (cn l) 15) 1 (by have := Lg_15 (cn l); omega) h
  exact this

/-- Where one stands in a stream (numbers of states as package inflate has them), and what a dynamic block has said by now. -/
structure GSt where
  k : Nat
  last : Bool
  left : Nat
  p : Nat
  out : List UInt8
  T : List UInt8
  D : List UInt8
  nl : Nat
  nd : Nat
  no : Nat
  own : List UInt8
  nOwn : Nat
  sym : Nat
  lens : List UInt8
  len : Nat

/-- What a symbol of the code of lengths says. -/
def repV (s : Nat) (lens : List UInt8) : UInt8 := if s < 16 then UInt8.ofNat s else if s = 16 then lens.getLastD 0 else 0
def rankN : List Nat := [16, 17, 18, 0, 8, 7, 9, 6, 10, 5, 11, 4, 12, 3, 13, 2, 14, 1, 15]
/-- How many bits stand behind a symbol of the code of lengths; how often it is meant at least. -/
def repB (s : Nat) : Nat := if s = 16 then 2 else if s = 17 then 3 else if s = 18 then 7 else 0
def repM (s : Nat) : Nat := if s = 16 ∨ s = 17 then 3 else if s = 18 then 11 else 1
/-- A length's symbol, a distance's: the least, the bits. -/
def lenM (s : Nat) : Nat := if s = 285 then 258 else if s < 265 then s - 254 else 3 + (4 + (s - 257) % 4) * 2 ^ ((s - 257) / 4 - 1)
def lenB (s : Nat) : Nat := if s = 285 ∨ s < 265 then 0 else (s - 257) / 4 - 1
def dstM (s : Nat) : Nat := if s < 4 then 1 + s else 1 + (2 + s % 2) * 2 ^ (s / 2 - 1)
def dstB (s : Nat) : Nat := if s < 4 then 0 else s / 2 - 1
/-- Some bytes from so far back, once more. -/
def again (out : List UInt8) (far : Nat) : Nat → List UInt8
  | 0 => out
  | n + 1 => again (out ++ [out.getD (out.length - far) 0]) far n

/-- One step: up to which bit it looks; what it comes to, or the error. -/
def GSt.nx (L0 D0 : List UInt8) (N most : Nat) (s : GSt) : Nat × Except Nat GSt :=
  if s.k = 0 then
    (s.p + 3, let v := N / 2 ^ s.p % 8
      if v / 2 = 0 then .ok { s with k := 1, last := v % 2 == 1, p := (s.p + 10) / 8 * 8 }
      else if v / 2 = 1 then .ok { s with k := 7, last := v % 2 == 1, p := s.p + 3, T := L0, D := D0 }
      else if v / 2 = 2 then .ok { s with k := 3, last := v % 2 == 1, p := s.p + 3 } else .error 3)
  else if s.k = 1 then
    (s.p + 32, let n := N / 2 ^ s.p % 65536
      if N / 2 ^ (s.p + 16) % 65536 = 65535 - n then .ok { s with k := stK s.last n, left := n, p := s.p + 32 } else .error 3)
  else if s.k = 2 then
    (s.p + 8, if s.out.length < most then .ok { s with k := stK s.last (s.left - 1), left := s.left - 1, p := s.p + 8, out := s.out ++ [UInt8.ofNat (N / 2 ^ s.p)] } else .error 5)
  else if s.k = 3 then
    (s.p + 14, let v := N / 2 ^ s.p % 16384
      if v % 32 ≤ 29 ∧ v / 32 % 32 ≤ 29 then .ok { s with k := 4, p := s.p + 14, nl := 257 + v % 32, nd := 1 + v / 32 % 32, no := 4 + v / 1024, own := List.replicate 19 0, nOwn := 0, lens := [] } else .error 3)
  else if s.k = 4 then
    (s.p + 3, let own := s.own.set (rankN.getD s.nOwn 0) (UInt8.ofNat (N / 2 ^ s.p % 8))
      if s.nOwn + 1 < s.no then .ok { s with p := s.p + 3, own := own, nOwn := s.nOwn + 1 }
      else if mayBe (cn own) = true then .ok { s with k := 5, p := s.p + 3, own := own, nOwn := s.nOwn + 1 } else .error 3)
  else if s.k = 5 then
    (s.p + needN s.own N s.p, let r := huffN s.own N s.p
      if r.2.1 ≠ 0 ∨ (r.1 = 16 ∧ s.lens = []) then .error 3 else .ok { s with k := 6, sym := r.1, p := s.p + r.2.2 })
  else if s.k = 6 then
    (s.p + repB s.sym, let m := repM s.sym + N / 2 ^ s.p % 2 ^ repB s.sym
      let l := s.lens ++ List.replicate m (repV s.sym s.lens)
      if s.nl + s.nd < l.length then .error 3
      else if l.length < s.nl + s.nd then .ok { s with k := 5, p := s.p + repB s.sym, lens := l }
      else if mayBe (cn (l.take s.nl)) = true ∧ mayBe (cn (l.drop s.nl)) = true ∧ ln l 256 ≠ 0 then .ok { s with k := 7, p := s.p + repB s.sym, lens := l, T := l.take s.nl, D := l.drop s.nl } else .error 3)
  else if s.k = 7 then
    (s.p + needN s.T N s.p, let r := huffN s.T N s.p
      if r.2.1 ≠ 0 ∨ 285 < r.1 then .error 3
      else if r.1 < 256 then (if s.out.length < most then .ok { s with p := s.p + r.2.2, out := s.out ++ [UInt8.ofNat r.1] } else .error 5)
      else if r.1 = 256 then .ok { s with k := behindK s.last, p := s.p + r.2.2 }
      else .ok { s with k := 8, sym := r.1, p := s.p + r.2.2 })
  else if s.k = 8 then
    (s.p + lenB s.sym, .ok { s with k := 9, len := lenM s.sym + N / 2 ^ s.p % 2 ^ lenB s.sym, p := s.p + lenB s.sym })
  else if s.k = 9 then
    (s.p + needN s.D N s.p, let r := huffN s.D N s.p
      if r.2.1 ≠ 0 ∨ 29 < r.1 then .error 3 else .ok { s with k := 10, sym := r.1, p := s.p + r.2.2 })
  else
    (s.p + dstB s.sym, let far := dstM s.sym + N / 2 ^ s.p % 2 ^ dstB s.sym
      if s.out.length < far then .error 3
      else if most < s.out.length + s.len then .error 5 else .ok { s with k := 7, p := s.p + dstB s.sym, out := again s.out far s.len })

/-- Where it ends, a bytes being there: the error (0: it is whole), where it stands then. -/
inductive Ends (L0 D0 : List UInt8) (N a most : Nat) : GSt → Nat → GSt → Prop
  | done (s : GSt) (h : s.k = 11) : Ends L0 D0 N a most s 0 s
  | short (s : GSt) (h : s.k ≠ 11) (hp : 8 * a < (s.nx L0 D0 N most).1) : Ends L0 D0 N a most s 2 s
  | bad (s : GSt) (e : Nat) (h : s.k ≠ 11) (hp : (s.nx L0 D0 N most).1 ≤ 8 * a) (he : (s.nx L0 D0 N most).2 = .error e) : Ends L0 D0 N a most s e s
  | go (s t u : GSt) (e : Nat) (h : s.k ≠ 11) (hp : (s.nx L0 D0 N most).1 ≤ 8 * a) (ht : (s.nx L0 D0 N most).2 = .ok t) (r : Ends L0 D0 N a most t e u) : Ends L0 D0 N a most s e u

variable {L0 D0 : List UInt8} {N a most : Nat}

theorem Ends.det {s u u' : GSt} {e e' : Nat} (h : Ends L0 D0 N a most s e u) (h' : Ends L0 D0 N a most s e' u') : e = e' ∧ u = u' := by
  induction h with
  | done s h => cases h' with
    | done => exact ⟨rfl, rfl⟩
    | short _ h2 => exact absurd h h2
    | bad _ _ h2 => exact absurd h h2
    | go _ _ _ _ h2 => exact absurd h h2
  | short s h hp => cases h' with
    | done _ h2 => exact absurd h2 h
    | short => exact ⟨rfl, rfl⟩
    | bad _ _ _ h2 => omega
    | go _ _ _ _ _ h2 => omega
  | bad s e h hp he => cases h' with
    | done _ h2 => exact absurd h2 h
    | short _ _ h2 => omega
    | bad _ _ _ _ h2 => rw [he] at h2; cases h2; exact ⟨rfl, rfl⟩
    | go _ _ _ _ _ _ h2 => rw [he] at h2; cases h2
  | go s t u e h hp ht r ih => cases h' with
    | done _ h2 => exact absurd h2 h
    | short _ _ h2 => omega
    | bad _ _ _ _ h2 => rw [ht] at h2; cases h2
    | go _ _ _ _ _ _ h2 h3 => rw [ht] at h2; cases h2; exact ih h3

/-- More bytes go on from where it was short. -/
theorem Ends.more {s u v : GSt} {e a' : Nat} (h : Ends L0 D0 N a most s 2 u) (ha : a ≤ a') (h' : Ends L0 D0 N a' most u e v) : Ends L0 D0 N a' most s e v := by
  generalize he : (2 : Nat) = e0 at h
  induction h with
  | done => cases he
  | short => exact h'
  | bad s e h hp h2 => exact h'
  | go s t u e h hp ht r ih => exact .go s t v _ h (by omega) ht (ih h' he)

def GSt.rk (k : Nat) : Nat := if k = 6 ∨ k = 8 ∨ 10 ≤ k then 1 else 0
theorem again_front (far n : Nat) : ∀ out : List UInt8, ∃ x, again out far n = out ++ x := by
  induction n with
  | zero => exact fun out => ⟨[], by simp [again]⟩
  | succ n ih =>
    intro out
    obtain ⟨x, hx⟩ := ih (out ++ [out.getD (out.length - far) 0])
    exact ⟨[out.getD (out.length - far) 0] ++ x, by show again _ far n = _; rw [hx, List.append_assoc]⟩
theorem again_length (far n : Nat) : ∀ out : List UInt8, (again out far n).length = out.length + n := by
  induction n with
  | zero => exact fun out => rfl
  | succ n ih =>
    intro out
    show (again _ far n).length = _
    rw [ih, List.length_append, List.length_singleton]; omega

/-- A step goes on. -/
theorem GSt.nx_on {s t : GSt} (_h : s.k ≠ 11) (hp : (s.nx L0 D0 N most).1 ≤ 8 * a) (ht : (s.nx L0 D0 N most).2 = .ok t) :
    t.p ≤ 8 * a ∧ (s.p < t.p ∨ (s.p = t.p ∧ rk t.k < rk s.k)) ∧ ∃ x, t.out = s.out ++ x := by
  have nil : ∃ x, s.out = s.out ++ x := ⟨[], by simp⟩
  unfold GSt.nx at hp ht
  by_cases h0 : s.k = 0
  · rw [if_pos h0] at hp ht
    simp only at hp ht
    split at ht
    · cases ht; exact ⟨by show (s.p + 10) / 8 * 8 ≤ _; omega, .inl (by show s.p < (s.p + 10) / 8 * 8; omega), nil⟩
    · split at ht
      · cases ht; exact ⟨by show s.p + 3 ≤ _; omega, .inl (by show s.p < s.p + 3; omega), nil⟩
      · split at ht
        · cases ht; exact ⟨by show s.p + 3 ≤ _; omega, .inl (by show s.p < s.p + 3; omega), nil⟩
        · cases ht
  rw [if_neg h0] at hp ht
  by_cases h1 : s.k = 1
  · rw [if_pos h1] at hp ht
    simp only at hp ht
    split at ht
    · cases ht; exact ⟨by show s.p + 32 ≤ _; omega, .inl (by show s.p < s.p + 32; omega), nil⟩
    · cases ht
  rw [if_neg h1] at hp ht
  by_cases h2 : s.k = 2
  · rw [if_pos h2] at hp ht
    simp only at hp ht
    split at ht
    · cases ht; exact ⟨by show s.p + 8 ≤ _; omega, .inl (by show s.p < s.p + 8; omega), _, rfl⟩
    · cases ht
  rw [if_neg h2] at hp ht
  by_cases h3 : s.k = 3
  · rw [if_pos h3] at hp ht
    simp only at hp ht
    split at ht
    · cases ht; exact ⟨by show s.p + 14 ≤ _; omega, .inl (by show s.p < s.p + 14; omega), nil⟩
    · cases ht
  rw [if_neg h3] at hp ht
  by_cases h4 : s.k = 4
  · rw [if_pos h4] at hp ht
    simp only at hp ht
    split at ht
    · cases ht; exact ⟨by show s.p + 3 ≤ _; omega, .inl (by show s.p < s.p + 3; omega), nil⟩
    · split at ht
      · cases ht; exact ⟨by show s.p + 3 ≤ _; omega, .inl (by show s.p < s.p + 3; omega), nil⟩
      · cases ht
  rw [if_neg h4] at hp ht
  have hneed : ∀ l, (huffN l N s.p).2.1 = 0 → needN l N s.p = (huffN l N s.p).2.2 := fun l h => by unfold needN; rw [if_pos h]
  by_cases h5 : s.k = 5
  · rw [if_pos h5] at hp ht
    simp only at hp ht
    split at ht
    · cases ht
    · rename_i hh
      have he : (huffN s.own N s.p).2.1 = 0 := by
        rcases Nat.eq_zero_or_pos (huffN s.own N s.p).2.1 with h | h
        · exact h
        · exact absurd (.inl (by omega)) hh
      have h6 := huffN_pos s.own N s.p he
      rw [hneed _ he] at hp
      cases ht; exact ⟨hp, .inl (by show s.p < s.p + (huffN s.own N s.p).2.2; omega), nil⟩
  rw [if_neg h5] at hp ht
  by_cases h6 : s.k = 6
  · rw [if_pos h6] at hp ht
    simp only at hp ht
    have hr : rk s.k = 1 := by rw [h6]; rfl
    split at ht
    · cases ht
    · split at ht
      · cases ht
        refine ⟨hp, ?_, nil⟩
        show s.p < s.p + repB s.sym ∨ (s.p = s.p + repB s.sym ∧ rk 5 < rk s.k)
        rw [hr]
        rcases Nat.eq_zero_or_pos (repB s.sym) with h | h
        · exact .inr ⟨by omega, by decide⟩
        · exact .inl (by omega)
      · split at ht
        · cases ht
          refine ⟨hp, ?_, nil⟩
          show s.p < s.p + repB s.sym ∨ (s.p = s.p + repB s.sym ∧ rk 7 < rk s.k)
          rw [hr]
          rcases Nat.eq_zero_or_pos (repB s.sym) with h | h
          · exact .inr ⟨by omega, by decide⟩
          · exact .inl (by omega)
        · cases ht
  rw [if_neg h6] at hp ht
  by_cases h7 : s.k = 7
  · rw [if_pos h7] at hp ht
    simp only at hp ht
    split at ht
    · cases ht
    · rename_i hh
      have he : (huffN s.T N s.p).2.1 = 0 := by
        rcases Nat.eq_zero_or_pos (huffN s.T N s.p).2.1 with h | h
        · exact h
        · exact absurd (.inl (by omega)) hh
      have h8 := huffN_pos s.T N s.p he
      rw [hneed _ he] at hp
      have hlt : s.p < s.p + (huffN s.T N s.p).2.2 := by omega
      split at ht
      · split at ht
        · cases ht; exact ⟨hp, .inl hlt, _, rfl⟩
        · cases ht
      · split at ht
        · cases ht; exact ⟨hp, .inl hlt, nil⟩
        · cases ht; exact ⟨hp, .inl hlt, nil⟩
  rw [if_neg h7] at hp ht
  by_cases h8 : s.k = 8
  · rw [if_pos h8] at hp ht
    simp only at hp ht
    cases ht
    refine ⟨hp, ?_, nil⟩
    show s.p < s.p + lenB s.sym ∨ (s.p = s.p + lenB s.sym ∧ rk 9 < rk s.k)
    rw [show rk s.k = 1 by rw [h8]; rfl]
    rcases Nat.eq_zero_or_pos (lenB s.sym) with h | h
    · exact .inr ⟨by omega, by decide⟩
    · exact .inl (by omega)
  rw [if_neg h8] at hp ht
  by_cases h9 : s.k = 9
  · rw [if_pos h9] at hp ht
    simp only at hp ht
    split at ht
    · cases ht
    · rename_i hh
      have he : (huffN s.D N s.p).2.1 = 0 := by
        rcases Nat.eq_zero_or_pos (huffN s.D N s.p).2.1 with h | h
        · exact h
        · exact absurd (.inl (by omega)) hh
      have h10 := huffN_pos s.D N s.p he
      rw [hneed _ he] at hp
      cases ht; exact ⟨hp, .inl (by show s.p < s.p + (huffN s.D N s.p).2.2; omega), nil⟩
  rw [if_neg h9] at hp ht
  simp only at hp ht
  split at ht
  · cases ht
  · split at ht
    · cases ht
    · cases ht
      refine ⟨hp, ?_, again_front _ _ _⟩
      show s.p < s.p + dstB s.sym ∨ (s.p = s.p + dstB s.sym ∧ rk 7 < rk s.k)
      rw [show rk s.k = 1 by unfold rk; rw [if_pos (by omega)]]
      rcases Nat.eq_zero_or_pos (dstB s.sym) with h | h
      · exact .inr ⟨by omega, by decide⟩
      · exact .inl (by omega)

/-- It ends. -/
theorem GSt.ends (L0 D0 : List UInt8) (N a most : Nat) : ∀ (n : Nat) (s : GSt), s.p ≤ 8 * a → 2 * (8 * a - s.p) + rk s.k < n → ∃ e u, Ends L0 D0 N a most s e u
  | 0, s, _, h => absurd h (by omega)
  | n + 1, s, hs, h => by
    by_cases h11 : s.k = 11
    · exact ⟨_, _, .done s h11⟩
    · by_cases hp : (s.nx L0 D0 N most).1 ≤ 8 * a
      · cases ht : (s.nx L0 D0 N most).2 with
        | error e => exact ⟨_, _, .bad s e h11 hp ht⟩
        | ok t =>
          have hon := GSt.nx_on h11 hp ht
          have hr1 : rk t.k ≤ 1 := by unfold rk; split <;> omega
          obtain ⟨e, u, hu⟩ := GSt.ends L0 D0 N a most n t hon.1 (by omega)
          exact ⟨e, u, .go s t u e h11 hp ht hu⟩
      · exact ⟨_, _, .short s h11 (by omega)⟩

theorem Ends.on {s u : GSt} {e : Nat} (h : Ends L0 D0 N a most s e u) (hs : s.p ≤ 8 * a) : s.p ≤ u.p ∧ u.p ≤ 8 * a ∧ ∃ x, u.out = s.out ++ x := by
  induction h with
  | done s h => exact ⟨Nat.le_refl _, hs, [], by simp⟩
  | short s h hp => exact ⟨Nat.le_refl _, hs, [], by simp⟩
  | bad s e h hp he => exact ⟨Nat.le_refl _, hs, [], by simp⟩
  | go s t u e h hp ht r ih =>
    have hon := GSt.nx_on h hp ht
    obtain ⟨h1, h2, x, hx⟩ := ih hon.1
    obtain ⟨y, hy⟩ := hon.2.2
    exact ⟨by omega, h2, y ++ x, by rw [hx, hy, List.append_assoc]⟩
end Go.Proofs.YtopjkmobnmaaaaaDoor

