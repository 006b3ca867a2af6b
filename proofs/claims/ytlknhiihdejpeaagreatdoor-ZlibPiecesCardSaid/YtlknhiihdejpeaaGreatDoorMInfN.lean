/-
  Streams of all kinds, plainly: one step in them, where they end. | Streams of all kinds, plainly: steps one after another, each kind of step by itself; what is read in parts.
-/
import Derived.Test.YtlknhiihdejpeaaGreatDoorMGrow
import Derived.Test.YtlknhiihdejpeaaGreatDoorMFlD
namespace Go.Proofs.YtlknhiihdejpeaaGreatDoor

/-- The next symbol in codes of the lengths l: it, an error (3: none), how many bits it has. -/
def huffN (l : List UInt8) (N p : Nat) : Nat × Nat × Nat := readM l N p 16
/-- How many bits are looked at. -/
def needN (l : List UInt8) (N p : Nat) : Nat := if (huffN l N p).2.1 = 0 then (huffN l N p).2.2 else Lg (cn l) 15

theorem scan_ge (l : List UInt8) (N p : Nat) : ∀ r n, r + n ≤ 16 → (scan l N p 16 r n).2.1 = 0 → n ≤ (scan l N p 16 r n).2.2
  | 0, n, _, h => by simp [scan] at h
  | r + 1, n, hr, h => by
    by_cases hb : bc N p n < Fs (cn l) n + cn l n
    · rw [scan_hit (by omega) hb]; exact Nat.le_refl _
    · rw [scan_next (by omega) hb] at h ⊢
      have := scan_ge l N p r (n + 1) (by omega) h
      omega
theorem scan_left (l : List UInt8) (N p left : Nat) : ∀ r n, n ≤ left + 1 → r + n ≤ 16 →
    scan l N p left r n = if left < (if (scan l N p 16 r n).2.1 = 0 then (scan l N p 16 r n).2.2 else r + n - 1) then (0, 2, 0) else scan l N p 16 r n
  | 0, n, hn, _ => by
    rw [if_neg]
    · rfl
    · simp [scan]; omega
  | r + 1, n, hn, hr => by
    by_cases hl : left < n
    · rw [scan_short hl, if_pos]
      split
      · rename_i h
        have := scan_ge l N p (r + 1) n hr h
        omega
      · omega
    · by_cases hb : bc N p n < Fs (cn l) n + cn l n
      · rw [scan_hit hl hb, scan_hit (by omega) hb, if_neg]
        show ¬ left < (if 0 = 0 then n else r + 1 + n - 1)
        rw [if_pos rfl]; omega
      · rw [scan_next hl hb, scan_next (by omega) hb, scan_left l N p left r (n + 1) (by omega) (by omega), show r + (n + 1) - 1 = r + 1 + n - 1 by omega]
theorem Lg_15 (c : Nat → Nat) : Lg c 15 ≤ 15 := Lg_le c 15
/-- What is read where only some bits are left. -/
theorem readM_left (l : List UInt8) (N p left : Nat) : readM l N p left = if left < needN l N p then (0, 2, 0) else huffN l N p := by
  have h := scan_left l N p left (Lg (cn l) 15) 1 (by omega) (by have := Lg_15 (cn l); omega)
  unfold readM needN huffN
  rw [h]
  unfold readM
  rfl
theorem huffN_err (l : List UInt8) (N p : Nat) : (huffN l N p).2.1 = 0 ∨ huffN l N p = (0, 3, 0) := by
  unfold huffN readM
  have key : ∀ r n, r + n ≤ 16 → (scan l N p 16 r n).2.1 = 0 ∨ scan l N p 16 r n = (0, 3, 0) := by
    intro r
    induction r with
    | zero => intro n _; exact .inr rfl
    | succ r ih =>
      intro n hn
      by_cases hb : bc N p n < Fs (cn l) n + cn l n
      · rw [scan_hit (by omega) hb]; exact .inl rfl
      · rw [scan_next (by omega) hb]; exact ih _ (by omega)
  exact key _ _ (by have := Lg_15 (cn l); omega)
theorem huffN_pos (l : List UInt8) (N p : Nat) (h : (huffN l N p).2.1 = 0) : 0 < (huffN l N p).2.2 := by
  have := scan_ge l N p (Lg (cn l) 15) 1 (by have := Lg_15 (cn l); omega) h
  exact this

/-- Where one stands in a stream (numbers of states as package inflate has them), and what a dynamic block has said by now. -/
structure GSt where
  k : Nat
  last : Bool
  left : Nat
  p : Nat
  out : List UInt8
  T : List UInt8
  D : List UInt8
  nl : Nat
  nd : Nat
  no : Nat
  own : List UInt8
  nOwn : Nat
  sym : Nat
  lens : List UInt8
  len : Nat

/-- What a symbol of the code of lengths says. -/
def repV (s : Nat) (lens : List UInt8) : UInt8 := if s < 16 then UInt8.ofNat s else if s = 16 then lens.getLastD 0 else 0
def rankN : List Nat := [16, 17, 18, 0, 8, 7, 9, 6, 10, 5, 11, 4, 12, 3, 13, 2, 14, 1, 15]
/-- How many bits stand behind a symbol of the code of lengths; how often it is meant at least. -/
def repB (s : Nat) : Nat := if s = 16 then 2 else if s = 17 then 3 else if s = 18 then 7 else 0
def repM (s : Nat) : Nat := if s = 16 ∨ s = 17 then 3 else if s = 18 then 11 else 1
/-- A length's symbol, a distance's: the least, the bits. -/
def lenM (s : Nat) : Nat := if s = 285 then 258 else if s < 265 then s - 254 else 3 + (4 + (s - 257) % 4) * 2 ^ ((s - 257) / 4 - 1)
def lenB (s : Nat) : Nat := if s = 285 ∨ s < 265 then 0 else (s - 257) / 4 - 1
def dstM (s : Nat) : Nat := if s < 4 then 1 + s else 1 + (2 + s % 2) * 2 ^ (s / 2 - 1)
def dstB (s : Nat) : Nat := if s < 4 then 0 else s / 2 - 1
/-- Some bytes from so far back, once more. -/
def again (out : List UInt8) (far : Nat) : Nat → List UInt8
  | 0 => out
  | n + 1 => again (out ++ [out.getD (out.length - far) 0]) far n

/-- One step: up to which bit it looks; what it comes to, or the error. -/
def GSt.nx (L0 D0 : List UInt8) (N most : Nat) (s : GSt) : Nat × Except Nat GSt :=
  if s.k = 0 then
    (s.p + 3, let v := N / 2 ^ s.p % 8
      if v / 2 = 0 then .ok { s with k := 1, last := v % 2 == 1, p := (s.p + 10) / 8 * 8 }
      else if v / 2 = 1 then .ok { s with k := 7, last := v % 2 == 1, p := s.p + 3, T := L0, D := D0 }
      else if v / 2 = 2 then .ok { s with k := 3, last := v % 2 == 1, p := s.p + 3 } else .error 3)
  else if s.k = 1 then
    (s.p + 32, let n := N / 2 ^ s.p % 65536
      if N / 2 ^ (s.p + 16) % 65536 = 65535 - n then .ok { s with k := stK s.last n, left := n, p := s.p + 32 } else .error 3)
  else if s.k = 2 then
    (s.p + 8, if s.out.length < most then .ok { s with k := stK s.last (s.left - 1), left := s.left - 1, p := s.p + 8, out := s.out ++ [UInt8.ofNat (N / 2 ^ s.p)] } else .error 5)
  else if s.k = 3 then
    (s.p + 14, let v := N / 2 ^ s.p % 16384
      if v % 32 ≤ 29 ∧ v / 32 % 32 ≤ 29 then .ok { s with k := 4, p := s.p + 14, nl := 257 + v % 32, nd := 1 + v / 32 % 32, no := 4 + v / 1024, own := List.replicate 19 0, nOwn := 0, lens := [] } else .error 3)
  else if s.k = 4 then
    (s.p + 3, let own := s.own.set (rankN.getD s.nOwn 0) (UInt8.ofNat (N / 2 ^ s.p % 8))
      if s.nOwn + 1 < s.no then .ok { s with p := s.p + 3, own := own, nOwn := s.nOwn + 1 }
      else if mayBe (cn own) = true then .ok { s with k := 5, p := s.p + 3, own := own, nOwn := s.nOwn + 1 } else .error 3)
  else if s.k = 5 then
    (s.p + needN s.own N s.p, let r := huffN s.own N s.p
      if r.2.1 ≠ 0 ∨ (r.1 = 16 ∧ s.lens = []) then .error 3 else .ok { s with k := 6, sym := r.1, p := s.p + r.2.2 })
  else if s.k = 6 then
    (s.p + repB s.sym, let m := repM s.sym + N / 2 ^ s.p % 2 ^ repB s.sym
      let l := s.lens ++ List.replicate m (repV s.sym s.lens)
      if s.nl + s.nd < l.length then .error 3
      else if l.length < s.nl + s.nd then .ok { s with k := 5, p := s.p + repB s.sym, lens := l }
      else if mayBe (cn (l.take s.nl)) = true ∧ mayBe (cn (l.drop s.nl)) = true ∧ ln l 256 ≠ 0 then .ok { s with k := 7, p := s.p + repB s.sym, lens := l, T := l.take s.nl, D := l.drop s.nl } else .error 3)
  else if s.k = 7 then
    (s.p + needN s.T N s.p, let r := huffN s.T N s.p
      if r.2.1 ≠ 0 ∨ 285 < r.1 then .error 3
      else if r.1 < 256 then (if s.out.length < most then .ok { s with p := s.p + r.2.2, out := s.out ++ [UInt8.ofNat r.1] } else .error 5)
      else if r.1 = 256 then .ok { s with k := behindK s.last, p := s.p + r.2.2 }
      else .ok { s with k := 8, sym := r.1, p := s.p + r.2.2 })
  else if s.k = 8 then
    (s.p + lenB s.sym, .ok { s with k := 9, len := lenM s.sym + N / 2 ^ s.p % 2 ^ lenB s.sym, p := s.p + lenB s.sym })
  else if s.k = 9 then
    (s.p + needN s.D N s.p, let r := huffN s.D N s.p
      if r.2.1 ≠ 0 ∨ 29 < r.1 then .error 3 else .ok { s with k := 10, sym := r.1, p := s.p + r.2.2 })
  else
    (s.p + dstB s.sym, let far := dstM s.sym + N / 2 ^ s.p % 2 ^ dstB s.sym
      if s.out.length < far then .error 3
      else if most < s.out.length + s.len then .error 5 else .ok { s with k := 7, p := s.p + dstB s.sym, out := again s.out far s.len })

/-- Where it ends, a bytes being there: the error (0: it is whole), where it stands then. -/
inductive Ends (L0 D0 : List UInt8) (N a most : Nat) : GSt → Nat → GSt → Prop
  | done (s : GSt) (h : s.k = 11) : Ends L0 D0 N a most s 0 s
  | short (s : GSt) (h : s.k ≠ 11) (hp : 8 * a < (s.nx L0 D0 N most).1) : Ends L0 D0 N a most s 2 s
  | bad (s : GSt) (e : Nat) (h : s.k ≠ 11) (hp : (s.nx L0 D0 N most).1 ≤ 8 * a) (he : (s.nx L0 D0 N most).2 = .error e) : Ends L0 D0 N a most s e s
  | go (s t u : GSt) (e : Nat) (h : s.k ≠ 11) (hp : (s.nx L0 D0 N most).1 ≤ 8 * a) (ht : (s.nx L0 D0 N most).2 = .ok t) (r : Ends L0 D0 N a most t e u) : Ends L0 D0 N a most s e u

variable {L0 D0 : List UInt8} {N a most : Nat}

theorem Ends.det {s u u' : GSt} {e e' : Nat} (h : Ends L0 D0 N a most s e u) (h' : Ends L0 D0 N a most s e' u') : e = e' ∧ u = u' := by
  induction h with
  | done s h => cases h' with
    | done => exact ⟨rfl, rfl⟩
    | short _ h2 => exact absurd h h2
    | bad _ _ h2 => exact absurd h h2
    | go _ _ _ _ h2 => exact absurd h h2
  | short s h hp => cases h' with
    | done _ h2 => exact absurd h2 h
    | short => exact ⟨rfl, rfl⟩
    | bad _ _ _ h2 => omega
    | go _ _ _ _ _ h2 => omega
  | bad s e h hp he => cases h' with
    | done _ h2 => exact absurd h2 h
    | short _ _ h2 => omega
    | bad _ _ _ _ h2 => rw [he] at h2; cases h2; exact ⟨rfl, rfl⟩
    | go _ _ _ _ _ _ h2 => rw [he] at h2; cases h2
  | go s t u e h hp ht r ih => cases h' with
    | done _ h2 => exact absurd h2 h
    | short _ _ h2 => omega
    | bad _ _ _ _ h2 => rw [ht] at h2; cases h2
    | go _ _ _ _ _ _ h2 h3 => rw [ht] at h2; cases h2; exact ih h3

/-- More bytes go on from where it was short. -/
theorem Ends.more {s u v : GSt} {e a' : Nat} (h : Ends L0 D0 N a most s 2 u) (ha : a ≤ a') (h' : Ends L0 D0 N a' most u e v) : Ends L0 D0 N a' most s e v := by
  generalize he : (2 : Nat) = e0 at h
  induction h with
  | done => cases he
  | short => exact h'
  | bad s e h hp h2 => exact h'
  | go s t u e h hp ht r ih => exact .go s t v _ h (by omega) ht (ih h' he)

def GSt.rk (k : Nat) : Nat := if k = 6 ∨ k = 8 ∨ 10 ≤ k then 1 else 0
theorem again_front (far n : Nat) : ∀ out : List UInt8, ∃ x, again out far n = out ++ x := by
  induction n with
  | zero => exact fun out => ⟨[], by simp [again]⟩
  | succ n ih =>
    intro out
    obtain ⟨x, hx⟩ := ih (out ++ [out.getD (out.length - far) 0])
    exact ⟨[out.getD (out.length - far) 0] ++ x, by show again _ far n = _; rw [hx, List.append_assoc]⟩
theorem again_length (far n : Nat) : ∀ out : List UInt8, (again out far n).length = out.length + n := by
  induction n with
  | zero => exact fun out => rfl
  | succ n ih =>
    intro out
    show (again _ far n).length = _
    rw [ih, List.length_append, List.length_singleton]; omega

/-- A step goes on. -/
theorem GSt.nx_on {s t : GSt} (_h : s.k ≠ 11) (hp : (s.nx L0 D0 N most).1 ≤ 8 * a) (ht : (s.nx L0 D0 N most).2 = .ok t) :
    t.p ≤ 8 * a ∧ (s.p < t.p ∨ (s.p = t.p ∧ rk t.k < rk s.k)) ∧ ∃ x, t.out = s.out ++ x := by
  have nil : ∃ x, s.out = s.out ++ x := ⟨[], by simp⟩
  unfold GSt.nx at hp ht
  by_cases h0 : s.k = 0
  · rw [if_pos h0] at hp ht
    simp only at hp ht
    split at ht
    · cases ht; exact ⟨by show (s.p + 10) / 8 * 8 ≤ _; omega, .inl (by show s.p < (s.p + 10) / 8 * 8; omega), nil⟩
    · split at ht
      · cases ht; exact ⟨by show s.p + 3 ≤ _; omega, .inl (by show s.p < s.p + 3; omega), nil⟩
      · split at ht
        · cases ht; exact ⟨by show s.p + 3 ≤ _; omega, .inl (by show s.p < s.p + 3; omega), nil⟩
        · cases ht
  rw [if_neg h0] at hp ht
  by_cases h1 : s.k = 1
  · rw [if_pos h1] at hp ht
    simp only at hp ht
    split at ht
    · cases ht; exact ⟨by show s.p + 32 ≤ _; omega, .inl (by show s.p < s.p + 32; omega), nil⟩
    · cases ht
  rw [if_neg h1] at hp ht
  by_cases h2 : s.k = 2
  · rw [if_pos h2] at hp ht
    simp only at hp ht
    split at ht
    · cases ht; exact ⟨by show s.p + 8 ≤ _; omega, .inl (by show s.p < s.p + 8; omega), _, rfl⟩
    · cases ht
  rw [if_neg h2] at hp ht
  by_cases h3 : s.k = 3
  · rw [if_pos h3] at hp ht
    simp only at hp ht
    split at ht
    · cases ht; exact ⟨by show s.p + 14 ≤ _; omega, .inl (by show s.p < s.p + 14; omega), nil⟩
    · cases ht
  rw [if_neg h3] at hp ht
  by_cases h4 : s.k = 4
  · rw [if_pos h4] at hp ht
    simp only at hp ht
    split at ht
    · cases ht; exact ⟨by show s.p + 3 ≤ _; omega, .inl (by show s.p < s.p + 3; omega), nil⟩
    · split at ht
      · cases ht; exact ⟨by show s.p + 3 ≤ _; omega, .inl (by show s.p < s.p + 3; omega), nil⟩
      · cases ht
  rw [if_neg h4] at hp ht
  have hneed : ∀ l, (huffN l N s.p).2.1 = 0 → needN l N s.p = (huffN l N s.p).2.2 := fun l h => by unfold needN; rw [if_pos h]
  by_cases h5 : s.k = 5
  · rw [if_pos h5] at hp ht
    simp only at hp ht
    split at ht
    · cases ht
    · rename_i hh
      have he : (huffN s.own N s.p).2.1 = 0 := by
        rcases Nat.eq_zero_or_pos (huffN s.own N s.p).2.1 with h | h
        · exact h
        · exact absurd (.inl (by omega)) hh
      have h6 := huffN_pos s.own N s.p he
      rw [hneed _ he] at hp
      cases ht; exact ⟨hp, .inl (by show s.p < s.p + (huffN s.own N s.p).2.2; omega), nil⟩
  rw [if_neg h5] at hp ht
  by_cases h6 : s.k = 6
  · rw [if_pos h6] at hp ht
    simp only at hp ht
    have hr : rk s.k = 1 := by rw [h6]; rfl
    split at ht
    · cases ht
    · split at ht
      · cases ht
        refine ⟨hp, ?_, nil⟩
        show s.p < s.p + repB s.sym ∨ (s.p = s.p + repB s.sym ∧ rk 5 < rk s.k)
        rw [hr]
        rcases Nat.eq_zero_or_pos (repB s.sym) with h | h
        · exact .inr ⟨by omega, by decide⟩
        · exact .inl (by omega)
      · split at ht
        · cases ht
          refine ⟨hp, ?_, nil⟩
          show s.p < s.p + repB s.sym ∨ (s.p = s.p + repB s.sym ∧ rk 7 < rk s.k)
          rw [hr]
          rcases Nat.eq_zero_or_pos (repB s.sym) with h | h
          · exact .inr ⟨by omega, by decide⟩
          · exact .inl (by omega)
        · cases ht
  rw [if_neg h6] at hp ht
  by_cases h7 : s.k = 7
  · rw [if_pos h7] at hp ht
    simp only at hp ht
    split at ht
    · cases ht
    · rename_i hh
      have he : (huffN s.T N s.p).2.1 = 0 := by
        rcases Nat.eq_zero_or_pos (huffN s.T N s.p).2.1 with h | h
        · exact h
        · exact absurd (.inl (by omega)) hh
      have h8 := huffN_pos s.T N s.p he
      rw [hneed _ he] at hp
      have hlt : s.p < s.p + (huffN s.T N s.p).2.2 := by omega
      split at ht
      · split at ht
        · cases ht; exact ⟨hp, .inl hlt, _, rfl⟩
        · cases ht
      · split at ht
        · cases ht; exact ⟨hp, .inl hlt, nil⟩
        · cases ht; exact ⟨hp, .inl hlt, nil⟩
  rw [if_neg h7] at hp ht
  by_cases h8 : s.k = 8
  · rw [if_pos h8] at hp ht
    simp only at hp ht
    cases ht
    refine ⟨hp, ?_, nil⟩
    show s.p < s.p + lenB s.sym ∨ (s.p = s.p + lenB s.sym ∧ rk 9 < rk s.k)
    rw [show rk s.k = 1 by rw [h8]; rfl]
    rcases Nat.eq_zero_or_pos (lenB s.sym) with h | h
    · exact .inr ⟨by omega, by decide⟩
    · exact .inl (by omega)
  rw [if_neg h8] at hp ht
  by_cases h9 : s.k = 9
  · rw [if_pos h9] at hp ht
    simp only at hp ht
    split at ht
    · cases ht
    · rename_i hh
      have he : (huffN s.D N s.p).2.1 = 0 := by
        rcases Nat.eq_zero_or_pos (huffN s.D N s.p).2.1 with h | h
        · exact h
        · exact absurd (.inl (by omega)) hh
      have h10 := huffN_pos s.D N s.p he
      rw [hneed _ he] at hp
      cases ht; exact ⟨hp, .inl (by show s.p < s.p + (huffN s.D N s.p).2.2; omega), nil⟩
  rw [if_neg h9] at hp ht
  simp only at hp ht
  split at ht
  · cases ht
  · split at ht
    · cases ht
    · cases ht
      refine ⟨hp, ?_, again_front _ _ _⟩
      show s.p < s.p + dstB s.sym ∨ (s.p = s.p + dstB s.sym ∧ rk 7 < rk s.k)
      rw [show rk s.k = 1 by unfold rk; rw [if_pos (by omega)]]
      rcases Nat.eq_zero_or_pos (dstB s.sym) with h | h
      · exact .inr ⟨by omega, by decide⟩
      · exact .inl (by omega)

/-- It ends. -/
theorem GSt.ends (L0 D0 : List UInt8) (N a most : Nat) : ∀ (n : Nat) (s : GSt), s.p ≤ 8 * a → 2 * (8 * a - s.p) + rk s.k < n → ∃ e u, Ends L0 D0 N a most s e u
  | 0, s, _, h => absurd h (by omega)
  | n + 1, s, hs, h => by
    by_cases h11 : s.k = 11
    · exact ⟨_, _, .done s h11⟩
    · by_cases hp : (s.nx L0 D0 N most).1 ≤ 8 * a
      · cases ht : (s.nx L0 D0 N most).2 with
        | error e => exact ⟨_, _, .bad s e h11 hp ht⟩
        | ok t =>
          have hon := GSt.nx_on h11 hp ht
          have hr1 : rk t.k ≤ 1 := by unfold rk; split <;> omega
          obtain ⟨e, u, hu⟩ := GSt.ends L0 D0 N a most n t hon.1 (by omega)
          exact ⟨e, u, .go s t u e h11 hp ht hu⟩
      · exact ⟨_, _, .short s h11 (by omega)⟩

theorem Ends.on {s u : GSt} {e : Nat} (h : Ends L0 D0 N a most s e u) (hs : s.p ≤ 8 * a) : s.p ≤ u.p ∧ u.p ≤ 8 * a ∧ ∃ x, u.out = s.out ++ x := by
  induction h with
  | done s h => exact ⟨Nat.le_refl _, hs, [], by simp⟩
  | short s h hp => exact ⟨Nat.le_refl _, hs, [], by simp⟩
  | bad s e h hp he => exact ⟨Nat.le_refl _, hs, [], by simp⟩
  | go s t u e h hp ht r ih =>
    have hon := GSt.nx_on h hp ht
    obtain ⟨h1, h2, x, hx⟩ := ih hon.1
    obtain ⟨y, hy⟩ := hon.2.2
    exact ⟨by omega, h2, y ++ x, by rw [hx, hy, List.append_assoc]⟩
end Go.Proofs.YtlknhiihdejpeaaGreatDoor


namespace Go.Proofs.YtlknhiihdejpeaaGreatDoor

variable {L0 D0 : List UInt8} {N a most : Nat}

theorem GSt.nx_0 {s : GSt} (h : s.k = 0) : s.nx L0 D0 N most =
    (s.p + 3, let v := N / 2 ^ s.p % 8
      if v / 2 = 0 then .ok { s with k := 1, last := v % 2 == 1, p := (s.p + 10) / 8 * 8 }
      else if v / 2 = 1 then .ok { s with k := 7, last := v % 2 == 1, p := s.p + 3, T := L0, D := D0 }
      else if v / 2 = 2 then .ok { s with k := 3, last := v % 2 == 1, p := s.p + 3 } else .error 3) := by unfold GSt.nx; rw [if_pos h]
theorem GSt.nx_1 {s : GSt} (h : s.k = 1) : s.nx L0 D0 N most =
    (s.p + 32, let n := N / 2 ^ s.p % 65536
      if N / 2 ^ (s.p + 16) % 65536 = 65535 - n then .ok { s with k := stK s.last n, left := n, p := s.p + 32 } else .error 3) := by unfold GSt.nx; rw [if_neg (by omega), if_pos h]
theorem GSt.nx_2 {s : GSt} (h : s.k = 2) : s.nx L0 D0 N most =
    (s.p + 8, if s.out.length < most then .ok { s with k := stK s.last (s.left - 1), left := s.left - 1, p := s.p + 8, out := s.out ++ [UInt8.ofNat (N / 2 ^ s.p)] } else .error 5) := by unfold GSt.nx; rw [if_neg (by omega), if_neg (by omega), if_pos h]
theorem GSt.nx_3 {s : GSt} (h : s.k = 3) : s.nx L0 D0 N most =
    (s.p + 14, let v := N / 2 ^ s.p % 16384
      if v % 32 ≤ 29 ∧ v / 32 % 32 ≤ 29 then .ok { s with k := 4, p := s.p + 14, nl := 257 + v % 32, nd := 1 + v / 32 % 32, no := 4 + v / 1024, own := List.replicate 19 0, nOwn := 0, lens := [] } else .error 3) := by unfold GSt.nx; rw [if_neg (by omega), if_neg (by omega), if_neg (by omega), if_pos h]
theorem GSt.nx_4 {s : GSt} (h : s.k = 4) : s.nx L0 D0 N most =
    (s.p + 3, let own := s.own.set (rankN.getD s.nOwn 0) (UInt8.ofNat (N / 2 ^ s.p % 8))
      if s.nOwn + 1 < s.no then .ok { s with p := s.p + 3, own := own, nOwn := s.nOwn + 1 }
      else if mayBe (cn own) = true then .ok { s with k := 5, p := s.p + 3, own := own, nOwn := s.nOwn + 1 } else .error 3) := by unfold GSt.nx; rw [if_neg (by omega), if_neg (by omega), if_neg (by omega), if_neg (by omega), if_pos h]
theorem GSt.nx_5 {s : GSt} (h : s.k = 5) : s.nx L0 D0 N most =
    (s.p + needN s.own N s.p, let r := huffN s.own N s.p
      if r.2.1 ≠ 0 ∨ (r.1 = 16 ∧ s.lens = []) then .error 3 else .ok { s with k := 6, sym := r.1, p := s.p + r.2.2 }) := by unfold GSt.nx; rw [if_neg (by omega), if_neg (by omega), if_neg (by omega), if_neg (by omega), if_neg (by omega), if_pos h]
theorem GSt.nx_6 {s : GSt} (h : s.k = 6) : s.nx L0 D0 N most =
    (s.p + repB s.sym, let m := repM s.sym + N / 2 ^ s.p % 2 ^ repB s.sym
      let l := s.lens ++ List.replicate m (repV s.sym s.lens)
      if s.nl + s.nd < l.length then .error 3
      else if l.length < s.nl + s.nd then .ok { s with k := 5, p := s.p + repB s.sym, lens := l }
      else if mayBe (cn (l.take s.nl)) = true ∧ mayBe (cn (l.drop s.nl)) = true ∧ ln l 256 ≠ 0 then .ok { s with k := 7, p := s.p + repB s.sym, lens := l, T := l.take s.nl, D := l.drop s.nl } else .error 3) := by unfold GSt.nx; rw [if_neg (by omega), if_neg (by omega), if_neg (by omega), if_neg (by omega), if_neg (by omega), if_neg (by omega), if_pos h]
theorem GSt.nx_7 {s : GSt} (h : s.k = 7) : s.nx L0 D0 N most =
    (s.p + needN s.T N s.p, let r := huffN s.T N s.p
      if r.2.1 ≠ 0 ∨ 285 < r.1 then .error 3
      else if r.1 < 256 then (if s.out.length < most then .ok { s with p := s.p + r.2.2, out := s.out ++ [UInt8.ofNat r.1] } else .error 5)
      else if r.1 = 256 then .ok { s with k := behindK s.last, p := s.p + r.2.2 }
      else .ok { s with k := 8, sym := r.1, p := s.p + r.2.2 }) := by unfold GSt.nx; rw [if_neg (by omega), if_neg (by omega), if_neg (by omega), if_neg (by omega), if_neg (by omega), if_neg (by omega), if_neg (by omega), if_pos h]
theorem GSt.nx_8 {s : GSt} (h : s.k = 8) : s.nx L0 D0 N most =
    (s.p + lenB s.sym, .ok { s with k := 9, len := lenM s.sym + N / 2 ^ s.p % 2 ^ lenB s.sym, p := s.p + lenB s.sym }) := by unfold GSt.nx; rw [if_neg (by omega), if_neg (by omega), if_neg (by omega), if_neg (by omega), if_neg (by omega), if_neg (by omega), if_neg (by omega), if_neg (by omega), if_pos h]
theorem GSt.nx_9 {s : GSt} (h : s.k = 9) : s.nx L0 D0 N most =
    (s.p + needN s.D N s.p, let r := huffN s.D N s.p
      if r.2.1 ≠ 0 ∨ 29 < r.1 then .error 3 else .ok { s with k := 10, sym := r.1, p := s.p + r.2.2 }) := by unfold GSt.nx; rw [if_neg (by omega), if_neg (by omega), if_neg (by omega), if_neg (by omega), if_neg (by omega), if_neg (by omega), if_neg (by omega), if_neg (by omega), if_neg (by omega), if_pos h]
theorem GSt.nx_10 {s : GSt} (h : 9 < s.k) : s.nx L0 D0 N most =
    (s.p + dstB s.sym, let far := dstM s.sym + N / 2 ^ s.p % 2 ^ dstB s.sym
      if s.out.length < far then .error 3
      else if most < s.out.length + s.len then .error 5 else .ok { s with k := 7, p := s.p + dstB s.sym, out := again s.out far s.len }) := by unfold GSt.nx; rw [if_neg (by omega), if_neg (by omega), if_neg (by omega), if_neg (by omega), if_neg (by omega), if_neg (by omega), if_neg (by omega), if_neg (by omega), if_neg (by omega), if_neg (by omega)]

/-- Steps that are all done. -/
inductive Steps (L0 D0 : List UInt8) (N a most : Nat) : GSt → GSt → Prop
  | refl (s : GSt) : Steps L0 D0 N a most s s
  | go (s t u : GSt) (h : s.k ≠ 11) (hp : (s.nx L0 D0 N most).1 ≤ 8 * a) (ht : (s.nx L0 D0 N most).2 = .ok t) (r : Steps L0 D0 N a most t u) : Steps L0 D0 N a most s u
theorem Steps.trans {s t u : GSt} (h : Steps L0 D0 N a most s t) (h' : Steps L0 D0 N a most t u) : Steps L0 D0 N a most s u := by
  induction h with
  | refl => exact h'
  | go s t u h hp ht r ih => exact .go s t _ h hp ht (ih h')
theorem Steps.one {s t : GSt} {q : Nat} (h : s.k ≠ 11) (hn : s.nx L0 D0 N most = (q, .ok t)) (hq : q ≤ 8 * a) : Steps L0 D0 N a most s t :=
  .go s t t h (by rw [hn]; exact hq) (by rw [hn]) (.refl t)
theorem Steps.snoc {s t u : GSt} {q : Nat} (r : Steps L0 D0 N a most s t) (h : t.k ≠ 11) (hn : t.nx L0 D0 N most = (q, .ok u)) (hq : q ≤ 8 * a) : Steps L0 D0 N a most s u :=
  r.trans (.one h hn hq)
theorem Steps.ends {s t u : GSt} {e : Nat} (h : Steps L0 D0 N a most s t) (h' : Ends L0 D0 N a most t e u) : Ends L0 D0 N a most s e u := by
  induction h with
  | refl => exact h'
  | go s t u h hp ht r ih => exact .go s t _ _ h hp ht (ih h')
theorem Steps.bad {s t : GSt} {q e : Nat} (r : Steps L0 D0 N a most s t) (h : t.k ≠ 11) (hn : t.nx L0 D0 N most = (q, .error e)) (hq : q ≤ 8 * a) : Ends L0 D0 N a most s e t :=
  r.ends (.bad t e h (by rw [hn]; exact hq) (by rw [hn]))
theorem Steps.short {s t : GSt} (r : Steps L0 D0 N a most s t) (h : t.k ≠ 11) (hq : 8 * a < (t.nx L0 D0 N most).1) : Ends L0 D0 N a most s 2 t :=
  r.ends (.short t h hq)
theorem Steps.done {s t : GSt} (r : Steps L0 D0 N a most s t) (h : t.k = 11) : Ends L0 D0 N a most s 0 t := r.ends (.done t h)
/-- Ends says where one comes from a state that is reached. -/
theorem Steps.back {s t u : GSt} {e : Nat} (h : Steps L0 D0 N a most s t) (h' : Ends L0 D0 N a most s e u) : Ends L0 D0 N a most t e u := by
  induction h with
  | refl => exact h'
  | go s t u h hp ht r ih =>
    refine ih ?_
    cases h' with
    | done _ h2 => exact absurd h2 h
    | short _ _ h2 => omega
    | bad _ _ _ _ h2 => rw [ht] at h2; cases h2
    | go _ _ _ _ _ _ h2 h3 => rw [ht] at h2; cases h2; exact h3
theorem Steps.on {s t : GSt} (h : Steps L0 D0 N a most s t) (hs : s.p ≤ 8 * a) : s.p ≤ t.p ∧ t.p ≤ 8 * a ∧ ∃ x, t.out = s.out ++ x := by
  induction h with
  | refl => exact ⟨Nat.le_refl _, hs, [], by simp⟩
  | go s t u h hp ht r ih =>
    have hon := GSt.nx_on h hp ht
    obtain ⟨h1, h2, x, hx⟩ := ih hon.1
    obtain ⟨y, hy⟩ := hon.2.2
    exact ⟨by omega, h2, y ++ x, by rw [hx, hy, List.append_assoc]⟩

/-- A step that is refused says one of two errors. -/
theorem GSt.nx_err {s : GSt} {e : Nat} (h : (s.nx L0 D0 N most).2 = .error e) : e = 3 ∨ e = 5 := by
  by_cases h0 : s.k = 0
  · rw [GSt.nx_0 h0] at h
    dsimp only at h
    repeat' split at h
    all_goals cases h
    all_goals first | exact .inl rfl | exact .inr rfl
  by_cases h1 : s.k = 1
  · rw [GSt.nx_1 h1] at h
    dsimp only at h
    repeat' split at h
    all_goals cases h
    all_goals first | exact .inl rfl | exact .inr rfl
  by_cases h2 : s.k = 2
  · rw [GSt.nx_2 h2] at h
    dsimp only at h
    repeat' split at h
    all_goals cases h
    all_goals first | exact .inl rfl | exact .inr rfl
  by_cases h3 : s.k = 3
  · rw [GSt.nx_3 h3] at h
    dsimp only at h
    repeat' split at h
    all_goals cases h
    all_goals first | exact .inl rfl | exact .inr rfl
  by_cases h4 : s.k = 4
  · rw [GSt.nx_4 h4] at h
    dsimp only at h
    repeat' split at h
    all_goals cases h
    all_goals first | exact .inl rfl | exact .inr rfl
  by_cases h5 : s.k = 5
  · rw [GSt.nx_5 h5] at h
    dsimp only at h
    repeat' split at h
    all_goals cases h
    all_goals first | exact .inl rfl | exact .inr rfl
  by_cases h6 : s.k = 6
  · rw [GSt.nx_6 h6] at h
    dsimp only at h
    repeat' split at h
    all_goals cases h
    all_goals first | exact .inl rfl | exact .inr rfl
  by_cases h7 : s.k = 7
  · rw [GSt.nx_7 h7] at h
    dsimp only at h
    repeat' split at h
    all_goals cases h
    all_goals first | exact .inl rfl | exact .inr rfl
  by_cases h8 : s.k = 8
  · rw [GSt.nx_8 h8] at h
    dsimp only at h
    repeat' split at h
    all_goals cases h
    all_goals first | exact .inl rfl | exact .inr rfl
  by_cases h9 : s.k = 9
  · rw [GSt.nx_9 h9] at h
    dsimp only at h
    repeat' split at h
    all_goals cases h
    all_goals first | exact .inl rfl | exact .inr rfl
  rw [GSt.nx_10 (by omega)] at h
  dsimp only at h
  repeat' split at h
  all_goals cases h
  all_goals first | exact .inl rfl | exact .inr rfl

/-- How it ended: with steps that are all done, and one that is not. -/
theorem Ends.steps {s u : GSt} {e : Nat} (h : Ends L0 D0 N a most s e u) :
    Steps L0 D0 N a most s u ∧ ((e = 0 ∧ u.k = 11) ∨ (u.k ≠ 11 ∧ ((e = 2 ∧ 8 * a < (u.nx L0 D0 N most).1) ∨ ((e = 3 ∨ e = 5) ∧ (u.nx L0 D0 N most).1 ≤ 8 * a ∧ (u.nx L0 D0 N most).2 = .error e)))) := by
  induction h with
  | done s h => exact ⟨.refl s, .inl ⟨rfl, h⟩⟩
  | short s h hp => exact ⟨.refl s, .inr ⟨h, .inl ⟨rfl, hp⟩⟩⟩
  | bad s e h hp he => exact ⟨.refl s, .inr ⟨h, .inr ⟨GSt.nx_err he, hp, he⟩⟩⟩
  | go s t u e h hp ht r ih => exact ⟨.go s t u h hp ht ih.1, ih.2⟩
/-- With more bytes: the steps stay. -/
theorem Steps.wide {s u : GSt} {a' : Nat} (h : Steps L0 D0 N a most s u) (ha : a ≤ a') : Steps L0 D0 N a' most s u := by
  induction h with
  | refl s => exact .refl s
  | go s t u h hp ht r ih => exact .go s t u h (by omega) ht ih
/-- With more bytes: what is no want of bytes stays. -/
theorem Ends.wide {s u : GSt} {e a' : Nat} (h : Ends L0 D0 N a most s e u) (he : e ≠ 2) (ha : a ≤ a') : Ends L0 D0 N a' most s e u := by
  obtain ⟨h1, h2⟩ := h.steps
  refine (h1.wide ha).ends ?_
  rcases h2 with ⟨rfl, hk⟩ | ⟨hk, ⟨h3, _⟩ | ⟨_, hp, h4⟩⟩
  · exact .done u hk
  · exact absurd h3 he
  · exact .bad u e hk (by omega) h4
/-- With more bytes it goes on from where bytes were wanted. -/
theorem Ends.rest {s u v : GSt} {e a' : Nat} (h : Ends L0 D0 N a most s 2 u) (ha : a ≤ a') (h' : Ends L0 D0 N a' most s e v) : Ends L0 D0 N a' most u e v :=
  (h.steps.1.wide ha).back h'
/-- What is out then is a front of all. -/
theorem Ends.front {s u v : GSt} {e e' a' : Nat} (h : Ends L0 D0 N a most s e u) (ha : a ≤ a') (hs : s.p ≤ 8 * a) (h' : Ends L0 D0 N a' most s e' v) : ∃ x, v.out = u.out ++ x := by
  have h1 := (h.steps.1.wide ha).back h'
  exact (h1.on (by have := (h.on hs).2.1; omega)).2.2

/-- One byte more of those from so far back. -/
theorem again_succ (far n : Nat) : ∀ out : List UInt8, again out far (n + 1) = again out far n ++ [(again out far n).getD ((again out far n).length - far) 0] := by
  induction n with
  | zero => exact fun out => rfl
  | succ n ih => exact fun out => ih (out ++ [out.getD (out.length - far) 0])
theorem again_add (far m n : Nat) : ∀ out : List UInt8, again out far (m + n) = again (again out far m) far n := by
  induction m with
  | zero => exact fun out => by rw [Nat.zero_add]; rfl
  | succ m ih => exact fun out => by rw [show m + 1 + n = (m + n) + 1 by omega]; exact ih (out ++ [out.getD (out.length - far) 0])
theorem again_le (far m n : Nat) (out : List UInt8) (h : m ≤ n) : ∃ x, again out far n = again out far m ++ x := by
  rw [show n = m + (n - m) by omega, again_add]
  exact again_front _ _ _

/-- Bits that are read in two parts. -/
theorem bits_parts (N p i j : Nat) : N / 2 ^ p % 2 ^ (i + j) = N / 2 ^ p % 2 ^ i + 2 ^ i * (N / 2 ^ (p + i) % 2 ^ j) := by
  rw [Nat.pow_add, Nat.mod_mul, Nat.div_div_eq_div_mul, ← Nat.pow_add]
theorem bits3 (N p : Nat) : N / 2 ^ p % 8 % 2 = N / 2 ^ p % 2 ∧ N / 2 ^ p % 8 / 2 = N / 2 ^ (p + 1) % 4 := by
  have h := bits_parts N p 1 2
  simp only [show 2 ^ (1 + 2) = 8 from rfl, show 2 ^ 1 = 2 from rfl, show 2 ^ 2 = 4 from rfl] at h
  omega
theorem bits14 (N p : Nat) : N / 2 ^ p % 16384 % 32 = N / 2 ^ p % 32 ∧ N / 2 ^ p % 16384 / 32 % 32 = N / 2 ^ (p + 5) % 32 ∧ N / 2 ^ p % 16384 / 1024 = N / 2 ^ (p + 10) % 16 := by
  have h := bits_parts N p 5 9
  have h2 := bits_parts N (p + 5) 5 4
  simp only [show 2 ^ (5 + 9) = 16384 from rfl, show 2 ^ (5 + 4) = 512 from rfl, show 2 ^ 5 = 32 from rfl, show 2 ^ 4 = 16 from rfl, show p + 5 + 5 = p + 10 by omega] at h h2
  omega
theorem xor16 (x y : Nat) (hx : x < 65536) (_ : y < 65536) : x ^^^ y = 65535 ↔ y = 65535 - x := by
  have h1 : BitVec.ofNat 16 x ^^^ BitVec.allOnes 16 = ~~~ BitVec.ofNat 16 x := BitVec.xor_allOnes
  have h2 := congrArg BitVec.toNat h1
  rw [BitVec.toNat_xor, BitVec.toNat_not, BitVec.toNat_allOnes, BitVec.toNat_ofNat, Nat.mod_eq_of_lt (by omega)] at h2
  have h3 : x ^^^ 65535 = 65535 - x := h2
  constructor
  · intro h
    have : x ^^^ (x ^^^ y) = y := by rw [← Nat.xor_assoc, Nat.xor_self, Nat.zero_xor]
    rw [h] at this; omega
  · intro h
    have : x ^^^ (x ^^^ 65535) = 65535 := by rw [← Nat.xor_assoc, Nat.xor_self, Nat.zero_xor]
    rw [h, ← h3]; exact this
end Go.Proofs.YtlknhiihdejpeaaGreatDoor

