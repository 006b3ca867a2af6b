/-
  Streams of all kinds, plainly: steps one after another, each kind of step by itself; what is read in parts.
-/
import Derived.Test.YtopjkmobnmaaaaaDoorMHufS
namespace Go.Proofs.YtopjkmobnmaaaaaDoor

variable {L0 D0 : List UInt8} {N a most : Nat}

theorem GSt.nx_0 {s : GSt} (h : s.k = 0) : s.nx L0 D0 N most =
    (s.p + 3, let v := N / 2 ^ s.p % 8
      if v / 2 = 0 then .ok { s with k := 1, last := v % 2 == 1, p := (s.p + 10) / 8 * 8 }
      else if v / 2 = 1 then .ok { s with k := 7, last := v % 2 == 1, p := s.p + 3, T := L0, D := D0 }
      else if v / 2 = 2 then .ok { s with k := 3, last := v % 2 == 1, p := s.p + 3 } else .error 3) := by unfold GSt.nx; rw [if_pos h]
theorem GSt.nx_1 {s : GSt} (h : s.k = 1) : s.nx L0 D0 N most =
    (s.p + 32, let n := N / 2 ^ s.p % 65536
      if N / 2 ^ (s.p + 16) % 65536 = 65535 - n then .ok { s with k := stK s.last n, left := n, p := s.p + 32 } else .error 3) := by unfold GSt.nx; rw [if_neg (by omega), if_pos h]
theorem GSt.nx_2 {s : GSt} (h : s.k = 2) : s.nx L0 D0 N most =
    (s.p + 8, if s.out.length < most then .ok { s with k := stK s.last (s.left - 1), left := s.left - 1, p := s.p + 8, out := s.out ++ [UInt8.ofNat (N / 2 ^ s.p)] } else .error 5) := by unfold GSt.nx; rw [if_neg (by omega), if_neg (by omega), if_pos h]
theorem GSt.nx_3 {s : GSt} (h : s.k = 3) : s.nx L0 D0 N most =
    (s.p + 14, let v := N / 2 ^ s.p % 16384
      if v % 32 ≤ 29 ∧ v / 32 % 32 ≤ 29 then .ok { s with k := 4, p := s.p + 14, nl := 257 + v % 32, nd := 1 + v / 32 % 32, no := 4 + v / 1024, own := List.replicate 19 0, nOwn := 0, lens := [] } else .error 3) := by unfold GSt.nx; rw [if_neg (by omega), if_neg (by omega), if_neg (by omega), if_pos h]
theorem GSt.nx_4 {s : GSt} (h : s.k = 4) : s.nx L0 D0 N most =
    (s.p + 3, let own := s.own.set (rankN.getD s.nOwn 0) (UInt8.ofNat (N / 2 ^ s.p % 8))
      if s.nOwn + 1 < s.no then .ok { s with p := s.p + 3, own := own, nOwn := s.nOwn + 1 }
      else if mayBe (cn own) = true then .ok { s with k := 5, p := s.p + 3, own := own, nOwn := s.nOwn + 1 } else .error 3) := by unfold GSt.nx; rw [if_neg (by omega), if_neg (by omega), if_neg (by omega), if_neg (by omega), if_pos h]
theorem GSt.nx_5 {s : GSt} (h : s.k = 5) : s.nx L0 D0 N most =
    (s.p + needN s.own N s.p, let r := huffN s.own N s.p
      if r.2.1 ≠ 0 ∨ (r.1 = 16 ∧ s.lens = []) then .error 3 else .ok { s with k := 6, sym := r.1, p := s.p + r.2.2 }) := by unfold GSt.nx; rw [if_neg (by omega), if_neg (by omega), if_neg (by omega), if_neg (by omega), if_neg (by omega), if_pos h]
theorem GSt.nx_6 {s : GSt} (h : s.k = 6) : s.nx L0 D0 N most =
    (s.p + repB s.sym, let m := repM s.sym + N / 2 ^ s.p % 2 ^ repB s.sym
      let l := s.lens ++ List.replicate m (repV s.sym s.lens)
      if s.nl + s.nd < l.length then .error 3
      else if l.length < s.nl + s.nd then .ok { s with k := 5, p := s.p + repB s.sym, lens := l }
      else if mayBe (cn (l.take s.nl)) = true ∧ mayBe (cn (l.drop s.nl)) = true ∧ ln l 256 ≠ 0 then .ok { s with k := 7, p := s.p + repB s.sym, lens := l, T := l.take s.nl, D := l.drop s.nl } else .error 3) := by unfold GSt.nx; rw [if_neg (by omega), if_neg (by omega), if_neg (by omega), if_neg (by omega), if_neg (by omega), if_neg (by omega), if_pos h]
theorem GSt.nx_7 {s : GSt} (h : s.k = 7) : s.nx L0 D0 N most =
    (s.p + needN s.T N s.p, let r := huffN s.T N s.p
      if r.2.1 ≠ 0 ∨ 285 < r.1 then .error 3
      else if r.1 < 256 then (if s.out.length < most then .ok { s with p := s.p + r.2.2, out := s.out ++ [UInt8.ofNat r.1] } else .error 5)
      else if r.1 = 256 then .ok { s with k := behindK s.last, p := s.p + r.2.2 }
      else .ok { s with k := 8, sym := r.1, p := s.p + r.2.2 }) := by unfold GSt.nx; rw [if_neg (by omega), if_neg (by omega), if_neg (by omega), if_neg (by omega), if_neg (by omega), if_neg (by omega), if_neg (by omega), if_pos h]
theorem GSt.nx_8 {s : GSt} (h : s.k = 8) : s.nx L0 D0 N most =
    (s.p + lenB s.sym, .ok { s with k := 9, len := lenM s.sym + N / 2 ^ s.p % 2 ^ lenB s.sym, p := s.p + lenB s.sym }) := by unfold GSt.nx; rw [if_neg (by omega), if_neg (by omega), if_neg (by omega), if_neg (by omega), if_neg (by omega), if_neg (by omega), if_neg (by omega), if_neg (by omega), if_pos h]
theorem GSt.nx_9 {s : GSt} (h : s.k = 9) : s.nx L0 D0 N most =
    (s.p + needN s.D N s.p, let r := huffN s.D N s.p
      if r.2.1 ≠ 0 ∨ 29 < r.1 then .error 3 else .ok { s with k := 10, sym := r.1, p := s.p + r.2.2 }) := by unfold GSt.nx; rw [if_neg (by omega), if_neg (by omega), if_neg (by omega), if_neg (by omega), if_neg (by omega), if_neg (by omega), if_neg (by omega), if_neg (by omega), if_neg (by omega), if_pos h]
theorem GSt.nx_10 {s : GSt} (h : 9 < s.k) : s.nx L0 D0 N most =
    (s.p + dstB s.sym, let far := dstM s.sym + N / 2 ^ s.p % 2 ^ dstB s.sym
      if s.out.length < far then .error 3
      else if most < s.out.length + s.len then .error 5 else .ok { s with k := 7, p := s.p + dstB s.sym, out := again s.out far s.len }) := by unfold GSt.nx; rw [if_neg (by omega), if_neg (by omega), if_neg (by omega), if_neg (by omega), if_neg (by omega), if_neg (by omega), if_neg (by omega), if_neg (by omega), if_neg (by omega), if_neg (by omega)]

/-- Steps that are all done. -/
inductive Steps (L0 D0 : List UInt8) (N a most : Nat) : GSt → GSt → Prop
  | refl (s : GSt) : Steps L0 D0 N a most s s
  | go (s t u : GSt) (h : s.k ≠ 11) (hp : (s.nx L0 D0 N most).1 ≤ 8 * a) (ht : (s.nx L0 D0 N most).2 = .ok t) (r : Steps L0 D0 N a most t u) : Steps L0 D0 N a most s u
theorem Steps.trans {s t u : GSt} (h : Steps L0 D0 N a most s t) (h' : Steps L0 D0 N a most t u) : Steps L0 D0 N a most s u := by
  induction h with
  | refl => exact h'
  | go s t u h hp ht r ih => exact .go s t _ h hp ht (ih h')
theorem Steps.one {s t : GSt} {q : Nat} (h : s.k ≠ 11) (hn : s.nx L0 D0 N most = (q, .ok t)) (hq : q ≤ 8 * a) : Steps L0 D0 N a most s t :=
  .go s t t h (by rw [hn]; exact hq) (by rw [hn]) (.refl t)
theorem Steps.snoc {s t u : GSt} {q : Nat} (r : Steps L0 D0 N a most s t) (h : t.k ≠ 11) (hn : t.nx L0 D0 N most = (q, .ok u)) (hq : q ≤ 8 * a) : Steps L0 D0 N a most s u :=
  r.trans (.one h hn hq)
theorem Steps.ends {s t u : GSt} {e : Nat} (h : Steps L0 D0 N a most s t) (h' : Ends L0 D0 N a most t e u) : Ends L0 D0 N a most s e u := by
  induction h with
  | refl => exact h'
  | go s t u h hp ht r ih => exact .go s t _ _ h hp ht (ih h')
theorem Steps.bad {s t : GSt} {q e : Nat} (r : Steps L0 D0 N a most s t) (h : t.k ≠ 11) (hn : t.nx L0 D0 N most = (q, .error e)) (hq : q ≤ 8 * a) : Ends L0 D0 N a most s e t :=
  r.ends (.bad t e h (by rw [hn]; exact hq) (by rw [hn]))
theorem Steps.short {s t : GSt} (r : Steps L0 D0 N a most s t) (h : t.k ≠ 11) (hq : 8 * a < (t.nx L0 D0 N most).1) : Ends L0 D0 N a most s 2 t :=
  r.ends (.short t h hq)
theorem Steps.done {s t : GSt} (r : Steps L0 D0 N a most s t) (h : t.k = 11) : Ends L0 D0 N a most s 0 t := r.ends (.done t h)
/-- Ends says where one comes from a state that is reached. -/
theorem Steps.back {s t u : GSt} {e : Nat} (h : Steps L0 D0 N a most s t) (h' : Ends L0 D0 N a most s e u) : Ends L0 D0 N a most t e u := by
  induction h with
  | refl => exact h'
  | go s t u h hp ht r ih =>
    refine ih ?_
    cases h' with
    | done _ h2 => exact absurd h2 h
    | short _ _ h2 => omega
    | bad _ _ _ _ h2 => rw [ht] at h2; cases h2
    | go _ _ _ _ _ _ h2 h3 => rw [ht] at h2; cases h2; exact h3
theorem Steps.on {s t : GSt} (h : Steps L0 D0 N a most s t) (hs : s.p ≤ 8 * a) : s.p ≤ t.p ∧ t.p ≤ 8 * a ∧ ∃ x, t.out = s.out ++ x := by
  induction h with
  | refl => exact ⟨Nat.le_refl _, hs, [], by simp⟩
  | go s t u h hp ht r ih =>
    have hon := GSt.nx_on h hp ht
    obtain ⟨h1, h2, x, hx⟩ := ih hon.1
    obtain ⟨y, hy⟩ := hon.2.2
    exact ⟨by omega, h2, y ++ x, by rw [hx, hy, List.append_assoc]⟩

/-- A step that is refused says one of two errors. -/
theorem GSt.nx_err {s : GSt} {e : Nat} (h : (s.nx L0 D0 N most).2 = .error e) : e = 3 ∨ e = 5 := by
  by_cases h0 : s.k = 0
  · rw [GSt.nx_0 h0] at h
    dsimp only at h
    repeat' split at h
    all_goals cases h
    all_goals first | exact .inl rfl | exact .inr rfl
  by_cases h1 : s.k = 1
  · rw [GSt.nx_1 h1] at h
    dsimp only at h
    repeat' split at h
    all_goals cases h
    all_goals first | exact .inl rfl | exact .inr rfl
  by_cases h2 : s.k = 2
  · rw [GSt.nx_2 h2] at h
    dsimp only at h
    repeat' split at h
    all_goals cases h
    all_goals first | exact .inl rfl | exact .inr rfl
  by_cases h3 : s.k = 3
  · rw [GSt.nx_3 h3] at h
    dsimp only at h
    repeat' split at h
    all_goals cases h
    all_goals first | exact .inl rfl | exact .inr rfl
  by_cases h4 : s.k = 4
  · rw [GSt.nx_4 h4] at h
    dsimp only at h
    repeat' split at h
    all_goals cases h
    all_goals first | exact .inl rfl | exact .inr rfl
  by_cases h5 : s.k = 5
  · rw [GSt.nx_5 h5] at h
    dsimp only at h
    repeat' split at h
    all_goals cases h
    all_goals first | exact .inl rfl | exact .inr rfl
  by_cases h6 : s.k = 6
  · rw [GSt.nx_6 h6] at h
    dsimp only at h
    repeat' split at h
    all_goals cases h
    all_goals first | exact .inl rfl | exact .inr rfl
  by_cases h7 : s.k = 7
  · rw [GSt.nx_7 h7] at h
    dsimp only at h
    repeat' split at h
    all_goals cases h
    all_goals first | exact .inl rfl | exact .inr rfl
  by_cases h8 : s.k = 8
  · rw [GSt.nx_8 h8] at h
    dsimp only at h
    repeat' split at h
    all_goals cases h
    all_goals first | exact .inl rfl | exact .inr rfl
  by_cases h9 : s.k = 9
  · rw [GSt.nx_9 h9] at h
    dsimp only at h
    repeat' split at h
    all_goals cases h
    all_goals first | exact .inl rfl | exact .inr rfl
  rw [GSt.nx_10 (by omega)] at h
  dsimp only at h
  repeat' split at h
  all_goals cases h
  all_goals first | exact .inl rfl | exact .inr rfl

/-- How it ended: with steps that are all done, and one that is not. -/
theorem Ends.steps {s u : GSt} {e : Nat} (h : Ends L0 D0 N a most s e u) :
    Steps L0 D0 N a most s u ∧ ((e = 0 ∧ u.k = 11) ∨ (u.k ≠ 11 ∧ ((e = 2 ∧ 8 * a < (u.nx L0 D0 N most).1) ∨ ((e = 3 ∨ e = 5) ∧ (u.nx L0 D0 N most).1 ≤ 8 * a ∧ (u.nx L0 D0 N most).2 = .error e)))) := by
  induction h with
  | done s h => exact ⟨.refl s, .inl ⟨rfl, h⟩⟩
  | short s h hp => exact ⟨.refl s, .inr ⟨h, .inl ⟨rfl, hp⟩⟩⟩
  | bad s e h hp he => exact ⟨.refl s, .inr ⟨h, .inr ⟨GSt.nx_err he, hp, he⟩⟩⟩
  | go s t u e h hp ht r ih => exact ⟨.go s t u h hp ht ih.1, ih.2⟩
/-- With more bytes: the steps stay. -/
theorem Steps.wide {s u : GSt} {a' : Nat} (h : Steps L0 D0 N a most s u) (ha : a ≤ a') : Steps L0 D0 N a' most s u := by
  induction h with
  | refl s => exact .refl s
  | go s t u h hp ht r ih => exact .go s t u h (by omega) ht ih
/-- With more bytes: what is no want of bytes stays. -/
theorem Ends.wide {s u : GSt} {e a' : Nat} (h : Ends L0 D0 N a most s e u) (he : e ≠ 2) (ha : a ≤ a') : Ends L0 D0 N a' most s e u := by
  obtain ⟨h1, h2⟩ := h.steps
  refine (h1.wide ha).ends ?_
  rcases h2 with ⟨rfl, hk⟩ | ⟨hk, ⟨h3, _⟩ | ⟨_, hp, h4⟩⟩
  · exact .done u hk
  · exact absurd h3 he
  · exact .bad u e hk (by omega) h4
/-- With more bytes it goes on from where bytes were wanted. -/
theorem Ends.rest {s u v : GSt} {e a' : Nat} (h : Ends L0 D0 N a most s 2 u) (ha : a ≤ a') (h' : Ends L0 D0 N a' most s e v) : Ends L0 D0 N a' most u e v :=
  (h.steps.1.wide ha).back h'
/-- What is out then is a front of all. -/
theorem Ends.front {s u v : GSt} {e e' a' : Nat} (h : Ends L0 D0 N a most s e u) (ha : a ≤ a') (hs : s.p ≤ 8 * a) (h' : Ends L0 D0 N a' most s e' v) : ∃ x, v.out = u.out ++ x := by
  have h1 := (h.steps.1.wide ha).back h'
  exact (h1.on (by have := (h.on hs).2.1; omega)).2.2

/-- One byte more of those from so far back. -/
theorem again_succ (far n : Nat) : ∀ out : List UInt8, again out far (n + 1) = again out far n ++ [(again out far n).getD ((again out far n).length - far) 0] := by
  induction n with
  | zero => exact fun out => rfl
  | succ n ih => exact fun out => ih (out ++ [out.getD (out.length - far) 0])
theorem again_add (far m n : Nat) : ∀ out : List UInt8, again out far (m + n) = again (again out far m) far n := by
  induction m with
  | zero => exact fun out => by rw [Nat.zero_add]; rfl
  | succ m ih => exact fun out => by rw [show m + 1 + n = (m + n) + 1 by omega]; exact ih (out ++ [out.getD (out.length - far) 0])
theorem again_le (far m n : Nat) (out : List UInt8) (h : m ≤ n) : ∃ x, again out far n = again out far m ++ x := by
  rw [show n = m + (n - m) by omega, again_add]
  exact again_front _ _ _

/-- Bits that are read in two parts. -/
theorem bits_parts (N p i j : Nat) : N / 2 ^ p % 2 ^ (i + j) = N / 2 ^ p % 2 ^ i + 2 ^ i * (N / 2 ^ (p + i) % 2 ^ j) := by
  rw [Nat.pow_add, Nat.mod_mul, Nat.div_div_eq_div_mul, ← Nat.pow_add]
theorem bits3 (N p : Nat) : N / 2 ^ p % 8 % 2 = N / 2 ^ p % 2 ∧ N / 2 ^ p % 8 / 2 = N / 2 ^ (p + 1) % 4 := by
  have h := bits_parts N p 1 2
  simp only [show 2 ^ (1 + 2) = 8 from rfl, show 2 ^ 1 = 2 from rfl, show 2 ^ 2 = 4 from rfl] at h
  omega
theorem bits14 (N p : Nat) : N / 2 ^ p % 16384 % 32 = N / 2 ^ p % 32 ∧ N / 2 ^ p % 16384 / 32 % 32 = N / 2 ^ (p + 5) % 32 ∧ N / 2 ^ p % 16384 / 1024 = N / 2 ^ (p + 10) % 16 := by
  have h := bits_parts N p 5 9
  have h2 := bits_parts N (p + 5) 5 4
  simp only [show 2 ^ (5 + 9) = 16384 from rfl, show 2 ^ (5 + 4) = 512 from rfl, show 2 ^ 5 = 32 from rfl, show 2 ^ 4 = 16 from rfl, show p + 5 + 5 = p + 10 by omega] at h h2
  omega
theorem xor16 (x y : Nat) (hx : x < 65536) (_ : y < 65536) : x ^^^ y = 65535 ↔ y = 65535 - x := by
  have h1 : BitVec.ofNat 16 x ^^^ BitVec.allOnes 16 = ~~~ BitVec.ofNat 16 x := BitVec.xor_allOnes
  have h2 := congrArg BitVec.toNat h1
  rw [BitVec.toNat_xor, BitVec.toNat_not, BitVec.toNat_allOnes, BitVec.toNat_ofNat, Nat.mod_eq_of_lt (by omega)] at h2
  have h3 : x ^^^ 65535 = 65535 - x := h2
  constructor
  · intro h
    have : x ^^^ (x ^^^ y) = y := by rw [← Nat.xor_assoc, Nat.xor_self, Nat.zero_xor]
    rw [h] at this; omega
  · intro h
    have : x ^^^ (x ^^^ 65535) = 65535 := by rw [← Nat.xor_assoc, Nat.xor_self, Nat.zero_xor]
    rw [h, ← h3]; exact this
end Go.Proofs.YtopjkmobnmaaaaaDoor
