/-
  The document's zlib against the program's: what comes of any bytes is one thing.
-/
import Derived.Test.YtlknhiihdejpeaaGreatDoorMZlT
namespace Go.Proofs.YtlknhiihdejpeaaGreatDoor
open Go Go.RowKit

/-- What Unpack comes to: bytes, how many were taken, the error. -/
def UT (b : List UInt8) (most : Nat) (out : List UInt8) (n c : Nat) : Prop :=
  (c ≠ 0 ∧ out = [] ∧ n = 0 ∧ (UBad b most c ∨ (c = 2 ∧ UShort b most))) ∨ (c = 0 ∧ ∃ t, UGood b most t ∧ out = t.out ∧ n = 2 + ub t + 4)

theorem head_not {b : List UInt8} (h : UHead b) : ¬ mhB (min b.length 2) (wz b 0) (wz b 1) = false := fun h2 => by
  rw [show min b.length 2 = 2 by have := h.1; omega, h.2] at h2
  cases h2
theorem uend_2 {b : List UInt8} {most c : Nat} {t t' : GSt} (h : UEnd b most c t) (h' : UEnd b most 2 t') : c = 2 := (Ends.det h h').1
theorem ubad_short {b : List UInt8} {most c : Nat} (h : UBad b most c) (h' : UShort b most) : False := by
  rcases h with ⟨_, h⟩ | ⟨hh, hc, t, h⟩ | ⟨_, hh, t, h, hl, _⟩
  · rcases h' with ⟨h1, h2⟩ | ⟨hh, _⟩ | ⟨hh, _⟩
    · rw [show min b.length 2 = b.length by omega, h2] at h; cases h
    · exact head_not hh h
    · exact head_not hh h
  · rcases h' with ⟨h1, _⟩ | ⟨_, t', h'⟩ | ⟨_, t', h', _⟩
    · have := hh.1; omega
    · have := (Ends.det h h').1; omega
    · have := (Ends.det h h').1; omega
  · rcases h' with ⟨h1, _⟩ | ⟨_, t', h'⟩ | ⟨_, t', h', hl'⟩
    · have := hh.1; omega
    · have := (Ends.det h h').1; omega
    · obtain rfl := (Ends.det h h').2; omega
theorem ubad_one {b : List UInt8} {most c c' : Nat} (h : UBad b most c) (h' : UBad b most c') : c = c' := by
  rcases h with ⟨hc, h⟩ | ⟨hh, hc, t, h⟩ | ⟨hc, hh, t, h, hl, _⟩
  · rcases h' with ⟨hc', _⟩ | ⟨hh, _⟩ | ⟨_, hh, _⟩
    · omega
    · exact absurd h (head_not hh)
    · exact absurd h (head_not hh)
  · rcases h' with ⟨_, h'⟩ | ⟨_, _, t', h'⟩ | ⟨_, _, t', h', _⟩
    · exact absurd h' (head_not hh)
    · exact (Ends.det h h').1
    · have := (Ends.det h h').1; omega
  · rcases h' with ⟨_, h'⟩ | ⟨_, _, t', h'⟩ | ⟨hc', _⟩
    · exact absurd h' (head_not hh)
    · have := (Ends.det h h').1; omega
    · omega
theorem ugood_not {b : List UInt8} {most c : Nat} {t : GSt} (h : UGood b most t) : ¬ UBad b most c ∧ ¬ UShort b most := by
  obtain ⟨hh, he, hl, hs⟩ := h
  refine ⟨?_, ?_⟩
  · rintro (⟨_, h⟩ | ⟨_, hc, t', h⟩ | ⟨_, _, t', h, _, hn⟩)
    · exact head_not hh h
    · have := (Ends.det he h).1; omega
    · obtain rfl := (Ends.det he h).2; exact hn hs
  · rintro (⟨h, _⟩ | ⟨_, t', h⟩ | ⟨_, t', h, hl'⟩)
    · have := hh.1; omega
    · have := (Ends.det he h).1; omega
    · obtain rfl := (Ends.det he h).2; omega
theorem UT.det {b out out' : List UInt8} {most n n' c c' : Nat} (h : UT b most out n c) (h' : UT b most out' n' c') : out = out' ∧ n = n' ∧ c = c' := by
  rcases h with ⟨h0, rfl, rfl, h⟩ | ⟨rfl, t, h, rfl, rfl⟩
  · rcases h' with ⟨h0', rfl, rfl, h'⟩ | ⟨rfl, t', h', rfl, rfl⟩
    · refine ⟨rfl, rfl, ?_⟩
      rcases h with h | ⟨h2, h⟩ <;> rcases h' with h' | ⟨h2', h'⟩
      · exact ubad_one h h'
      · exact (ubad_short h h').elim
      · exact (ubad_short h' h).elim
      · omega
    · rcases h with h | ⟨_, h⟩
      · exact absurd h (ugood_not h').1
      · exact absurd h (ugood_not (c := 0) h').2
  · rcases h' with ⟨h0', rfl, rfl, h'⟩ | ⟨hc', t', h', rfl, rfl⟩
    · rcases h' with h' | ⟨_, h'⟩
      · exact absurd h' (ugood_not h).1
      · exact absurd h' (ugood_not (c := 0) h).2
    · obtain rfl := (Ends.det h.2.1 h'.2.1).2
      exact ⟨rfl, rfl, hc'.symm⟩

/-- What the document's Front of a stream comes to. -/
def ZF (b : List UInt8) (most : Nat) (out : List UInt8) (n ec : Nat) : Prop :=
  (n = 0 ∧ out = [] ∧ ec = 3 ∧ mhB (min b.length 2) (wz b 0) (wz b 1) = false) ∨
  (n = 0 ∧ out = [] ∧ ec = 2 ∧ b.length < 2 ∧ mhB b.length (wz b 0) (wz b 1) = true) ∨
  (UHead b ∧ n = 0 ∧ ec ≠ 0 ∧ ∃ u x, UEnd b most ec u ∧ out = u.out ++ x) ∨
  (UHead b ∧ ∃ t, UEnd b most 0 t ∧ out = t.out ∧ ((n = 0 ∧ ec = 2 ∧ b.length < 2 + ub t + 4) ∨ (n = 0 ∧ ec = 4 ∧ 2 + ub t + 4 ≤ b.length ∧ (b.drop (2 + ub t)).take 4 ≠ bigN (adWord (adOf t.out))) ∨ (n = 2 + ub t + 4 ∧ ec = 0 ∧ 2 + ub t + 4 ≤ b.length ∧ (b.drop (2 + ub t)).take 4 = bigN (adWord (adOf t.out)))))
theorem ZF.bad {b out : List UInt8} {most n ec : Nat} (h : ZF b most out n ec) (he : ec ≠ 0) : UT b most [] 0 ec := by
  refine .inl ⟨he, rfl, rfl, ?_⟩
  rcases h with ⟨_, _, h3, h⟩ | ⟨_, _, h2, hl, h⟩ | ⟨hh, _, _, u, x, h, _⟩ | ⟨hh, t, h, _, ⟨_, h2, hl⟩ | ⟨_, h4, hl, hs⟩ | ⟨_, h0, _⟩⟩
  · exact .inl (.inl ⟨h3, h⟩)
  · exact .inr ⟨h2, .inl ⟨hl, h⟩⟩
  · rcases h.steps.2 with ⟨h0, _⟩ | ⟨_, ⟨h2, _⟩ | ⟨h35, _⟩⟩
    · exact absurd h0 he
    · subst h2; exact .inr ⟨rfl, .inr (.inl ⟨hh, u, h⟩)⟩
    · exact .inl (.inr (.inl ⟨hh, h35, u, h⟩))
  · exact .inr ⟨h2, .inr (.inr ⟨hh, t, h, hl⟩)⟩
  · exact .inl (.inr (.inr ⟨h4, hh, t, h, hl, hs⟩))
  · exact absurd h0 he
theorem ZF.good {b out : List UInt8} {most n : Nat} (h : ZF b most out n 0) : UT b most out n 0 := by
  refine .inr ⟨rfl, ?_⟩
  rcases h with ⟨_, _, h3, _⟩ | ⟨_, _, h2, _⟩ | ⟨_, _, h0, _⟩ | ⟨hh, t, h, ho, ⟨_, h2, _⟩ | ⟨_, h4, _⟩ | ⟨hn, _, hl, hs⟩⟩
  · omega
  · omega
  · omega
  · omega
  · omega
  · exact ⟨t, ⟨hh, h, hl, hs⟩, ho, hn⟩
/-- What Unpack tells, as bytes and numbers. -/
theorem Unp.ut {b : List UInt8} {most : Nat} {w w' : World} {e : Ending} (h : Unp b most w e w') :
    ∃ (v : Value) (out : List UInt8) (n c : Nat), e = .returned (.tuple #[v, .int .i64 (n : Int), .int .i64 (c : Int)]) ∧ Only [] w w' ∧ w'.ownsRow 0 5 1 v out.length (bvals out) ∧ UT b most out n c := by
  obtain ⟨ho, ⟨c, hc, hb, rfl⟩ | ⟨hs, rfl⟩ | ⟨t, v, hg, rfl, how⟩⟩ := h
  · exact ⟨_, [], 0, c, rfl, ho, ⟨rfl, .inl ⟨rfl, rfl⟩⟩, .inl ⟨hc, rfl, rfl, .inl hb⟩⟩
  · exact ⟨_, [], 0, 2, rfl, ho, ⟨rfl, .inl ⟨rfl, rfl⟩⟩, .inl ⟨by decide, rfl, rfl, .inr ⟨rfl, hs⟩⟩⟩
  · exact ⟨v, t.out, _, 0, rfl, ho, how, .inr ⟨rfl, t, hg, rfl, rfl⟩⟩
end Go.Proofs.YtlknhiihdejpeaaGreatDoor

