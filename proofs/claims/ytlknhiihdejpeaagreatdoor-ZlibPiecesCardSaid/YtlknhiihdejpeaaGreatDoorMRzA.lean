/-
  The document's zlib against the program's: what comes of any bytes is one thing. | Package zlib, in pieces: where a decoder stands between two Writes; what that says of the whole stream.
-/
import Derived.Test.YtlknhiihdejpeaaGreatDoorMZlT
import Derived.Test.YtlknhiihdejpeaaGreatDoorMZlH
namespace Go.Proofs.YtlknhiihdejpeaaGreatDoor
open Go Go.RowKit

/-- What Unpack comes to: bytes, how many were taken, the error. -/
def UT (b : List UInt8) (most : Nat) (out : List UInt8) (n c : Nat) : Prop :=
  (c ≠ 0 ∧ out = [] ∧ n = 0 ∧ (UBad b most c ∨ (c = 2 ∧ UShort b most))) ∨ (c = 0 ∧ ∃ t, UGood b most t ∧ out = t.out ∧ n = 2 + ub t + 4)

theorem head_not {b : List UInt8} (h : UHead b) : ¬ mhB (min b.length 2) (wz b 0) (wz b 1) = false := fun h2 => by
  rw [show min b.length 2 = 2 by have := h.1; omega, h.2] at h2
  cases h2
theorem uend_2 {b : List UInt8} {most c : Nat} {t t' : GSt} (h : UEnd b most c t) (h' : UEnd b most 2 t') : c = 2 := (Ends.det h h').1
theorem ubad_short {b : List UInt8} {most c : Nat} (h : UBad b most c) (h' : UShort b most) : False := by
  rcases h with ⟨_, h⟩ | ⟨hh, hc, t, h⟩ | ⟨_, hh, t, h, hl, _⟩
  · rcases h' with ⟨h1, h2⟩ | ⟨hh, _⟩ | ⟨hh, _⟩
    · rw [show min b.length 2 = b.length by omega, h2] at h; cases h
    · exact head_not hh h
    · exact head_not hh h
  · rcases h' with ⟨h1, _⟩ | ⟨_, t', h'⟩ | ⟨_, t', h', _⟩
    · have := hh.1; omega
    · have := (Ends.det h h').1; omega
    · have := (Ends.det h h').1; omega
  · rcases h' with ⟨h1, _⟩ | ⟨_, t', h'⟩ | ⟨_, t', h', hl'⟩
    · have := hh.1; omega
    · have := (Ends.det h h').1; omega
    · obtain rfl := (Ends.det h h').2; omega
theorem ubad_one {b : List UInt8} {most c c' : Nat} (h : UBad b most c) (h' : UBad b most c') : c = c' := by
  rcases h with ⟨hc, h⟩ | ⟨hh, hc, t, h⟩ | ⟨hc, hh, t, h, hl, _⟩
  · rcases h' with ⟨hc', _⟩ | ⟨hh, _⟩ | ⟨_, hh, _⟩
    · omega
    · exact absurd h (head_not hh)
    · exact absurd h (head_not hh)
  · rcases h' with ⟨_, h'⟩ | ⟨_, _, t', h'⟩ | ⟨_, _, t', h', _⟩
    · exact absurd h' (head_not hh)
    · exact (Ends.det h h').1
    · have := (Ends.det h h').1; omega
  · rcases h' with ⟨_, h'⟩ | ⟨_, _, t', h'⟩ | ⟨hc', _⟩
    · exact absurd h' (head_not hh)
    · have := (Ends.det h h').1; omega
    · omega
theorem ugood_not {b : List UInt8} {most c : Nat} {t : GSt} (h : UGood b most t) : ¬ UBad b most c ∧ ¬ UShort b most := by
  obtain ⟨hh, he, hl, hs⟩ := h
  refine ⟨?_, ?_⟩
  · rintro (⟨_, h⟩ | ⟨_, hc, t', h⟩ | ⟨_, _, t', h, _, hn⟩)
    · exact head_not hh h
    · have := (Ends.det he h).1; omega
    · obtain rfl := (Ends.det he h).2; exact hn hs
  · rintro (⟨h, _⟩ | ⟨_, t', h⟩ | ⟨_, t', h, hl'⟩)
    · have := hh.1; omega
    · have := (Ends.det he h).1; omega
    · obtain rfl := (Ends.det he h).2; omega
theorem UT.det {b out out' : List UInt8} {most n n' c c' : Nat} (h : UT b most out n c) (h' : UT b most out' n' c') : out = out' ∧ n = n' ∧ c = c' := by
  rcases h with ⟨h0, rfl, rfl, h⟩ | ⟨rfl, t, h, rfl, rfl⟩
  · rcases h' with ⟨h0', rfl, rfl, h'⟩ | ⟨rfl, t', h', rfl, rfl⟩
    · refine ⟨rfl, rfl, ?_⟩
      rcases h with h | ⟨h2, h⟩ <;> rcases h' with h' | ⟨h2', h'⟩
      · exact ubad_one h h'
      · exact (ubad_short h h').elim
      · exact (ubad_short h' h).elim
      · omega
    · rcases h with h | ⟨_, h⟩
      · exact absurd h (ugood_not h').1
      · exact absurd h (ugood_not (c := 0) h').2
  · rcases h' with ⟨h0', rfl, rfl, h'⟩ | ⟨hc', t', h', rfl, rfl⟩
    · rcases h' with h' | ⟨_, h'⟩
      · exact absurd h' (ugood_not h).1
      · exact absurd h' (ugood_not (c := 0) h).2
    · obtain rfl := (Ends.det h.2.1 h'.2.1).2
      exact ⟨rfl, rfl, hc'.symm⟩

/-- What the document's Front of a stream comes to. -/
def ZF (b : List UInt8) (most : Nat) (out : List UInt8) (n ec : Nat) : Prop :=
  (n = 0 ∧ out = [] ∧ ec = 3 ∧ mhB (min b.length 2) (wz b 0) (wz b 1) = false) ∨
  (n = 0 ∧ out = [] ∧ ec = 2 ∧ b.length < 2 ∧ mhB b.length (wz b 0) (wz b 1) = true) ∨
  (UHead b ∧ n = 0 ∧ ec ≠ 0 ∧ ∃ u x, UEnd b most ec u ∧ out = u.out ++ x) ∨
  (UHead b ∧ ∃ t, UEnd b most 0 t ∧ out = t.out ∧ ((n = 0 ∧ ec = 2 ∧ b.length < 2 + ub t + 4) ∨ (n = 0 ∧ ec = 4 ∧ 2 + ub t + 4 ≤ b.length ∧ (b.drop (2 + ub t)).take 4 ≠ bigN (adWord (adOf t.out))) ∨ (n = 2 + ub t + 4 ∧ ec = 0 ∧ 2 + ub t + 4 ≤ b.length ∧ (b.drop (2 + ub t)).take 4 = bigN (adWord (adOf t.out)))))
theorem ZF.bad {b out : List UInt8} {most n ec : Nat} (h : ZF b most out n ec) (he : ec ≠ 0) : UT b most [] 0 ec := by
  refine .inl ⟨he, rfl, rfl, ?_⟩
  rcases h with ⟨_, _, h3, h⟩ | ⟨_, _, h2, hl, h⟩ | ⟨hh, _, _, u, x, h, _⟩ | ⟨hh, t, h, _, ⟨_, h2, hl⟩ | ⟨_, h4, hl, hs⟩ | ⟨_, h0, _⟩⟩
  · exact .inl (.inl ⟨h3, h⟩)
  · exact .inr ⟨h2, .inl ⟨hl, h⟩⟩
  · rcases h.steps.2 with ⟨h0, _⟩ | ⟨_, ⟨h2, _⟩ | ⟨h35, _⟩⟩
    · exact absurd h0 he
    · subst h2; exact .inr ⟨rfl, .inr (.inl ⟨hh, u, h⟩)⟩
    · exact .inl (.inr (.inl ⟨hh, h35, u, h⟩))
  · exact .inr ⟨h2, .inr (.inr ⟨hh, t, h, hl⟩)⟩
  · exact .inl (.inr (.inr ⟨h4, hh, t, h, hl, hs⟩))
  · exact absurd h0 he
theorem ZF.good {b out : List UInt8} {most n : Nat} (h : ZF b most out n 0) : UT b most out n 0 := by
  refine .inr ⟨rfl, ?_⟩
  rcases h with ⟨_, _, h3, _⟩ | ⟨_, _, h2, _⟩ | ⟨_, _, h0, _⟩ | ⟨hh, t, h, ho, ⟨_, h2, _⟩ | ⟨_, h4, _⟩ | ⟨hn, _, hl, hs⟩⟩
  · omega
  · omega
  · omega
  · omega
  · omega
  · exact ⟨t, ⟨hh, h, hl, hs⟩, ho, hn⟩
/-- What Unpack tells, as bytes and numbers. -/
theorem Unp.ut {b : List UInt8} {most : Nat} {w w' : World} {e : Ending} (h : Unp b most w e w') :
    ∃ (v : Value) (out : List UInt8) (n c : Nat), e = .returned (.tuple #[v, .int .i64 (n : Int), .int .i64 (c : Int)]) ∧ Only [] w w' ∧ w'.ownsRow 0 5 1 v out.length (bvals out) ∧ UT b most out n c := by
  obtain ⟨ho, ⟨c, hc, hb, rfl⟩ | ⟨hs, rfl⟩ | ⟨t, v, hg, rfl, how⟩⟩ := h
  · exact ⟨_, [], 0, c, rfl, ho, ⟨rfl, .inl ⟨rfl, rfl⟩⟩, .inl ⟨hc, rfl, rfl, .inl hb⟩⟩
  · exact ⟨_, [], 0, 2, rfl, ho, ⟨rfl, .inl ⟨rfl, rfl⟩⟩, .inl ⟨by decide, rfl, rfl, .inr ⟨rfl, hs⟩⟩⟩
  · exact ⟨v, t.out, _, 0, rfl, ho, how, .inr ⟨rfl, t, hg, rfl, rfl⟩⟩
end Go.Proofs.YtlknhiihdejpeaaGreatDoor


namespace Go.Proofs.YtlknhiihdejpeaaGreatDoor
open Go Go.RowKit

/-- The document's Front ends with this error. -/
def Bad (b : List UInt8) (most c : Nat) : Prop := ∀ out n ec, ZF b most out n ec → ec = c
/-- What it tells begins so. -/
def Fro (b : List UInt8) (most : Nat) (o : List UInt8) : Prop := ∀ out n ec, ZF b most out n ec → ∃ x, out = o ++ x

theorem mhB_more {n n' x y : Nat} (h0 : 0 < n) (h : n ≤ n') (hn : n' ≤ 2) (hm : mhB n x y = false) : mhB n' x y = false := by
  rcases (show n = 1 ∨ n = 2 by omega) with rfl | rfl
  · rcases (show n' = 1 ∨ n' = 2 by omega) with rfl | rfl
    · exact hm
    · unfold mhB at *
      cases h1 : (decide (x % 16 = 8) && decide (x / 16 ≤ 7)) with
      | false => simp
      | true => rw [h1] at hm; simp at hm
  · obtain rfl : n' = 2 := by omega
    exact hm
theorem bad_head {b : List UInt8} {most a : Nat} (ha : 0 < a) (ha2 : a ≤ 2) (hab : a ≤ b.length) (hm : mhB a (wz b 0) (wz b 1) = false) : Bad b most 3 := by
  intro out n ec h
  have h2 := mhB_more ha (show a ≤ min b.length 2 by omega) (by omega) hm
  rcases h with ⟨_, _, h3, _⟩ | ⟨_, _, _, hl, h⟩ | ⟨hh, _⟩ | ⟨hh, _⟩
  · exact h3
  · rw [show min b.length 2 = b.length by omega, h] at h2; cases h2
  · exact absurd h2 (head_not hh)
  · exact absurd h2 (head_not hh)
theorem bad_body {b : List UInt8} {most c : Nat} {t : GSt} (hh : UHead b) (hc : c = 3 ∨ c = 5) (h : UEnd b most c t) : Bad b most c := by
  intro out n ec hz
  rcases hz with ⟨_, _, _, h'⟩ | ⟨_, _, _, hl, _⟩ | ⟨_, _, _, u, x, h', _⟩ | ⟨_, u, h', _⟩
  · exact absurd h' (head_not hh)
  · have := hh.1; omega
  · exact (Ends.det h' h).1
  · have := (Ends.det h' h).1; omega
theorem bad_sum {b : List UInt8} {most : Nat} {t : GSt} (hh : UHead b) (h : UEnd b most 0 t) (hl : 2 + ub t + 4 ≤ b.length) (hs : (b.drop (2 + ub t)).take 4 ≠ bigN (adWord (adOf t.out))) : Bad b most 4 := by
  intro out n ec hz
  rcases hz with ⟨_, _, _, h'⟩ | ⟨_, _, _, hl', _⟩ | ⟨_, _, h0, u, x, h', _⟩ | ⟨_, u, h', _, ⟨_, _, hl'⟩ | ⟨_, h4, _⟩ | ⟨_, _, _, hs'⟩⟩
  · exact absurd h' (head_not hh)
  · have := hh.1; omega
  · exact absurd (Ends.det h' h).1 h0
  · obtain rfl := (Ends.det h' h).2; omega
  · exact h4
  · obtain rfl := (Ends.det h' h).2; exact absurd hs' hs
theorem fro_nil (b : List UInt8) (most : Nat) : Fro b most [] := fun out _ _ _ => ⟨out, rfl⟩
theorem fro_body {b : List UInt8} {most a : Nat} {s : GSt} (hh : UHead b) (ha : a ≤ b.length - 2) (h : End (b.drop 2) a most st0 2 s) : Fro b most s.out := by
  intro out n ec hz
  rcases hz with ⟨_, _, _, h'⟩ | ⟨_, _, _, hl', _⟩ | ⟨_, _, _, u, x, h', rfl⟩ | ⟨_, u, h', rfl, _⟩
  · exact absurd h' (head_not hh)
  · have := hh.1; omega
  · obtain ⟨y, hy⟩ := h.front ha (Nat.zero_le _) h'
    exact ⟨y ++ x, by rw [hy, List.append_assoc]⟩
  · exact h.front ha (Nat.zero_le _) h'
theorem fro_whole {b : List UInt8} {most : Nat} {t : GSt} (hh : UHead b) (h : UEnd b most 0 t) : Fro b most t.out := by
  intro out n ec hz
  rcases hz with ⟨_, _, _, h'⟩ | ⟨_, _, _, hl', _⟩ | ⟨_, _, h0, u, x, h', rfl⟩ | ⟨_, u, h', rfl, _⟩
  · exact absurd h' (head_not hh)
  · have := hh.1; omega
  · exact absurd (Ends.det h' h).1 h0
  · obtain rfl := (Ends.det h' h).2; exact ⟨[], by simp⟩

/-- Some bytes of b, from p on; they lie ahead of W0. -/
structure SL (b : List UInt8) (W0 : Nat) (w : World) (A : Option Addr) (n cb p : Nat) : Prop where
  holds : Holds w 1 A n (bvals ((b.drop p).take n))
  cap : n ≤ cb
  le : p + n ≤ b.length
  nil : A = none → cb = 0
  blk : 0 < n → ∀ ad, A = some ad → ad.block < W0
theorem SL.keep {b : List UInt8} {W0 : Nat} {w w' : World} {A : Option Addr} {n cb p : Nat} {S : List Nat} (h : SL b W0 w A n cb p) (ho : Only S w w') (hS : ∀ k ∈ S, W0 ≤ k) : SL b W0 w' A n cb p :=
  ⟨h.holds.keepPos ho (fun h0 ad ha _ hm => by have := hS _ hm; have := h.blk h0 ad ha; omega), h.cap, h.le, h.nil, h.blk⟩
theorem SL.len {b : List UInt8} {W0 : Nat} {w : World} {A : Option Addr} {n cb p : Nat} (h : SL b W0 w A n cb p) : ((b.drop p).take n).length = n := by
  have := h.le
  rw [List.length_take, List.length_drop]; omega

/-- A decoder's own blocks: made since W0, apart. -/
structure Fx (W0 g gw gt : Nat) : Prop where
  lg : W0 ≤ g
  lw : W0 ≤ gw
  lt : W0 ≤ gt
  ne1 : g ≠ gw
  ne2 : g ≠ gt
  ne3 : gw ≠ gt
  lG : ∀ k ∈ Gs, k < W0
/-- What a Write may change. -/
def Frm (W0 g gw gt : Nat) (w w' : World) : Prop := ∃ ga, W0 ≤ ga ∧ Only [g, gw, gt, ga] w w' ∧ (w.heap.size ≤ ga ∨ ∃ cs, Has w ga 90 cs)

/-- Of the head some bytes have come. -/
structure ZHead (b : List UInt8) (most g gw gt : Nat) (w : World) (a : Nat) (wb : List UInt8) : Prop where
  lt : a < 2
  le : a ≤ b.length
  wl : wb.length = 4
  wt : wb.take a = b.take a
  mh : mhB a (wz b 0) (wz b 1) = true
  dec : Dc w g (fz most gw gt (tailZ .nilIface 0 wb a))
  ring : Rg w gw []
  wts : w.ownsRow 0 5 1 (.slice (some ⟨gt, 0, none⟩) 0 4) 0 []
  tab : Tab w
/-- Of the body some bytes have come. -/
structure ZBody (b : List UInt8) (most W0 g gw gt : Nat) (w : World) (a : Nat) (f : DF) (s : GSt) (ga : Nat) (wb : List UInt8) (oo : Nat) : Prop where
  ge : 2 ≤ a
  le : a ≤ b.length
  head : UHead b
  rest : Rest w g gw gt f (b.drop 2) (a - 2) oo s
  z : f.z = true
  mo : f.most = most
  tail : f.tail = tailZ (ifA ga) 1 wb 0
  wl : wb.length = 4
  ad : Adl w ga s.out
  gge : W0 ≤ ga
  ends : End (b.drop 2) (a - 2) most st0 2 s
  used : f.used = a - 2
  total : f.total = s.out.length
/-- The room of a decoder. -/
def Roomy (gw gt : Nat) (f : DF) : Prop := f.wb = .slice (some ⟨gw, 0, none⟩) 32768 32768 ∧ ∃ z, f.wt = .slice (some ⟨gt, 0, none⟩) z 4
/-- Of the sum some bytes have come. -/
structure ZSum (b : List UInt8) (most W0 g gw gt : Nat) (w : World) (a : Nat) (f : DF) (t : GSt) (ga : Nat) (wb : List UInt8) (k : Nat) : Prop where
  head : UHead b
  ends : UEnd b most 0 t
  k4 : k < 4
  at_ : a = 2 + ub t + k
  le : a ≤ b.length
  wl : wb.length = 4
  wt : wb.take k = (b.drop (2 + ub t)).take k
  dec : Dc w g f
  tail : f.tail = tailZ (ifA ga) 2 wb k
  ad : Adl w ga t.out
  gge : W0 ≤ ga
  room : Roomy gw gt f
/-- All has come. -/
structure ZDone (b : List UInt8) (most g gw gt : Nat) (w : World) (a : Nat) (f : DF) (t : GSt) (sm : Value) (wb : List UInt8) (k : Nat) : Prop where
  head : UHead b
  ends : UEnd b most 0 t
  ge : 2 + ub t + 4 ≤ a
  le : a ≤ b.length
  sum : (b.drop (2 + ub t)).take 4 = bigN (adWord (adOf t.out))
  wl : wb.length = 4
  dec : Dc w g f
  tail : f.tail = tailZ sm 3 wb k
  room : Roomy gw gt f
/-- Where a decoder stands that was handed a bytes of b, and told o. -/
def ZS (b : List UInt8) (most W0 g gw gt : Nat) (w : World) (a : Nat) (o : List UInt8) : Prop :=
  (∃ wb, ZHead b most g gw gt w a wb ∧ o = []) ∨ (∃ f s ga wb oo, ZBody b most W0 g gw gt w a f s ga wb oo ∧ o = s.out) ∨
  (∃ f t ga wb k, ZSum b most W0 g gw gt w a f t ga wb k ∧ o = t.out) ∨ (∃ f t sm wb k, ZDone b most g gw gt w a f t sm wb k ∧ o = t.out)
/-- Where it stands behind an error. -/
def ZE (W0 g gw gt : Nat) (w : World) (c : Nat) : Prop :=
  (c = 3 ∧ ∃ f wb k, Dc w g f ∧ f.tail = tailZ .nilIface 0 wb k ∧ wb.length = 4 ∧ 0 < k ∧ k ≤ 2 ∧ mhB k (wz wb 0) (wz wb 1) = false ∧ Roomy gw gt f) ∨
  ((c = 3 ∨ c = 5) ∧ ∃ f sm wb, Dc w g f ∧ f.tail = tailZ sm 1 wb 0 ∧ wb.length = 4 ∧ f.fault = c ∧ f.k ≠ 11 ∧ Roomy gw gt f) ∨
  (c = 4 ∧ ∃ f ga wb l, Dc w g f ∧ f.tail = tailZ (ifA ga) 2 wb 4 ∧ wb.length = 4 ∧ Adl w ga l ∧ W0 ≤ ga ∧ wb ≠ bigN (adWord (adOf l)) ∧ Roomy gw gt f)

theorem ZS.fro {b : List UInt8} {most W0 g gw gt : Nat} {w : World} {a : Nat} {o : List UInt8} (h : ZS b most W0 g gw gt w a o) : Fro b most o := by
  rcases h with ⟨_, _, rfl⟩ | ⟨_, _, _, _, _, h, rfl⟩ | ⟨_, _, _, _, _, h, rfl⟩ | ⟨_, _, _, _, _, h, rfl⟩
  · exact fro_nil _ _
  · exact fro_body h.head (by have := h.le; omega) h.ends
  · exact fro_whole h.head h.ends
  · exact fro_whole h.head h.ends
/-- All bytes have come: it is at its end, and told all, or they are too few. -/
theorem ZS.fin {b : List UInt8} {most W0 g gw gt : Nat} {w : World} {o : List UInt8} (h : ZS b most W0 g gw gt w b.length o) {out : List UInt8} {n ec : Nat} (hz : ZF b most out n ec) :
    (ec = 0 ∧ out = o ∧ ∃ f sm wb k, Dc w g f ∧ f.tail = tailZ sm 3 wb k) ∨ (ec = 2 ∧ ∃ f sm part wb k, Dc w g f ∧ f.tail = tailZ sm part wb k ∧ part ≠ 3) := by
  rcases h with ⟨wb, h, rfl⟩ | ⟨f, s, ga, wb, oo, h, rfl⟩ | ⟨f, t, ga, wb, k, h, rfl⟩ | ⟨f, t, sm, wb, k, h, rfl⟩
  · refine .inr ⟨?_, _, _, _, _, _, h.dec, rfl, by decide⟩
    have hl := h.lt
    have hm := h.mh
    rcases hz with ⟨_, _, _, h'⟩ | ⟨_, _, h2, _⟩ | ⟨hh, _⟩ | ⟨hh, _⟩
    · rw [show min b.length 2 = b.length by omega, hm] at h'; cases h'
    · exact h2
    · have := hh.1; omega
    · have := hh.1; omega
  · refine .inr ⟨?_, f, _, 1, wb, 0, h.rest.dec, h.tail, by decide⟩
    rcases hz with ⟨_, _, _, h'⟩ | ⟨_, _, _, hl', _⟩ | ⟨_, _, h0, u, x, h', _⟩ | ⟨_, u, h', _⟩
    · exact absurd h' (head_not h.head)
    · have := h.head.1; omega
    · exact (Ends.det h' h.ends).1
    · have := (Ends.det h' h.ends).1; omega
  · refine .inr ⟨?_, f, _, 2, wb, k, h.dec, h.tail, by decide⟩
    have hk := h.k4
    have ha := h.at_
    rcases hz with ⟨_, _, _, h'⟩ | ⟨_, _, _, hl', _⟩ | ⟨_, _, h0, u, x, h', _⟩ | ⟨_, u, h', _, ⟨_, h2, _⟩ | ⟨_, _, hl, _⟩ | ⟨_, _, hl, _⟩⟩
    · exact absurd h' (head_not h.head)
    · have := h.head.1; omega
    · exact absurd (Ends.det h' h.ends).1 h0
    · exact h2
    · obtain rfl := (Ends.det h' h.ends).2; omega
    · obtain rfl := (Ends.det h' h.ends).2; omega
  · refine .inl ⟨?_, ?_, f, sm, wb, k, h.dec, h.tail⟩
    all_goals
      have hg := h.ge
      have hle := h.le
      rcases hz with ⟨_, _, _, h'⟩ | ⟨_, _, _, hl', _⟩ | ⟨_, _, h0, u, x, h', _⟩ | ⟨_, u, h', ho, ⟨_, _, hl⟩ | ⟨_, _, _, hs⟩ | ⟨_, he, _, _⟩⟩
      · exact absurd h' (head_not h.head)
      · have := h.head.1; omega
      · exact absurd (Ends.det h' h.ends).1 h0
      · obtain rfl := (Ends.det h' h.ends).2; omega
      · obtain rfl := (Ends.det h' h.ends).2; exact absurd h.sum hs
      · first | exact he | (obtain rfl := (Ends.det h' h.ends).2; exact ho)
end Go.Proofs.YtlknhiihdejpeaaGreatDoor

