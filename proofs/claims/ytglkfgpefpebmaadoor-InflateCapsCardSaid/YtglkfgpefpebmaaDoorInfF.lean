/-
  Package inflate: a stored block's bytes, by the way that the stream goes.
-/
import Derived.Test.YtglkfgpefpebmaaDoorInfE
namespace Go.Proofs.YtglkfgpefpebmaaDoor
open Go Go.RowKit

theorem part_take (B : List UInt8) (a j n : Nat) (h : j + n ≤ a) : ((B.take a).drop j).take n = (B.drop j).take n := by
  rw [List.drop_take, List.take_take, Nat.min_eq_left (by omega)]

/-- What comes of a stored block's bytes. -/
def Bytes (B : List UInt8) (a o : Nat) (l : List UInt8) (g gf gw gr : Nat) (K : List Nat) (f : DF) (v vo : Value) (q : Nat) (all x : List UInt8) (last : Bool) (E : St) (w : World) (e : Ending) (w' : World) : Prop :=
  ∃ (c q' : Nat) (y : List UInt8) (vo' : Value) (f' : DF), e = .returned (.int .i64 (c : Int)) ∧ Rn w' g gf gw gr K f' v vo' l q' (all ++ y) (x ++ y) ∧ Since [g, gf, gw, gr] w vo w' vo' ∧ all.length + y.length ≤ f.most ∧ q ≤ q' ∧
    ((c = 0 ∧ f' = { f with wn := f.wn + y.length, left := 0 } ∧ (0 < f.left → q < q') ∧ Way fixedL (num B) ⟨behindK last, last, 0, 8 * o + q', all ++ y⟩ E) ∨
      (c = 2 ∧ 0 < f.left - y.length ∧ f' = { f with wn := f.wn + y.length, left := f.left - y.length } ∧ Way fixedL (num B) ⟨2, last, f.left - y.length, 8 * o + q', all ++ y⟩ E ∧ 8 * a < E.p) ∨
      (c = 5 ∧ f' = f ∧ f.most < E.out.length))

theorem stored_any (B : List UInt8) (a o : Nat) (l : List UInt8) (hs : Src B a o l) (g gf gw gr : Nat) (K : List Nat) (f : DF) (v vo : Value) (q : Nat) (all x : List UInt8) (last : Bool) (E : St) (w : World) (h : Rn w g gf gw gr K f v vo l q all x) (hk : f.k ≠ 7) (hq : q % 8 = 0) (hlf : f.left < 65536)
    (hw : Way fixedL (num B) ⟨stK last f.left, last, f.left, 8 * o + q, all⟩ E) (hE : E.k = 11) (hl : all.length ≤ f.most) (hmost : f.most ≤ 1073741824) (hx : x.length ≤ all.length) :
    Calls Tryd.prog 80 #[.pointer (some ⟨g, 0, none⟩), .pointer (some ⟨gf, 0, none⟩)] w (Bytes B a o l g gf gw gr K f v vo q all x last E w) := by
  have hlen := hs.len
  have hoa := hs.oa
  have haB := hs.aB
  have hqq := h.rd.2.2.2
  obtain ⟨n, hn⟩ : ∃ n, n = min f.left ((8 * l.length - q) / 8) := ⟨_, rfl⟩
  have hbs : (l.drop (q / 8)).take n = bytesAt (num B) (8 * o + q) n := by
    rw [show 8 * o + q = 8 * (o + q / 8) by omega, bytesAt_num _ _ _ (by omega), hs.eq, List.drop_drop, part_take _ _ _ _ (by omega)]
  have hway : Way fixedL (num B) ⟨stK last (f.left - n), last, f.left - n, 8 * o + q + 8 * n, all ++ bytesAt (num B) (8 * o + q) n⟩ E := by
    rcases Nat.eq_zero_or_pos f.left with h0 | h0
    · obtain rfl : n = 0 := by omega
      rw [h0] at hw ⊢
      simpa [bytesAt] using hw
    · rw [stK_pos last h0] at hw
      exact (hw.bytes hE n (by omega)).2.2
  rcases Nat.lt_or_ge f.most (all.length + n) with hlong | hfit
  · refine (stored_long g gf gw gr K f v vo l q all x w h n hn hl hlong hmost).mono ?_
    rintro e w' ⟨rfl, m, rfl⟩
    refine ⟨5, q, [], vo, f, rfl, by simpa using h.drewN m, (Since.refl _ _ _).step ((Only.refl _ _).drewN m), by simpa using hl, Nat.le_refl _, .inr (.inr ⟨rfl, rfl, ?_⟩)⟩
    have := hway.out_le
    rw [List.length_append, bytesAt_length] at this
    omega
  · refine (stored_ok g gf gw gr K f v vo l q all x w h n hn hq hfit hmost hx hk hlf _ hbs.symm).mono ?_
    rintro e w' ⟨rfl, vo', hR, hSi⟩
    have hyl : (bytesAt (num B) (8 * o + q) n).length = n := bytesAt_length _ _ _
    generalize bytesAt (num B) (8 * o + q) n = y at *
    rw [← hyl] at hR hway hfit
    rcases Nat.eq_zero_or_pos (f.left - n) with h0 | h0
    · rw [hyl, h0] at hR
      rw [hyl, h0, stK_zero] at hway
      refine ⟨0, q + 8 * n, y, vo', _, by rw [h0]; rfl, hR, hSi, hfit, by omega, .inl ⟨rfl, ?_, by omega, by rw [← Nat.add_assoc]; exact hway⟩⟩
      rw [hyl]
    · rw [hyl, stK_pos last h0] at hway
      refine ⟨2, q + 8 * y.length, y, vo', _, by rw [if_pos h0]; rfl, hR, hSi, hfit, by omega, .inr (.inl ⟨rfl, by omega, rfl, by rw [hyl, ← Nat.add_assoc]; exact hway, ?_⟩)⟩
      obtain ⟨t, hM, ht⟩ := hway.next (show (2 : Nat) ≠ 11 by decide) hE
      have h1 := ht.grow.1
      obtain ⟨z, hz⟩ : ∃ z, f.left - n = z + 1 := ⟨f.left - n - 1, by omega⟩
      rw [hz] at hM
      cases hM with
      | byte _ _ _ _ _ =>
        have h2 : 8 * o + q + 8 * n + 8 ≤ E.p := h1
        omega
end Go.Proofs.YtglkfgpefpebmaaDoor
