/-
  Package inflate: a stored block's bytes, by the way that the stream goes. | Package inflate: one step, and all of them. | Package inflate: the step that begins with a stored block's size, the one within symbols; any step. | Package inflate: run.
-/
import Derived.Test.YtglkfgpefpebmaaDoorInfE
namespace Go.Proofs.YtglkfgpefpebmaaDoor
open Go Go.RowKit

theorem part_take (B : List UInt8) (a j n : Nat) (h : j + n ≤ a) : ((B.take a).drop j).take n = (B.drop j).take n := by
  rw [List.drop_take, List.take_take, Nat.min_eq_left (by omega)]

/-- What comes of a stored block's bytes. -/
def Bytes (B : List UInt8) (a o : Nat) (l : List UInt8) (g gf gw gr : Nat) (K : List Nat) (f : DF) (v vo : Value) (q : Nat) (all x : List UInt8) (last : Bool) (E : St) (w : World) (e : Ending) (w' : World) : Prop :=
  ∃ (c q' : Nat) (y : List UInt8) (vo' : Value) (f' : DF), e = .returned (.int .i64 (c : Int)) ∧ Rn w' g gf gw gr K f' v vo' l q' (all ++ y) (x ++ y) ∧ Since [g, gf, gw, gr] w vo w' vo' ∧ all.length + y.length ≤ f.most ∧ q ≤ q' ∧
    ((c = 0 ∧ f' = { f with wn := f.wn + y.length, left := 0 } ∧ (0 < f.left → q < q') ∧ Way fixedL (num B) ⟨behindK last, last, 0, 8 * o + q', all ++ y⟩ E) ∨
      (c = 2 ∧ 0 < f.left - y.length ∧ f' = { f with wn := f.wn + y.length, left := f.left - y.length } ∧ Way fixedL (num B) ⟨2, last, f.left - y.length, 8 * o + q', all ++ y⟩ E ∧ 8 * a < E.p) ∨
      (c = 5 ∧ f' = f ∧ f.most < E.out.length))

theorem stored_any (B : List UInt8) (a o : Nat) (l : List UInt8) (hs : Src B a o l) (g gf gw gr : Nat) (K : List Nat) (f : DF) (v vo : Value) (q : Nat) (all x : List UInt8) (last : Bool) (E : St) (w : World) (h : Rn w g gf gw gr K f v vo l q all x) (hk : f.k ≠ 7) (hq : q % 8 = 0) (hlf : f.left < 65536)
    (hw : Way fixedL (num B) ⟨stK last f.left, last, f.left, 8 * o + q, all⟩ E) (hE : E.k = 11) (hl : all.length ≤ f.most) (hmost : f.most ≤ 1073741824) (hx : x.length ≤ all.length) :
    Calls Tryd.prog 80 #[.pointer (some ⟨g, 0, none⟩), .pointer (some ⟨gf, 0, none⟩)] w (Bytes B a o l g gf gw gr K f v vo q all x last E w) := by
  have hlen := hs.len
  have hoa := hs.oa
  have haB := hs.aB
  have hqq := h.rd.2.2.2
  obtain ⟨n, hn⟩ : ∃ n, n = min f.left ((8 * l.length - q) / 8) := ⟨_, rfl⟩
  have hbs : (l.drop (q / 8)).take n = bytesAt (num B) (8 * o + q) n := by
    rw [show 8 * o + q = 8 * (o + q / 8) by omega, bytesAt_num _ _ _ (by omega), hs.eq, List.drop_drop, part_take _ _ _ _ (by omega)]
  have hway : Way fixedL (num B) ⟨stK last (f.left - n), last, f.left - n, 8 * o + q + 8 * n, all ++ bytesAt (num B) (8 * o + q) n⟩ E := by
    rcases Nat.eq_zero_or_pos f.left with h0 | h0
    · obtain rfl : n = 0 := by omega
      rw [h0] at hw ⊢
      simpa [bytesAt] using hw
    · rw [stK_pos last h0] at hw
      exact (hw.bytes hE n (by omega)).2.2
  rcases Nat.lt_or_ge f.most (all.length + n) with hlong | hfit
  · refine (stored_long g gf gw gr K f v vo l q all x w h n hn hl hlong hmost).mono ?_
    rintro e w' ⟨rfl, m, rfl⟩
    refine ⟨5, q, [], vo, f, rfl, by simpa using h.drewN m, (Since.refl _ _ _).step ((Only.refl _ _).drewN m), by simpa using hl, Nat.le_refl _, .inr (.inr ⟨rfl, rfl, ?_⟩)⟩
    have := hway.out_le
    rw [List.length_append, bytesAt_length] at this
    omega
  · refine (stored_ok g gf gw gr K f v vo l q all x w h n hn hq hfit hmost hx hk hlf _ hbs.symm).mono ?_
    rintro e w' ⟨rfl, vo', hR, hSi⟩
    have hyl : (bytesAt (num B) (8 * o + q) n).length = n := bytesAt_length _ _ _
    generalize bytesAt (num B) (8 * o + q) n = y at *
    rw [← hyl] at hR hway hfit
    rcases Nat.eq_zero_or_pos (f.left - n) with h0 | h0
    · rw [hyl, h0] at hR
      rw [hyl, h0, stK_zero] at hway
      refine ⟨0, q + 8 * n, y, vo', _, by rw [h0]; rfl, hR, hSi, hfit, by omega, .inl ⟨rfl, ?_, by omega, by rw [← Nat.add_assoc]; exact hway⟩⟩
      rw [hyl]
    · rw [hyl, stK_pos last h0] at hway
      refine ⟨2, q + 8 * y.length, y, vo', _, by rw [if_pos h0]; rfl, hR, hSi, hfit, by omega, .inr (.inl ⟨rfl, by omega, rfl, by rw [hyl, ← Nat.add_assoc]; exact hway, ?_⟩)⟩
      obtain ⟨t, hM, ht⟩ := hway.next (show (2 : Nat) ≠ 11 by decide) hE
      have h1 := ht.grow.1
      obtain ⟨z, hz⟩ : ∃ z, f.left - n = z + 1 := ⟨f.left - n - 1, by omega⟩
      rw [hz] at hM
      cases hM with
      | byte _ _ _ _ _ =>
        have h2 : 8 * o + q + 8 * n + 8 ≤ E.p := h1
        omega
end Go.Proofs.YtglkfgpefpebmaaDoor


namespace Go.Proofs.YtglkfgpefpebmaaDoor
open Go Go.RowKit

/-- What stays as it was in a step. -/
structure Same (f f' : DF) : Prop where
  most : f'.most = f.most
  fault : f'.fault = f.fault
  used : f'.used = f.used
  total : f'.total = f.total
  wt : f'.wt = f.wt
  ps : f'.ps = f.ps
theorem Same.refl (f : DF) : Same f f := ⟨rfl, rfl, rfl, rfl, rfl, rfl⟩
theorem Same.trans {f f' f'' : DF} (h : Same f f') (k : Same f' f'') : Same f f'' := ⟨k.most.trans h.most, k.fault.trans h.fault, k.used.trans h.used, k.total.trans h.total, k.wt.trans h.wt, k.ps.trans h.ps⟩

/-- The decoder stands at s, its reader at bit q of the bytes from byte o on. -/
structure Mt (f : DF) (s : St) (o q : Nat) (all : List UInt8) : Prop where
  k : f.k = s.k
  last : f.last = s.last
  left : f.left = s.left
  out : s.out = all
  p : s.p = 8 * o + (if s.k = 1 then q + toByte q else q)
  ks : s.k = 0 ∨ s.k = 1 ∨ s.k = 2 ∨ s.k = 7 ∨ s.k = 11
  few : s.left < 65536

def Stepped (B : List UInt8) (a o : Nat) (l : List UInt8) (g gf gw gr : Nat) (K : List Nat) (f : DF) (v vo : Value) (q : Nat) (all x : List UInt8) (E : St) (w : World) (e : Ending) (w' : World) : Prop :=
  ∃ (c q' : Nat) (y : List UInt8) (vo' : Value) (f' : DF), e = .returned (.int .i64 (c : Int)) ∧ Rn w' g gf gw gr K f' v vo' l q' (all ++ y) (x ++ y) ∧ Since [g, gf, gw, gr] w vo w' vo' ∧ Same f f' ∧ all.length + y.length ≤ f.most ∧ q ≤ q' ∧
    ((c = 0 ∧ q < q' ∧ ∃ s', Mt f' s' o q' (all ++ y) ∧ Way fixedL (num B) s' E) ∨
      (c = 2 ∧ 8 * a < E.p ∧ ∃ s', Mt f' s' o q' (all ++ y) ∧ Way fixedL (num B) s' E) ∨
      (c = 5 ∧ f.most < E.out.length))

set_option maxRecDepth 100000 in
set_option maxHeartbeats 4000000 in
theorem step_block (B : List UInt8) (a o : Nat) (l : List UInt8) (hs : Src B a o l) (g gf gw gr : Nat) (K : List Nat) (f : DF) (v vo : Value) (q : Nat) (all x : List UInt8) (E : St) (w : World) (s : St)
    (h : Rn w g gf gw gr K f v vo l q all x) (hm : Mt f s o q all) (hw : Way fixedL (num B) s E) (hE : E.k = 11) (hl : all.length ≤ f.most) (hk : s.k = 0) :
    Calls Tryd.prog 73 #[.pointer (some ⟨g, 0, none⟩), .pointer (some ⟨gf, 0, none⟩)] w (Stepped B a o l g gf gw gr K f v vo q all x E w) := by
  have hlen := hs.len
  have hoa := hs.oa
  have hqq := h.rd.2.2.2
  have hk0 : f.k = 0 := by rw [hm.k, hk]
  obtain ⟨t, hM, ht⟩ := hw.next (by rw [hk]; decide) hE
  have c1 : w.cell? ⟨g, 1, none⟩ = some (.int .i64 0) := by have := h.on.dec.k; rw [hk0] at this; exact this
  have hp : s.p = 8 * o + q := by have := hm.p; rw [if_neg (by omega)] at this; exact this
  have hgr := hM.grow.1
  have hgrE := ht.grow.1
  have hmE := hm.few
  by_cases hq : q + 3 ≤ 8 * l.length
  · have hbits := hs.bits (k := q) (n := 3) (by omega)
    unfold bitsOf at hbits
    cases hM with
    | stored l0 last p p' out hv hp' =>
      change p = _ at hp
      subst hp
      have hout : out = all := hm.out
      subst hout
      have HB := hide (begin_stored g gf gw gr K f v vo l q out x w h hq hk0 last (hbits.trans hv))
      have HH := hide (And.intro h (And.intro hm (And.intro ht (And.intro hl (And.intro hk0 hp')))))
      clear h hm hw hl hk0 hk ht hgr hgrE hqq hq hlen hoa hs hv hbits hp' hmE
      go_enter Tryd.func73, Tryd.ntmps73
      go_wp2_with fail
      refine (HB.out).mono ?_
      rintro e w1 ⟨rfl, hR, ho⟩
      have k1 := hR.on.dec.k
      have f1 : w1.frozen? ⟨g, 1, none⟩ = false := Has.free hR.on.dec 1
      have H1 := hide (And.intro hR ho)
      clear hR ho
      go_wp2_with fail
      go_ret
      have oW : Only [g] w1 (w1.setCell ⟨g, 1, none⟩ (.int .i64 1)) := (Only.refl [g] _).setCell (by simp) _
      have hR := H1.out.1.cells oW (Dc.set_k H1.out.1.on.dec 1) rfl rfl (H1.out.1.fx.imp id (H1.out.1.keepV oW)) (fun h7 => by cases h7)
      refine ⟨0, q + 3, [], vo, { f with last := last, k := 1 }, rfl, by simpa using hR, (Since.refl _ _ _).step (((H1.out.2.weak (by simp)).trans (oW.weak (T := [g, gf, gw, gr]) (by simp)) (by simp))), ⟨rfl, rfl, rfl, rfl, rfl, rfl⟩, by simpa using HH.out.2.2.2.1, by omega, .inl ⟨rfl, by omega, ⟨1, last, 0, p', out⟩, ⟨rfl, rfl, HH.out.2.1.left, by simp, ?_, by simp, by show 0 < 65536; omega⟩, HH.out.2.2.1⟩⟩
      show p' = 8 * o + (if 1 = 1 then q + 3 + toByte (q + 3) else q + 3)
      rw [if_pos rfl, HH.out.2.2.2.2.2]
      unfold toByte
      omega
    | fixed l0 last p out hv =>
      change p = _ at hp
      subst hp
      have hout : out = all := hm.out
      subst hout
      have HB := hide (begin_fixed g gf gw gr K f v vo l q out x w h hq hk0 last (hbits.trans hv))
      have HH := hide (And.intro h (And.intro hm (And.intro ht (And.intro hl hk0))))
      clear h hm hw hl hk0 hk ht hgr hgrE hqq hq hlen hoa hs hv hbits hmE
      go_enter Tryd.func73, Tryd.ntmps73
      go_wp2_with fail
      refine (HB.out).mono ?_
      rintro e w1 ⟨rfl, ⟨gc, hgc, hR⟩, ho⟩
      have k1 := hR.on.dec.k
      have f1 : w1.frozen? ⟨g, 1, none⟩ = false := Has.free hR.on.dec 1
      have H1 := hide (And.intro hR (And.intro ho hgc))
      clear hR ho hgc
      go_wp2_with fail
      go_ret
      have oW : Only [g] w1 (w1.setCell ⟨g, 1, none⟩ (.int .i64 7)) := (Only.refl [g] _).setCell (by simp) _
      have hR := H1.out.1.cells oW (Dc.set_k H1.out.1.on.dec 7) rfl rfl (H1.out.1.fx.imp id (H1.out.1.keepV oW)) (fun _ => H1.out.1.keepV oW ⟨gc, rfl, H1.out.2.2⟩)
      refine ⟨0, q + 3, [], vo, { f with last := last, fx := .pointer (some ⟨gc, 0, none⟩), co := .pointer (some ⟨gc, 0, none⟩), k := 7 }, rfl, by simpa using hR, (Since.refl _ _ _).step (((H1.out.2.1.weak (by simp)).trans (oW.weak (T := [g, gf, gw, gr]) (by simp)) (by simp))), ⟨rfl, rfl, rfl, rfl, rfl, rfl⟩, by simpa using HH.out.2.2.2.1, by omega, .inl ⟨rfl, by omega, ⟨7, last, 0, 8 * o + q + 3, out⟩, ⟨rfl, rfl, HH.out.2.1.left, by simp, ?_, by simp, by show 0 < 65536; omega⟩, HH.out.2.2.1⟩⟩
      show 8 * o + q + 3 = 8 * o + (if 7 = 1 then q + 3 + toByte (q + 3) else q + 3)
      rw [if_neg (by decide)]
      omega
    | size last n p out hn h8 hv => cases hk
    | byte last n p out h8 => cases hk
    | lit last i p out hi h0 hb => cases hk
    | eob last p out h0 hb => cases hk
  · have HB := hide (begin_short g gf gw gr K f v vo l q all x w h (by omega))
    have HH := hide (And.intro h (And.intro hm (And.intro hw (And.intro hl (And.intro hk0 hk)))))
    have hfar : 8 * a < E.p := by
      cases hM with
      | stored l0 last p p' out hv hp' => change p = _ at hp; change p' ≤ E.p at hgrE; omega
      | fixed l0 last p out hv => change p = _ at hp; change p + 3 ≤ E.p at hgrE; omega
      | size last n p out hn h8 hv => cases hk
      | byte last n p out h8 => cases hk
      | lit last i p out hi h0 hb => cases hk
      | eob last p out h0 hb => cases hk
    have HF := hide hfar
    clear h hm hw hl hk0 hk hM ht hgr hgrE hp hqq hq hfar hlen hoa hs hmE
    go_enter Tryd.func73, Tryd.ntmps73
    go_wp2_with fail
    refine (HB.out).mono ?_
    rintro e w1 ⟨rfl, hR, ho⟩
    have k1 := hR.on.dec.k
    have f1 : w1.frozen? ⟨g, 1, none⟩ = false := Has.free hR.on.dec 1
    have H1 := hide (And.intro hR ho)
    clear hR ho
    go_wp2_with fail
    go_ret
    have oW : Only [g] w1 (w1.setCell ⟨g, 1, none⟩ (.int .i64 0)) := (Only.refl [g] _).setCell (by simp) _
    have hR := H1.out.1.cells oW (Dc.set_k H1.out.1.on.dec 0) rfl rfl (H1.out.1.fx.imp id (H1.out.1.keepV oW)) (fun h7 => by cases h7)
    have hm := HH.out.2.1
    exact ⟨2, q, [], vo, { f with k := 0 }, rfl, by simpa using hR, (Since.refl _ _ _).step (((H1.out.2.weak (by simp)).trans (oW.weak (T := [g, gf, gw, gr]) (by simp)) (by simp))), ⟨rfl, rfl, rfl, rfl, rfl, rfl⟩, by simpa using HH.out.2.2.2.1, Nat.le_refl _, .inr (.inl ⟨rfl, HF.out, s, ⟨HH.out.2.2.2.2.2.symm, hm.last, hm.left, by simpa using hm.out, hm.p, hm.ks, hm.few⟩, HH.out.2.2.1⟩)⟩

theorem behindK_7 (b : Bool) : behindK b ≠ 7 := by cases b <;> decide
theorem behindK_or (b : Bool) : behindK b = 0 ∨ behindK b = 2 ∨ behindK b = 7 ∨ behindK b = 11 := by cases b <;> decide
/-- A step that ends with stored bytes, from there on. -/
theorem step_rest_mt {f' : DF} {s' : St} {o q : Nat} {all : List UInt8} (hk : f'.k = s'.k) (hl : f'.last = s'.last) (hn : f'.left = s'.left) (ho : s'.out = all) (hp : s'.p = 8 * o + q) (h1 : s'.k = 0 ∨ s'.k = 2 ∨ s'.k = 7 ∨ s'.k = 11) (hf : s'.left < 65536) : Mt f' s' o q all :=
  ⟨hk, hl, hn, ho, by rw [if_neg (by omega)]; exact hp, by omega, hf⟩

set_option maxRecDepth 100000 in
set_option maxHeartbeats 4000000 in
theorem step_bytes (B : List UInt8) (a o : Nat) (l : List UInt8) (hs : Src B a o l) (g gf gw gr : Nat) (K : List Nat) (f : DF) (v vo : Value) (q : Nat) (all x : List UInt8) (E : St) (w : World) (s : St)
    (h : Rn w g gf gw gr K f v vo l q all x) (hm : Mt f s o q all) (hw : Way fixedL (num B) s E) (hE : E.k = 11) (hl : all.length ≤ f.most) (hmost : f.most ≤ 1073741824) (hx : x.length ≤ all.length) (hk : s.k = 2) :
    Calls Tryd.prog 73 #[.pointer (some ⟨g, 0, none⟩), .pointer (some ⟨gf, 0, none⟩)] w (Stepped B a o l g gf gw gr K f v vo q all x E w) := by
  have hk2 : f.k = 2 := by rw [hm.k, hk]
  obtain ⟨t, hM, ht⟩ := hw.next (by rw [hk]; decide) hE
  have c1 : w.cell? ⟨g, 1, none⟩ = some (.int .i64 2) := by have := h.on.dec.k; rw [hk2] at this; exact this
  have hp : s.p = 8 * o + q := by have := hm.p; rw [if_neg (by omega)] at this; exact this
  cases hM with
  | byte last n p out h8 =>
    change p = _ at hp
    subst hp
    have hout : out = all := hm.out
    subst hout
    have hleft : f.left = n + 1 := hm.left
    have hlast : f.last = last := hm.last
    have hfew : n + 1 < 65536 := hm.few
    have hB := stored_any B a o l hs g gf gw gr K f v vo q out x last E w h (by omega) (by omega) (by omega) (by rw [hleft, stK_pos last (by omega)]; exact hw) hE hl hmost hx
    have HB := hide hB
    have HH := hide (And.intro hleft (And.intro hlast (And.intro hfew hk2)))
    clear h hm hw hl hk2 hk ht hs hB hleft hlast hfew hmost hx h8
    go_enter Tryd.func73, Tryd.ntmps73
    go_wp2_with fail
    refine (HB.out).mono ?_
    rintro e w1 ⟨c, q', y, vo', f', rfl, hR, hS, hy, hq', hcase⟩
    rcases hcase with ⟨rfl, rfl, hlt, hW⟩ | ⟨rfl, hlt, rfl, hW, hfar⟩ | ⟨rfl, rfl, hlong⟩
    · have HBe := hide (behind_any g _ w1 hR.on.dec)
      have H1 := hide (And.intro hR (And.intro hS (And.intro hy (And.intro hq' (And.intro hlt hW)))))
      have k1 := hR.on.dec.k
      have f1 : w1.frozen? ⟨g, 1, none⟩ = false := Has.free hR.on.dec 1
      clear hR hS hy hq' hlt hW
      go_wp2_with fail
      refine (HBe.out).mono ?_
      rintro e w2 ⟨rfl, rfl⟩
      go_wp2_with fail
      go_ret
      have oW : Only [g] w1 (w1.setCell ⟨g, 1, none⟩ (.int .i64 (behindK f.last : Nat))) := (Only.refl [g] _).setCell (by simp) _
      have hR := H1.out.1.cells oW (Dc.set_k H1.out.1.on.dec (behindK f.last)) rfl rfl (H1.out.1.fx.imp id (H1.out.1.keepV oW)) (fun h7 => absurd h7 (behindK_7 _))
      exact ⟨0, q', y, vo', { f with wn := f.wn + y.length, left := 0, k := behindK f.last }, rfl, hR, H1.out.2.1.step (oW.weak (by simp)), ⟨rfl, rfl, rfl, rfl, rfl, rfl⟩, H1.out.2.2.1, H1.out.2.2.2.1,
        .inl ⟨rfl, H1.out.2.2.2.2.1 (by have := HH.out.1; omega), ⟨behindK last, last, 0, 8 * o + q', out ++ y⟩, step_rest_mt (by rw [HH.out.2.1]) HH.out.2.1 rfl rfl rfl (behindK_or _) (by show 0 < 65536; omega), H1.out.2.2.2.2.2⟩⟩
    · have H1 := hide (And.intro hR (And.intro hS (And.intro hy (And.intro hq' (And.intro hlt (And.intro hW hfar))))))
      clear hR hS hy hq' hlt hW hfar
      go_wp2_with fail
      go_ret
      exact ⟨2, q', y, vo', _, rfl, H1.out.1, H1.out.2.1, ⟨rfl, rfl, rfl, rfl, rfl, rfl⟩, H1.out.2.2.1, H1.out.2.2.2.1,
        .inr (.inl ⟨rfl, H1.out.2.2.2.2.2.2, ⟨2, last, f.left - y.length, 8 * o + q', out ++ y⟩, step_rest_mt HH.out.2.2.2 HH.out.2.1 rfl rfl rfl (.inr (.inl rfl)) (by show f.left - y.length < 65536; have := HH.out; omega), H1.out.2.2.2.2.2.1⟩)⟩
    · have H1 := hide (And.intro hR (And.intro hS (And.intro hy (And.intro hq' hlong))))
      clear hR hS hy hq' hlong
      go_wp2_with fail
      go_ret
      exact ⟨5, q', y, vo', _, rfl, H1.out.1, H1.out.2.1, Same.refl _, H1.out.2.2.1, H1.out.2.2.2.1, .inr (.inr ⟨rfl, H1.out.2.2.2.2⟩)⟩
  | stored l0 last p p' out hv hp' => cases hk
  | fixed l0 last p out hv => cases hk
  | size last n p out hn h8 hv => cases hk
  | lit last i p out hi h0 hb => cases hk
  | eob last p out h0 hb => cases hk
end Go.Proofs.YtglkfgpefpebmaaDoor


namespace Go.Proofs.YtglkfgpefpebmaaDoor
open Go Go.RowKit

set_option maxRecDepth 100000 in
set_option maxHeartbeats 8000000 in
theorem step_size (B : List UInt8) (a o : Nat) (l : List UInt8) (hs : Src B a o l) (g gf gw gr : Nat) (K : List Nat) (f : DF) (v vo : Value) (q : Nat) (all x : List UInt8) (E : St) (w : World) (s : St)
    (h : Rn w g gf gw gr K f v vo l q all x) (hm : Mt f s o q all) (hw : Way fixedL (num B) s E) (hE : E.k = 11) (hl : all.length ≤ f.most) (hmost : f.most ≤ 1073741824) (hx : x.length ≤ all.length) (hk : s.k = 1) :
    Calls Tryd.prog 73 #[.pointer (some ⟨g, 0, none⟩), .pointer (some ⟨gf, 0, none⟩)] w (Stepped B a o l g gf gw gr K f v vo q all x E w) := by
  have hlen := hs.len
  have hoa := hs.oa
  have hqq := h.rd.2.2.2
  have hk1 : f.k = 1 := by rw [hm.k, hk]
  obtain ⟨t, hM, ht⟩ := hw.next (by rw [hk]; decide) hE
  have c1 : w.cell? ⟨g, 1, none⟩ = some (.int .i64 1) := by have := h.on.dec.k; rw [hk1] at this; exact this
  have hp : s.p = 8 * o + (q + toByte q) := by have := hm.p; rw [if_pos hk] at this; exact this
  have hgrE := ht.grow.1
  cases hM with
  | size last n p out hn h8 hv =>
    change p = _ at hp
    subst hp
    have hout : out = all := hm.out
    subst hout
    have hlast : f.last = last := hm.last
    have htb : toByte q < 8 ∧ (q + toByte q) % 8 = 0 := by unfold toByte; omega
    by_cases hq : q + toByte q + 32 ≤ 8 * l.length
    · have hbits := hs.bits (k := q + toByte q) (n := 32) (by omega)
      unfold bitsOf at hbits
      have HB := hide (size_ok g gf gw gr K f v vo l q out x w h (by omega) hq n hn (hbits.trans hv))
      have HT := hide (fun w2 (hR : Rn w2 g gf gw gr K { f with left := n, k := 2 } v vo l (q + toByte q + 32) out x) => stored_any B a o l hs g gf gw gr K { f with left := n, k := 2 } v vo (q + toByte q + 32) out x last E w2 hR (show (2 : Nat) ≠ 7 by decide) (by omega) hn ht hE hl hmost hx)
      have HH := hide (And.intro hlast (And.intro hn hk1))
      clear h hm hw hl hk1 hk ht hs hlast hn hmost hx h8 hbits hv hqq hq hlen hoa hgrE htb
      go_enter Tryd.func73, Tryd.ntmps73
      go_wp2_with fail
      refine (HB.out).mono ?_
      rintro e w1 ⟨rfl, hR1, ho1⟩
      have k1 := hR1.on.dec.k
      have f1 : w1.frozen? ⟨g, 1, none⟩ = false := Has.free hR1.on.dec 1
      have oV : Only [g] w1 (w1.setCell ⟨g, 1, none⟩ (.int .i64 2)) := (Only.refl [g] _).setCell (by simp) _
      have hR2 := hR1.cells oV (Dc.set_k hR1.on.dec 2) rfl rfl (hR1.fx.imp id (hR1.keepV oV)) (fun h7 => by cases h7)
      have hST := HT.out _ hR2
      have H1 := hide (And.intro ho1 (And.intro oV hST))
      clear hR1 hR2 ho1 oV hST HB HT
      go_wp2_with fail
      refine (H1.out.2.2).mono ?_
      rintro e w2 ⟨c, q', y, vo', f', rfl, hR, hS, hy, hq', hcase⟩
      have hS0 : Since [g, gf, gw, gr] w vo w2 vo' := ((Since.refl _ _ _).step ((H1.out.1.weak (T := [g, gf, gw, gr]) (by simp)).trans (H1.out.2.1.weak (T := [g, gf, gw, gr]) (by simp)) (by simp))).trans hS (fun _ hi _ => hi)
      have HS0 := hide hS0
      clear hS hS0 H1
      rcases hcase with ⟨rfl, rfl, hlt, hW⟩ | ⟨rfl, hlt, rfl, hW, hfar⟩ | ⟨rfl, rfl, hlong⟩
      · have HBe := hide (behind_any g _ w2 hR.on.dec)
        have H2 := hide (And.intro hR (And.intro hy (And.intro hq' hW)))
        have k2 := hR.on.dec.k
        have f2 : w2.frozen? ⟨g, 1, none⟩ = false := Has.free hR.on.dec 1
        clear hR hy hq' hlt hW k1 f1
        go_wp2_with fail
        refine (HBe.out).mono ?_
        rintro e w3 ⟨rfl, rfl⟩
        go_wp2_with fail
        go_ret
        have oW : Only [g] w2 (w2.setCell ⟨g, 1, none⟩ (.int .i64 (behindK f.last : Nat))) := (Only.refl [g] _).setCell (by simp) _
        have hR := H2.out.1.cells oW (Dc.set_k H2.out.1.on.dec (behindK f.last)) rfl rfl (H2.out.1.fx.imp id (H2.out.1.keepV oW)) (fun h7 => absurd h7 (behindK_7 _))
        exact ⟨0, q', y, vo', { f with wn := f.wn + y.length, left := 0, k := behindK f.last }, rfl, hR, HS0.out.step (oW.weak (by simp)), ⟨rfl, rfl, rfl, rfl, rfl, rfl⟩, H2.out.2.1, by have := H2.out.2.2.1; omega,
          .inl ⟨rfl, by have := H2.out.2.2.1; omega, ⟨behindK last, last, 0, 8 * o + q', out ++ y⟩, step_rest_mt (by rw [HH.out.1]) HH.out.1 rfl rfl rfl (behindK_or _) (by show 0 < 65536; omega), H2.out.2.2.2⟩⟩
      · have H2 := hide (And.intro hR (And.intro hy (And.intro hq' (And.intro hlt (And.intro hW hfar)))))
        clear hR hy hq' hlt hW hfar k1 f1
        go_wp2_with fail
        go_ret
        exact ⟨2, q', y, vo', _, rfl, H2.out.1, HS0.out, ⟨rfl, rfl, rfl, rfl, rfl, rfl⟩, H2.out.2.1, by have := H2.out.2.2.1; omega,
          .inr (.inl ⟨rfl, H2.out.2.2.2.2.2, ⟨2, last, n - y.length, 8 * o + q', out ++ y⟩, step_rest_mt rfl HH.out.1 rfl rfl rfl (.inr (.inl rfl)) (by show n - y.length < 65536; have := HH.out; omega), H2.out.2.2.2.2.1⟩)⟩
      · have H2 := hide (And.intro hR (And.intro hy (And.intro hq' hlong)))
        clear hR hy hq' hlong k1 f1
        go_wp2_with fail
        go_ret
        exact ⟨5, q', y, vo', _, rfl, H2.out.1, HS0.out, ⟨rfl, rfl, rfl, rfl, rfl, rfl⟩, H2.out.2.1, by have := H2.out.2.2.1; omega, .inr (.inr ⟨rfl, H2.out.2.2.2⟩)⟩
    · have HB := hide (size_short g gf gw gr K f v vo l q out x w h (by omega))
      change 8 * o + (q + toByte q) + 32 ≤ E.p at hgrE
      have hz : toByte (q + toByte q) = 0 := by have := htb.2; unfold toByte at this ⊢; omega
      have HH := hide (And.intro hm (And.intro hw (And.intro hl (And.intro (show 8 * a < E.p by omega) (And.intro hz hk1)))))
      clear h hm hw hl hk1 hk ht hs hlast hn hmost hx h8 hv hqq hq hlen hoa hgrE htb hz
      go_enter Tryd.func73, Tryd.ntmps73
      go_wp2_with fail
      refine (HB.out).mono ?_
      rintro e w1 ⟨rfl, hR, ho⟩
      have H1 := hide (And.intro hR ho)
      clear hR ho
      go_wp2_with fail
      go_ret
      have hm := HH.out.1
      refine ⟨2, q + toByte q, [], vo, f, rfl, by simpa using H1.out.1, (Since.refl _ _ _).step (H1.out.2.weak (by simp)), Same.refl _, by simpa using HH.out.2.2.1, by omega, .inr (.inl ⟨rfl, HH.out.2.2.2.1, ⟨1, last, 0, 8 * o + (q + toByte q), out⟩, ⟨hm.k, hm.last, hm.left, by simp, ?_, by simp, hm.few⟩, HH.out.2.1⟩)⟩
      show 8 * o + (q + toByte q) = 8 * o + (if 1 = 1 then q + toByte q + toByte (q + toByte q) else q + toByte q)
      rw [if_pos rfl, HH.out.2.2.2.2.1]
      rfl
  | stored l0 last p p' out hv hp' => cases hk
  | fixed l0 last p out hv => cases hk
  | byte last n p out h8 => cases hk
  | lit last i p out hi h0 hb => cases hk
  | eob last p out h0 hb => cases hk

set_option maxRecDepth 100000 in
set_option maxHeartbeats 8000000 in
theorem syms_any (B : List UInt8) (a o : Nat) (l : List UInt8) (hs : Src B a o l) (g gf gw gr : Nat) (K : List Nat) (f : DF) (v vo : Value) (q : Nat) (all x : List UInt8) (E : St) (w : World) (s : St)
    (h : Rn w g gf gw gr K f v vo l q all x) (hm : Mt f s o q all) (hw : Way fixedL (num B) s E) (hE : E.k = 11) (hl : all.length ≤ f.most) (hmost : f.most ≤ 1073741824) (hx : x.length ≤ all.length) (hk : s.k = 7) :
    Calls Tryd.prog 87 #[.pointer (some ⟨g, 0, none⟩), .pointer (some ⟨gf, 0, none⟩)] w (Stepped B a o l g gf gw gr K f v vo q all x E w) := by
  have hk7 : f.k = 7 := by rw [hm.k, hk]
  have c1 : w.cell? ⟨g, 1, none⟩ = some (.int .i64 7) := by have := h.on.dec.k; rw [hk7] at this; exact this
  have hp : s.p = 8 * o + q := by have := hm.p; rw [if_neg (by omega)] at this; exact this
  have hs0 : s = ⟨7, s.last, 0, 8 * o + q, all⟩ := by
    obtain ⟨t, hM, _⟩ := hw.next (by rw [hk]; decide) hE
    have ho := hm.out
    obtain ⟨sk, sl, sn, sp, so⟩ := s
    change sk = 7 at hk
    change sp = _ at hp
    change so = all at ho
    subst hk hp ho
    cases hM <;> rfl
  rw [hs0] at hw
  have HB := hide (literals_any B a o l hs g gf gw gr K f v vo q all x s.last E w h hk7 hw hE hl hmost hx)
  have HH := hide (And.intro hk7 (And.intro hm.last hm.left))
  have hsl : f.left = 0 := by have := hm.left; rw [hs0] at this; exact this
  have HSL := hide hsl
  clear h hm hw hl hk7 hk hs hmost hx hp hs0 hsl
  go_enter Tryd.func87, Tryd.ntmps87
  go_wp2_with fail
  refine (HB.out).mono ?_
  rintro e w1 ⟨c, q', y, vo', f', rfl, hR, hS, hy, hq', hcase⟩
  rcases hcase with ⟨rfl, hlt, rfl, hW⟩ | ⟨rfl, rfl, hW, hfar⟩ | ⟨rfl, rfl, hlong⟩
  · have HBe := hide (behind_any g _ w1 hR.on.dec)
    have k1 := hR.on.dec.k
    have k3 : w1.cell? ⟨g, 355, none⟩ = some (.int .i64 256) := hR.on.dec.sy
    have f1 : w1.frozen? ⟨g, 1, none⟩ = false := Has.free hR.on.dec 1
    have H1 := hide (And.intro hR (And.intro hS (And.intro hy (And.intro hq' (And.intro hlt hW)))))
    clear hR hS hy hq' hlt hW
    go_wp2_with fail
    refine (HBe.out).mono ?_
    rintro e w2 ⟨rfl, rfl⟩
    go_wp2_with fail
    go_ret
    have oW : Only [g] w1 (w1.setCell ⟨g, 1, none⟩ (.int .i64 (behindK f.last : Nat))) := (Only.refl [g] _).setCell (by simp) _
    have hR := H1.out.1.cells oW (Dc.set_k H1.out.1.on.dec (behindK f.last)) rfl rfl (H1.out.1.fx.imp id (H1.out.1.keepV oW)) (fun h7 => absurd h7 (behindK_7 _))
    exact ⟨0, q', y, vo', { f with wn := f.wn + y.length, sy := 256, k := behindK f.last }, rfl, hR, H1.out.2.1.step (oW.weak (by simp)), ⟨rfl, rfl, rfl, rfl, rfl, rfl⟩, H1.out.2.2.1, H1.out.2.2.2.1,
      .inl ⟨rfl, H1.out.2.2.2.2.1, ⟨behindK s.last, s.last, 0, 8 * o + q', all ++ y⟩, step_rest_mt (by rw [HH.out.2.1]) HH.out.2.1 HSL.out rfl rfl (behindK_or _) (by show 0 < 65536; omega), H1.out.2.2.2.2.2⟩⟩
  · have H1 := hide (And.intro hR (And.intro hS (And.intro hy (And.intro hq' (And.intro hW hfar)))))
    clear hR hS hy hq' hW hfar
    go_wp2_with fail
    go_ret
    exact ⟨2, q', y, vo', _, rfl, H1.out.1, H1.out.2.1, ⟨rfl, rfl, rfl, rfl, rfl, rfl⟩, H1.out.2.2.1, H1.out.2.2.2.1,
      .inr (.inl ⟨rfl, H1.out.2.2.2.2.2, ⟨7, s.last, 0, 8 * o + q', all ++ y⟩, step_rest_mt HH.out.1 HH.out.2.1 HSL.out rfl rfl (.inr (.inr (.inl rfl))) (by show 0 < 65536; omega), H1.out.2.2.2.2.1⟩)⟩
  · have H1 := hide (And.intro hR (And.intro hS (And.intro hy (And.intro hq' hlong))))
    clear hR hS hy hq' hlong
    go_wp2_with fail
    go_ret
    exact ⟨5, q', y, vo', _, rfl, H1.out.1, H1.out.2.1, ⟨rfl, rfl, rfl, rfl, rfl, rfl⟩, H1.out.2.2.1, H1.out.2.2.2.1, .inr (.inr ⟨rfl, H1.out.2.2.2.2⟩)⟩

set_option maxRecDepth 100000 in
set_option maxHeartbeats 4000000 in
theorem step_syms (B : List UInt8) (a o : Nat) (l : List UInt8) (hs : Src B a o l) (g gf gw gr : Nat) (K : List Nat) (f : DF) (v vo : Value) (q : Nat) (all x : List UInt8) (E : St) (w : World) (s : St)
    (h : Rn w g gf gw gr K f v vo l q all x) (hm : Mt f s o q all) (hw : Way fixedL (num B) s E) (hE : E.k = 11) (hl : all.length ≤ f.most) (hmost : f.most ≤ 1073741824) (hx : x.length ≤ all.length) (hk : s.k = 7) :
    Calls Tryd.prog 73 #[.pointer (some ⟨g, 0, none⟩), .pointer (some ⟨gf, 0, none⟩)] w (Stepped B a o l g gf gw gr K f v vo q all x E w) := by
  have hk7 : f.k = 7 := by rw [hm.k, hk]
  have c1 : w.cell? ⟨g, 1, none⟩ = some (.int .i64 7) := by have := h.on.dec.k; rw [hk7] at this; exact this
  have HB := hide (syms_any B a o l hs g gf gw gr K f v vo q all x E w s h hm hw hE hl hmost hx hk)
  clear h hm hw hl hk7 hk hs hmost hx
  go_enter Tryd.func73, Tryd.ntmps73
  go_wp2_with fail
  refine (HB.out).mono ?_
  rintro e w1 ⟨c, q', y, vo', f', rfl, hR, hS, hsm, hy, hq', hcase⟩
  have H1 := hide (And.intro hR (And.intro hS (And.intro hsm (And.intro hy (And.intro hq' hcase)))))
  clear hR hS hsm hy hq' hcase
  go_wp2_with fail
  go_ret
  exact ⟨c, q', y, vo', f', rfl, H1.out⟩

theorem step_any (B : List UInt8) (a o : Nat) (l : List UInt8) (hs : Src B a o l) (g gf gw gr : Nat) (K : List Nat) (f : DF) (v vo : Value) (q : Nat) (all x : List UInt8) (E : St) (w : World) (s : St)
    (h : Rn w g gf gw gr K f v vo l q all x) (hm : Mt f s o q all) (hw : Way fixedL (num B) s E) (hE : E.k = 11) (hl : all.length ≤ f.most) (hmost : f.most ≤ 1073741824) (hx : x.length ≤ all.length) (hk : s.k ≠ 11) :
    Calls Tryd.prog 73 #[.pointer (some ⟨g, 0, none⟩), .pointer (some ⟨gf, 0, none⟩)] w (Stepped B a o l g gf gw gr K f v vo q all x E w) := by
  rcases hm.ks with h0 | h0 | h0 | h0 | h0
  · exact step_block B a o l hs g gf gw gr K f v vo q all x E w s h hm hw hE hl h0
  · exact step_size B a o l hs g gf gw gr K f v vo q all x E w s h hm hw hE hl hmost hx h0
  · exact step_bytes B a o l hs g gf gw gr K f v vo q all x E w s h hm hw hE hl hmost hx h0
  · exact step_syms B a o l hs g gf gw gr K f v vo q all x E w s h hm hw hE hl hmost hx h0
  · exact absurd h0 hk

/-- What comes of all that is there. -/
def Ran (B : List UInt8) (a o : Nat) (l : List UInt8) (g gf gw gr : Nat) (K : List Nat) (f : DF) (v vo : Value) (all x : List UInt8) (E : St) (w : World) (e : Ending) (w' : World) : Prop :=
  ∃ (c q' : Nat) (y : List UInt8) (vo' : Value) (f' : DF), e = .returned (.int .i64 (c : Int)) ∧ Rn w' g gf gw gr K f' v vo' l q' (all ++ y) (x ++ y) ∧ Since [g, gf, gw, gr] w vo w' vo' ∧ Same f f' ∧ all.length + y.length ≤ f.most ∧
    ((c = 0 ∧ f'.k = 11 ∧ E.p = 8 * o + q' ∧ E.out = all ++ y) ∨
      (c = 2 ∧ 8 * a < E.p ∧ f'.k ≠ 11 ∧ ∃ s', Mt f' s' o q' (all ++ y) ∧ Way fixedL (num B) s' E) ∨
      (c = 5 ∧ f.most < E.out.length))
end Go.Proofs.YtglkfgpefpebmaaDoor


namespace Go.Proofs.YtglkfgpefpebmaaDoor
open Go Go.RowKit

theorem Mv.not_end {T : List UInt8} {N : Nat} {s t : St} (h : Mv T N s t) : s.k ≠ 11 := by
  cases h with
  | stored => exact show (0 : Nat) ≠ 11 by decide
  | fixed => exact show (0 : Nat) ≠ 11 by decide
  | size => exact show (1 : Nat) ≠ 11 by decide
  | byte => exact show (2 : Nat) ≠ 11 by decide
  | lit => exact show (7 : Nat) ≠ 11 by decide
  | eob => exact show (7 : Nat) ≠ 11 by decide
theorem Way.end_ {T : List UInt8} {N : Nat} {s e : St} (h : Way T N s e) (hs : s.k = 11) : s = e := by
  cases h with
  | stop => rfl
  | go h _ => exact absurd hs h.not_end

set_option maxRecDepth 100000 in
set_option maxHeartbeats 4000000 in
theorem run_any (B : List UInt8) (a o : Nat) (l : List UInt8) (hs : Src B a o l) (g gf gw gr : Nat) (K : List Nat) (f : DF) (v vo : Value) (q : Nat) (all x : List UInt8) (E : St) (w : World) (s : St)
    (h : Rn w g gf gw gr K f v vo l q all x) (hm : Mt f s o q all) (hw : Way fixedL (num B) s E) (hE : E.k = 11) (hl : all.length ≤ f.most) (hmost : f.most ≤ 1073741824) (hx : x.length ≤ all.length) :
    Calls Tryd.prog 63 #[.pointer (some ⟨g, 0, none⟩), .pointer (some ⟨gf, 0, none⟩)] w (Ran B a o l g gf gw gr K f v vo all x E w) := by
  have HS := hide (And.intro hs (And.intro hE (And.intro hmost hx)))
  have HST := hide (And.intro h (And.intro hm (And.intro hw hl)))
  clear h hw hl hs hm hE hmost hx
  go_enter Tryd.func63, Tryd.ntmps63
  go_wp2_with fail
  go_loopw [5] (fun _ wr => ∃ (q' : Nat) (y : List UInt8) (vo' : Value) (f' : DF) (s' : St), Rn wr g gf gw gr K f' v vo' l q' (all ++ y) (x ++ y) ∧ Since [g, gf, gw, gr] w vo wr vo' ∧ Same f f' ∧ all.length + y.length ≤ f.most ∧ Mt f' s' o q' (all ++ y) ∧ Way fixedL (num B) s' E) (fun _ wr => 8 * l.length - posOf wr gr)
  case atStart => exact ⟨q, [], vo, f, s, by simpa using HST.out.1, Since.refl _ _ _, Same.refl _, by simpa using HST.out.2.2.2, by simpa using HST.out.2.1, HST.out.2.2.1⟩
  case round =>
    obtain ⟨q', y, vo', f', s', hR, hSi, hsm, hy, hM, hW⟩ := hrel
    have hpos := posOf_eq hR.rd
    by_cases hk : s'.k = 11
    · have hD := hide (done_any g f' wr hR.on.dec true (by rw [hM.k, hk]; rfl))
      have heq := hW.end_ hk
      have HJ := hide (And.intro hR (And.intro hSi (And.intro hsm (And.intro hy (And.intro hM (And.intro heq hk))))))
      clear hR hSi hsm hy hM hW hpos hk heq
      go_wp2_with fail
      refine (hD.out).mono ?_
      rintro e w1 ⟨rfl, rfl⟩
      go_wp2_with fail
      go_ret
      have hM := HJ.out.2.2.2.2.1
      have heq := HJ.out.2.2.2.2.2.1
      have hk := HJ.out.2.2.2.2.2.2
      refine ⟨0, q', y, vo', f', rfl, HJ.out.1, HJ.out.2.1, HJ.out.2.2.1, HJ.out.2.2.2.1, .inl ⟨rfl, by rw [hM.k, hk], ?_, ?_⟩⟩
      · have := hM.p
        rw [if_neg (by rw [hk]; decide), heq] at this
        exact this
      · rw [← heq]; exact hM.out
    · have hD := hide (done_any g f' wr hR.on.dec false (by rw [hM.k]; exact decide_eq_false (by omega)))
      have hSt := hide (step_any B a o l HS.out.1 g gf gw gr K f' v vo' q' (all ++ y) (x ++ y) E wr s' hR hM hW HS.out.2.1 (by rw [hsm.most, List.length_append]; exact hy) (by rw [hsm.most]; exact HS.out.2.2.1) (by rw [List.length_append, List.length_append]; have := HS.out.2.2.2; omega) hk)
      have HJ := hide (And.intro hR (And.intro hSi (And.intro hsm (And.intro hy hpos))))
      clear hR hSi hsm hy hM hW hpos hk
      go_wp2_with fail
      refine (hD.out).mono ?_
      rintro e w1 ⟨rfl, rfl⟩
      go_wp2_with fail
      refine (hSt.out).mono ?_
      rintro e w2 ⟨c, q2, y2, vo2, f2, rfl, hR2, hS2, hsm2, hy2, hq2, hcase⟩
      rw [List.append_assoc, List.append_assoc] at hR2
      have hS3 := HJ.out.2.1.trans hS2 (fun _ hi _ => hi)
      have hsm3 := HJ.out.2.2.1.trans hsm2
      have hy3 : all.length + (y ++ y2).length ≤ f.most := by
        rw [HJ.out.2.2.1.most, List.length_append] at hy2
        rw [List.length_append]; omega
      have hpos2 := posOf_eq hR2.rd
      have H2 := hide (And.intro hR2 (And.intro hS3 (And.intro hsm3 (And.intro hy3 hpos2))))
      clear hS2 hsm2 hy2 hR2 hS3 hsm3 hy3 hpos2
      rcases hcase with ⟨rfl, hlt, s2, hM2, hW2⟩ | ⟨rfl, hfar, s2, hM2, hW2⟩ | ⟨rfl, hlong⟩
      · rw [List.append_assoc] at hM2
        have H3 := hide (And.intro hM2 (And.intro hW2 hlt))
        clear hM2 hW2 hlt hq2
        go_wp2_with fail
        go_roundw
        case rel => exact ⟨q2, y ++ y2, vo2, f2, s2, H2.out.1, H2.out.2.1, H2.out.2.2.1, H2.out.2.2.2.1, H3.out.1, H3.out.2.1⟩
        case measure =>
          have h1 := HJ.out.2.2.2.2
          have h2 := H2.out.1.rd.2.2.2
          have h3 := H3.out.2.2
          rw [H2.out.2.2.2.2, h1]
          omega
      · rw [List.append_assoc] at hM2
        have H3 := hide (And.intro hM2 (And.intro hW2 hfar))
        clear hM2 hW2 hfar hq2
        go_wp2_with fail
        go_ret
        refine ⟨2, q2, y ++ y2, vo2, f2, rfl, H2.out.1, H2.out.2.1, H2.out.2.2.1, H2.out.2.2.2.1, .inr (.inl ⟨rfl, H3.out.2.2, fun h11 => ?_, s2, H3.out.1, H3.out.2.1⟩)⟩
        have hM := H3.out.1
        have hk : s2.k = 11 := by rw [← hM.k]; exact h11
        have h1 := hM.p
        rw [if_neg (by rw [hk]; decide), H3.out.2.1.end_ hk] at h1
        have h2 := H2.out.1.rd.2.2.2
        have h3 := HS.out.1.len
        have h4 := HS.out.1.oa
        have h5 := H3.out.2.2
        omega
      · have H3 := hide hlong
        clear hlong hq2
        go_wp2_with fail
        go_ret
        exact ⟨5, q2, y ++ y2, vo2, f2, rfl, H2.out.1, H2.out.2.1, H2.out.2.2.1, H2.out.2.2.2.1, .inr (.inr ⟨rfl, by have := H3.out; rw [HJ.out.2.2.1.most] at this; exact this⟩)⟩
end Go.Proofs.YtglkfgpefpebmaaDoor

