/-
  Package inflate: the step that begins with a stored block's size, the one within symbols; any step.
-/
import Derived.Test.YtglkfgpefpebmaaDoorInfG
namespace Go.Proofs.YtglkfgpefpebmaaDoor
open Go Go.RowKit

set_option maxRecDepth 100000 in
set_option maxHeartbeats 8000000 in
theorem step_size (B : List UInt8) (a o : Nat) (l : List UInt8) (hs : Src B a o l) (g gf gw gr : Nat) (K : List Nat) (f : DF) (v vo : Value) (q : Nat) (all x : List UInt8) (E : St) (w : World) (s : St)
    (h : Rn w g gf gw gr K f v vo l q all x) (hm : Mt f s o q all) (hw : Way fixedL (num B) s E) (hE : E.k = 11) (hl : all.length ≤ f.most) (hmost : f.most ≤ 1073741824) (hx : x.length ≤ all.length) (hk : s.k = 1) :
    Calls Tryd.prog 73 #[.pointer (some ⟨g, 0, none⟩), .pointer (some ⟨gf, 0, none⟩)] w (Stepped B a o l g gf gw gr K f v vo q all x E w) := by
  have hlen := hs.len
  have hoa := hs.oa
  have hqq := h.rd.2.2.2
  have hk1 : f.k = 1 := by rw [hm.k, hk]
  obtain ⟨t, hM, ht⟩ := hw.next (by rw [hk]; decide) hE
  have c1 : w.cell? ⟨g, 1, none⟩ = some (.int .i64 1) := by have := h.on.dec.k; rw [hk1] at this; exact this
  have hp : s.p = 8 * o + (q + toByte q) := by have := hm.p; rw [if_pos hk] at this; exact this
  have hgrE := ht.grow.1
  cases hM with
  | size last n p out hn h8 hv =>
    change p = _ at hp
    subst hp
    have hout : out = all := hm.out
    subst hout
    have hlast : f.last = last := hm.last
    have htb : toByte q < 8 ∧ (q + toByte q) % 8 = 0 := by unfold toByte; omega
    by_cases hq : q + toByte q + 32 ≤ 8 * l.length
    · have hbits := hs.bits (k := q + toByte q) (n := 32) (by omega)
      unfold bitsOf at hbits
      have HB := hide (size_ok g gf gw gr K f v vo l q out x w h (by omega) hq n hn (hbits.trans hv))
      have HT := hide (fun w2 (hR : Rn w2 g gf gw gr K { f with left := n, k := 2 } v vo l (q + toByte q + 32) out x) => stored_any B a o l hs g gf gw gr K { f with left := n, k := 2 } v vo (q + toByte q + 32) out x last E w2 hR (show (2 : Nat) ≠ 7 by decide) (by omega) hn ht hE hl hmost hx)
      have HH := hide (And.intro hlast (And.intro hn hk1))
      clear h hm hw hl hk1 hk ht hs hlast hn hmost hx h8 hbits hv hqq hq hlen hoa hgrE htb
      go_enter Tryd.func73, Tryd.ntmps73
      go_wp2_with fail
      refine (HB.out).mono ?_
      rintro e w1 ⟨rfl, hR1, ho1⟩
      have k1 := hR1.on.dec.k
      have f1 : w1.frozen? ⟨g, 1, none⟩ = false := Has.free hR1.on.dec 1
      have oV : Only [g] w1 (w1.setCell ⟨g, 1, none⟩ (.int .i64 2)) := (Only.refl [g] _).setCell (by simp) _
      have hR2 := hR1.cells oV (Dc.set_k hR1.on.dec 2) rfl rfl (hR1.fx.imp id (hR1.keepV oV)) (fun h7 => by cases h7)
      have hST := HT.out _ hR2
      have H1 := hide (And.intro ho1 (And.intro oV hST))
      clear hR1 hR2 ho1 oV hST HB HT
      go_wp2_with fail
      refine (H1.out.2.2).mono ?_
      rintro e w2 ⟨c, q', y, vo', f', rfl, hR, hS, hy, hq', hcase⟩
      have hS0 : Since [g, gf, gw, gr] w vo w2 vo' := ((Since.refl _ _ _).step ((H1.out.1.weak (T := [g, gf, gw, gr]) (by simp)).trans (H1.out.2.1.weak (T := [g, gf, gw, gr]) (by simp)) (by simp))).trans hS (fun _ hi _ => hi)
      have HS0 := hide hS0
      clear hS hS0 H1
      rcases hcase with ⟨rfl, rfl, hlt, hW⟩ | ⟨rfl, hlt, rfl, hW, hfar⟩ | ⟨rfl, rfl, hlong⟩
      · have HBe := hide (behind_any g _ w2 hR.on.dec)
        have H2 := hide (And.intro hR (And.intro hy (And.intro hq' hW)))
        have k2 := hR.on.dec.k
        have f2 : w2.frozen? ⟨g, 1, none⟩ = false := Has.free hR.on.dec 1
        clear hR hy hq' hlt hW k1 f1
        go_wp2_with fail
        refine (HBe.out).mono ?_
        rintro e w3 ⟨rfl, rfl⟩
        go_wp2_with fail
        go_ret
        have oW : Only [g] w2 (w2.setCell ⟨g, 1, none⟩ (.int .i64 (behindK f.last : Nat))) := (Only.refl [g] _).setCell (by simp) _
        have hR := H2.out.1.cells oW (Dc.set_k H2.out.1.on.dec (behindK f.last)) rfl rfl (H2.out.1.fx.imp id (H2.out.1.keepV oW)) (fun h7 => absurd h7 (behindK_7 _))
        exact ⟨0, q', y, vo', { f with wn := f.wn + y.length, left := 0, k := behindK f.last }, rfl, hR, HS0.out.step (oW.weak (by simp)), ⟨rfl, rfl, rfl, rfl, rfl, rfl⟩, H2.out.2.1, by have := H2.out.2.2.1; omega,
          .inl ⟨rfl, by have := H2.out.2.2.1; omega, ⟨behindK last, last, 0, 8 * o + q', out ++ y⟩, step_rest_mt (by rw [HH.out.1]) HH.out.1 rfl rfl rfl (behindK_or _) (by show 0 < 65536; omega), H2.out.2.2.2⟩⟩
      · have H2 := hide (And.intro hR (And.intro hy (And.intro hq' (And.intro hlt (And.intro hW hfar)))))
        clear hR hy hq' hlt hW hfar k1 f1
        go_wp2_with fail
        go_ret
        exact ⟨2, q', y, vo', _, rfl, H2.out.1, HS0.out, ⟨rfl, rfl, rfl, rfl, rfl, rfl⟩, H2.out.2.1, by have := H2.out.2.2.1; omega,
          .inr (.inl ⟨rfl, H2.out.2.2.2.2.2, ⟨2, last, n - y.length, 8 * o + q', out ++ y⟩, step_rest_mt rfl HH.out.1 rfl rfl rfl (.inr (.inl rfl)) (by show n - y.length < 65536; have := HH.out; omega), H2.out.2.2.2.2.1⟩)⟩
      · have H2 := hide (And.intro hR (And.intro hy (And.intro hq' hlong)))
        clear hR hy hq' hlong k1 f1
        go_wp2_with fail
        go_ret
        exact ⟨5, q', y, vo', _, rfl, H2.out.1, HS0.out, ⟨rfl, rfl, rfl, rfl, rfl, rfl⟩, H2.out.2.1, by have := H2.out.2.2.1; omega, .inr (.inr ⟨rfl, H2.out.2.2.2⟩)⟩
    · have HB := hide (size_short g gf gw gr K f v vo l q out x w h (by omega))
      change 8 * o + (q + toByte q) + 32 ≤ E.p at hgrE
      have hz : toByte (q + toByte q) = 0 := by have := htb.2; unfold toByte at this ⊢; omega
      have HH := hide (And.intro hm (And.intro hw (And.intro hl (And.intro (show 8 * a < E.p by omega) (And.intro hz hk1)))))
      clear h hm hw hl hk1 hk ht hs hlast hn hmost hx h8 hv hqq hq hlen hoa hgrE htb hz
      go_enter Tryd.func73, Tryd.ntmps73
      go_wp2_with fail
      refine (HB.out).mono ?_
      rintro e w1 ⟨rfl, hR, ho⟩
      have H1 := hide (And.intro hR ho)
      clear hR ho
      go_wp2_with fail
      go_ret
      have hm := HH.out.1
      refine ⟨2, q + toByte q, [], vo, f, rfl, by simpa using H1.out.1, (Since.refl _ _ _).step (H1.out.2.weak (by simp)), Same.refl _, by simpa using HH.out.2.2.1, by omega, .inr (.inl ⟨rfl, HH.out.2.2.2.1, ⟨1, last, 0, 8 * o + (q + toByte q), out⟩, ⟨hm.k, hm.last, hm.left, by simp, ?_, by simp, hm.few⟩, HH.out.2.1⟩)⟩
      show 8 * o + (q + toByte q) = 8 * o + (if 1 = 1 then q + toByte q + toByte (q + toByte q) else q + toByte q)
      rw [if_pos rfl, HH.out.2.2.2.2.1]
      rfl
  | stored l0 last p p' out hv hp' => cases hk
  | fixed l0 last p out hv => cases hk
  | byte last n p out h8 => cases hk
  | lit last i p out hi h0 hb => cases hk
  | eob last p out h0 hb => cases hk

set_option maxRecDepth 100000 in
set_option maxHeartbeats 8000000 in
theorem syms_any (B : List UInt8) (a o : Nat) (l : List UInt8) (hs : Src B a o l) (g gf gw gr : Nat) (K : List Nat) (f : DF) (v vo : Value) (q : Nat) (all x : List UInt8) (E : St) (w : World) (s : St)
    (h : Rn w g gf gw gr K f v vo l q all x) (hm : Mt f s o q all) (hw : Way fixedL (num B) s E) (hE : E.k = 11) (hl : all.length ≤ f.most) (hmost : f.most ≤ 1073741824) (hx : x.length ≤ all.length) (hk : s.k = 7) :
    Calls Tryd.prog 87 #[.pointer (some ⟨g, 0, none⟩), .pointer (some ⟨gf, 0, none⟩)] w (Stepped B a o l g gf gw gr K f v vo q all x E w) := by
  have hk7 : f.k = 7 := by rw [hm.k, hk]
  have c1 : w.cell? ⟨g, 1, none⟩ = some (.int .i64 7) := by have := h.on.dec.k; rw [hk7] at this; exact this
  have hp : s.p = 8 * o + q := by have := hm.p; rw [if_neg (by omega)] at this; exact this
  have hs0 : s = ⟨7, s.last, 0, 8 * o + q, all⟩ := by
    obtain ⟨t, hM, _⟩ := hw.next (by rw [hk]; decide) hE
    have ho := hm.out
    obtain ⟨sk, sl, sn, sp, so⟩ := s
    change sk = 7 at hk
    change sp = _ at hp
    change so = all at ho
    subst hk hp ho
    cases hM <;> rfl
  rw [hs0] at hw
  have HB := hide (literals_any B a o l hs g gf gw gr K f v vo q all x s.last E w h hk7 hw hE hl hmost hx)
  have HH := hide (And.intro hk7 (And.intro hm.last hm.left))
  have hsl : f.left = 0 := by have := hm.left; rw [hs0] at this; exact this
  have HSL := hide hsl
  clear h hm hw hl hk7 hk hs hmost hx hp hs0 hsl
  go_enter Tryd.func87, Tryd.ntmps87
  go_wp2_with fail
  refine (HB.out).mono ?_
  rintro e w1 ⟨c, q', y, vo', f', rfl, hR, hS, hy, hq', hcase⟩
  rcases hcase with ⟨rfl, hlt, rfl, hW⟩ | ⟨rfl, rfl, hW, hfar⟩ | ⟨rfl, rfl, hlong⟩
  · have HBe := hide (behind_any g _ w1 hR.on.dec)
    have k1 := hR.on.dec.k
    have k3 : w1.cell? ⟨g, 355, none⟩ = some (.int .i64 256) := hR.on.dec.sy
    have f1 : w1.frozen? ⟨g, 1, none⟩ = false := Has.free hR.on.dec 1
    have H1 := hide (And.intro hR (And.intro hS (And.intro hy (And.intro hq' (And.intro hlt hW)))))
    clear hR hS hy hq' hlt hW
    go_wp2_with fail
    refine (HBe.out).mono ?_
    rintro e w2 ⟨rfl, rfl⟩
    go_wp2_with fail
    go_ret
    have oW : Only [g] w1 (w1.setCell ⟨g, 1, none⟩ (.int .i64 (behindK f.last : Nat))) := (Only.refl [g] _).setCell (by simp) _
    have hR := H1.out.1.cells oW (Dc.set_k H1.out.1.on.dec (behindK f.last)) rfl rfl (H1.out.1.fx.imp id (H1.out.1.keepV oW)) (fun h7 => absurd h7 (behindK_7 _))
    exact ⟨0, q', y, vo', { f with wn := f.wn + y.length, sy := 256, k := behindK f.last }, rfl, hR, H1.out.2.1.step (oW.weak (by simp)), ⟨rfl, rfl, rfl, rfl, rfl, rfl⟩, H1.out.2.2.1, H1.out.2.2.2.1,
      .inl ⟨rfl, H1.out.2.2.2.2.1, ⟨behindK s.last, s.last, 0, 8 * o + q', all ++ y⟩, step_rest_mt (by rw [HH.out.2.1]) HH.out.2.1 HSL.out rfl rfl (behindK_or _) (by show 0 < 65536; omega), H1.out.2.2.2.2.2⟩⟩
  · have H1 := hide (And.intro hR (And.intro hS (And.intro hy (And.intro hq' (And.intro hW hfar)))))
    clear hR hS hy hq' hW hfar
    go_wp2_with fail
    go_ret
    exact ⟨2, q', y, vo', _, rfl, H1.out.1, H1.out.2.1, ⟨rfl, rfl, rfl, rfl, rfl, rfl⟩, H1.out.2.2.1, H1.out.2.2.2.1,
      .inr (.inl ⟨rfl, H1.out.2.2.2.2.2, ⟨7, s.last, 0, 8 * o + q', all ++ y⟩, step_rest_mt HH.out.1 HH.out.2.1 HSL.out rfl rfl (.inr (.inr (.inl rfl))) (by show 0 < 65536; omega), H1.out.2.2.2.2.1⟩)⟩
  · have H1 := hide (And.intro hR (And.intro hS (And.intro hy (And.intro hq' hlong))))
    clear hR hS hy hq' hlong
    go_wp2_with fail
    go_ret
    exact ⟨5, q', y, vo', _, rfl, H1.out.1, H1.out.2.1, ⟨rfl, rfl, rfl, rfl, rfl, rfl⟩, H1.out.2.2.1, H1.out.2.2.2.1, .inr (.inr ⟨rfl, H1.out.2.2.2.2⟩)⟩

set_option maxRecDepth 100000 in
set_option maxHeartbeats 4000000 in
theorem step_syms (B : List UInt8) (a o : Nat) (l : List UInt8) (hs : Src B a o l) (g gf gw gr : Nat) (K : List Nat) (f : DF) (v vo : Value) (q : Nat) (all x : List UInt8) (E : St) (w : World) (s : St)
    (h : Rn w g gf gw gr K f v vo l q all x) (hm : Mt f s o q all) (hw : Way fixedL (num B) s E) (hE : E.k = 11) (hl : all.length ≤ f.most) (hmost : f.most ≤ 1073741824) (hx : x.length ≤ all.length) (hk : s.k = 7) :
    Calls Tryd.prog 73 #[.pointer (some ⟨g, 0, none⟩), .pointer (some ⟨gf, 0, none⟩)] w (Stepped B a o l g gf gw gr K f v vo q all x E w) := by
  have hk7 : f.k = 7 := by rw [hm.k, hk]
  have c1 : w.cell? ⟨g, 1, none⟩ = some (.int .i64 7) := by have := h.on.dec.k; rw [hk7] at this; exact this
  have HB := hide (syms_any B a o l hs g gf gw gr K f v vo q all x E w s h hm hw hE hl hmost hx hk)
  clear h hm hw hl hk7 hk hs hmost hx
  go_enter Tryd.func73, Tryd.ntmps73
  go_wp2_with fail
  refine (HB.out).mono ?_
  rintro e w1 ⟨c, q', y, vo', f', rfl, hR, hS, hsm, hy, hq', hcase⟩
  have H1 := hide (And.intro hR (And.intro hS (And.intro hsm (And.intro hy (And.intro hq' hcase)))))
  clear hR hS hsm hy hq' hcase
  go_wp2_with fail
  go_ret
  exact ⟨c, q', y, vo', f', rfl, H1.out⟩

theorem step_any (B : List UInt8) (a o : Nat) (l : List UInt8) (hs : Src B a o l) (g gf gw gr : Nat) (K : List Nat) (f : DF) (v vo : Value) (q : Nat) (all x : List UInt8) (E : St) (w : World) (s : St)
    (h : Rn w g gf gw gr K f v vo l q all x) (hm : Mt f s o q all) (hw : Way fixedL (num B) s E) (hE : E.k = 11) (hl : all.length ≤ f.most) (hmost : f.most ≤ 1073741824) (hx : x.length ≤ all.length) (hk : s.k ≠ 11) :
    Calls Tryd.prog 73 #[.pointer (some ⟨g, 0, none⟩), .pointer (some ⟨gf, 0, none⟩)] w (Stepped B a o l g gf gw gr K f v vo q all x E w) := by
  rcases hm.ks with h0 | h0 | h0 | h0 | h0
  · exact step_block B a o l hs g gf gw gr K f v vo q all x E w s h hm hw hE hl h0
  · exact step_size B a o l hs g gf gw gr K f v vo q all x E w s h hm hw hE hl hmost hx h0
  · exact step_bytes B a o l hs g gf gw gr K f v vo q all x E w s h hm hw hE hl hmost hx h0
  · exact step_syms B a o l hs g gf gw gr K f v vo q all x E w s h hm hw hE hl hmost hx h0
  · exact absurd h0 hk

/-- What comes of all that is there. -/
def Ran (B : List UInt8) (a o : Nat) (l : List UInt8) (g gf gw gr : Nat) (K : List Nat) (f : DF) (v vo : Value) (all x : List UInt8) (E : St) (w : World) (e : Ending) (w' : World) : Prop :=
  ∃ (c q' : Nat) (y : List UInt8) (vo' : Value) (f' : DF), e = .returned (.int .i64 (c : Int)) ∧ Rn w' g gf gw gr K f' v vo' l q' (all ++ y) (x ++ y) ∧ Since [g, gf, gw, gr] w vo w' vo' ∧ Same f f' ∧ all.length + y.length ≤ f.most ∧
    ((c = 0 ∧ f'.k = 11 ∧ E.p = 8 * o + q' ∧ E.out = all ++ y) ∨
      (c = 2 ∧ 8 * a < E.p ∧ f'.k ≠ 11 ∧ ∃ s', Mt f' s' o q' (all ++ y) ∧ Way fixedL (num B) s' E) ∨
      (c = 5 ∧ f.most < E.out.length))
end Go.Proofs.YtglkfgpefpebmaaDoor
