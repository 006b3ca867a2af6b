/-
  Package inflate: one step, and all of them.
-/
import Derived.Test.YtglkfgpefpebmaaDoorInfF
namespace Go.Proofs.YtglkfgpefpebmaaDoor
open Go Go.RowKit

/-- What stays as it was in a step. -/
structure Same (f f' : DF) : Prop where
  most : f'.most = f.most
  fault : f'.fault = f.fault
  used : f'.used = f.used
  total : f'.total = f.total
  wt : f'.wt = f.wt
  ps : f'.ps = f.ps
theorem Same.refl (f : DF) : Same f f := ⟨rfl, rfl, rfl, rfl, rfl, rfl⟩
theorem Same.trans {f f' f'' : DF} (h : Same f f') (k : Same f' f'') : Same f f'' := ⟨k.most.trans h.most, k.fault.trans h.fault, k.used.trans h.used, k.total.trans h.total, k.wt.trans h.wt, k.ps.trans h.ps⟩

/-- The decoder stands at s, its reader at bit q of the bytes from byte o on. -/
structure Mt (f : DF) (s : St) (o q : Nat) (all : List UInt8) : Prop where
  k : f.k = s.k
  last : f.last = s.last
  left : f.left = s.left
  out : s.out = all
  p : s.p = 8 * o + (if s.k = 1 then q + toByte q else q)
  ks : s.k = 0 ∨ s.k = 1 ∨ s.k = 2 ∨ s.k = 7 ∨ s.k = 11
  few : s.left < 65536

def Stepped (B : List UInt8) (a o : Nat) (l : List UInt8) (g gf gw gr : Nat) (K : List Nat) (f : DF) (v vo : Value) (q : Nat) (all x : List UInt8) (E : St) (w : World) (e : Ending) (w' : World) : Prop :=
  ∃ (c q' : Nat) (y : List UInt8) (vo' : Value) (f' : DF), e = .returned (.int .i64 (c : Int)) ∧ Rn w' g gf gw gr K f' v vo' l q' (all ++ y) (x ++ y) ∧ Since [g, gf, gw, gr] w vo w' vo' ∧ Same f f' ∧ all.length + y.length ≤ f.most ∧ q ≤ q' ∧
    ((c = 0 ∧ q < q' ∧ ∃ s', Mt f' s' o q' (all ++ y) ∧ Way fixedL (num B) s' E) ∨
      (c = 2 ∧ 8 * a < E.p ∧ ∃ s', Mt f' s' o q' (all ++ y) ∧ Way fixedL (num B) s' E) ∨
      (c = 5 ∧ f.most < E.out.length))

set_option maxRecDepth 100000 in
set_option maxHeartbeats 4000000 in
theorem step_block (B : List UInt8) (a o : Nat) (l : List UInt8) (hs : Src B a o l) (g gf gw gr : Nat) (K : List Nat) (f : DF) (v vo : Value) (q : Nat) (all x : List UInt8) (E : St) (w : World) (s : St)
    (h : Rn w g gf gw gr K f v vo l q all x) (hm : Mt f s o q all) (hw : Way fixedL (num B) s E) (hE : E.k = 11) (hl : all.length ≤ f.most) (hk : s.k = 0) :
    Calls Tryd.prog 73 #[.pointer (some ⟨g, 0, none⟩), .pointer (some ⟨gf, 0, none⟩)] w (Stepped B a o l g gf gw gr K f v vo q all x E w) := by
  have hlen := hs.len
  have hoa := hs.oa
  have hqq := h.rd.2.2.2
  have hk0 : f.k = 0 := by rw [hm.k, hk]
  obtain ⟨t, hM, ht⟩ := hw.next (by rw [hk]; decide) hE
  have c1 : w.cell? ⟨g, 1, none⟩ = some (.int .i64 0) := by have := h.on.dec.k; rw [hk0] at this; exact this
  have hp : s.p = 8 * o + q := by have := hm.p; rw [if_neg (by omega)] at this; exact this
  have hgr := hM.grow.1
  have hgrE := ht.grow.1
  have hmE := hm.few
  by_cases hq : q + 3 ≤ 8 * l.length
  · have hbits := hs.bits (k := q) (n := 3) (by omega)
    unfold bitsOf at hbits
    cases hM with
    | stored l0 last p p' out hv hp' =>
      change p = _ at hp
      subst hp
      have hout : out = all := hm.out
      subst hout
      have HB := hide (begin_stored g gf gw gr K f v vo l q out x w h hq hk0 last (hbits.trans hv))
      have HH := hide (And.intro h (And.intro hm (And.intro ht (And.intro hl (And.intro hk0 hp')))))
      clear h hm hw hl hk0 hk ht hgr hgrE hqq hq hlen hoa hs hv hbits hp' hmE
      go_enter Tryd.func73, Tryd.ntmps73
      go_wp2_with fail
      refine (HB.out).mono ?_
      rintro e w1 ⟨rfl, hR, ho⟩
      have k1 := hR.on.dec.k
      have f1 : w1.frozen? ⟨g, 1, none⟩ = false := Has.free hR.on.dec 1
      have H1 := hide (And.intro hR ho)
      clear hR ho
      go_wp2_with fail
      go_ret
      have oW : Only [g] w1 (w1.setCell ⟨g, 1, none⟩ (.int .i64 1)) := (Only.refl [g] _).setCell (by simp) _
      have hR := H1.out.1.cells oW (Dc.set_k H1.out.1.on.dec 1) rfl rfl (H1.out.1.fx.imp id (H1.out.1.keepV oW)) (fun h7 => by cases h7)
      refine ⟨0, q + 3, [], vo, { f with last := last, k := 1 }, rfl, by simpa using hR, (Since.refl _ _ _).step (((H1.out.2.weak (by simp)).trans (oW.weak (T := [g, gf, gw, gr]) (by simp)) (by simp))), ⟨rfl, rfl, rfl, rfl, rfl, rfl⟩, by simpa using HH.out.2.2.2.1, by omega, .inl ⟨rfl, by omega, ⟨1, last, 0, p', out⟩, ⟨rfl, rfl, HH.out.2.1.left, by simp, ?_, by simp, by show 0 < 65536; omega⟩, HH.out.2.2.1⟩⟩
      show p' = 8 * o + (if 1 = 1 then q + 3 + toByte (q + 3) else q + 3)
      rw [if_pos rfl, HH.out.2.2.2.2.2]
      unfold toByte
      omega
    | fixed l0 last p out hv =>
      change p = _ at hp
      subst hp
      have hout : out = all := hm.out
      subst hout
      have HB := hide (begin_fixed g gf gw gr K f v vo l q out x w h hq hk0 last (hbits.trans hv))
      have HH := hide (And.intro h (And.intro hm (And.intro ht (And.intro hl hk0))))
      clear h hm hw hl hk0 hk ht hgr hgrE hqq hq hlen hoa hs hv hbits hmE
      go_enter Tryd.func73, Tryd.ntmps73
      go_wp2_with fail
      refine (HB.out).mono ?_
      rintro e w1 ⟨rfl, ⟨gc, hgc, hR⟩, ho⟩
      have k1 := hR.on.dec.k
      have f1 : w1.frozen? ⟨g, 1, none⟩ = false := Has.free hR.on.dec 1
      have H1 := hide (And.intro hR (And.intro ho hgc))
      clear hR ho hgc
      go_wp2_with fail
      go_ret
      have oW : Only [g] w1 (w1.setCell ⟨g, 1, none⟩ (.int .i64 7)) := (Only.refl [g] _).setCell (by simp) _
      have hR := H1.out.1.cells oW (Dc.set_k H1.out.1.on.dec 7) rfl rfl (H1.out.1.fx.imp id (H1.out.1.keepV oW)) (fun _ => H1.out.1.keepV oW ⟨gc, rfl, H1.out.2.2⟩)
      refine ⟨0, q + 3, [], vo, { f with last := last, fx := .pointer (some ⟨gc, 0, none⟩), co := .pointer (some ⟨gc, 0, none⟩), k := 7 }, rfl, by simpa using hR, (Since.refl _ _ _).step (((H1.out.2.1.weak (by simp)).trans (oW.weak (T := [g, gf, gw, gr]) (by simp)) (by simp))), ⟨rfl, rfl, rfl, rfl, rfl, rfl⟩, by simpa using HH.out.2.2.2.1, by omega, .inl ⟨rfl, by omega, ⟨7, last, 0, 8 * o + q + 3, out⟩, ⟨rfl, rfl, HH.out.2.1.left, by simp, ?_, by simp, by show 0 < 65536; omega⟩, HH.out.2.2.1⟩⟩
      show 8 * o + q + 3 = 8 * o + (if 7 = 1 then q + 3 + toByte (q + 3) else q + 3)
      rw [if_neg (by decide)]
      omega
    | size last n p out hn h8 hv => cases hk
    | byte last n p out h8 => cases hk
    | lit last i p out hi h0 hb => cases hk
    | eob last p out h0 hb => cases hk
  · have HB := hide (begin_short g gf gw gr K f v vo l q all x w h (by omega))
    have HH := hide (And.intro h (And.intro hm (And.intro hw (And.intro hl (And.intro hk0 hk)))))
    have hfar : 8 * a < E.p := by
      cases hM with
      | stored l0 last p p' out hv hp' => change p = _ at hp; change p' ≤ E.p at hgrE; omega
      | fixed l0 last p out hv => change p = _ at hp; change p + 3 ≤ E.p at hgrE; omega
      | size last n p out hn h8 hv => cases hk
      | byte last n p out h8 => cases hk
      | lit last i p out hi h0 hb => cases hk
      | eob last p out h0 hb => cases hk
    have HF := hide hfar
    clear h hm hw hl hk0 hk hM ht hgr hgrE hp hqq hq hfar hlen hoa hs hmE
    go_enter Tryd.func73, Tryd.ntmps73
    go_wp2_with fail
    refine (HB.out).mono ?_
    rintro e w1 ⟨rfl, hR, ho⟩
    have k1 := hR.on.dec.k
    have f1 : w1.frozen? ⟨g, 1, none⟩ = false := Has.free hR.on.dec 1
    have H1 := hide (And.intro hR ho)
    clear hR ho
    go_wp2_with fail
    go_ret
    have oW : Only [g] w1 (w1.setCell ⟨g, 1, none⟩ (.int .i64 0)) := (Only.refl [g] _).setCell (by simp) _
    have hR := H1.out.1.cells oW (Dc.set_k H1.out.1.on.dec 0) rfl rfl (H1.out.1.fx.imp id (H1.out.1.keepV oW)) (fun h7 => by cases h7)
    have hm := HH.out.2.1
    exact ⟨2, q, [], vo, { f with k := 0 }, rfl, by simpa using hR, (Since.refl _ _ _).step (((H1.out.2.weak (by simp)).trans (oW.weak (T := [g, gf, gw, gr]) (by simp)) (by simp))), ⟨rfl, rfl, rfl, rfl, rfl, rfl⟩, by simpa using HH.out.2.2.2.1, Nat.le_refl _, .inr (.inl ⟨rfl, HF.out, s, ⟨HH.out.2.2.2.2.2.symm, hm.last, hm.left, by simpa using hm.out, hm.p, hm.ks, hm.few⟩, HH.out.2.2.1⟩)⟩

theorem behindK_7 (b : Bool) : behindK b ≠ 7 := by cases b <;> decide
theorem behindK_or (b : Bool) : behindK b = 0 ∨ behindK b = 2 ∨ behindK b = 7 ∨ behindK b = 11 := by cases b <;> decide
/-- A step that ends with stored bytes, from there on. -/
theorem step_rest_mt {f' : DF} {s' : St} {o q : Nat} {all : List UInt8} (hk : f'.k = s'.k) (hl : f'.last = s'.last) (hn : f'.left = s'.left) (ho : s'.out = all) (hp : s'.p = 8 * o + q) (h1 : s'.k = 0 ∨ s'.k = 2 ∨ s'.k = 7 ∨ s'.k = 11) (hf : s'.left < 65536) : Mt f' s' o q all :=
  ⟨hk, hl, hn, ho, by rw [if_neg (by omega)]; exact hp, by omega, hf⟩

set_option maxRecDepth 100000 in
set_option maxHeartbeats 4000000 in
theorem step_bytes (B : List UInt8) (a o : Nat) (l : List UInt8) (hs : Src B a o l) (g gf gw gr : Nat) (K : List Nat) (f : DF) (v vo : Value) (q : Nat) (all x : List UInt8) (E : St) (w : World) (s : St)
    (h : Rn w g gf gw gr K f v vo l q all x) (hm : Mt f s o q all) (hw : Way fixedL (num B) s E) (hE : E.k = 11) (hl : all.length ≤ f.most) (hmost : f.most ≤ 1073741824) (hx : x.length ≤ all.length) (hk : s.k = 2) :
    Calls Tryd.prog 73 #[.pointer (some ⟨g, 0, none⟩), .pointer (some ⟨gf, 0, none⟩)] w (Stepped B a o l g gf gw gr K f v vo q all x E w) := by
  have hk2 : f.k = 2 := by rw [hm.k, hk]
  obtain ⟨t, hM, ht⟩ := hw.next (by rw [hk]; decide) hE
  have c1 : w.cell? ⟨g, 1, none⟩ = some (.int .i64 2) := by have := h.on.dec.k; rw [hk2] at this; exact this
  have hp : s.p = 8 * o + q := by have := hm.p; rw [if_neg (by omega)] at this; exact this
  cases hM with
  | byte last n p out h8 =>
    change p = _ at hp
    subst hp
    have hout : out = all := hm.out
    subst hout
    have hleft : f.left = n + 1 := hm.left
    have hlast : f.last = last := hm.last
    have hfew : n + 1 < 65536 := hm.few
    have hB := stored_any B a o l hs g gf gw gr K f v vo q out x last E w h (by omega) (by omega) (by omega) (by rw [hleft, stK_pos last (by omega)]; exact hw) hE hl hmost hx
    have HB := hide hB
    have HH := hide (And.intro hleft (And.intro hlast (And.intro hfew hk2)))
    clear h hm hw hl hk2 hk ht hs hB hleft hlast hfew hmost hx h8
    go_enter Tryd.func73, Tryd.ntmps73
    go_wp2_with fail
    refine (HB.out).mono ?_
    rintro e w1 ⟨c, q', y, vo', f', rfl, hR, hS, hy, hq', hcase⟩
    rcases hcase with ⟨rfl, rfl, hlt, hW⟩ | ⟨rfl, hlt, rfl, hW, hfar⟩ | ⟨rfl, rfl, hlong⟩
    · have HBe := hide (behind_any g _ w1 hR.on.dec)
      have H1 := hide (And.intro hR (And.intro hS (And.intro hy (And.intro hq' (And.intro hlt hW)))))
      have k1 := hR.on.dec.k
      have f1 : w1.frozen? ⟨g, 1, none⟩ = false := Has.free hR.on.dec 1
      clear hR hS hy hq' hlt hW
      go_wp2_with fail
      refine (HBe.out).mono ?_
      rintro e w2 ⟨rfl, rfl⟩
      go_wp2_with fail
      go_ret
      have oW : Only [g] w1 (w1.setCell ⟨g, 1, none⟩ (.int .i64 (behindK f.last : Nat))) := (Only.refl [g] _).setCell (by simp) _
      have hR := H1.out.1.cells oW (Dc.set_k H1.out.1.on.dec (behindK f.last)) rfl rfl (H1.out.1.fx.imp id (H1.out.1.keepV oW)) (fun h7 => absurd h7 (behindK_7 _))
      exact ⟨0, q', y, vo', { f with wn := f.wn + y.length, left := 0, k := behindK f.last }, rfl, hR, H1.out.2.1.step (oW.weak (by simp)), ⟨rfl, rfl, rfl, rfl, rfl, rfl⟩, H1.out.2.2.1, H1.out.2.2.2.1,
        .inl ⟨rfl, H1.out.2.2.2.2.1 (by have := HH.out.1; omega), ⟨behindK last, last, 0, 8 * o + q', out ++ y⟩, step_rest_mt (by rw [HH.out.2.1]) HH.out.2.1 rfl rfl rfl (behindK_or _) (by show 0 < 65536; omega), H1.out.2.2.2.2.2⟩⟩
    · have H1 := hide (And.intro hR (And.intro hS (And.intro hy (And.intro hq' (And.intro hlt (And.intro hW hfar))))))
      clear hR hS hy hq' hlt hW hfar
      go_wp2_with fail
      go_ret
      exact ⟨2, q', y, vo', _, rfl, H1.out.1, H1.out.2.1, ⟨rfl, rfl, rfl, rfl, rfl, rfl⟩, H1.out.2.2.1, H1.out.2.2.2.1,
        .inr (.inl ⟨rfl, H1.out.2.2.2.2.2.2, ⟨2, last, f.left - y.length, 8 * o + q', out ++ y⟩, step_rest_mt HH.out.2.2.2 HH.out.2.1 rfl rfl rfl (.inr (.inl rfl)) (by show f.left - y.length < 65536; have := HH.out; omega), H1.out.2.2.2.2.2.1⟩)⟩
    · have H1 := hide (And.intro hR (And.intro hS (And.intro hy (And.intro hq' hlong))))
      clear hR hS hy hq' hlong
      go_wp2_with fail
      go_ret
      exact ⟨5, q', y, vo', _, rfl, H1.out.1, H1.out.2.1, Same.refl _, H1.out.2.2.1, H1.out.2.2.2.1, .inr (.inr ⟨rfl, H1.out.2.2.2.2⟩)⟩
  | stored l0 last p p' out hv hp' => cases hk
  | fixed l0 last p out hv => cases hk
  | size last n p out hn h8 hv => cases hk
  | lit last i p out hi h0 hb => cases hk
  | eob last p out h0 hb => cases hk
end Go.Proofs.YtglkfgpefpebmaaDoor
