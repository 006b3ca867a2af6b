/-
  Package inflate: literals.
-/
import Derived.Test.YtglkfgpefpebmaaDoorInfD
import Derived.StillTailTactics
namespace Go.Proofs.YtglkfgpefpebmaaDoor
open Go Go.RowKit

/-- The bytes l are those of B from byte o up to byte a. -/
structure Src (B : List UInt8) (a o : Nat) (l : List UInt8) : Prop where
  eq : l = (B.take a).drop o
  oa : o ≤ a
  aB : a ≤ B.length
namespace Src
variable {B : List UInt8} {a o : Nat} {l : List UInt8}
theorem len (h : Src B a o l) : l.length = a - o := by rw [h.eq]; exact part_length B a o h.aB
theorem bits (h : Src B a o l) {k n : Nat} (hk : 8 * o + k + n ≤ 8 * a) : bitsOf (num l) k n = bitsOf (num B) (8 * o + k) n := by rw [h.eq]; exact part_bits B a o k n hk
theorem read (h : Src B a o l) (T : List UInt8) {k : Nat} (hk : k ≤ 8 * l.length) : readM T (num l) k (8 * l.length - k) = readM T (num B) (8 * o + k) (8 * a - (8 * o + k)) := by
  have h1 := h.len
  have h2 := h.oa
  rw [h1, h.eq]
  exact part_read T B a o k h.oa (by omega)
end Src

/-- Where the reader at block g stands. -/
def posOf (w : World) (g : Nat) : Nat := match w.cell? ⟨g, 1, none⟩ with
  | some (.int _ k) => k.toNat
  | _ => 0
theorem posOf_eq {w : World} {g : Nat} {v : Value} {l : List UInt8} {k : Nat} (h : Rd w g v l k) : posOf w g = k := by
  unfold posOf
  have : w.cell? ⟨g, 1, none⟩ = some (.int .i64 (k : Int)) := h.1.cell 1
  rw [this]
  rfl

/-- What comes of literals. -/
def Lits (B : List UInt8) (a o : Nat) (l : List UInt8) (g gf gw gr : Nat) (K : List Nat) (f : DF) (v vo : Value) (q : Nat) (all x : List UInt8) (last : Bool) (E : St) (w : World) (e : Ending) (w' : World) : Prop :=
  ∃ (c q' : Nat) (y : List UInt8) (vo' : Value) (f' : DF), e = .returned (.int .i64 (c : Int)) ∧ Rn w' g gf gw gr K f' v vo' l q' (all ++ y) (x ++ y) ∧ Since [g, gf, gw, gr] w vo w' vo' ∧ all.length + y.length ≤ f.most ∧ q ≤ q' ∧
    ((c = 0 ∧ q < q' ∧ f' = { f with wn := f.wn + y.length, sy := 256 } ∧ Way fixedL (num B) ⟨behindK last, last, 0, 8 * o + q', all ++ y⟩ E) ∨
      (c = 2 ∧ f' = { f with wn := f.wn + y.length } ∧ Way fixedL (num B) ⟨7, last, 0, 8 * o + q', all ++ y⟩ E ∧ 8 * a < E.p) ∨
      (c = 5 ∧ f' = { f with wn := f.wn + y.length } ∧ f.most < E.out.length))

set_option maxRecDepth 100000 in
set_option maxHeartbeats 8000000 in
theorem literals_any (B : List UInt8) (a o : Nat) (l : List UInt8) (hs : Src B a o l) (g gf gw gr : Nat) (K : List Nat) (f : DF) (v vo : Value) (q : Nat) (all x : List UInt8) (last : Bool) (E : St) (w : World) (h : Rn w g gf gw gr K f v vo l q all x) (hk : f.k = 7)
    (hw : Way fixedL (num B) ⟨7, last, 0, 8 * o + q, all⟩ E) (hE : E.k = 11) (hl : all.length ≤ f.most) (hmost : f.most ≤ 1073741824) (hx : x.length ≤ all.length) :
    Calls Tryd.prog 97 #[.pointer (some ⟨g, 0, none⟩), .pointer (some ⟨gf, 0, none⟩)] w (Lits B a o l g gf gw gr K f v vo q all x last E w) := by
  have HS := hide (And.intro hs (And.intro hk (And.intro hE (And.intro hmost hx))))
  have HST := hide (And.intro h (And.intro hw hl))
  clear h hw hl hs hk hE hmost hx
  go_enter Tryd.func97, Tryd.ntmps97
  go_wp2_with fail
  go_loopw [5] (fun _ wr => ∃ (q' : Nat) (y : List UInt8) (vo' : Value), Rn wr g gf gw gr K { f with wn := f.wn + y.length } v vo' l q' (all ++ y) (x ++ y) ∧ Since [g, gf, gw, gr] w vo wr vo' ∧ all.length + y.length ≤ f.most ∧ q ≤ q' ∧ Way fixedL (num B) ⟨7, last, 0, 8 * o + q', all ++ y⟩ E) (fun _ wr => 8 * l.length - posOf wr gr)
  case atStart => exact ⟨q, [], vo, by simpa using HST.out.1, Since.refl _ _ _, by simpa using HST.out.2.2, Nat.le_refl _, by simpa using HST.out.2.1⟩
  case round =>
    obtain ⟨q', y, vo', hR, hSi, hy, hq, hW⟩ := hrel
    obtain ⟨gc, hco, gT, gD, hcd, hT⟩ := hR.co HS.out.2.1
    have hqq := hR.rd.2.2.2
    have hlen := HS.out.1.len
    have hoa := HS.out.1.oa
    have c1 : wr.cell? ⟨g, 353, none⟩ = some (.pointer (some ⟨gc, 0, none⟩)) := by have := hR.on.dec.co; rw [hco] at this; exact this
    have c2 : wr.cell? ⟨gc, 0, none⟩ = some (.pointer (some ⟨gT, 0, none⟩)) := hcd.cell 0
    have c3 : wr.cell? ⟨gf, 0, none⟩ = some (.pointer (some ⟨gr, 0, none⟩)) := Has.cell hR.on.flow 0
    have hpos := posOf_eq hR.rd
    have hRead := fun X e n hs => read_any gT gr v fixedL l q' wr.drew (hT.only (Only.refl [] wr).drew (by simp)) (hR.rd.drewN 1) (by rw [fixL_len]; decide) fixL_far' fixL_sum X e n hs
    have HR := hide (And.intro hR (And.intro hSi (And.intro hy (And.intro hq (And.intro hpos (And.intro hqq (And.intro hlen hoa)))))))
    have HRead := hide hRead
    obtain ⟨t, hM, hWt⟩ := hW.next (by show (7 : Nat) ≠ 11; decide) HS.out.2.2.1
    have HWt := hide (And.intro hW hWt)
    clear hR hSi hy hq hpos hqq hlen hoa hRead hW hWt hco hcd hT
    cases hM with
    | lit _ i p _ hi h0 hb =>
      have hi1 : (i : Int) < 256 := by omega
      by_cases hleft : ln fixedL i ≤ 8 * l.length - q'
      · have hr : readM fixedL (num l) q' (8 * l.length - q') = (i, 0, ln fixedL i) := by
          rw [HS.out.1.read _ HR.out.2.2.2.2.2.1]
          exact read_back fixL_sum fixL_far' h0 (by have := HR.out; have := HS.out.1.len; omega) hb
        have HC := hide (HRead.out i 0 _ hr)
        have HI := hide (And.intro h0 hi)
        clear hr hb hleft h0 hi
        go_wp2_with fail
        go_region_with (go_at_call 93; refine (HC.out).mono ?_; rintro e w1 ⟨rfl, ho1, hr1⟩)
        clear c1 c2 c3
        all_goals
          have hR1 := (HR.out.1.drewN 1).read ho1 hr1
          have k0 : w1.cell? ⟨g, 0, none⟩ = some (.int .i64 (f.most : Int)) := hR1.on.dec.most
          have k6 : w1.cell? ⟨g, 6, none⟩ = some (.int .i64 ((all ++ y).length : Int)) := by have := hR1.on.dec.wn; rw [hR1.on.wn] at this; exact this
          have H1 := hide (And.intro hR1 ho1)
          obtain ⟨z, hz⟩ : ∃ z, z = (all ++ y).length := ⟨_, rfl⟩
          rw [← hz] at k6
          have HZ := hide hz
          clear hR1 ho1 hr1 hz
          by_cases hfull : z = f.most
          · have hd : ((z : Int) == (f.most : Int)) = true := by simp [hfull]
            have HFU := hide hfull
            clear hfull
            go_wp2_with fail
            go_region
            all_goals
              go_wp2_with fail
              go_ret
              refine ⟨5, q' + ln fixedL i, y, vo', _, rfl, H1.out.1.drewN 1, (HR.out.2.1.step ((((Only.refl [gr] wr).drew).trans H1.out.2 (by simp)).weak (by simp))).step ((Only.refl _ w1).drew), HR.out.2.2.1, by have := HR.out.2.2.2.1; omega, .inr (.inr ⟨rfl, rfl, ?_⟩)⟩
              have h1 := HWt.out.2.out_le
              have h2 := HZ.out
              have h3 := HFU.out
              simp only [List.length_append, List.length_singleton] at h1 h2
              omega
          · have hd : ((z : Int) == (f.most : Int)) = false := by simp; omega
            have hd2 : ¬ (z : Int) = (f.most : Int) := by omega
            have hzm : all.length + y.length + 1 ≤ f.most := by
              have h2 := HZ.out
              have h3 := HR.out.2.2.1
              rw [List.length_append] at h2
              omega
            have hib : (UInt8.ofNat i).toNat = i := by rw [UInt8.toNat_ofNat']; exact Nat.mod_eq_of_lt HI.out.2
            have hLay := lay_any g gf gw K _ _ vo' _ _ (UInt8.ofNat i) w1.drew (H1.out.1.drewN 1).on (by rw [List.length_append]; have := HS.out.2.2.2.1; omega) (by rw [List.length_append]; have := HS.out.2.2.2; omega)
            rw [hib] at hLay
            have HL := hide (And.intro hLay hzm)
            clear hfull hzm hib hLay
            go_wp2_with fail
            go_region
            all_goals
              go_wp2_with fail
              refine (HL.out.1).mono ?_
              rintro e w2 ⟨rfl, vo2, hon2, hs2⟩
              have hR2 := (H1.out.1.drewN 1).lay hon2 hs2 rfl rfl rfl
              rw [List.append_assoc, List.append_assoc] at hR2
              have hS2 : Since [g, gf, gw, gr] w vo w2 vo2 := ((HR.out.2.1.step ((((Only.refl [gr] wr).drew).trans H1.out.2 (by simp)).weak (by simp))).step ((Only.refl _ w1).drew)).trans hs2 (fun i hi _ => by simp only [List.mem_cons, List.not_mem_nil, or_false] at hi ⊢; omega)
              have hp2 := posOf_eq hR2.rd
              have H2 := hide (And.intro hR2 (And.intro hS2 hp2))
              clear hR2 hS2 hp2 hon2 hs2
              go_wp2_with fail
              go_roundw
              case rel =>
                have hW2 := HWt.out.2
                rw [List.append_assoc, Nat.add_assoc] at hW2
                refine ⟨q' + ln fixedL i, y ++ [UInt8.ofNat i], vo2, ?_, H2.out.2.1, by rw [List.length_append, List.length_singleton]; have := HL.out.2; omega, by have := HR.out.2.2.2.1; omega, hW2⟩
                rw [List.length_append, List.length_singleton, ← Nat.add_assoc]
                exact H2.out.1
              case measure =>
                have h1 := HR.out.2.2.2.2.1
                have h2 := H2.out.1.rd.2.2.2
                have h3 := HI.out.1
                rw [H2.out.2.2, h1]
                omega
      · have hr : readM fixedL (num l) q' (8 * l.length - q') = (0, 2, 0) := by
          rw [HS.out.1.read _ HR.out.2.2.2.2.2.1]
          exact read_short fixL_sum fixL_far' h0 (by have := HR.out; have := HS.out.1.len; omega) hb (cd_lt fixL_sum h0 (fixL_far' i))
        have HC := hide (HRead.out 0 2 0 hr)
        have hfar : 8 * a < E.p := by
          have h1 := HWt.out.2.grow.1
          have h2 : 8 * o + q' + ln fixedL i ≤ E.p := h1
          have := HR.out
          have := HS.out.1.len
          omega
        have HF := hide hfar
        clear hr hb hleft h0 hi hfar
        go_wp2_with fail
        go_region_with (go_at_call 93; refine (HC.out).mono ?_; rintro e w1 ⟨rfl, ho1, hr1⟩)
        clear c1 c2 c3
        all_goals
          have hR1 := (HR.out.1.drewN 1).read ho1 hr1
          have H1 := hide (And.intro hR1 ho1)
          clear hR1 ho1 hr1
          go_wp2_with fail
          go_ret
          exact ⟨2, q', y, vo', _, rfl, H1.out.1, HR.out.2.1.step ((((Only.refl [gr] wr).drew).trans H1.out.2 (by simp)).weak (by simp)), HR.out.2.2.1, HR.out.2.2.2.1, .inr (.inl ⟨rfl, rfl, HWt.out.1, HF.out⟩)⟩
    | eob _ p _ h0 hb =>
      by_cases hleft : ln fixedL 256 ≤ 8 * l.length - q'
      · have hr : readM fixedL (num l) q' (8 * l.length - q') = (256, 0, ln fixedL 256) := by
          rw [HS.out.1.read _ HR.out.2.2.2.2.2.1]
          exact read_back fixL_sum fixL_far' h0 (by have := HR.out; have := HS.out.1.len; omega) hb
        have HC := hide (HRead.out 256 0 _ hr)
        have HI := hide h0
        clear hr hb hleft h0
        go_wp2_with fail
        go_region_with (go_at_call 93; refine (HC.out).mono ?_; rintro e w1 ⟨rfl, ho1, hr1⟩; have hR1 := (HR.out.1.drewN 1).read ho1 hr1; have k5 := hR1.on.dec.sy; have f5 : w1.frozen? ⟨g, 355, none⟩ = false := Has.free hR1.on.dec 355; have H1 := hide (And.intro hR1 ho1); clear hR1 ho1 hr1)
        clear c1 c2 c3
        all_goals
          go_wp2_with fail
          go_ret
          have oW : Only [g] w1 (w1.setCell ⟨g, 355, none⟩ (.int .i64 256)) := (Only.refl [g] _).setCell (by simp) _
          refine ⟨0, q' + ln fixedL 256, y, vo', _, rfl, H1.out.1.cells oW (Dc.set_sy H1.out.1.on.dec 256) rfl rfl (H1.out.1.fx.imp id (H1.out.1.keepV oW)) (fun h7 => H1.out.1.keepV oW (H1.out.1.co h7)), (HR.out.2.1.step ((((Only.refl [gr] wr).drew).trans H1.out.2 (by simp)).weak (by simp))).step (oW.weak (by simp)), HR.out.2.2.1, by have := HR.out.2.2.2.1; omega, .inl ⟨rfl, by have := HR.out.2.2.2.1; have := HI.out; omega, rfl, ?_⟩⟩
          rw [← Nat.add_assoc]
          exact HWt.out.2
      · have hr : readM fixedL (num l) q' (8 * l.length - q') = (0, 2, 0) := by
          rw [HS.out.1.read _ HR.out.2.2.2.2.2.1]
          exact read_short fixL_sum fixL_far' h0 (by have := HR.out; have := HS.out.1.len; omega) hb (cd_lt fixL_sum h0 (fixL_far' 256))
        have HC := hide (HRead.out 0 2 0 hr)
        have hfar : 8 * a < E.p := by
          have h1 := HWt.out.2.grow.1
          have h2 : 8 * o + q' + ln fixedL 256 ≤ E.p := h1
          have := HR.out
          have := HS.out.1.len
          omega
        have HF := hide hfar
        clear hr hb hleft h0 hfar
        go_wp2_with fail
        go_region_with (go_at_call 93; refine (HC.out).mono ?_; rintro e w1 ⟨rfl, ho1, hr1⟩)
        clear c1 c2 c3
        all_goals
          have hR1 := (HR.out.1.drewN 1).read ho1 hr1
          have H1 := hide (And.intro hR1 ho1)
          clear hR1 ho1 hr1
          go_wp2_with fail
          go_ret
          exact ⟨2, q', y, vo', _, rfl, H1.out.1, HR.out.2.1.step ((((Only.refl [gr] wr).drew).trans H1.out.2 (by simp)).weak (by simp)), HR.out.2.2.1, HR.out.2.2.2.1, .inr (.inl ⟨rfl, rfl, HWt.out.1, HF.out⟩)⟩
end Go.Proofs.YtglkfgpefpebmaaDoor
