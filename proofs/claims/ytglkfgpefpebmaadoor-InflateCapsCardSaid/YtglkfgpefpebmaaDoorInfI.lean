/-
  Package inflate: run.
-/
import Derived.Test.YtglkfgpefpebmaaDoorInfH
namespace Go.Proofs.YtglkfgpefpebmaaDoor
open Go Go.RowKit

theorem Mv.not_end {T : List UInt8} {N : Nat} {s t : St} (h : Mv T N s t) : s.k ≠ 11 := by
  cases h with
  | stored => exact show (0 : Nat) ≠ 11 by decide
  | fixed => exact show (0 : Nat) ≠ 11 by decide
  | size => exact show (1 : Nat) ≠ 11 by decide
  | byte => exact show (2 : Nat) ≠ 11 by decide
  | lit => exact show (7 : Nat) ≠ 11 by decide
  | eob => exact show (7 : Nat) ≠ 11 by decide
theorem Way.end_ {T : List UInt8} {N : Nat} {s e : St} (h : Way T N s e) (hs : s.k = 11) : s = e := by
  cases h with
  | stop => rfl
  | go h _ => exact absurd hs h.not_end

set_option maxRecDepth 100000 in
set_option maxHeartbeats 4000000 in
theorem run_any (B : List UInt8) (a o : Nat) (l : List UInt8) (hs : Src B a o l) (g gf gw gr : Nat) (K : List Nat) (f : DF) (v vo : Value) (q : Nat) (all x : List UInt8) (E : St) (w : World) (s : St)
    (h : Rn w g gf gw gr K f v vo l q all x) (hm : Mt f s o q all) (hw : Way fixedL (num B) s E) (hE : E.k = 11) (hl : all.length ≤ f.most) (hmost : f.most ≤ 1073741824) (hx : x.length ≤ all.length) :
    Calls Tryd.prog 63 #[.pointer (some ⟨g, 0, none⟩), .pointer (some ⟨gf, 0, none⟩)] w (Ran B a o l g gf gw gr K f v vo all x E w) := by
  have HS := hide (And.intro hs (And.intro hE (And.intro hmost hx)))
  have HST := hide (And.intro h (And.intro hm (And.intro hw hl)))
  clear h hw hl hs hm hE hmost hx
  go_enter Tryd.func63, Tryd.ntmps63
  go_wp2_with fail
  go_loopw [5] (fun _ wr => ∃ (q' : Nat) (y : List UInt8) (vo' : Value) (f' : DF) (s' : St), Rn wr g gf gw gr K f' v vo' l q' (all ++ y) (x ++ y) ∧ Since [g, gf, gw, gr] w vo wr vo' ∧ Same f f' ∧ all.length + y.length ≤ f.most ∧ Mt f' s' o q' (all ++ y) ∧ Way fixedL (num B) s' E) (fun _ wr => 8 * l.length - posOf wr gr)
  case atStart => exact ⟨q, [], vo, f, s, by simpa using HST.out.1, Since.refl _ _ _, Same.refl _, by simpa using HST.out.2.2.2, by simpa using HST.out.2.1, HST.out.2.2.1⟩
  case round =>
    obtain ⟨q', y, vo', f', s', hR, hSi, hsm, hy, hM, hW⟩ := hrel
    have hpos := posOf_eq hR.rd
    by_cases hk : s'.k = 11
    · have hD := hide (done_any g f' wr hR.on.dec true (by rw [hM.k, hk]; rfl))
      have heq := hW.end_ hk
      have HJ := hide (And.intro hR (And.intro hSi (And.intro hsm (And.intro hy (And.intro hM (And.intro heq hk))))))
      clear hR hSi hsm hy hM hW hpos hk heq
      go_wp2_with fail
      refine (hD.out).mono ?_
      rintro e w1 ⟨rfl, rfl⟩
      go_wp2_with fail
      go_ret
      have hM := HJ.out.2.2.2.2.1
      have heq := HJ.out.2.2.2.2.2.1
      have hk := HJ.out.2.2.2.2.2.2
      refine ⟨0, q', y, vo', f', rfl, HJ.out.1, HJ.out.2.1, HJ.out.2.2.1, HJ.out.2.2.2.1, .inl ⟨rfl, by rw [hM.k, hk], ?_, ?_⟩⟩
      · have := hM.p
        rw [if_neg (by rw [hk]; decide), heq] at this
        exact this
      · rw [← heq]; exact hM.out
    · have hD := hide (done_any g f' wr hR.on.dec false (by rw [hM.k]; exact decide_eq_false (by omega)))
      have hSt := hide (step_any B a o l HS.out.1 g gf gw gr K f' v vo' q' (all ++ y) (x ++ y) E wr s' hR hM hW HS.out.2.1 (by rw [hsm.most, List.length_append]; exact hy) (by rw [hsm.most]; exact HS.out.2.2.1) (by rw [List.length_append, List.length_append]; have := HS.out.2.2.2; omega) hk)
      have HJ := hide (And.intro hR (And.intro hSi (And.intro hsm (And.intro hy hpos))))
      clear hR hSi hsm hy hM hW hpos hk
      go_wp2_with fail
      refine (hD.out).mono ?_
      rintro e w1 ⟨rfl, rfl⟩
      go_wp2_with fail
      refine (hSt.out).mono ?_
      rintro e w2 ⟨c, q2, y2, vo2, f2, rfl, hR2, hS2, hsm2, hy2, hq2, hcase⟩
      rw [List.append_assoc, List.append_assoc] at hR2
      have hS3 := HJ.out.2.1.trans hS2 (fun _ hi _ => hi)
      have hsm3 := HJ.out.2.2.1.trans hsm2
      have hy3 : all.length + (y ++ y2).length ≤ f.most := by
        rw [HJ.out.2.2.1.most, List.length_append] at hy2
        rw [List.length_append]; omega
      have hpos2 := posOf_eq hR2.rd
      have H2 := hide (And.intro hR2 (And.intro hS3 (And.intro hsm3 (And.intro hy3 hpos2))))
      clear hS2 hsm2 hy2 hR2 hS3 hsm3 hy3 hpos2
      rcases hcase with ⟨rfl, hlt, s2, hM2, hW2⟩ | ⟨rfl, hfar, s2, hM2, hW2⟩ | ⟨rfl, hlong⟩
      · rw [List.append_assoc] at hM2
        have H3 := hide (And.intro hM2 (And.intro hW2 hlt))
        clear hM2 hW2 hlt hq2
        go_wp2_with fail
        go_roundw
        case rel => exact ⟨q2, y ++ y2, vo2, f2, s2, H2.out.1, H2.out.2.1, H2.out.2.2.1, H2.out.2.2.2.1, H3.out.1, H3.out.2.1⟩
        case measure =>
          have h1 := HJ.out.2.2.2.2
          have h2 := H2.out.1.rd.2.2.2
          have h3 := H3.out.2.2
          rw [H2.out.2.2.2.2, h1]
          omega
      · rw [List.append_assoc] at hM2
        have H3 := hide (And.intro hM2 (And.intro hW2 hfar))
        clear hM2 hW2 hfar hq2
        go_wp2_with fail
        go_ret
        refine ⟨2, q2, y ++ y2, vo2, f2, rfl, H2.out.1, H2.out.2.1, H2.out.2.2.1, H2.out.2.2.2.1, .inr (.inl ⟨rfl, H3.out.2.2, fun h11 => ?_, s2, H3.out.1, H3.out.2.1⟩)⟩
        have hM := H3.out.1
        have hk : s2.k = 11 := by rw [← hM.k]; exact h11
        have h1 := hM.p
        rw [if_neg (by rw [hk]; decide), H3.out.2.1.end_ hk] at h1
        have h2 := H2.out.1.rd.2.2.2
        have h3 := HS.out.1.len
        have h4 := HS.out.1.oa
        have h5 := H3.out.2.2
        omega
      · have H3 := hide hlong
        clear hlong hq2
        go_wp2_with fail
        go_ret
        exact ⟨5, q2, y ++ y2, vo2, f2, rfl, H2.out.1, H2.out.2.1, H2.out.2.2.1, H2.out.2.2.2.1, .inr (.inr ⟨rfl, by have := H3.out; rw [HJ.out.2.2.1.most] at this; exact this⟩)⟩
end Go.Proofs.YtglkfgpefpebmaaDoor
