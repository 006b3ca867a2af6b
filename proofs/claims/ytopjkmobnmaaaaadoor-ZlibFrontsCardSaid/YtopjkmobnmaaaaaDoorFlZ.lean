/-
  Package inflate, all streams: steps at the begin of what a dynamic block says of its codes.
-/
import Derived.Test.YtopjkmobnmaaaaaDoorMFlX
namespace Go.Proofs.YtopjkmobnmaaaaaDoor
open Go Go.RowKit

set_option maxRecDepth 100000 in
set_option maxHeartbeats 16000000 in
theorem step4 (B : List UInt8) (a o : Nat) (l : List UInt8) (hs : Src B a o l) (g gf gw gr : Nat) (K : List Nat) (f : DF) (v vo : Value) (q : Nat) (x : List UInt8) (s : GSt) (w : World) (h : Rn w g gf gw gr K f v vo l q s.out x) (hk : s.k = 4) (hfk : f.k = 4)
    (hm : Md w f s) (hwf : s.Wf) (hp : Pt s o q) (hl : s.out.length ≤ f.most) (hmost : f.most ≤ 1073741824) (hx : x.length ≤ s.out.length) :
    Calls Tryd.prog 62 #[.pointer (some ⟨g, 0, none⟩), .pointer (some ⟨gf, 0, none⟩)] w (fun e w' => ∃ c : Nat, e = .returned (.int .i64 (c : Int)) ∧ Went B a o l g gf gw gr K f v vo x s (fun f' t => f'.k = t.k) (fun f' t => f'.k = t.k) w c w') := by
  have c1 : w.cell? ⟨g, 1, none⟩ = some (.int .i64 4) := by have := h.on.dec.k; rw [hfk] at this; exact this
  have HNow := hide (Now.here hs h hm hwf hp hl hmost hx)
  clear hs h hm hwf hp hl hmost hx
  go_enter Tryd.func62, Tryd.ntmps62
  have HDA := hide HNow.out.drew
  have cgfA : (w).cell? ⟨gf, 0, none⟩ = some (.pointer (some ⟨gr, 0, none⟩)) := Has.cell HNow.out.rn.on.flow 0
  have HRA := hide (lens_any B a o l HDA.out.src g gf gw gr K f v vo q x s _ HDA.out.rn hk HDA.out.md HDA.out.wf (HDA.out.pt.eq (by rw [hk]; decide)) HDA.out.le)
  have HKA := hide (And.intro hk hfk)
  clear hk hfk
  go_wp2_with fail
  go_region_with (go_at_call 69; refine (HRA.out).mono ?_; rintro e w2 ⟨c, rfl, hW⟩)
  clear cgfA
  all_goals
    rcases hW.codes with rfl | rfl | rfl | rfl
    · obtain ⟨qL, yL, voL, fL, uL, hN, hP⟩ := HDA.out.went hW
      have k1 := hN.rn.on.dec.k
      have f1_ : w2.frozen? ⟨g, 1, none⟩ = false := Has.free hN.rn.on.dec 1
      have hEx : ∃ (fN : DF) (tN : GSt), fN.k = 5 ∧ tN.k = 5 ∧ Now B a o l g gf gw gr K f v vo x s w fN voL qL (x ++ yL) tN (w2.setCell ⟨g, 1, none⟩ (.int .i64 5)) := ⟨_, _, rfl, hP.2, hN.setk 5⟩
      clear hN hW hP
      generalize fL.k = z1 at k1
      go_wp2_with fail
      generalize w2.setCell ⟨g, 1, none⟩ (.int .i64 5) = wA at *
      obtain ⟨fA, tA, hfkn, hkn, hG⟩ := hEx
      have HNA := hide hG
      clear hG k1 f1_
      generalize x ++ yL = xA at *
      obtain ⟨voA, hvoA⟩ : ∃ z, z = voL := ⟨_, rfl⟩
      obtain ⟨qA, hqA⟩ : ∃ z, z = qL := ⟨_, rfl⟩
      rw [← hvoA, ← hqA] at HNA
      clear hvoA hqA
      have HDAN := hide HNA.out.drew
      have cgfAN : (wA).cell? ⟨gf, 0, none⟩ = some (.pointer (some ⟨gr, 0, none⟩)) := Has.cell HNA.out.rn.on.flow 0
      have HRAN := hide (say_any B a o l HDAN.out.src g gf gw gr K fA v voA qA xA tA _ HDAN.out.rn hkn HDAN.out.md HDAN.out.wf (HDAN.out.pt.eq (by rw [hkn]; decide)) HDAN.out.le)
      have HKAN := hide (And.intro hkn hfkn)
      clear hkn hfkn
      go_region_with (go_at_call 70; refine (HRAN.out).mono ?_; rintro e w2 ⟨c, rfl, hW⟩)
      clear cgfAN
      all_goals
        rcases hW.codes with rfl | rfl | rfl | rfl
        · obtain ⟨qL, yL, voL, fL, uL, hN, hP⟩ := HDAN.out.went hW
          have k1 := hN.rn.on.dec.k
          have f1_ : w2.frozen? ⟨g, 1, none⟩ = false := Has.free hN.rn.on.dec 1
          have hEx : ∃ (fN : DF) (tN : GSt), fN.k = 6 ∧ tN.k = 6 ∧ Now B a o l g gf gw gr K f v vo x s w fN voL qL (xA ++ yL) tN (w2.setCell ⟨g, 1, none⟩ (.int .i64 6)) := ⟨_, _, rfl, hP.2, hN.setk 6⟩
          clear hN hW hP
          generalize fL.k = z1 at k1
          go_wp2_with fail
          generalize w2.setCell ⟨g, 1, none⟩ (.int .i64 6) = wAN at *
          obtain ⟨fAN, tAN, hfkn, hkn, hG⟩ := hEx
          have HNAN := hide hG
          clear hG k1 f1_
          generalize xA ++ yL = xAN at *
          obtain ⟨voAN, hvoAN⟩ : ∃ z, z = voL := ⟨_, rfl⟩
          obtain ⟨qAN, hqAN⟩ : ∃ z, z = qL := ⟨_, rfl⟩
          rw [← hvoAN, ← hqAN] at HNAN
          clear hvoAN hqAN
          have HDANN := hide HNAN.out.drew
          have cgfANN : (wAN).cell? ⟨gf, 0, none⟩ = some (.pointer (some ⟨gr, 0, none⟩)) := Has.cell HNAN.out.rn.on.flow 0
          have HRANN := hide (repeatH_any B a o l HDANN.out.src g gf gw gr K fAN v voAN qAN xAN tAN _ HDANN.out.rn hkn HDANN.out.md HDANN.out.wf (HDANN.out.pt.eq (by rw [hkn]; decide)) HDANN.out.le)
          have HKANN := hide (And.intro hkn hfkn)
          clear hkn hfkn
          go_region_with (go_at_call 71; refine (HRANN.out).mono ?_; rintro e w2 ⟨c, rfl, hRp⟩)
          clear cgfANN
          all_goals
            rcases hRp with ⟨rfl, fR, L, hL, hRn, ho, hsm, hkk, hnear, hLl, hM⟩ | ⟨hc, hW⟩
            · have hwf := HDANN.out.wf
              have hhead := hwf.head (by have := HKANN.out.1; omega) (by have := HKANN.out.1; omega)
              have hsaid := hwf.said (by have := HKANN.out.1; omega) (by have := HKANN.out.1; omega)
              have hsy := hwf.sym6 HKANN.out.1
              have hh := hM.hd (show 4 ≤ (tAN).k by have := HKANN.out.1; omega) (show (tAN).k ≤ 6 by have := HKANN.out.1; omega)
              have h15 : ∀ b ∈ L, b.toNat ≤ 15 := fun b hb => by
                rw [hL] at hb
                rcases List.mem_append.1 hb with hb | hb
                · exact hsaid.2.2 b hb
                · rw [(List.mem_replicate.1 hb).2]; exact repV_le hsy.1 hsaid.2.2
              have hnx := GSt.nx_6 (L0 := fixedL) (D0 := fixedD2) (N := num B) (most := (fAN).most) HKANN.out.1
              dsimp only at hnx
              rw [← hL, if_neg (by omega)] at hnx
              have hpt := HDANN.out.pt.eq (by rw [HKANN.out.1]; decide)
              have hDe := deal_step g gf gw gr K fR v voAN l (qAN + repB (tAN).sym) (tAN).out xAN tAN L _ w2 hRn hh ⟨hhead.1, hhead.2.1⟩ ⟨hhead.2.2.1, hhead.2.2.2.1⟩ hLl h15
              have HDE := hide hDe
              have HRN := hide (And.intro hRn (And.intro ho (And.intro hsm (And.intro hkk (And.intro hnear (And.intro hM (And.intro hh (And.intro hnx hpt))))))))
              clear hwf hhead hsaid hsy hh h15 hnx hpt hDe hRn ho hsm hkk hnear hM hL hLl
              go_wp2_with fail
              refine (HDE.out).mono ?_
              rintro e w3 ⟨k, c, f2, rfl, hR3, ho3, hcase⟩
              have k1 := hR3.on.dec.k
              have f1_ : w3.frozen? ⟨g, 1, none⟩ = false := Has.free hR3.on.dec 1
              have H3 := hide (And.intro hR3 (And.intro ho3 hcase))
              clear hR3 ho3 hcase
              generalize f2.k = z1 at k1
              go_wp2_with fail
              go_ret
              have oW : Only [g] w3 (w3.setCell ⟨g, 1, none⟩ (.int .i64 (k : Int))) := (Only.refl [g] _).setCell (by simp) _
              have hR4 := H3.out.1.cells oW (Dc.set_k H3.out.1.on.dec k) rfl rfl (H3.out.1.keepX oW)
              have o4 : Only [g, gr] (wAN).drew (w3.setCell ⟨g, 1, none⟩ (.int .i64 (k : Int))) := (HRN.out.2.1.trans (H3.out.2.1.weak (T := [g, gr]) (by simp)) (by simp)).trans (oW.weak (T := [g, gr]) (by simp)) (by simp)
              have hM4 := H3.out.1.mdg (HRN.out.1.mdg HRN.out.2.2.2.2.2.1 H3.out.2.1) oW
              have hnx := HRN.out.2.2.2.2.2.2.2.1
              have hne11 : (tAN).k ≠ 11 := by have := HKANN.out.1; omega
              have hnear : (tAN).p + repB (tAN).sym ≤ 8 * a := by rw [HRN.out.2.2.2.2.2.2.2.2]; exact HRN.out.2.2.2.2.1
              have hp5 : (tAN).p + repB (tAN).sym = 8 * o + (qAN + repB (tAN).sym) := by rw [HRN.out.2.2.2.2.2.2.2.2]; omega
              rcases H3.out.2.2 with ⟨hlt, rfl, rfl, rfl⟩ | ⟨heq, hok, rfl, rfl, v', rfl, hcv⟩ | ⟨heq, hno, rfl, rfl, rfl⟩
              · rw [if_pos hlt] at hnx
                have hh4 := hM4.hd (show 4 ≤ (tAN).k by have := HKANN.out.1; omega) (show (tAN).k ≤ 6 by have := HKANN.out.1; omega)
                exact ⟨0, rfl, HDANN.out.ok (.one hne11 hnx hnear) rfl hR4 o4 (HRN.out.2.2.1.trans ⟨rfl, rfl, rfl, rfl, rfl, rfl, rfl, rfl, rfl⟩) ⟨hM4.last, fun h => absurd (show (5 : Nat) = 2 from h) (by decide), fun h => absurd (show (7 : Nat) ≤ 5 from h) (by decide), fun h => absurd (show (5 : Nat) = 8 ∨ (5 : Nat) = 10 from h) (by decide), fun h => absurd (show (9 : Nat) ≤ 5 from h) (by decide), fun _ _ => ⟨hh4.nl, hh4.nd, hh4.no, hh4.own, hh4.nOwn, fun _ => hh4.tb (show 5 ≤ (tAN).k by have := HKANN.out.1; omega), fun h => absurd (show (5 : Nat) = 6 from h) (by decide), hh4.lens, hh4.n⟩, hM4.tab⟩ (.of hp5 (by show (5 : Nat) ≠ 1; decide)) rfl⟩
              · rw [if_neg (by omega), if_pos (show mayBe (cn (L.take (tAN).nl)) = true ∧ mayBe (cn (L.drop (tAN).nl)) = true ∧ ln L 256 ≠ 0 from hok)] at hnx
                exact ⟨0, rfl, HDANN.out.ok (.one hne11 hnx hnear) rfl hR4 o4 (HRN.out.2.2.1.trans ⟨rfl, rfl, rfl, rfl, rfl, rfl, rfl, rfl, rfl⟩) ⟨hM4.last, fun h => absurd (show (7 : Nat) = 2 from h) (by decide), fun _ _ => H3.out.1.keepV oW hcv, fun h => absurd (show (7 : Nat) = 8 ∨ (7 : Nat) = 10 from h) (by decide), fun h => absurd (show (9 : Nat) ≤ 7 from h) (by decide), fun _ h => absurd (show (7 : Nat) ≤ 6 from h) (by decide), hM4.tab⟩ (.of hp5 (by show (7 : Nat) ≠ 1; decide)) rfl⟩
              · rw [if_neg (by omega), if_neg (show ¬ (mayBe (cn (L.take (tAN).nl)) = true ∧ mayBe (cn (L.drop (tAN).nl)) = true ∧ ln L 256 ≠ 0) from hno)] at hnx
                exact ⟨3, rfl, HDANN.out.bad (.inl rfl) ((Steps.refl _).bad hne11 hnx hnear) hR4 o4 (HRN.out.2.2.1.trans ⟨rfl, rfl, rfl, rfl, rfl, rfl, rfl, rfl, rfl⟩)⟩
            · have HW := hide (And.intro hc hW)
              have hco := hW.codes
              clear hW hc
              rcases hco with rfl | rfl | rfl | rfl
              · exact absurd rfl HW.out.1
              all_goals
                go_wp2_with fail
                go_ret
                exact ⟨_, rfl, (HDANN.out.back _ _ _ w2 HW.out.2).weak' (by decide) (fun _ _ h => h.1.trans (HKANN.out.2.trans h.2.symm))⟩
        all_goals
          have HW := hide hW
          clear hW
          go_wp2_with fail
          go_ret
          exact ⟨_, rfl, (HDAN.out.back _ _ _ w2 HW.out).weak' (by decide) (fun _ _ h => h.1.trans (HKAN.out.2.trans h.2.symm))⟩
    all_goals
      have HW := hide hW
      clear hW
      go_wp2_with fail
      go_ret
      exact ⟨_, rfl, (HDA.out.back _ _ _ w2 HW.out).weak' (by decide) (fun _ _ h => h.1.trans (HKA.out.2.trans h.2.symm))⟩

set_option maxRecDepth 100000 in
set_option maxHeartbeats 16000000 in
theorem step3 (B : List UInt8) (a o : Nat) (l : List UInt8) (hs : Src B a o l) (g gf gw gr : Nat) (K : List Nat) (f : DF) (v vo : Value) (q : Nat) (x : List UInt8) (s : GSt) (w : World) (h : Rn w g gf gw gr K f v vo l q s.out x) (hk : s.k = 3) (hfk : f.k = 3)
    (hm : Md w f s) (hwf : s.Wf) (hp : Pt s o q) (hl : s.out.length ≤ f.most) (hmost : f.most ≤ 1073741824) (hx : x.length ≤ s.out.length) :
    Calls Tryd.prog 62 #[.pointer (some ⟨g, 0, none⟩), .pointer (some ⟨gf, 0, none⟩)] w (fun e w' => ∃ c : Nat, e = .returned (.int .i64 (c : Int)) ∧ Went B a o l g gf gw gr K f v vo x s (fun f' t => f'.k = t.k) (fun f' t => f'.k = t.k) w c w') := by
  have c1 : w.cell? ⟨g, 1, none⟩ = some (.int .i64 3) := by have := h.on.dec.k; rw [hfk] at this; exact this
  have HNow := hide (Now.here hs h hm hwf hp hl hmost hx)
  clear hs h hm hwf hp hl hmost hx
  go_enter Tryd.func62, Tryd.ntmps62
  have HDA := hide HNow.out.drew
  have cgfA : (w).cell? ⟨gf, 0, none⟩ = some (.pointer (some ⟨gr, 0, none⟩)) := Has.cell HNow.out.rn.on.flow 0
  have HRA := hide (counts_any B a o l HDA.out.src g gf gw gr K f v vo q x s _ HDA.out.rn hk HDA.out.md (HDA.out.pt.eq (by rw [hk]; decide)) HDA.out.le)
  have HKA := hide (And.intro hk hfk)
  clear hk hfk
  go_wp2_with fail
  go_region_with (go_at_call 68; refine (HRA.out).mono ?_; rintro e w2 ⟨c, rfl, hW⟩)
  clear cgfA
  all_goals
    rcases hW.codes with rfl | rfl | rfl | rfl
    · obtain ⟨qL, yL, voL, fL, uL, hN, hP⟩ := HDA.out.went hW
      have k1 := hN.rn.on.dec.k
      have f1_ : w2.frozen? ⟨g, 1, none⟩ = false := Has.free hN.rn.on.dec 1
      have hEx : ∃ (fN : DF) (tN : GSt), fN.k = 4 ∧ tN.k = 4 ∧ Now B a o l g gf gw gr K f v vo x s w fN voL qL (x ++ yL) tN (w2.setCell ⟨g, 1, none⟩ (.int .i64 4)) := ⟨_, _, rfl, hP.2, hN.setk 4⟩
      clear hN hW hP
      generalize fL.k = z1 at k1
      go_wp2_with fail
      generalize w2.setCell ⟨g, 1, none⟩ (.int .i64 4) = wA at *
      obtain ⟨fA, tA, hfkn, hkn, hG⟩ := hEx
      have HNA := hide hG
      clear hG k1 f1_
      generalize x ++ yL = xA at *
      obtain ⟨voA, hvoA⟩ : ∃ z, z = voL := ⟨_, rfl⟩
      obtain ⟨qA, hqA⟩ : ∃ z, z = qL := ⟨_, rfl⟩
      rw [← hvoA, ← hqA] at HNA
      clear hvoA hqA
      have HDAN := hide HNA.out.drew
      have cgfAN : (wA).cell? ⟨gf, 0, none⟩ = some (.pointer (some ⟨gr, 0, none⟩)) := Has.cell HNA.out.rn.on.flow 0
      have HRAN := hide (lens_any B a o l HDAN.out.src g gf gw gr K fA v voA qA xA tA _ HDAN.out.rn hkn HDAN.out.md HDAN.out.wf (HDAN.out.pt.eq (by rw [hkn]; decide)) HDAN.out.le)
      have HKAN := hide (And.intro hkn hfkn)
      clear hkn hfkn
      go_region_with (go_at_call 69; refine (HRAN.out).mono ?_; rintro e w2 ⟨c, rfl, hW⟩)
      clear cgfAN
      all_goals
        rcases hW.codes with rfl | rfl | rfl | rfl
        · obtain ⟨qL, yL, voL, fL, uL, hN, hP⟩ := HDAN.out.went hW
          have k1 := hN.rn.on.dec.k
          have f1_ : w2.frozen? ⟨g, 1, none⟩ = false := Has.free hN.rn.on.dec 1
          have hEx : ∃ (fN : DF) (tN : GSt), fN.k = 5 ∧ tN.k = 5 ∧ Now B a o l g gf gw gr K f v vo x s w fN voL qL (xA ++ yL) tN (w2.setCell ⟨g, 1, none⟩ (.int .i64 5)) := ⟨_, _, rfl, hP.2, hN.setk 5⟩
          clear hN hW hP
          generalize fL.k = z1 at k1
          go_wp2_with fail
          generalize w2.setCell ⟨g, 1, none⟩ (.int .i64 5) = wAN at *
          obtain ⟨fAN, tAN, hfkn, hkn, hG⟩ := hEx
          have HNAN := hide hG
          clear hG k1 f1_
          generalize xA ++ yL = xAN at *
          obtain ⟨voAN, hvoAN⟩ : ∃ z, z = voL := ⟨_, rfl⟩
          obtain ⟨qAN, hqAN⟩ : ∃ z, z = qL := ⟨_, rfl⟩
          rw [← hvoAN, ← hqAN] at HNAN
          clear hvoAN hqAN
          have HDANN := hide HNAN.out.drew
          have cgfANN : (wAN).cell? ⟨gf, 0, none⟩ = some (.pointer (some ⟨gr, 0, none⟩)) := Has.cell HNAN.out.rn.on.flow 0
          have HRANN := hide (say_any B a o l HDANN.out.src g gf gw gr K fAN v voAN qAN xAN tAN _ HDANN.out.rn hkn HDANN.out.md HDANN.out.wf (HDANN.out.pt.eq (by rw [hkn]; decide)) HDANN.out.le)
          have HKANN := hide (And.intro hkn hfkn)
          clear hkn hfkn
          go_region_with (go_at_call 70; refine (HRANN.out).mono ?_; rintro e w2 ⟨c, rfl, hW⟩)
          clear cgfANN
          all_goals
            rcases hW.codes with rfl | rfl | rfl | rfl
            · obtain ⟨qL, yL, voL, fL, uL, hN, hP⟩ := HDANN.out.went hW
              have k1 := hN.rn.on.dec.k
              have f1_ : w2.frozen? ⟨g, 1, none⟩ = false := Has.free hN.rn.on.dec 1
              have hEx : ∃ (fN : DF) (tN : GSt), fN.k = 6 ∧ tN.k = 6 ∧ Now B a o l g gf gw gr K f v vo x s w fN voL qL (xAN ++ yL) tN (w2.setCell ⟨g, 1, none⟩ (.int .i64 6)) := ⟨_, _, rfl, hP.2, hN.setk 6⟩
              clear hN hW hP
              generalize fL.k = z1 at k1
              go_wp2_with fail
              generalize w2.setCell ⟨g, 1, none⟩ (.int .i64 6) = wANN at *
              obtain ⟨fANN, tANN, hfkn, hkn, hG⟩ := hEx
              have HNANN := hide hG
              clear hG k1 f1_
              generalize xAN ++ yL = xANN at *
              obtain ⟨voANN, hvoANN⟩ : ∃ z, z = voL := ⟨_, rfl⟩
              obtain ⟨qANN, hqANN⟩ : ∃ z, z = qL := ⟨_, rfl⟩
              rw [← hvoANN, ← hqANN] at HNANN
              clear hvoANN hqANN
              have HDANNN := hide HNANN.out.drew
              have cgfANNN : (wANN).cell? ⟨gf, 0, none⟩ = some (.pointer (some ⟨gr, 0, none⟩)) := Has.cell HNANN.out.rn.on.flow 0
              have HRANNN := hide (repeatH_any B a o l HDANNN.out.src g gf gw gr K fANN v voANN qANN xANN tANN _ HDANNN.out.rn hkn HDANNN.out.md HDANNN.out.wf (HDANNN.out.pt.eq (by rw [hkn]; decide)) HDANNN.out.le)
              have HKANNN := hide (And.intro hkn hfkn)
              clear hkn hfkn
              go_region_with (go_at_call 71; refine (HRANNN.out).mono ?_; rintro e w2 ⟨c, rfl, hRp⟩)
              clear cgfANNN
              all_goals
                rcases hRp with ⟨rfl, fR, L, hL, hRn, ho, hsm, hkk, hnear, hLl, hM⟩ | ⟨hc, hW⟩
                · have hwf := HDANNN.out.wf
                  have hhead := hwf.head (by have := HKANNN.out.1; omega) (by have := HKANNN.out.1; omega)
                  have hsaid := hwf.said (by have := HKANNN.out.1; omega) (by have := HKANNN.out.1; omega)
                  have hsy := hwf.sym6 HKANNN.out.1
                  have hh := hM.hd (show 4 ≤ (tANN).k by have := HKANNN.out.1; omega) (show (tANN).k ≤ 6 by have := HKANNN.out.1; omega)
                  have h15 : ∀ b ∈ L, b.toNat ≤ 15 := fun b hb => by
                    rw [hL] at hb
                    rcases List.mem_append.1 hb with hb | hb
                    · exact hsaid.2.2 b hb
                    · rw [(List.mem_replicate.1 hb).2]; exact repV_le hsy.1 hsaid.2.2
                  have hnx := GSt.nx_6 (L0 := fixedL) (D0 := fixedD2) (N := num B) (most := (fANN).most) HKANNN.out.1
                  dsimp only at hnx
                  rw [← hL, if_neg (by omega)] at hnx
                  have hpt := HDANNN.out.pt.eq (by rw [HKANNN.out.1]; decide)
                  have hDe := deal_step g gf gw gr K fR v voANN l (qANN + repB (tANN).sym) (tANN).out xANN tANN L _ w2 hRn hh ⟨hhead.1, hhead.2.1⟩ ⟨hhead.2.2.1, hhead.2.2.2.1⟩ hLl h15
                  have HDE := hide hDe
                  have HRN := hide (And.intro hRn (And.intro ho (And.intro hsm (And.intro hkk (And.intro hnear (And.intro hM (And.intro hh (And.intro hnx hpt))))))))
                  clear hwf hhead hsaid hsy hh h15 hnx hpt hDe hRn ho hsm hkk hnear hM hL hLl
                  go_wp2_with fail
                  refine (HDE.out).mono ?_
                  rintro e w3 ⟨k, c, f2, rfl, hR3, ho3, hcase⟩
                  have k1 := hR3.on.dec.k
                  have f1_ : w3.frozen? ⟨g, 1, none⟩ = false := Has.free hR3.on.dec 1
                  have H3 := hide (And.intro hR3 (And.intro ho3 hcase))
                  clear hR3 ho3 hcase
                  generalize f2.k = z1 at k1
                  go_wp2_with fail
                  go_ret
                  have oW : Only [g] w3 (w3.setCell ⟨g, 1, none⟩ (.int .i64 (k : Int))) := (Only.refl [g] _).setCell (by simp) _
                  have hR4 := H3.out.1.cells oW (Dc.set_k H3.out.1.on.dec k) rfl rfl (H3.out.1.keepX oW)
                  have o4 : Only [g, gr] (wANN).drew (w3.setCell ⟨g, 1, none⟩ (.int .i64 (k : Int))) := (HRN.out.2.1.trans (H3.out.2.1.weak (T := [g, gr]) (by simp)) (by simp)).trans (oW.weak (T := [g, gr]) (by simp)) (by simp)
                  have hM4 := H3.out.1.mdg (HRN.out.1.mdg HRN.out.2.2.2.2.2.1 H3.out.2.1) oW
                  have hnx := HRN.out.2.2.2.2.2.2.2.1
                  have hne11 : (tANN).k ≠ 11 := by have := HKANNN.out.1; omega
                  have hnear : (tANN).p + repB (tANN).sym ≤ 8 * a := by rw [HRN.out.2.2.2.2.2.2.2.2]; exact HRN.out.2.2.2.2.1
                  have hp5 : (tANN).p + repB (tANN).sym = 8 * o + (qANN + repB (tANN).sym) := by rw [HRN.out.2.2.2.2.2.2.2.2]; omega
                  rcases H3.out.2.2 with ⟨hlt, rfl, rfl, rfl⟩ | ⟨heq, hok, rfl, rfl, v', rfl, hcv⟩ | ⟨heq, hno, rfl, rfl, rfl⟩
                  · rw [if_pos hlt] at hnx
                    have hh4 := hM4.hd (show 4 ≤ (tANN).k by have := HKANNN.out.1; omega) (show (tANN).k ≤ 6 by have := HKANNN.out.1; omega)
                    exact ⟨0, rfl, HDANNN.out.ok (.one hne11 hnx hnear) rfl hR4 o4 (HRN.out.2.2.1.trans ⟨rfl, rfl, rfl, rfl, rfl, rfl, rfl, rfl, rfl⟩) ⟨hM4.last, fun h => absurd (show (5 : Nat) = 2 from h) (by decide), fun h => absurd (show (7 : Nat) ≤ 5 from h) (by decide), fun h => absurd (show (5 : Nat) = 8 ∨ (5 : Nat) = 10 from h) (by decide), fun h => absurd (show (9 : Nat) ≤ 5 from h) (by decide), fun _ _ => ⟨hh4.nl, hh4.nd, hh4.no, hh4.own, hh4.nOwn, fun _ => hh4.tb (show 5 ≤ (tANN).k by have := HKANNN.out.1; omega), fun h => absurd (show (5 : Nat) = 6 from h) (by decide), hh4.lens, hh4.n⟩, hM4.tab⟩ (.of hp5 (by show (5 : Nat) ≠ 1; decide)) rfl⟩
                  · rw [if_neg (by omega), if_pos (show mayBe (cn (L.take (tANN).nl)) = true ∧ mayBe (cn (L.drop (tANN).nl)) = true ∧ ln L 256 ≠ 0 from hok)] at hnx
                    exact ⟨0, rfl, HDANNN.out.ok (.one hne11 hnx hnear) rfl hR4 o4 (HRN.out.2.2.1.trans ⟨rfl, rfl, rfl, rfl, rfl, rfl, rfl, rfl, rfl⟩) ⟨hM4.last, fun h => absurd (show (7 : Nat) = 2 from h) (by decide), fun _ _ => H3.out.1.keepV oW hcv, fun h => absurd (show (7 : Nat) = 8 ∨ (7 : Nat) = 10 from h) (by decide), fun h => absurd (show (9 : Nat) ≤ 7 from h) (by decide), fun _ h => absurd (show (7 : Nat) ≤ 6 from h) (by decide), hM4.tab⟩ (.of hp5 (by show (7 : Nat) ≠ 1; decide)) rfl⟩
                  · rw [if_neg (by omega), if_neg (show ¬ (mayBe (cn (L.take (tANN).nl)) = true ∧ mayBe (cn (L.drop (tANN).nl)) = true ∧ ln L 256 ≠ 0) from hno)] at hnx
                    exact ⟨3, rfl, HDANNN.out.bad (.inl rfl) ((Steps.refl _).bad hne11 hnx hnear) hR4 o4 (HRN.out.2.2.1.trans ⟨rfl, rfl, rfl, rfl, rfl, rfl, rfl, rfl, rfl⟩)⟩
                · have HW := hide (And.intro hc hW)
                  have hco := hW.codes
                  clear hW hc
                  rcases hco with rfl | rfl | rfl | rfl
                  · exact absurd rfl HW.out.1
                  all_goals
                    go_wp2_with fail
                    go_ret
                    exact ⟨_, rfl, (HDANNN.out.back _ _ _ w2 HW.out.2).weak' (by decide) (fun _ _ h => h.1.trans (HKANNN.out.2.trans h.2.symm))⟩
            all_goals
              have HW := hide hW
              clear hW
              go_wp2_with fail
              go_ret
              exact ⟨_, rfl, (HDANN.out.back _ _ _ w2 HW.out).weak' (by decide) (fun _ _ h => h.1.trans (HKANN.out.2.trans h.2.symm))⟩
        all_goals
          have HW := hide hW
          clear hW
          go_wp2_with fail
          go_ret
          exact ⟨_, rfl, (HDAN.out.back _ _ _ w2 HW.out).weak' (by decide) (fun _ _ h => h.1.trans (HKAN.out.2.trans h.2.symm))⟩
    all_goals
      have HW := hide hW
      clear hW
      go_wp2_with fail
      go_ret
      exact ⟨_, rfl, (HDA.out.back _ _ _ w2 HW.out).weak' (by decide) (fun _ _ h => h.1.trans (HKA.out.2.trans h.2.symm))⟩

end Go.Proofs.YtopjkmobnmaaaaaDoor
