/-
  Package inflate, all streams: steps in what a dynamic block says of its codes.
-/
import Derived.Test.YtlknhiihdejpeaaGreatDoorMFlW
namespace Go.Proofs.YtlknhiihdejpeaaGreatDoor
open Go Go.RowKit

theorem Now.drew {B : List UInt8} {a o : Nat} {l : List UInt8} {g gf gw gr : Nat} {K : List Nat} {f f1 : DF} {v vo vo1 : Value} {x x1 : List UInt8} {s t : GSt} {w w1 : World} {q1 : Nat} (h : Now B a o l g gf gw gr K f v vo x s w f1 vo1 q1 x1 t w1) : Now B a o l g gf gw gr K f v vo x s w f1 vo1 q1 x1 t w1.drew :=
  h.go (.refl t) rfl (h.rn.still ((Only.refl [] w1).drew)) ((Only.refl [g, gr] w1).drew) (Same.refl f1) (h.md.keep ((Only.refl [] w1).drew) (Other.nil _)) h.pt

set_option maxRecDepth 100000 in
set_option maxHeartbeats 16000000 in
theorem step6 (B : List UInt8) (a o : Nat) (l : List UInt8) (hs : Src B a o l) (g gf gw gr : Nat) (K : List Nat) (f : DF) (v vo : Value) (q : Nat) (x : List UInt8) (s : GSt) (w : World) (h : Rn w g gf gw gr K f v vo l q s.out x) (hk : s.k = 6) (hfk : f.k = 6)
    (hm : Md w f s) (hwf : s.Wf) (hp : Pt s o q) (hl : s.out.length ≤ f.most) (hmost : f.most ≤ 1073741824) (hx : x.length ≤ s.out.length) :
    Calls Tryz.prog 92 #[.pointer (some ⟨g, 0, none⟩), .pointer (some ⟨gf, 0, none⟩)] w (fun e w' => ∃ c : Nat, e = .returned (.int .i64 (c : Int)) ∧ Went B a o l g gf gw gr K f v vo x s (fun f' t => f'.k = t.k) (fun f' t => f'.k = t.k) w c w') := by
  have c1 : w.cell? ⟨g, 1, none⟩ = some (.int .i64 6) := by have := h.on.dec.k; rw [hfk] at this; exact this
  have HNow := hide (Now.here hs h hm hwf hp hl hmost hx)
  clear hs h hm hwf hp hl hmost hx
  go_enter Tryz.func92, Tryz.ntmps92
  have HDA := hide HNow.out.drew
  have cgfA : (w).cell? ⟨gf, 0, none⟩ = some (.pointer (some ⟨gr, 0, none⟩)) := Has.cell HNow.out.rn.on.flow 0
  have HRA := hide (repeatH_any B a o l HDA.out.src g gf gw gr K f v vo q x s _ HDA.out.rn hk HDA.out.md HDA.out.wf (HDA.out.pt.eq (by rw [hk]; decide)) HDA.out.le)
  have HKA := hide (And.intro hk hfk)
  clear hk hfk
  go_wp2_with fail
  go_region_with (go_at_call 102; refine (HRA.out).mono ?_; rintro e w2 ⟨c, rfl, hRp⟩)
  clear cgfA
  all_goals
    rcases hRp with ⟨rfl, fR, L, hL, hRn, ho, hsm, hkk, hnear, hLl, hM⟩ | ⟨hc, hW⟩
    · have hwf := HDA.out.wf
      have hhead := hwf.head (by have := HKA.out.1; omega) (by have := HKA.out.1; omega)
      have hsaid := hwf.said (by have := HKA.out.1; omega) (by have := HKA.out.1; omega)
      have hsy := hwf.sym6 HKA.out.1
      have hh := hM.hd (show 4 ≤ (s).k by have := HKA.out.1; omega) (show (s).k ≤ 6 by have := HKA.out.1; omega)
      have h15 : ∀ b ∈ L, b.toNat ≤ 15 := fun b hb => by
        rw [hL] at hb
        rcases List.mem_append.1 hb with hb | hb
        · exact hsaid.2.2 b hb
        · rw [(List.mem_replicate.1 hb).2]; exact repV_le hsy.1 hsaid.2.2
      have hnx := GSt.nx_6 (L0 := fixedL) (D0 := fixedD2) (N := num B) (most := (f).most) HKA.out.1
      dsimp only at hnx
      rw [← hL, if_neg (by omega)] at hnx
      have hpt := HDA.out.pt.eq (by rw [HKA.out.1]; decide)
      have hDe := deal_step g gf gw gr K fR v vo l (q + repB (s).sym) (s).out x s L _ w2 hRn hh ⟨hhead.1, hhead.2.1⟩ ⟨hhead.2.2.1, hhead.2.2.2.1⟩ hLl h15
      have HDE := hide hDe
      have HRN := hide (And.intro hRn (And.intro ho (And.intro hsm (And.intro hkk (And.intro hnear (And.intro hM (And.intro hh (And.intro hnx hpt))))))))
      clear hwf hhead hsaid hsy hh h15 hnx hpt hDe hRn ho hsm hkk hnear hM hL hLl
      go_wp2_with fail
      refine (HDE.out).mono ?_
      rintro e w3 ⟨k, c, f2, rfl, hR3, ho3, hcase⟩
      have k1 := hR3.on.dec.k
      have f1_ : w3.frozen? ⟨g, 1, none⟩ = false := Has.free hR3.on.dec 1
      have H3 := hide (And.intro hR3 (And.intro ho3 hcase))
      clear hR3 ho3 hcase
      generalize f2.k = z1 at k1
      go_wp2_with fail
      go_ret
      have oW : Only [g] w3 (w3.setCell ⟨g, 1, none⟩ (.int .i64 (k : Int))) := (Only.refl [g] _).setCell (by simp) _
      have hR4 := H3.out.1.cells oW (Dc.set_k H3.out.1.on.dec k) rfl rfl (H3.out.1.keepX oW)
      have o4 : Only [g, gr] (w).drew (w3.setCell ⟨g, 1, none⟩ (.int .i64 (k : Int))) := (HRN.out.2.1.trans (H3.out.2.1.weak (T := [g, gr]) (by simp)) (by simp)).trans (oW.weak (T := [g, gr]) (by simp)) (by simp)
      have hM4 := H3.out.1.mdg (HRN.out.1.mdg HRN.out.2.2.2.2.2.1 H3.out.2.1) oW
      have hnx := HRN.out.2.2.2.2.2.2.2.1
      have hne11 : (s).k ≠ 11 := by have := HKA.out.1; omega
      have hnear : (s).p + repB (s).sym ≤ 8 * a := by rw [HRN.out.2.2.2.2.2.2.2.2]; exact HRN.out.2.2.2.2.1
      have hp5 : (s).p + repB (s).sym = 8 * o + (q + repB (s).sym) := by rw [HRN.out.2.2.2.2.2.2.2.2]; omega
      rcases H3.out.2.2 with ⟨hlt, rfl, rfl, rfl⟩ | ⟨heq, hok, rfl, rfl, v', rfl, hcv⟩ | ⟨heq, hno, rfl, rfl, rfl⟩
      · rw [if_pos hlt] at hnx
        have hh4 := hM4.hd (show 4 ≤ (s).k by have := HKA.out.1; omega) (show (s).k ≤ 6 by have := HKA.out.1; omega)
        exact ⟨0, rfl, HDA.out.ok (.one hne11 hnx hnear) rfl hR4 o4 (HRN.out.2.2.1.trans ⟨rfl, rfl, rfl, rfl, rfl, rfl, rfl, rfl, rfl⟩) ⟨hM4.last, fun h => absurd (show (5 : Nat) = 2 from h) (by decide), fun h => absurd (show (7 : Nat) ≤ 5 from h) (by decide), fun h => absurd (show (5 : Nat) = 8 ∨ (5 : Nat) = 10 from h) (by decide), fun h => absurd (show (9 : Nat) ≤ 5 from h) (by decide), fun _ _ => ⟨hh4.nl, hh4.nd, hh4.no, hh4.own, hh4.nOwn, fun _ => hh4.tb (show 5 ≤ (s).k by have := HKA.out.1; omega), fun h => absurd (show (5 : Nat) = 6 from h) (by decide), hh4.lens, hh4.n⟩, hM4.tab⟩ (.of hp5 (by show (5 : Nat) ≠ 1; decide)) rfl⟩
      · rw [if_neg (by omega), if_pos (show mayBe (cn (L.take (s).nl)) = true ∧ mayBe (cn (L.drop (s).nl)) = true ∧ ln L 256 ≠ 0 from hok)] at hnx
        exact ⟨0, rfl, HDA.out.ok (.one hne11 hnx hnear) rfl hR4 o4 (HRN.out.2.2.1.trans ⟨rfl, rfl, rfl, rfl, rfl, rfl, rfl, rfl, rfl⟩) ⟨hM4.last, fun h => absurd (show (7 : Nat) = 2 from h) (by decide), fun _ _ => H3.out.1.keepV oW hcv, fun h => absurd (show (7 : Nat) = 8 ∨ (7 : Nat) = 10 from h) (by decide), fun h => absurd (show (9 : Nat) ≤ 7 from h) (by decide), fun _ h => absurd (show (7 : Nat) ≤ 6 from h) (by decide), hM4.tab⟩ (.of hp5 (by show (7 : Nat) ≠ 1; decide)) rfl⟩
      · rw [if_neg (by omega), if_neg (show ¬ (mayBe (cn (L.take (s).nl)) = true ∧ mayBe (cn (L.drop (s).nl)) = true ∧ ln L 256 ≠ 0) from hno)] at hnx
        exact ⟨3, rfl, HDA.out.bad (.inl rfl) ((Steps.refl _).bad hne11 hnx hnear) hR4 o4 (HRN.out.2.2.1.trans ⟨rfl, rfl, rfl, rfl, rfl, rfl, rfl, rfl, rfl⟩)⟩
    · have HW := hide (And.intro hc hW)
      have hco := hW.codes
      clear hW hc
      rcases hco with rfl | rfl | rfl | rfl
      · exact absurd rfl HW.out.1
      all_goals
        go_wp2_with fail
        go_ret
        exact ⟨_, rfl, (HDA.out.back _ _ _ w2 HW.out.2).weak' (by decide) (fun _ _ h => h.1.trans (HKA.out.2.trans h.2.symm))⟩

set_option maxRecDepth 100000 in
set_option maxHeartbeats 16000000 in
theorem step5 (B : List UInt8) (a o : Nat) (l : List UInt8) (hs : Src B a o l) (g gf gw gr : Nat) (K : List Nat) (f : DF) (v vo : Value) (q : Nat) (x : List UInt8) (s : GSt) (w : World) (h : Rn w g gf gw gr K f v vo l q s.out x) (hk : s.k = 5) (hfk : f.k = 5)
    (hm : Md w f s) (hwf : s.Wf) (hp : Pt s o q) (hl : s.out.length ≤ f.most) (hmost : f.most ≤ 1073741824) (hx : x.length ≤ s.out.length) :
    Calls Tryz.prog 92 #[.pointer (some ⟨g, 0, none⟩), .pointer (some ⟨gf, 0, none⟩)] w (fun e w' => ∃ c : Nat, e = .returned (.int .i64 (c : Int)) ∧ Went B a o l g gf gw gr K f v vo x s (fun f' t => f'.k = t.k) (fun f' t => f'.k = t.k) w c w') := by
  have c1 : w.cell? ⟨g, 1, none⟩ = some (.int .i64 5) := by have := h.on.dec.k; rw [hfk] at this; exact this
  have HNow := hide (Now.here hs h hm hwf hp hl hmost hx)
  clear hs h hm hwf hp hl hmost hx
  go_enter Tryz.func92, Tryz.ntmps92
  have HDA := hide HNow.out.drew
  have cgfA : (w).cell? ⟨gf, 0, none⟩ = some (.pointer (some ⟨gr, 0, none⟩)) := Has.cell HNow.out.rn.on.flow 0
  have HRA := hide (say_any B a o l HDA.out.src g gf gw gr K f v vo q x s _ HDA.out.rn hk HDA.out.md HDA.out.wf (HDA.out.pt.eq (by rw [hk]; decide)) HDA.out.le)
  have HKA := hide (And.intro hk hfk)
  clear hk hfk
  go_wp2_with fail
  go_region_with (go_at_call 101; refine (HRA.out).mono ?_; rintro e w2 ⟨c, rfl, hW⟩)
  clear cgfA
  all_goals
    rcases hW.codes with rfl | rfl | rfl | rfl
    · obtain ⟨qL, yL, voL, fL, uL, hN, hP⟩ := HDA.out.went hW
      have k1 := hN.rn.on.dec.k
      have f1_ : w2.frozen? ⟨g, 1, none⟩ = false := Has.free hN.rn.on.dec 1
      have hEx : ∃ (fN : DF) (tN : GSt), fN.k = 6 ∧ tN.k = 6 ∧ Now B a o l g gf gw gr K f v vo x s w fN voL qL (x ++ yL) tN (w2.setCell ⟨g, 1, none⟩ (.int .i64 6)) := ⟨_, _, rfl, hP.2, hN.setk 6⟩
      clear hN hW hP
      generalize fL.k = z1 at k1
      go_wp2_with fail
      generalize w2.setCell ⟨g, 1, none⟩ (.int .i64 6) = wA at *
      obtain ⟨fA, tA, hfkn, hkn, hG⟩ := hEx
      have HNA := hide hG
      clear hG k1 f1_
      generalize x ++ yL = xA at *
      obtain ⟨voA, hvoA⟩ : ∃ z, z = voL := ⟨_, rfl⟩
      obtain ⟨qA, hqA⟩ : ∃ z, z = qL := ⟨_, rfl⟩
      rw [← hvoA, ← hqA] at HNA
      clear hvoA hqA
      have HDAN := hide HNA.out.drew
      have cgfAN : (wA).cell? ⟨gf, 0, none⟩ = some (.pointer (some ⟨gr, 0, none⟩)) := Has.cell HNA.out.rn.on.flow 0
      have HRAN := hide (repeatH_any B a o l HDAN.out.src g gf gw gr K fA v voA qA xA tA _ HDAN.out.rn hkn HDAN.out.md HDAN.out.wf (HDAN.out.pt.eq (by rw [hkn]; decide)) HDAN.out.le)
      have HKAN := hide (And.intro hkn hfkn)
      clear hkn hfkn
      go_region_with (go_at_call 102; refine (HRAN.out).mono ?_; rintro e w2 ⟨c, rfl, hRp⟩)
      clear cgfAN
      all_goals
        rcases hRp with ⟨rfl, fR, L, hL, hRn, ho, hsm, hkk, hnear, hLl, hM⟩ | ⟨hc, hW⟩
        · have hwf := HDAN.out.wf
          have hhead := hwf.head (by have := HKAN.out.1; omega) (by have := HKAN.out.1; omega)
          have hsaid := hwf.said (by have := HKAN.out.1; omega) (by have := HKAN.out.1; omega)
          have hsy := hwf.sym6 HKAN.out.1
          have hh := hM.hd (show 4 ≤ (tA).k by have := HKAN.out.1; omega) (show (tA).k ≤ 6 by have := HKAN.out.1; omega)
          have h15 : ∀ b ∈ L, b.toNat ≤ 15 := fun b hb => by
            rw [hL] at hb
            rcases List.mem_append.1 hb with hb | hb
            · exact hsaid.2.2 b hb
            · rw [(List.mem_replicate.1 hb).2]; exact repV_le hsy.1 hsaid.2.2
          have hnx := GSt.nx_6 (L0 := fixedL) (D0 := fixedD2) (N := num B) (most := (fA).most) HKAN.out.1
          dsimp only at hnx
          rw [← hL, if_neg (by omega)] at hnx
          have hpt := HDAN.out.pt.eq (by rw [HKAN.out.1]; decide)
          have hDe := deal_step g gf gw gr K fR v voA l (qA + repB (tA).sym) (tA).out xA tA L _ w2 hRn hh ⟨hhead.1, hhead.2.1⟩ ⟨hhead.2.2.1, hhead.2.2.2.1⟩ hLl h15
          have HDE := hide hDe
          have HRN := hide (And.intro hRn (And.intro ho (And.intro hsm (And.intro hkk (And.intro hnear (And.intro hM (And.intro hh (And.intro hnx hpt))))))))
          clear hwf hhead hsaid hsy hh h15 hnx hpt hDe hRn ho hsm hkk hnear hM hL hLl
          go_wp2_with fail
          refine (HDE.out).mono ?_
          rintro e w3 ⟨k, c, f2, rfl, hR3, ho3, hcase⟩
          have k1 := hR3.on.dec.k
          have f1_ : w3.frozen? ⟨g, 1, none⟩ = false := Has.free hR3.on.dec 1
          have H3 := hide (And.intro hR3 (And.intro ho3 hcase))
          clear hR3 ho3 hcase
          generalize f2.k = z1 at k1
          go_wp2_with fail
          go_ret
          have oW : Only [g] w3 (w3.setCell ⟨g, 1, none⟩ (.int .i64 (k : Int))) := (Only.refl [g] _).setCell (by simp) _
          have hR4 := H3.out.1.cells oW (Dc.set_k H3.out.1.on.dec k) rfl rfl (H3.out.1.keepX oW)
          have o4 : Only [g, gr] (wA).drew (w3.setCell ⟨g, 1, none⟩ (.int .i64 (k : Int))) := (HRN.out.2.1.trans (H3.out.2.1.weak (T := [g, gr]) (by simp)) (by simp)).trans (oW.weak (T := [g, gr]) (by simp)) (by simp)
          have hM4 := H3.out.1.mdg (HRN.out.1.mdg HRN.out.2.2.2.2.2.1 H3.out.2.1) oW
          have hnx := HRN.out.2.2.2.2.2.2.2.1
          have hne11 : (tA).k ≠ 11 := by have := HKAN.out.1; omega
          have hnear : (tA).p + repB (tA).sym ≤ 8 * a := by rw [HRN.out.2.2.2.2.2.2.2.2]; exact HRN.out.2.2.2.2.1
          have hp5 : (tA).p + repB (tA).sym = 8 * o + (qA + repB (tA).sym) := by rw [HRN.out.2.2.2.2.2.2.2.2]; omega
          rcases H3.out.2.2 with ⟨hlt, rfl, rfl, rfl⟩ | ⟨heq, hok, rfl, rfl, v', rfl, hcv⟩ | ⟨heq, hno, rfl, rfl, rfl⟩
          · rw [if_pos hlt] at hnx
            have hh4 := hM4.hd (show 4 ≤ (tA).k by have := HKAN.out.1; omega) (show (tA).k ≤ 6 by have := HKAN.out.1; omega)
            exact ⟨0, rfl, HDAN.out.ok (.one hne11 hnx hnear) rfl hR4 o4 (HRN.out.2.2.1.trans ⟨rfl, rfl, rfl, rfl, rfl, rfl, rfl, rfl, rfl⟩) ⟨hM4.last, fun h => absurd (show (5 : Nat) = 2 from h) (by decide), fun h => absurd (show (7 : Nat) ≤ 5 from h) (by decide), fun h => absurd (show (5 : Nat) = 8 ∨ (5 : Nat) = 10 from h) (by decide), fun h => absurd (show (9 : Nat) ≤ 5 from h) (by decide), fun _ _ => ⟨hh4.nl, hh4.nd, hh4.no, hh4.own, hh4.nOwn, fun _ => hh4.tb (show 5 ≤ (tA).k by have := HKAN.out.1; omega), fun h => absurd (show (5 : Nat) = 6 from h) (by decide), hh4.lens, hh4.n⟩, hM4.tab⟩ (.of hp5 (by show (5 : Nat) ≠ 1; decide)) rfl⟩
          · rw [if_neg (by omega), if_pos (show mayBe (cn (L.take (tA).nl)) = true ∧ mayBe (cn (L.drop (tA).nl)) = true ∧ ln L 256 ≠ 0 from hok)] at hnx
            exact ⟨0, rfl, HDAN.out.ok (.one hne11 hnx hnear) rfl hR4 o4 (HRN.out.2.2.1.trans ⟨rfl, rfl, rfl, rfl, rfl, rfl, rfl, rfl, rfl⟩) ⟨hM4.last, fun h => absurd (show (7 : Nat) = 2 from h) (by decide), fun _ _ => H3.out.1.keepV oW hcv, fun h => absurd (show (7 : Nat) = 8 ∨ (7 : Nat) = 10 from h) (by decide), fun h => absurd (show (9 : Nat) ≤ 7 from h) (by decide), fun _ h => absurd (show (7 : Nat) ≤ 6 from h) (by decide), hM4.tab⟩ (.of hp5 (by show (7 : Nat) ≠ 1; decide)) rfl⟩
          · rw [if_neg (by omega), if_neg (show ¬ (mayBe (cn (L.take (tA).nl)) = true ∧ mayBe (cn (L.drop (tA).nl)) = true ∧ ln L 256 ≠ 0) from hno)] at hnx
            exact ⟨3, rfl, HDAN.out.bad (.inl rfl) ((Steps.refl _).bad hne11 hnx hnear) hR4 o4 (HRN.out.2.2.1.trans ⟨rfl, rfl, rfl, rfl, rfl, rfl, rfl, rfl, rfl⟩)⟩
        · have HW := hide (And.intro hc hW)
          have hco := hW.codes
          clear hW hc
          rcases hco with rfl | rfl | rfl | rfl
          · exact absurd rfl HW.out.1
          all_goals
            go_wp2_with fail
            go_ret
            exact ⟨_, rfl, (HDAN.out.back _ _ _ w2 HW.out.2).weak' (by decide) (fun _ _ h => h.1.trans (HKAN.out.2.trans h.2.symm))⟩
    all_goals
      have HW := hide hW
      clear hW
      go_wp2_with fail
      go_ret
      exact ⟨_, rfl, (HDA.out.back _ _ _ w2 HW.out).weak' (by decide) (fun _ _ h => h.1.trans (HKA.out.2.trans h.2.symm))⟩

end Go.Proofs.YtlknhiihdejpeaaGreatDoor

