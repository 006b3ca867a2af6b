/-
  Package inflate, all streams: literals. | Package inflate, all streams: parts one behind the other. | Package inflate, all streams: stored bytes.
-/
import Derived.Test.YtlknhiihdejpeaaGreatDoorMFlP
import Derived.Test.YtlknhiihdejpeaaGreatDoorMFlJ
namespace Go.Proofs.YtlknhiihdejpeaaGreatDoor
open Go Go.RowKit

def LitP (f : DF) (f' : DF) (t : GSt) : Prop := f'.k = f.k ∧ ((t.k = 8 ∧ f'.sy = t.sym) ∨ (f'.sy = 256 ∧ t.k = behindK t.last))
def LitQ (f : DF) (f' : DF) (t : GSt) : Prop := f'.k = f.k ∧ t.k = 7

set_option maxRecDepth 100000 in
set_option maxHeartbeats 8000000 in
theorem literals_any (B : List UInt8) (a o : Nat) (l : List UInt8) (hs : Src B a o l) (g gf gw gr : Nat) (K : List Nat) (f : DF) (v vo : Value) (q : Nat) (x : List UInt8) (s : GSt) (w : World) (h : Rn w g gf gw gr K f v vo l q s.out x) (hk : s.k = 7)
    (hm : Md w f s) (hwf : s.Wf) (hp : s.p = 8 * o + q) (hl : s.out.length ≤ f.most) (hmost : f.most ≤ 1073741824) (hx : x.length ≤ s.out.length) :
    Calls Tryz.prog 113 #[.pointer (some ⟨g, 0, none⟩), .pointer (some ⟨gf, 0, none⟩)] w (fun e w' => ∃ c : Nat, e = .returned (.int .i64 (c : Int)) ∧ Went B a o l g gf gw gr K f v vo x s (LitP f) (LitQ f) w c w') := by
  have HS := hide (And.intro hs (And.intro hk (And.intro hwf (And.intro hmost hx))))
  have HST := hide (And.intro h (And.intro hm (And.intro hp hl)))
  clear h hm hp hl hs hk hwf hmost hx
  go_enter Tryz.func113, Tryz.ntmps113
  go_wp2_with fail
  go_loopw [5] (fun _ wr => ∃ (q' : Nat) (y : List UInt8) (vo' : Value) (t : GSt), t.k = 7 ∧ Stp B a f.most s t ∧ t.out = s.out ++ y ∧ Rn wr g gf gw gr K { f with wn := f.wn + y.length } v vo' l q' (s.out ++ y) (x ++ y) ∧ Since [g, gf, gw, gr] w vo wr vo' ∧ Md wr { f with wn := f.wn + y.length } t ∧ s.out.length + y.length ≤ f.most ∧ t.p = 8 * o + q') (fun _ wr => 8 * l.length - posOf wr gr)
  case atStart => exact ⟨q, [], vo, s, HS.out.2.1, .refl s, by simp, by simpa using HST.out.1, Since.refl _ _ _, HST.out.2.1, by simpa using HST.out.2.2.2, HST.out.2.2.1⟩
  case round =>
    obtain ⟨q', y, vo', t, htk, hst, hout, hR, hSi, hM, hy, hpt⟩ := hrel
    have hwt : t.Wf := hst.wf okL okD HS.out.2.2.1
    have hcode := hwt.code (by omega) (by omega)
    obtain ⟨gc, hco, gT, gD, hcd, hT, hD⟩ := hM.co (by omega) (by omega)
    have hqq := hR.rd.2.2.2
    have hlen := HS.out.1.len
    have hoa := HS.out.1.oa
    have c1 : wr.cell? ⟨g, 353, none⟩ = some (.pointer (some ⟨gc, 0, none⟩)) := by have := hR.on.dec.co; rw [hco] at this; exact this
    have c2 : wr.cell? ⟨gc, 0, none⟩ = some (.pointer (some ⟨gT, 0, none⟩)) := hcd.cell 0
    have c3 : wr.cell? ⟨gf, 0, none⟩ = some (.pointer (some ⟨gr, 0, none⟩)) := Has.cell hR.on.flow 0
    have hpos := posOf_eq hR.rd
    obtain ⟨X, c, n, hRead, hcase⟩ := read_gen HS.out.1 gT gr v t.T q' wr.drew (hT.only (Only.refl [] wr).drew (by simp)) (hR.rd.drewN 1) hcode.1
    rw [← hpt] at hcase
    have hnx := GSt.nx_7 (L0 := fixedL) (D0 := fixedD2) (N := num B) (most := f.most) htk
    have HR := hide (And.intro hR (And.intro hSi (And.intro hy (And.intro hM (And.intro hpos (And.intro hqq (And.intro hlen hoa)))))))
    have HT := hide (And.intro htk (And.intro hst (And.intro hout (And.intro hpt (And.intro hwt hnx)))))
    have HC := hide hRead
    have h11 : t.k ≠ 11 := by omega
    have H11 := hide h11
    clear hR hSi hy hM hpos hqq hlen hoa hRead hco hcd hT hD htk hst hout hpt hwt hnx hcode h11
    rcases hcase with ⟨rfl, rfl, hfar⟩ | ⟨rfl, rfl, hnear, herr⟩ | ⟨rfl, hn, hnear, hqn, hh⟩
    · have hend := HT.out.2.1.short H11.out (by rw [HT.out.2.2.2.2.2]; exact hfar)
      have HF := hide hend
      clear hfar hend
      go_wp2_with fail
      go_region_with (go_at_call 109; refine (HC.out).mono ?_; rintro e w1 ⟨rfl, ho1, hr1⟩)
      clear c1 c2 c3
      all_goals
        have hR1 := (HR.out.1.drewN 1).read ho1 hr1
        have hM1 := (HR.out.1.drewN 1).mdr (HR.out.2.2.2.1.keep (S := []) ((Only.refl [] wr).drew) (Other.nil _)) ho1
        have H1 := hide (And.intro hR1 (And.intro ho1 hM1))
        clear hR1 ho1 hr1 hM1
        go_wp2_with fail
        go_ret
        exact ⟨2, rfl, q', y, vo', _, H1.out.1, HR.out.2.1.step ((((Only.refl [gr] wr).drew).trans H1.out.2.1 (by simp)).weak (by simp)), ⟨rfl, rfl, rfl, rfl, rfl, rfl, rfl, rfl, rfl⟩, HR.out.2.2.1, .inr (.inl ⟨rfl, t, HF.out, HT.out.2.2.1, H1.out.2.2, .of HT.out.2.2.2.1 (by have := HT.out.1; omega), rfl, HT.out.1⟩)⟩
    · have hend : End B a f.most s 3 t := HT.out.2.1.bad H11.out (by rw [HT.out.2.2.2.2.2]; dsimp only; rw [if_pos (.inl herr)]) hnear
      have HF := hide hend
      clear hnear herr hend
      go_wp2_with fail
      go_region_with (go_at_call 109; refine (HC.out).mono ?_; rintro e w1 ⟨rfl, ho1, hr1⟩)
      clear c1 c2 c3
      all_goals
        have hR1 := (HR.out.1.drewN 1).read ho1 hr1
        have H1 := hide (And.intro hR1 ho1)
        clear hR1 ho1 hr1
        go_wp2_with fail
        go_ret
        exact ⟨3, rfl, q', y, vo', _, H1.out.1, HR.out.2.1.step ((((Only.refl [gr] wr).drew).trans H1.out.2 (by simp)).weak (by simp)), ⟨rfl, rfl, rfl, rfl, rfl, rfl, rfl, rfl, rfl⟩, HR.out.2.2.1, .inr (.inr ⟨.inl rfl, fun h => h, t, HF.out⟩)⟩
    · have hnx := HT.out.2.2.2.2.2
      rw [hh] at hnx
      dsimp only at hnx
      have HHN := hide (And.intro hn (And.intro hnear hqn))
      clear hn hnear hqn hh
      rcases Nat.lt_or_ge 285 X with hX | hX
      · rw [if_pos (.inr hX)] at hnx
        have hend : End B a f.most s 3 t := HT.out.2.1.bad H11.out hnx HHN.out.2.1
        have HF := hide hend
        have hX1 : (286 : Int) ≤ (X : Int) := by omega
        clear hnx hend hX
        go_wp2_with fail
        go_region_with (go_at_call 109; refine (HC.out).mono ?_; rintro e w1 ⟨rfl, ho1, hr1⟩)
        clear c1 c2 c3
        all_goals
          have hR1 := (HR.out.1.drewN 1).read ho1 hr1
          have H1 := hide (And.intro hR1 ho1)
          clear hR1 ho1 hr1
          go_wp2_with fail
          go_ret
          exact ⟨3, rfl, _, y, vo', _, H1.out.1, HR.out.2.1.step ((((Only.refl [gr] wr).drew).trans H1.out.2 (by simp)).weak (by simp)), ⟨rfl, rfl, rfl, rfl, rfl, rfl, rfl, rfl, rfl⟩, HR.out.2.2.1, .inr (.inr ⟨.inl rfl, fun h => h, t, HF.out⟩)⟩
      · rw [if_neg (by omega)] at hnx
        have hX1 : ¬ (286 : Int) ≤ (X : Int) := by omega
        rcases Nat.lt_or_ge X 256 with hX2 | hX2
        · rw [if_pos hX2] at hnx
          have hX3 : ¬ (256 : Int) ≤ (X : Int) := by omega
          have HX := hide (And.intro hX2 hnx)
          clear hX hX2 hnx
          go_wp2_with fail
          go_region_with (go_at_call 109; refine (HC.out).mono ?_; rintro e w1 ⟨rfl, ho1, hr1⟩)
          clear c1 c2 c3
          all_goals
            have hR1 := (HR.out.1.drewN 1).read ho1 hr1
            have hM1 := (HR.out.1.drewN 1).mdr (HR.out.2.2.2.1.keep (S := []) ((Only.refl [] wr).drew) (Other.nil _)) ho1
            have k0 : w1.cell? ⟨g, 0, none⟩ = some (.int .i64 (f.most : Int)) := hR1.on.dec.most
            have k6 : w1.cell? ⟨g, 6, none⟩ = some (.int .i64 ((s.out ++ y).length : Int)) := by have := hR1.on.dec.wn; rw [hR1.on.wn] at this; exact this
            have H1 := hide (And.intro hR1 (And.intro ho1 hM1))
            obtain ⟨z, hz⟩ : ∃ z, z = (s.out ++ y).length := ⟨_, rfl⟩
            rw [← hz] at k6
            have HZ := hide hz
            clear hR1 ho1 hr1 hM1 hz
            by_cases hfull : z = f.most
            · have hd : ((z : Int) == (f.most : Int)) = true := by simp [hfull]
              have hend : End B a f.most s 5 t := HT.out.2.1.bad H11.out (by
                have h := HX.out.2
                rw [if_neg (by rw [HT.out.2.2.1]; have := HZ.out; omega)] at h
                exact h) HHN.out.2.1
              have HF := hide hend
              clear hfull hend
              go_wp2_with fail
              go_region
              all_goals
                go_wp2_with fail
                go_ret
                exact ⟨5, rfl, _, y, vo', _, H1.out.1.drewN 1, (HR.out.2.1.step ((((Only.refl [gr] wr).drew).trans H1.out.2.1 (by simp)).weak (by simp))).step ((Only.refl _ w1).drew), ⟨rfl, rfl, rfl, rfl, rfl, rfl, rfl, rfl, rfl⟩, HR.out.2.2.1, .inr (.inr ⟨.inr rfl, fun h => h, t, HF.out⟩)⟩
            · have hd : ((z : Int) == (f.most : Int)) = false := by simp; omega
              have hd2 : ¬ (z : Int) = (f.most : Int) := by omega
              have hzm : s.out.length + y.length + 1 ≤ f.most := by
                have h2 := HZ.out
                have h3 := HR.out.2.2.1
                rw [List.length_append] at h2
                omega
              have hib : (UInt8.ofNat X).toNat = X := by rw [UInt8.toNat_ofNat']; exact Nat.mod_eq_of_lt HX.out.1
              have hLay := lay_any g gf gw K _ _ vo' _ _ (UInt8.ofNat X) w1.drew (H1.out.1.drewN 1).on (by rw [List.length_append]; have := HS.out.2.2.2.1; omega) (by rw [List.length_append]; have := HS.out.2.2.2; omega)
              rw [hib] at hLay
              have HL := hide (And.intro hLay hzm)
              have hX4 : (X : Int) < 256 := by omega
              clear hfull hzm hib hLay
              go_wp2_with fail
              go_region
              all_goals
                go_wp2_with fail
                refine (HL.out.1).mono ?_
                rintro e w2 ⟨rfl, vo2, hon2, hs2⟩
                have hR2 := (H1.out.1.drewN 1).lay hon2 hs2 rfl
                rw [List.append_assoc, List.append_assoc] at hR2
                have hM2 := (H1.out.1.drewN 1).mds (H1.out.2.2.keep (S := []) ((Only.refl [] w1).drew) (Other.nil _)) (hs2.more_)
                have hS2 : Since [g, gf, gw, gr] w vo w2 vo2 := ((HR.out.2.1.step ((((Only.refl [gr] wr).drew).trans H1.out.2.1 (by simp)).weak (by simp))).step ((Only.refl _ w1).drew)).trans hs2 (fun i hi _ => by simp only [List.mem_cons, List.not_mem_nil, or_false] at hi ⊢; omega)
                have hp2 := posOf_eq hR2.rd
                have H2 := hide (And.intro hR2 (And.intro hS2 (And.intro hp2 hM2)))
                clear hR2 hS2 hp2 hon2 hs2 hM2
                go_wp2_with fail
                go_roundw
                case rel =>
                  refine ⟨q' + n, y ++ [UInt8.ofNat X], vo2, { t with p := t.p + n, out := t.out ++ [UInt8.ofNat X] }, HT.out.1, HT.out.2.1.snoc H11.out (by
                    have h := HX.out.2
                    rw [if_pos (by rw [HT.out.2.2.1, List.length_append]; have := HL.out.2; omega)] at h
                    exact h) HHN.out.2.1, by show t.out ++ _ = _; rw [HT.out.2.2.1, List.append_assoc], ?_, H2.out.2.1, ?_, by rw [List.length_append, List.length_singleton]; have := HL.out.2; omega, by show t.p + n = _; rw [HT.out.2.2.2.1]; omega⟩
                  · rw [List.length_append, List.length_singleton, ← Nat.add_assoc]
                    exact H2.out.1
                  · have hM := H2.out.2.2.2
                    have hk7 := HT.out.1
                    exact ⟨hM.last, fun h => absurd (show t.k = 2 from h) (by omega), hM.co, fun h => absurd (show t.k = 8 ∨ t.k = 10 from h) (by omega), fun h => absurd (show 9 ≤ t.k from h) (by omega), fun _ h => absurd (show t.k ≤ 6 from h) (by omega), hM.tab⟩
                case measure =>
                  have h1 := HR.out.2.2.2.2.1
                  have h2 := H2.out.1.rd.2.2.2
                  have h3 := HHN.out.1
                  rw [H2.out.2.2.1, h1]
                  omega
        · rw [if_neg (by omega)] at hnx
          have hX3 : (256 : Int) ≤ (X : Int) := by omega
          have HX := hide (And.intro hX2 (And.intro hX hnx))
          clear hX hX2 hnx
          go_wp2_with fail
          go_region_with (go_at_call 109; refine (HC.out).mono ?_; rintro e w1 ⟨rfl, ho1, hr1⟩; have hR1 := (HR.out.1.drewN 1).read ho1 hr1; have hM1 := (HR.out.1.drewN 1).mdr (HR.out.2.2.2.1.keep (S := []) ((Only.refl [] wr).drew) (Other.nil _)) ho1; have k5 := hR1.on.dec.sy; have f5 : w1.frozen? ⟨g, 355, none⟩ = false := Has.free hR1.on.dec 355; have H1 := hide (And.intro hR1 (And.intro ho1 hM1)); clear hR1 ho1 hr1 hM1)
          clear c1 c2 c3
          all_goals
            go_wp2_with fail
            go_ret
            have oW : Only [g] w1 (w1.setCell ⟨g, 355, none⟩ (.int .i64 (X : Int))) := (Only.refl [g] _).setCell (by simp) _
            have hM := H1.out.1.mdg H1.out.2.2 oW
            have hk7 := HT.out.1
            have hnx := HX.out.2.2
            refine ⟨0, rfl, q' + n, y, vo', _, H1.out.1.cells oW (Dc.set_sy H1.out.1.on.dec X) rfl rfl (H1.out.1.keepX oW), (HR.out.2.1.step ((((Only.refl [gr] wr).drew).trans H1.out.2.1 (by simp)).weak (by simp))).step (oW.weak (by simp)), ⟨rfl, rfl, rfl, rfl, rfl, rfl, rfl, rfl, rfl⟩, HR.out.2.2.1, .inl ⟨rfl, ?_⟩⟩
            by_cases h256 : X = 256
            · rw [if_pos h256] at hnx
              have hb := behindK_or' t.last
              refine ⟨_, HT.out.2.1.then_ (.one H11.out hnx HHN.out.2.1), HT.out.2.2.1, ?_, .of (by show t.p + n = _; rw [HT.out.2.2.2.1]; omega) (by show behindK t.last ≠ 1; omega), rfl, .inr ⟨h256, rfl⟩⟩
              exact ⟨hM.last, fun h => absurd (show behindK t.last = 2 from h) (by omega), fun h1 h2 => absurd (And.intro (show 7 ≤ behindK t.last from h1) (show behindK t.last ≤ 10 from h2)) (by omega), fun h => absurd (show behindK t.last = 8 ∨ behindK t.last = 10 from h) (by omega), fun h1 h2 => absurd (And.intro (show 9 ≤ behindK t.last from h1) (show behindK t.last ≤ 10 from h2)) (by omega), fun h1 h2 => absurd (And.intro (show 4 ≤ behindK t.last from h1) (show behindK t.last ≤ 6 from h2)) (by omega), hM.tab⟩
            · rw [if_neg h256] at hnx
              refine ⟨_, HT.out.2.1.then_ (.one H11.out hnx HHN.out.2.1), HT.out.2.2.1, ?_, .of (by show t.p + n = _; rw [HT.out.2.2.2.1]; omega) (by show (8 : Nat) ≠ 1; decide), rfl, .inl ⟨rfl, rfl⟩⟩
              exact ⟨hM.last, fun h => absurd (show (8 : Nat) = 2 from h) (by decide), fun _ _ => hM.co (by omega) (by omega), fun _ => rfl, fun h => absurd (show (9 : Nat) ≤ 8 from h) (by decide), fun _ h => absurd (show (8 : Nat) ≤ 6 from h) (by decide), hM.tab⟩
end Go.Proofs.YtlknhiihdejpeaaGreatDoor


namespace Go.Proofs.YtlknhiihdejpeaaGreatDoor
open Go Go.RowKit

section
variable {B : List UInt8} {a o : Nat} {l : List UInt8} {g gf gw gr : Nat} {K : List Nat} {f f1 f2 : DF} {v vo vo1 vo2 : Value} {q1 q2 : Nat} {x x1 : List UInt8} {s t u : GSt} {w w1 w2 : World} {P Q P' Q' : DF → GSt → Prop} {c : Nat}

theorem Went.codes (h : Went B a o l g gf gw gr K f v vo x s P Q w c w1) : c = 0 ∨ c = 2 ∨ c = 3 ∨ c = 5 := by
  obtain ⟨_, _, _, _, _, _, _, _, h⟩ := h
  rcases h with ⟨h, _⟩ | ⟨h, _⟩ | ⟨h | h, _⟩ <;> omega
theorem Went.after (hst : Stp B a f.most s t) {y : List UInt8} (hout : t.out = s.out ++ y) (hS : Since [g, gf, gw, gr] w vo w1 vo1) (hsm : Same f f1) (hk : f.k ≠ 11 → f1.k ≠ 11) (h : Went B a o l g gf gw gr K f1 v vo1 (x ++ y) t P Q w1 c w2) :
    Went B a o l g gf gw gr K f v vo x s P Q w c w2 := by
  obtain ⟨q', y', vo', f', hR, hS2, hsm2, hle, hcase⟩ := h
  rw [hout, List.append_assoc, List.append_assoc] at hR
  refine ⟨q', y ++ y', vo', f', hR, hS.trans hS2 (fun _ hi _ => hi), hsm.trans hsm2, ?_, ?_⟩
  · rw [hsm.most, hout, List.length_append] at hle
    rw [List.length_append]; omega
  · rw [hsm.most, hout, List.append_assoc] at hcase
    rcases hcase with ⟨rfl, r, h1, h2, h3⟩ | ⟨rfl, r, h1, h2⟩ | ⟨hc, hk2, r, h1⟩
    · exact .inl ⟨rfl, r, hst.then_ h1, h2, h3⟩
    · exact .inr (.inl ⟨rfl, r, hst.ends h1, h2⟩)
    · exact .inr (.inr ⟨hc, fun h0 => hk2 (hk h0), r, hst.ends h1⟩)
theorem Went.weak (h : Went B a o l g gf gw gr K f v vo x s P Q w c w1) (hP : ∀ f' t, P f' t → P' f' t) (hQ : ∀ f' t, Q f' t → Q' f' t) : Went B a o l g gf gw gr K f v vo x s P' Q' w c w1 := by
  obtain ⟨q', y', vo', f', hR, hS2, hsm2, hle, hcase⟩ := h
  refine ⟨q', y', vo', f', hR, hS2, hsm2, hle, ?_⟩
  rcases hcase with ⟨rfl, r, h1, h2, h3, h4, h5⟩ | ⟨rfl, r, h1, h2, h3, h4, h5⟩ | h
  · exact .inl ⟨rfl, r, h1, h2, h3, h4, hP _ _ h5⟩
  · exact .inr (.inl ⟨rfl, r, h1, h2, h3, h4, hQ _ _ h5⟩)
  · exact .inr (.inr h)
theorem Went.weak' (h : Went B a o l g gf gw gr K f v vo x s P Q w c w1) (hc : c ≠ 0) (hQ : ∀ f' t, Q f' t → Q' f' t) : Went B a o l g gf gw gr K f v vo x s P' Q' w c w1 := by
  obtain ⟨q', y', vo', f', hR, hS2, hsm2, hle, hcase⟩ := h
  refine ⟨q', y', vo', f', hR, hS2, hsm2, hle, ?_⟩
  rcases hcase with ⟨h, _⟩ | ⟨rfl, r, h1, h2, h3, h4, h5⟩ | h
  · exact absurd h hc
  · exact .inr (.inl ⟨rfl, r, h1, h2, h3, h4, hQ _ _ h5⟩)
  · exact .inr (.inr h)

/-- The decoder stands at t, having come from s. -/
structure Now (B : List UInt8) (a o : Nat) (l : List UInt8) (g gf gw gr : Nat) (K : List Nat) (f : DF) (v vo : Value) (x : List UInt8) (s : GSt) (w : World) (f1 : DF) (vo1 : Value) (q1 : Nat) (x1 : List UInt8) (t : GSt) (w1 : World) : Prop where
  rn : Rn w1 g gf gw gr K f1 v vo1 l q1 t.out x1
  md : Md w1 f1 t
  wf : t.Wf
  pt : Pt t o q1
  le : t.out.length ≤ f1.most
  most : f1.most ≤ 1073741824
  xl : x1.length ≤ t.out.length
  src : Src B a o l
  kk : f.k ≠ 11 → f1.k ≠ 11
  back : ∀ (P Q : DF → GSt → Prop) (c : Nat) (w' : World), Went B a o l g gf gw gr K f1 v vo1 x1 t P Q w1 c w' → Went B a o l g gf gw gr K f v vo x s P Q w c w'

theorem Now.here (hs : Src B a o l) (hr : Rn w g gf gw gr K f v vo l q1 s.out x) (hm : Md w f s) (hwf : s.Wf) (hp : Pt s o q1) (hle : s.out.length ≤ f.most) (hmost : f.most ≤ 1073741824) (hx : x.length ≤ s.out.length) : Now B a o l g gf gw gr K f v vo x s w f vo q1 x s w :=
  ⟨hr, hm, hwf, hp, hle, hmost, hx, hs, fun h => h, fun _ _ _ _ h => h⟩
/-- One part more went well. -/
theorem Now.went (h : Now B a o l g gf gw gr K f v vo x s w f1 vo1 q1 x1 t w1) (hw : Went B a o l g gf gw gr K f1 v vo1 x1 t P Q w1 0 w2) (hPk : ∀ f' t, P f' t → f1.k ≠ 11 → f'.k ≠ 11 := by exact fun _ _ h hk => by rw [h.1]; exact hk) :
    ∃ q2 y vo2 f2 u, Now B a o l g gf gw gr K f v vo x s w f2 vo2 q2 (x1 ++ y) u w2 ∧ P f2 u := by
  obtain ⟨q2, y, vo2, f2, hR, hS, hsm, hle, hcase⟩ := hw
  rcases hcase with ⟨_, u, hst, hout, hM, hP, hp⟩ | ⟨h, _⟩ | ⟨h | h, _⟩
  · refine ⟨q2, y, vo2, f2, u, ⟨by rw [hout]; exact hR, hM, hst.1.wf okL okD h.wf, hP, by rw [hout, hsm.most, List.length_append]; exact hle, by rw [hsm.most]; exact h.most, by rw [hout, List.length_append, List.length_append]; have := h.xl; omega, h.src, fun h0 => hPk _ _ hp (h.kk h0), fun P Q c w' hW => h.back P Q c w' (Went.after hst.1 hout hS hsm (hPk _ _ hp) hW)⟩, hp⟩
  · omega
  · omega
  · omega
/-- Steps that tell nothing. -/
theorem Now.go (h : Now B a o l g gf gw gr K f v vo x s w f1 vo1 q1 x1 t w1) (hst : Stp B a f1.most t u) (hout : u.out = t.out) (hr : Rn w2 g gf gw gr K f2 v vo1 l q2 t.out x1) (ho : Only [g, gr] w1 w2) (hsm : Same f1 f2) (hm : Md w2 f2 u) (hp : Pt u o q2) (hk : f1.k ≠ 11 → f2.k ≠ 11 := by first | exact fun h => h | (intro _; dsimp only; decide)) :
    Now B a o l g gf gw gr K f v vo x s w f2 vo1 q2 x1 u w2 :=
  ⟨by rw [hout]; exact hr, hm, hst.wf okL okD h.wf, hp, by rw [hout, hsm.most]; exact h.le, by rw [hsm.most]; exact h.most, by rw [hout]; exact h.xl, h.src, fun h0 => hk (h.kk h0), fun P Q c w' hW =>
    h.back P Q c w' (Went.after (y := []) hst (by rw [hout, List.append_nil]) ((Since.refl _ _ _).step (ho.weak (by intro k hk _; simp only [List.mem_cons, List.not_mem_nil, or_false] at hk ⊢; omega))) hsm hk (by rw [List.append_nil]; exact hW))⟩
/-- It is refused. -/
theorem Now.bad (h : Now B a o l g gf gw gr K f v vo x s w f1 vo1 q1 x1 t w1) (hc : c = 3 ∨ c = 5) (he : End B a f1.most t c u) (hr : Rn w2 g gf gw gr K f2 v vo1 l q2 t.out x1) (ho : Only [g, gr] w1 w2) (hsm : Same f1 f2) (hk : f1.k ≠ 11 → f2.k ≠ 11 := by first | exact fun h => h | (intro _; dsimp only; decide)) : Went B a o l g gf gw gr K f v vo x s P Q w c w2 :=
  h.back P Q c w2 ⟨q2, [], vo1, f2, by simpa using hr, (Since.refl _ _ _).step (ho.weak (by intro k hk _; simp only [List.mem_cons, List.not_mem_nil, or_false] at hk ⊢; omega)), hsm, by simpa using h.le, .inr (.inr ⟨hc, hk, u, he⟩)⟩
/-- Bits lack. -/
theorem Now.short (h : Now B a o l g gf gw gr K f v vo x s w f1 vo1 q1 x1 t w1) (he : End B a f1.most t 2 u) (hout : u.out = t.out) (hr : Rn w2 g gf gw gr K f2 v vo1 l q2 t.out x1) (ho : Only [g, gr] w1 w2) (hsm : Same f1 f2) (hm : Md w2 f2 u) (hp : Pt u o q2) (hq : Q f2 u) : Went B a o l g gf gw gr K f v vo x s P Q w 2 w2 :=
  h.back P Q 2 w2 ⟨q2, [], vo1, f2, by simpa using hr, (Since.refl _ _ _).step (ho.weak (by intro k hk _; simp only [List.mem_cons, List.not_mem_nil, or_false] at hk ⊢; omega)), hsm, by simpa using h.le, .inr (.inl ⟨rfl, u, he, by rw [hout, List.append_nil], hm, hp, hq⟩)⟩
/-- It goes on to a state that tells nothing more. -/
theorem Now.ok (h : Now B a o l g gf gw gr K f v vo x s w f1 vo1 q1 x1 t w1) (hst : Stp1 B a f1.most t u) (hout : u.out = t.out) (hr : Rn w2 g gf gw gr K f2 v vo1 l q2 t.out x1) (ho : Only [g, gr] w1 w2) (hsm : Same f1 f2) (hm : Md w2 f2 u) (hp : Pt u o q2) (hq : P f2 u) : Went B a o l g gf gw gr K f v vo x s P Q w 0 w2 :=
  h.back P Q 0 w2 ⟨q2, [], vo1, f2, by simpa using hr, (Since.refl _ _ _).step (ho.weak (by intro k hk _; simp only [List.mem_cons, List.not_mem_nil, or_false] at hk ⊢; omega)), hsm, by simpa using h.le, .inl ⟨rfl, u, hst, by rw [hout, List.append_nil], hm, hp, hq⟩⟩
/-- The state's own cell is set. -/
theorem Now.setk (h : Now B a o l g gf gw gr K f v vo x s w f1 vo1 q1 x1 t w1) (k : Nat) (hk11 : k ≠ 11 := by decide) : Now B a o l g gf gw gr K f v vo x s w { f1 with k := k } vo1 q1 x1 t (w1.setCell ⟨g, 1, none⟩ (.int .i64 (k : Int))) := by
  have oW : Only [g] w1 (w1.setCell ⟨g, 1, none⟩ (.int .i64 (k : Int))) := (Only.refl [g] _).setCell (by simp) _
  have hM := h.rn.mdg h.md oW
  exact h.go (.refl t) rfl (h.rn.cells oW (Dc.set_k h.rn.on.dec k) rfl rfl (h.rn.keepX oW)) (oW.weak (by simp)) ⟨rfl, rfl, rfl, rfl, rfl, rfl, rfl, rfl, rfl⟩ ⟨hM.last, hM.left, hM.co, hM.sy, hM.le, hM.hd, hM.tab⟩ h.pt (fun _ => hk11)
/-- What went well, with the state's own cell set behind it. -/
theorem Went.setk (h : Went B a o l g gf gw gr K f v vo x s P Q w 0 w1) (k : Nat) (hP : ∀ f' t, P f' t → t.k = k) : Went B a o l g gf gw gr K f v vo x s (fun f' t => f'.k = t.k) Q' w 0 (w1.setCell ⟨g, 1, none⟩ (.int .i64 (k : Int))) := by
  obtain ⟨q', y', vo', f', hR, hS2, hsm2, hle, hcase⟩ := h
  have oW : Only [g] w1 (w1.setCell ⟨g, 1, none⟩ (.int .i64 (k : Int))) := (Only.refl [g] _).setCell (by simp) _
  rcases hcase with ⟨_, r, h1, h2, hM, h4, h5⟩ | ⟨h, _⟩ | ⟨h | h, _⟩
  · have hM := hR.mdg hM oW
    exact ⟨q', y', vo', { f' with k := k }, hR.cells oW (Dc.set_k hR.on.dec k) rfl rfl (hR.keepX oW), hS2.step (oW.weak (by simp)), hsm2.trans ⟨rfl, rfl, rfl, rfl, rfl, rfl, rfl, rfl, rfl⟩, hle, .inl ⟨rfl, r, h1, h2, ⟨hM.last, hM.left, hM.co, hM.sy, hM.le, hM.hd, hM.tab⟩, h4, (hP _ _ h5).symm⟩⟩
  · omega
  · omega
  · omega
end
end Go.Proofs.YtlknhiihdejpeaaGreatDoor


namespace Go.Proofs.YtlknhiihdejpeaaGreatDoor
open Go Go.RowKit

theorem part_take' (B : List UInt8) (a j n : Nat) (h : j + n ≤ a) : ((B.take a).drop j).take n = (B.drop j).take n := by
  rw [List.drop_take, List.take_take, Nat.min_eq_left (by omega)]
/-- Some stored bytes, of those that are left. -/
def tS (t : GSt) (n p : Nat) (out : List UInt8) : GSt := { t with k := stK t.last n, left := n, p := p, out := out }
theorem bytes_steps {B : List UInt8} {a most : Nat} (t : GSt) (n p : Nat) (out : List UInt8) : ∀ j, j ≤ n → p + 8 * j ≤ 8 * a → out.length + j ≤ most → Stp B a most (tS t n p out) (tS t (n - j) (p + 8 * j) (out ++ bytesAt (num B) p j))
  | 0, _, _, _ => by
    have e : out ++ bytesAt (num B) p 0 = out := by simp [bytesAt]
    rw [e]; exact .refl _
  | j + 1, h1, h2, h3 => by
    have ih := bytes_steps (B := B) (a := a) (most := most) t n p out j (by omega) (by omega) (by omega)
    have hk : (tS t (n - j) (p + 8 * j) (out ++ bytesAt (num B) p j)).k = 2 := stK_pos _ (by omega)
    have hnx := GSt.nx_2 (L0 := fixedL) (D0 := fixedD2) (N := num B) (most := most) hk
    rw [if_pos (by show (out ++ bytesAt (num B) p j).length < most; rw [List.length_append, bytesAt_length]; omega)] at hnx
    have hfin := ih.snoc (by omega) hnx (by show p + 8 * j + 8 ≤ _; omega)
    have e : tS t (n - (j + 1)) (p + 8 * (j + 1)) (out ++ bytesAt (num B) p (j + 1)) = { tS t (n - j) (p + 8 * j) (out ++ bytesAt (num B) p j) with k := stK t.last (n - j - 1), left := n - j - 1, p := p + 8 * j + 8, out := out ++ bytesAt (num B) p j ++ [UInt8.ofNat (num B / 2 ^ (p + 8 * j))] } := by
      unfold tS
      rw [bytesAt_succ, List.append_assoc, show n - (j + 1) = n - j - 1 by omega, show p + 8 * (j + 1) = p + 8 * j + 8 by omega]
    rw [e]
    exact hfin
theorem bytes_long {B : List UInt8} {a most : Nat} (t : GSt) (n p m : Nat) (out : List UInt8) (hm : m ≤ n) (hp : p + 8 * m ≤ 8 * a) (ho : out.length ≤ most) (hl : most < out.length + m) : ∃ u, End B a most (tS t n p out) 5 u := by
  have h := bytes_steps (B := B) (a := a) (most := most) t n p out (most - out.length) (by omega) (by omega) (by omega)
  have hk : (tS t (n - (most - out.length)) (p + 8 * (most - out.length)) (out ++ bytesAt (num B) p (most - out.length))).k = 2 := stK_pos _ (by omega)
  have hnx := GSt.nx_2 (L0 := fixedL) (D0 := fixedD2) (N := num B) (most := most) hk
  rw [if_neg (by show ¬ (out ++ bytesAt (num B) p (most - out.length)).length < most; rw [List.length_append, bytesAt_length]; omega)] at hnx
  exact ⟨_, h.bad (by omega) hnx (by show p + 8 * (most - out.length) + 8 ≤ _; omega)⟩

/-- What comes of stored bytes (where there are none, no step is done). -/
def Stored (B : List UInt8) (a o : Nat) (l : List UInt8) (g gf gw gr : Nat) (K : List Nat) (f : DF) (v vo : Value) (x : List UInt8) (t : GSt) (w : World) (c : Nat) (w' : World) : Prop :=
  ∃ (q' : Nat) (y : List UInt8) (vo' : Value) (f' : DF), Rn w' g gf gw gr K f' v vo' l q' (t.out ++ y) (x ++ y) ∧ Since [g, gf, gw, gr] w vo w' vo' ∧ Same f f' ∧ t.out.length + y.length ≤ f.most ∧ f'.k = f.k ∧
    ((c = 0 ∧ ∃ u, Stp B a f.most t u ∧ u.out = t.out ++ y ∧ Md w' f' u ∧ Pt u o q' ∧ u.k = behindK u.last ∧ (0 < t.left → u.ms a < t.ms a)) ∨
      (c = 2 ∧ ∃ u, End B a f.most t 2 u ∧ u.out = t.out ++ y ∧ Md w' f' u ∧ Pt u o q' ∧ u.k = 2) ∨
      (c = 5 ∧ ∃ u, End B a f.most t 5 u))

theorem stored_step (B : List UInt8) (a o : Nat) (l : List UInt8) (hs : Src B a o l) (g gf gw gr : Nat) (K : List Nat) (f : DF) (v vo : Value) (q : Nat) (x : List UInt8) (t : GSt) (w : World) (h : Rn w g gf gw gr K f v vo l q t.out x) (hkt : t.k = stK t.last t.left) (hfl : f.left = t.left) (hlast : f.last = t.last) (htab : Tab w)
    (hp : t.p = 8 * o + q) (hq : q % 8 = 0) (hlf : t.left < 65536) (hl : t.out.length ≤ f.most) (hmost : f.most ≤ 1073741824) (hx : x.length ≤ t.out.length) :
    Calls Tryz.prog 97 #[.pointer (some ⟨g, 0, none⟩), .pointer (some ⟨gf, 0, none⟩)] w (fun e w' => ∃ c : Nat, e = .returned (.int .i64 (c : Int)) ∧ Stored B a o l g gf gw gr K f v vo x t w c w') := by
  have hlen := hs.len
  have hoa := hs.oa
  have haB := hs.aB
  have hqq := h.rd.2.2.2
  obtain ⟨n, hn⟩ : ∃ n, n = min f.left ((8 * l.length - q) / 8) := ⟨_, rfl⟩
  have het : t = tS t t.left t.p t.out := by
    show t = { t with k := stK t.last t.left, left := t.left, p := t.p, out := t.out }
    rw [← hkt]
  rcases Nat.lt_or_ge f.most (t.out.length + n) with hlong | hfit
  · refine (stored_long g gf gw gr K f v vo l q t.out x w h n hn hl hlong hmost).mono ?_
    rintro e w' ⟨rfl, m, rfl⟩
    obtain ⟨u, hu⟩ := bytes_long (B := B) (a := a) (most := f.most) t t.left t.p n t.out (by omega) (by omega) hl hlong
    rw [← het] at hu
    exact ⟨5, rfl, q, [], vo, f, by simpa using h.drewN m, (Since.refl _ _ _).step ((Only.refl _ _).drewN m), Same.refl f, by simpa using hl, rfl, .inr (.inr ⟨rfl, u, hu⟩)⟩
  · have hbs : (l.drop (q / 8)).take n = bytesAt (num B) t.p n := by
      rw [hp, show 8 * o + q = 8 * (o + q / 8) by omega, bytesAt_num _ _ _ (by omega), hs.eq, List.drop_drop, part_take' _ _ _ _ (by omega)]
    refine (stored_ok g gf gw gr K f v vo l q t.out x w h n hn hq hfit hmost hx (by omega) _ hbs.symm).mono ?_
    rintro e w' ⟨rfl, vo', hR, hSi⟩
    have hst := bytes_steps (B := B) (a := a) (most := f.most) t t.left t.p t.out n (by omega) (by omega) hfit
    rw [← het] at hst
    have hyl : (bytesAt (num B) t.p n).length = n := bytesAt_length _ _ _
    have htab' := htab.only hSi.only (fun k hk hlt => (h.other k hk hlt).2)
    rcases Nat.eq_zero_or_pos (f.left - n) with h0 | h0
    · have hkk : (tS t (t.left - n) (t.p + 8 * n) (t.out ++ bytesAt (num B) t.p n)).k = behindK t.last := by
        show stK t.last (t.left - n) = _
        rw [show t.left - n = 0 by omega]; rfl
      have hor := behindK_or' t.last
      refine ⟨0, by rw [h0]; rfl, q + 8 * n, bytesAt (num B) t.p n, vo', _, hR, hSi, ⟨rfl, rfl, rfl, rfl, rfl, rfl, rfl, rfl, rfl⟩, by rw [hyl]; exact hfit, rfl, .inl ⟨rfl, _, hst, rfl, ⟨hlast, fun h => absurd (hkk.symm.trans h) (by omega), fun h1 h2 => absurd (And.intro (hkk ▸ h1) (hkk ▸ h2)) (by omega), fun h => absurd (hkk ▸ h) (by omega), fun h1 h2 => absurd (And.intro (hkk ▸ h1) (hkk ▸ h2)) (by omega), fun h1 h2 => absurd (And.intro (hkk ▸ h1) (hkk ▸ h2)) (by omega), htab'⟩, .of (by show t.p + 8 * n = _; omega) (by rw [hkk]; omega), hkk, fun hpos => ?_⟩⟩
      have h1 : 0 < n := by omega
      have h2 := GSt.rk_le (tS t (t.left - n) (t.p + 8 * n) (t.out ++ bytesAt (num B) t.p n)).k
      show 2 * (8 * a - (t.p + 8 * n)) + GSt.rk _ < 2 * (8 * a - t.p) + GSt.rk t.k
      omega
    · have hkk : (tS t (t.left - n) (t.p + 8 * n) (t.out ++ bytesAt (num B) t.p n)).k = 2 := stK_pos _ (by omega)
      refine ⟨2, by rw [if_pos h0]; rfl, q + 8 * n, bytesAt (num B) t.p n, vo', _, hR, hSi, ⟨rfl, rfl, rfl, rfl, rfl, rfl, rfl, rfl, rfl⟩, by rw [hyl]; exact hfit, rfl, .inr (.inl ⟨rfl, _, hst.short (by omega) (by rw [GSt.nx_2 hkk]; show 8 * a < t.p + 8 * n + 8; omega), rfl, ⟨hlast, fun _ => (by show f.left - n = t.left - n; omega), fun h1 => absurd (hkk ▸ h1) (by omega), fun h => absurd (hkk ▸ h) (by omega), fun h1 => absurd (hkk ▸ h1) (by omega), fun h1 => absurd (hkk ▸ h1) (by omega), htab'⟩, .of (by show t.p + 8 * n = _; omega) (by omega), hkk⟩)⟩
end Go.Proofs.YtlknhiihdejpeaaGreatDoor

