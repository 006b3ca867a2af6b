/-
  Package inflate, all streams: what a dynamic block says of its lengths.
-/
import Derived.Test.YtopjkmobnmaaaaaDoorFlG
import Derived.Deep.QuietTactic
namespace Go.Proofs.YtopjkmobnmaaaaaDoor
open Go Go.RowKit

theorem okOwn {s : GSt} (h : s.Wf) (h5 : 5 ≤ s.k) (h6 : s.k ≤ 6) : OkT s.own := by
  have hh := h.head (by omega) (by omega)
  have hs := h.said h5 h6
  exact ⟨by rw [hh.2.2.2.2.2.2.1]; decide, far_of (fun b hb => by have := hh.2.2.2.2.2.2.2 b hb; omega), hs.1⟩

def SayP (f f' : DF) (t : GSt) : Prop := f'.k = f.k ∧ t.k = 6
def SayQ (f f' : DF) (t : GSt) : Prop := f'.k = f.k ∧ t.k = 5

theorem Hd.set_sym {w : World} {hd : Nat → Value} {s : GSt} {X p : Nat} (h : Hd w hd s) (h19 : s.own.length = 19) :
    Hd w (fun j => if j = 35 then .int .i64 (X : Int) else hd j) { s with k := 6, sym := X, p := p } ∨ s.k < 5 := by
  by_cases hk : s.k < 5
  · exact .inr hk
  refine .inl ⟨h.nl, h.nd, h.no, fun i hi => ?_, h.nOwn, fun _ => h.tb (by omega), fun _ => rfl, fun i hi => ?_, h.n⟩
  · have hi2 : i < s.own.length := hi
    show (if 14 + i = 35 then _ else hd (14 + i)) = _
    rw [if_neg (by omega)]; exact h.own i hi
  · show (if 36 + i = 35 then _ else hd (36 + i)) = _
    rw [if_neg (by omega)]; exact h.lens i hi

set_option maxRecDepth 100000 in
set_option maxHeartbeats 8000000 in
theorem say_any (B : List UInt8) (a o : Nat) (l : List UInt8) (hs : Src B a o l) (g gf gw gr : Nat) (K : List Nat) (f : DF) (v vo : Value) (q : Nat) (x : List UInt8) (s : GSt) (w : World) (h : Rn w g gf gw gr K f v vo l q s.out x) (hk : s.k = 5)
    (hm : Md w f s) (hwf : s.Wf) (hp : s.p = 8 * o + q) (hl : s.out.length ≤ f.most) :
    Calls Tryd.prog 70 #[.pointer (some ⟨g, 11, none⟩), .pointer (some ⟨gr, 0, none⟩)] w (fun e w' => ∃ c : Nat, e = .returned (.int .i64 (c : Int)) ∧ Went B a o l g gf gw gr K f v vo x s (SayP f) (SayQ f) w c w') := by
  have hHd := hm.hd (by omega) (by omega)
  have h19 := (hwf.head (by omega) (by omega)).2.2.2.2.2.2.1
  obtain ⟨gt, h34, hT⟩ := hHd.tb (by omega)
  have c34 : w.cell? ⟨g, 34, none⟩ = some (.pointer (some ⟨gt, 0, none⟩)) := by rw [h.on.dec.hd (by decide) (by decide), h34]
  obtain ⟨X, c, n, hRead, hcase⟩ := read_gen hs gt gr v s.own q w hT h.rd (okOwn hwf (by omega) (by omega))
  rw [← hp] at hcase
  have hnx := GSt.nx_5 (L0 := fixedL) (D0 := fixedD2) (N := num B) (most := f.most) hk
  have h11 : s.k ≠ 11 := by omega
  have HH := hide (And.intro h (And.intro hm (And.intro hp (And.intro hl (And.intro h11 (And.intro hk (And.intro hnx (And.intro hHd h19))))))))
  have HC := hide hRead
  clear hs h hm hp hl hk hwf hnx hRead hHd h19 h34 hT h11
  rcases hcase with ⟨rfl, rfl, hfar⟩ | ⟨rfl, rfl, hnear, herr⟩ | ⟨rfl, hn, hnear, hqn, hh⟩
  · have HF := hide hfar
    clear hfar
    go_enter Tryd.func70, Tryd.ntmps70
    go_wp2_with fail
    refine (HC.out).mono ?_
    rintro e w1 ⟨rfl, ho1, hr1⟩
    have H1 := hide (And.intro ho1 hr1)
    clear ho1 hr1
    go_wp2_with fail
    go_ret
    have hH := HH.out
    exact ⟨2, rfl, q, [], vo, f, by simpa using hH.1.read H1.out.1 H1.out.2, (Since.refl _ _ _).step (H1.out.1.weak (by simp)), Same.refl f, by simpa using hH.2.2.2.1, .inr (.inl ⟨rfl, s, .short s hH.2.2.2.2.1 (by rw [hH.2.2.2.2.2.2.1]; exact HF.out), by simp, hH.1.mdr hH.2.1 H1.out.1, .of hH.2.2.1 (by have := hH.2.2.2.2.2.1; omega), rfl, hH.2.2.2.2.2.1⟩)⟩
  · have HF := hide (And.intro hnear herr)
    clear hnear herr
    go_enter Tryd.func70, Tryd.ntmps70
    go_wp2_with fail
    refine (HC.out).mono ?_
    rintro e w1 ⟨rfl, ho1, hr1⟩
    have H1 := hide (And.intro ho1 hr1)
    clear ho1 hr1
    go_wp2_with fail
    go_ret
    have hH := HH.out
    have hnx := hH.2.2.2.2.2.2.1
    rw [if_pos (.inl HF.out.2)] at hnx
    exact ⟨3, rfl, q, [], vo, f, by simpa using hH.1.read H1.out.1 H1.out.2, (Since.refl _ _ _).step (H1.out.1.weak (by simp)), Same.refl f, by simpa using hH.2.2.2.1, .inr (.inr ⟨.inl rfl, s, (Steps.refl s).bad hH.2.2.2.2.1 hnx HF.out.1⟩)⟩
  · have hnx := HH.out.2.2.2.2.2.2.1
    rw [hh] at hnx
    dsimp only at hnx
    obtain ⟨m, hml⟩ : ∃ m, m = s.lens.length := ⟨_, rfl⟩
    have HF := hide (And.intro hnear (And.intro hqn (And.intro hn hml)))
    by_cases hbad : X = 16 ∧ m = 0
    · obtain ⟨rfl, rfl⟩ := hbad
      rw [if_pos (.inr ⟨rfl, List.eq_nil_of_length_eq_zero hml.symm⟩)] at hnx
      have HN := hide hnx
      clear hnx hh hnear hqn hn hml
      go_enter Tryd.func70, Tryd.ntmps70
      go_wp2_with fail
      refine (HC.out).mono ?_
      rintro e w1 ⟨rfl, ho1, hr1⟩
      have h1 := HH.out.1.read ho1 hr1
      have c352 : w1.cell? ⟨g, 352, none⟩ = some (.int .i64 0) := by rw [h1.on.dec.hd (by decide) (by decide), HH.out.2.2.2.2.2.2.2.1.n, ← HF.out.2.2.2]; rfl
      have H1 := hide (And.intro ho1 h1)
      clear ho1 hr1 h1
      go_wp2_with fail
      go_ret
      have hH := HH.out
      exact ⟨3, rfl, q + n, [], vo, f, by simpa using H1.out.2, (Since.refl _ _ _).step (H1.out.1.weak (by simp)), Same.refl f, by simpa using hH.2.2.2.1, .inr (.inr ⟨.inl rfl, s, (Steps.refl s).bad hH.2.2.2.2.1 HN.out HF.out.1⟩)⟩
    · rw [if_neg (by
        rintro (h | ⟨h1, h2⟩)
        · exact h rfl
        · exact hbad ⟨h1, by rw [hml, h2]; rfl⟩)] at hnx
      have HN := hide hnx
      clear hnx hh hnear hqn hn hml
      rcases Decidable.em (X = 16) with rfl | hX
      · have hb2 : ¬ (m : Int) = 0 := by omega
        clear hbad
        go_enter Tryd.func70, Tryd.ntmps70
        go_wp2_with fail
        refine (HC.out).mono ?_
        rintro e w1 ⟨rfl, ho1, hr1⟩
        have h1 := HH.out.1.read ho1 hr1
        have c352 : w1.cell? ⟨g, 352, none⟩ = some (.int .i64 (m : Int)) := by rw [h1.on.dec.hd (by decide) (by decide), HH.out.2.2.2.2.2.2.2.1.n, ← HF.out.2.2.2]
        have c35 : w1.cell? ⟨g, 35, none⟩ = some (f.hd 35) := h1.on.dec.hd (by decide) (by decide)
        have f35 : w1.frozen? ⟨g, 35, none⟩ = false := Has.free h1.on.dec 35
        generalize f.hd 35 = u at c35
        have H1 := hide (And.intro ho1 h1)
        clear ho1 hr1 h1
        go_wp2_with fail
        all_goals
          go_ret
          have hH := HH.out
          have oW : Only [g] w1 (w1.setCell ⟨g, 35, none⟩ (.int .i64 ((16 : Nat) : Int))) := (Only.refl [g] _).setCell (by simp) _
          have d2 : Dc (w1.setCell ⟨g, 35, none⟩ (.int .i64 ((16 : Nat) : Int))) g { f with hd := fun j => if j = 35 then .int .i64 ((16 : Nat) : Int) else f.hd j } := Dc.set_hd H1.out.2.on.dec (by decide) (by decide) _
          have hM1 := hH.1.mdr hH.2.1 H1.out.1
          have hHd := ((hM1.hd (by omega) (by omega)).set_sym (X := 16) (p := s.p + n) hH.2.2.2.2.2.2.2.2).resolve_right (by omega)
          have hM2 : Md w1 { f with hd := fun j => if j = 35 then .int .i64 ((16 : Nat) : Int) else f.hd j } { s with k := 6, sym := 16, p := s.p + n } :=
            ⟨hM1.last, fun h => absurd (show (6 : Nat) = 2 from h) (by decide), fun h => absurd (show (7 : Nat) ≤ 6 from h) (by decide), fun h => absurd (show (6 : Nat) = 8 ∨ (6 : Nat) = 10 from h) (by decide), fun h => absurd (show (9 : Nat) ≤ 6 from h) (by decide), fun _ _ => hHd, hM1.tab⟩
          first
            | (exfalso; omega)
            | exact ⟨0, rfl, q + n, [], vo, { f with hd := fun j => if j = 35 then .int .i64 ((16 : Nat) : Int) else f.hd j }, by simpa using H1.out.2.cells oW d2 rfl rfl (H1.out.2.keepX oW), (Since.refl _ _ _).step ((H1.out.1.weak (T := [g, gf, gw, gr]) (by simp)).trans (oW.weak (T := [g, gf, gw, gr]) (by simp)) (by simp)), ⟨rfl, rfl, rfl, rfl, rfl, rfl, rfl, rfl, rfl⟩, by simpa using hH.2.2.2.1, .inl ⟨rfl, _, .one hH.2.2.2.2.1 HN.out HF.out.1, by simp, H1.out.2.mdg hM2 oW, .of (by show s.p + n = _; rw [hH.2.2.1]; omega) (by show (6 : Nat) ≠ 1; decide), rfl, rfl⟩⟩
      · have hb2 : ¬ (X : Int) = 16 := by omega
        clear hbad hX
        go_enter Tryd.func70, Tryd.ntmps70
        go_wp2_with fail
        refine (HC.out).mono ?_
        rintro e w1 ⟨rfl, ho1, hr1⟩
        have h1 := HH.out.1.read ho1 hr1
        have c352 : w1.cell? ⟨g, 352, none⟩ = some (.int .i64 (m : Int)) := by rw [h1.on.dec.hd (by decide) (by decide), HH.out.2.2.2.2.2.2.2.1.n, ← HF.out.2.2.2]
        have c35 : w1.cell? ⟨g, 35, none⟩ = some (f.hd 35) := h1.on.dec.hd (by decide) (by decide)
        have f35 : w1.frozen? ⟨g, 35, none⟩ = false := Has.free h1.on.dec 35
        generalize f.hd 35 = u at c35
        have H1 := hide (And.intro ho1 h1)
        clear ho1 hr1 h1
        go_wp2_with fail
        all_goals
          go_ret
          have hH := HH.out
          have oW : Only [g] w1 (w1.setCell ⟨g, 35, none⟩ (.int .i64 (X : Int))) := (Only.refl [g] _).setCell (by simp) _
          have d2 : Dc (w1.setCell ⟨g, 35, none⟩ (.int .i64 (X : Int))) g { f with hd := fun j => if j = 35 then .int .i64 (X : Int) else f.hd j } := Dc.set_hd H1.out.2.on.dec (by decide) (by decide) _
          have hM1 := hH.1.mdr hH.2.1 H1.out.1
          have hHd := ((hM1.hd (by omega) (by omega)).set_sym (X := X) (p := s.p + n) hH.2.2.2.2.2.2.2.2).resolve_right (by omega)
          have hM2 : Md w1 { f with hd := fun j => if j = 35 then .int .i64 (X : Int) else f.hd j } { s with k := 6, sym := X, p := s.p + n } :=
            ⟨hM1.last, fun h => absurd (show (6 : Nat) = 2 from h) (by decide), fun h => absurd (show (7 : Nat) ≤ 6 from h) (by decide), fun h => absurd (show (6 : Nat) = 8 ∨ (6 : Nat) = 10 from h) (by decide), fun h => absurd (show (9 : Nat) ≤ 6 from h) (by decide), fun _ _ => hHd, hM1.tab⟩
          first
            | (exfalso; omega)
            | exact ⟨0, rfl, q + n, [], vo, { f with hd := fun j => if j = 35 then .int .i64 (X : Int) else f.hd j }, by simpa using H1.out.2.cells oW d2 rfl rfl (H1.out.2.keepX oW), (Since.refl _ _ _).step ((H1.out.1.weak (T := [g, gf, gw, gr]) (by simp)).trans (oW.weak (T := [g, gf, gw, gr]) (by simp)) (by simp)), ⟨rfl, rfl, rfl, rfl, rfl, rfl, rfl, rfl, rfl⟩, by simpa using hH.2.2.2.1, .inl ⟨rfl, _, .one hH.2.2.2.2.1 HN.out HF.out.1, by simp, H1.out.2.mdg hM2 oW, .of (by show s.p + n = _; rw [hH.2.2.1]; omega) (by show (6 : Nat) ≠ 1; decide), rfl, rfl⟩⟩

set_option maxRecDepth 100000 in
set_option maxHeartbeats 2000000 in
theorem meant_any (g : Nat) (f : DF) (s : GSt) (w : World) (hd : Dc w g f) (hh : Hd w f.hd s) (hk : s.k = 6) (hs : s.sym ≤ 18) (hne : s.sym = 16 → s.lens ≠ []) (hlen : s.lens.length ≤ 316) :
    Calls Tryd.prog 79 #[.pointer (some ⟨g, 11, none⟩)] w fun e w' => e = .returned (.int .u8 ((repV s.sym s.lens).toNat : Int)) ∧ ∃ m, w' = w.drewN m := by
  have c35 : w.cell? ⟨g, 35, none⟩ = some (.int .i64 (s.sym : Int)) := by rw [hd.hd (by decide) (by decide), hh.sym hk]
  by_cases h16 : s.sym = 16
  · have hpos : 0 < s.lens.length := List.length_pos_iff.2 (hne h16)
    obtain ⟨m, hm⟩ : ∃ m, s.lens.length = m + 1 := ⟨s.lens.length - 1, by omega⟩
    have c352 : w.cell? ⟨g, 352, none⟩ = some (.int .i64 ((m + 1 : Nat) : Int)) := by rw [hd.hd (by decide) (by decide), hh.n, hm]
    have hlast : repV s.sym s.lens = s.lens[m]'(by omega) := by
      unfold repV
      rw [if_neg (by omega), if_pos h16]
      have : s.lens.getLast (List.ne_nil_of_length_pos hpos) = s.lens[m]'(by omega) := by rw [List.getLast_eq_getElem]; congr 1; omega
      rw [← this, List.getLastD_eq_getLast?, List.getLast?_eq_some_getLast (List.ne_nil_of_length_pos hpos)]
      rfl
    have cl : w.cell? ⟨g, 36 + m, none⟩ = some (.int .u8 ((s.lens[m]'(by omega)).toNat : Int)) := by rw [hd.hd (by omega) (by omega), hh.lens m (by omega)]
    rw [hlast]
    generalize s.lens[m]'(by omega) = b at *
    rw [h16] at c35
    have e1 : ((m + 1 : Nat) : Int) - 1 = (m : Int) := by omega
    have hm316 : m < 316 := by omega
    obtain ⟨m1, hm1⟩ : ∃ m1, m1 = m + 1 := ⟨_, rfl⟩
    rw [← hm1] at c352 e1
    have hm1b : m1 ≤ 316 := by omega
    clear hd hh hk hs hne hlen hpos hlast h16 hm hm1
    go_enter Tryd.func79, Tryd.ntmps79
    go_wp2_with fail
    go_region
    all_goals
      go_wp2_with fail
      go_ret
      exact ⟨rfl, _, rfl⟩
  · by_cases h17 : s.sym = 17 ∨ s.sym = 18
    · have e0 : repV s.sym s.lens = 0 := by unfold repV; rw [if_neg (by omega), if_neg h16]
      rw [e0]
      rcases h17 with h | h <;>
      · rw [h] at c35
        clear hd hh hk hs hne hlen h16 e0 h
        go_enter Tryd.func79, Tryd.ntmps79
        go_wp2_with fail
        go_ret
        exact ⟨rfl, 0, rfl⟩
    · have hlt : s.sym < 16 := by omega
      have e0 : (repV s.sym s.lens).toNat = s.sym := by unfold repV; rw [if_pos hlt, UInt8.toNat_ofNat']; omega
      rw [e0]
      generalize s.sym = y at *
      have n1 : ¬ (y : Int) = 16 := by omega
      have n2 : ¬ (y : Int) = 17 := by omega
      have n3 : ¬ (y : Int) = 18 := by omega
      have hy : (y : Int) < 256 := by omega
      clear hd hh hk hs hne hlen h16 h17 e0
      go_enter Tryd.func79, Tryd.ntmps79
      go_wp2_with fail
      go_ret
      exact ⟨rfl, 0, rfl⟩
end Go.Proofs.YtopjkmobnmaaaaaDoor
