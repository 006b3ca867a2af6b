/-
  Package inflate, all streams: what a dynamic block says of its lengths. | Package inflate, all streams: lengths are laid.
-/
import Derived.Test.YtlknhiihdejpeaaGreatDoorMFlG
import Derived.Deep.QuietTactic
namespace Go.Proofs.YtlknhiihdejpeaaGreatDoor
open Go Go.RowKit

theorem okOwn {s : GSt} (h : s.Wf) (h5 : 5 ≤ s.k) (h6 : s.k ≤ 6) : OkT s.own := by
  have hh := h.head (by omega) (by omega)
  have hs := h.said h5 h6
  exact ⟨by rw [hh.2.2.2.2.2.2.1]; decide, far_of (fun b hb => by have := hh.2.2.2.2.2.2.2 b hb; omega), hs.1⟩

def SayP (f f' : DF) (t : GSt) : Prop := f'.k = f.k ∧ t.k = 6
def SayQ (f f' : DF) (t : GSt) : Prop := f'.k = f.k ∧ t.k = 5

theorem Hd.set_sym {w : World} {hd : Nat → Value} {s : GSt} {X p : Nat} (h : Hd w hd s) (h19 : s.own.length = 19) :
    Hd w (fun j => if j = 35 then .int .i64 (X : Int) else hd j) { s with k := 6, sym := X, p := p } ∨ s.k < 5 := by
  by_cases hk : s.k < 5
  · exact .inr hk
  refine .inl ⟨h.nl, h.nd, h.no, fun i hi => ?_, h.nOwn, fun _ => h.tb (by omega), fun _ => rfl, fun i hi => ?_, h.n⟩
  · have hi2 : i < s.own.length := hi
    show (if 14 + i = 35 then _ else hd (14 + i)) = _
    rw [if_neg (by omega)]; exact h.own i hi
  · show (if 36 + i = 35 then _ else hd (36 + i)) = _
    rw [if_neg (by omega)]; exact h.lens i hi

set_option maxRecDepth 100000 in
set_option maxHeartbeats 8000000 in
theorem say_any (B : List UInt8) (a o : Nat) (l : List UInt8) (hs : Src B a o l) (g gf gw gr : Nat) (K : List Nat) (f : DF) (v vo : Value) (q : Nat) (x : List UInt8) (s : GSt) (w : World) (h : Rn w g gf gw gr K f v vo l q s.out x) (hk : s.k = 5)
    (hm : Md w f s) (hwf : s.Wf) (hp : s.p = 8 * o + q) (hl : s.out.length ≤ f.most) :
    Calls Tryz.prog 101 #[.pointer (some ⟨g, 11, none⟩), .pointer (some ⟨gr, 0, none⟩)] w (fun e w' => ∃ c : Nat, e = .returned (.int .i64 (c : Int)) ∧ Went B a o l g gf gw gr K f v vo x s (SayP f) (SayQ f) w c w') := by
  have hHd := hm.hd (by omega) (by omega)
  have h19 := (hwf.head (by omega) (by omega)).2.2.2.2.2.2.1
  obtain ⟨gt, h34, hT⟩ := hHd.tb (by omega)
  have c34 : w.cell? ⟨g, 34, none⟩ = some (.pointer (some ⟨gt, 0, none⟩)) := by rw [h.on.dec.hd (by decide) (by decide), h34]
  obtain ⟨X, c, n, hRead, hcase⟩ := read_gen hs gt gr v s.own q w hT h.rd (okOwn hwf (by omega) (by omega))
  rw [← hp] at hcase
  have hnx := GSt.nx_5 (L0 := fixedL) (D0 := fixedD2) (N := num B) (most := f.most) hk
  have h11 : s.k ≠ 11 := by omega
  have HH := hide (And.intro h (And.intro hm (And.intro hp (And.intro hl (And.intro h11 (And.intro hk (And.intro hnx (And.intro hHd h19))))))))
  have HC := hide hRead
  clear hs h hm hp hl hk hwf hnx hRead hHd h19 h34 hT h11
  rcases hcase with ⟨rfl, rfl, hfar⟩ | ⟨rfl, rfl, hnear, herr⟩ | ⟨rfl, hn, hnear, hqn, hh⟩
  · have HF := hide hfar
    clear hfar
    go_enter Tryz.func101, Tryz.ntmps101
    go_wp2_with fail
    refine (HC.out).mono ?_
    rintro e w1 ⟨rfl, ho1, hr1⟩
    have H1 := hide (And.intro ho1 hr1)
    clear ho1 hr1
    go_wp2_with fail
    go_ret
    have hH := HH.out
    exact ⟨2, rfl, q, [], vo, f, by simpa using hH.1.read H1.out.1 H1.out.2, (Since.refl _ _ _).step (H1.out.1.weak (by simp)), Same.refl f, by simpa using hH.2.2.2.1, .inr (.inl ⟨rfl, s, .short s hH.2.2.2.2.1 (by rw [hH.2.2.2.2.2.2.1]; exact HF.out), by simp, hH.1.mdr hH.2.1 H1.out.1, .of hH.2.2.1 (by have := hH.2.2.2.2.2.1; omega), rfl, hH.2.2.2.2.2.1⟩)⟩
  · have HF := hide (And.intro hnear herr)
    clear hnear herr
    go_enter Tryz.func101, Tryz.ntmps101
    go_wp2_with fail
    refine (HC.out).mono ?_
    rintro e w1 ⟨rfl, ho1, hr1⟩
    have H1 := hide (And.intro ho1 hr1)
    clear ho1 hr1
    go_wp2_with fail
    go_ret
    have hH := HH.out
    have hnx := hH.2.2.2.2.2.2.1
    rw [if_pos (.inl HF.out.2)] at hnx
    exact ⟨3, rfl, q, [], vo, f, by simpa using hH.1.read H1.out.1 H1.out.2, (Since.refl _ _ _).step (H1.out.1.weak (by simp)), Same.refl f, by simpa using hH.2.2.2.1, .inr (.inr ⟨.inl rfl, fun h => h, s, (Steps.refl s).bad hH.2.2.2.2.1 hnx HF.out.1⟩)⟩
  · have hnx := HH.out.2.2.2.2.2.2.1
    rw [hh] at hnx
    dsimp only at hnx
    obtain ⟨m, hml⟩ : ∃ m, m = s.lens.length := ⟨_, rfl⟩
    have HF := hide (And.intro hnear (And.intro hqn (And.intro hn hml)))
    by_cases hbad : X = 16 ∧ m = 0
    · obtain ⟨rfl, rfl⟩ := hbad
      rw [if_pos (.inr ⟨rfl, List.eq_nil_of_length_eq_zero hml.symm⟩)] at hnx
      have HN := hide hnx
      clear hnx hh hnear hqn hn hml
      go_enter Tryz.func101, Tryz.ntmps101
      go_wp2_with fail
      refine (HC.out).mono ?_
      rintro e w1 ⟨rfl, ho1, hr1⟩
      have h1 := HH.out.1.read ho1 hr1
      have c352 : w1.cell? ⟨g, 352, none⟩ = some (.int .i64 0) := by rw [h1.on.dec.hd (by decide) (by decide), HH.out.2.2.2.2.2.2.2.1.n, ← HF.out.2.2.2]; rfl
      have H1 := hide (And.intro ho1 h1)
      clear ho1 hr1 h1
      go_wp2_with fail
      go_ret
      have hH := HH.out
      exact ⟨3, rfl, q + n, [], vo, f, by simpa using H1.out.2, (Since.refl _ _ _).step (H1.out.1.weak (by simp)), Same.refl f, by simpa using hH.2.2.2.1, .inr (.inr ⟨.inl rfl, fun h => h, s, (Steps.refl s).bad hH.2.2.2.2.1 HN.out HF.out.1⟩)⟩
    · rw [if_neg (by
        rintro (h | ⟨h1, h2⟩)
        · exact h rfl
        · exact hbad ⟨h1, by rw [hml, h2]; rfl⟩)] at hnx
      have HN := hide hnx
      clear hnx hh hnear hqn hn hml
      rcases Decidable.em (X = 16) with rfl | hX
      · have hb2 : ¬ (m : Int) = 0 := by omega
        clear hbad
        go_enter Tryz.func101, Tryz.ntmps101
        go_wp2_with fail
        refine (HC.out).mono ?_
        rintro e w1 ⟨rfl, ho1, hr1⟩
        have h1 := HH.out.1.read ho1 hr1
        have c352 : w1.cell? ⟨g, 352, none⟩ = some (.int .i64 (m : Int)) := by rw [h1.on.dec.hd (by decide) (by decide), HH.out.2.2.2.2.2.2.2.1.n, ← HF.out.2.2.2]
        have c35 : w1.cell? ⟨g, 35, none⟩ = some (f.hd 35) := h1.on.dec.hd (by decide) (by decide)
        have f35 : w1.frozen? ⟨g, 35, none⟩ = false := Has.free h1.on.dec 35
        generalize f.hd 35 = u at c35
        have H1 := hide (And.intro ho1 h1)
        clear ho1 hr1 h1
        go_wp2_with fail
        all_goals
          go_ret
          have hH := HH.out
          have oW : Only [g] w1 (w1.setCell ⟨g, 35, none⟩ (.int .i64 ((16 : Nat) : Int))) := (Only.refl [g] _).setCell (by simp) _
          have d2 : Dc (w1.setCell ⟨g, 35, none⟩ (.int .i64 ((16 : Nat) : Int))) g { f with hd := fun j => if j = 35 then .int .i64 ((16 : Nat) : Int) else f.hd j } := Dc.set_hd H1.out.2.on.dec (by decide) (by decide) _
          have hM1 := hH.1.mdr hH.2.1 H1.out.1
          have hHd := ((hM1.hd (by omega) (by omega)).set_sym (X := 16) (p := s.p + n) hH.2.2.2.2.2.2.2.2).resolve_right (by omega)
          have hM2 : Md w1 { f with hd := fun j => if j = 35 then .int .i64 ((16 : Nat) : Int) else f.hd j } { s with k := 6, sym := 16, p := s.p + n } :=
            ⟨hM1.last, fun h => absurd (show (6 : Nat) = 2 from h) (by decide), fun h => absurd (show (7 : Nat) ≤ 6 from h) (by decide), fun h => absurd (show (6 : Nat) = 8 ∨ (6 : Nat) = 10 from h) (by decide), fun h => absurd (show (9 : Nat) ≤ 6 from h) (by decide), fun _ _ => hHd, hM1.tab⟩
          first
            | (exfalso; omega)
            | exact ⟨0, rfl, q + n, [], vo, { f with hd := fun j => if j = 35 then .int .i64 ((16 : Nat) : Int) else f.hd j }, by simpa using H1.out.2.cells oW d2 rfl rfl (H1.out.2.keepX oW), (Since.refl _ _ _).step ((H1.out.1.weak (T := [g, gf, gw, gr]) (by simp)).trans (oW.weak (T := [g, gf, gw, gr]) (by simp)) (by simp)), ⟨rfl, rfl, rfl, rfl, rfl, rfl, rfl, rfl, rfl⟩, by simpa using hH.2.2.2.1, .inl ⟨rfl, _, .one hH.2.2.2.2.1 HN.out HF.out.1, by simp, H1.out.2.mdg hM2 oW, .of (by show s.p + n = _; rw [hH.2.2.1]; omega) (by show (6 : Nat) ≠ 1; decide), rfl, rfl⟩⟩
      · have hb2 : ¬ (X : Int) = 16 := by omega
        clear hbad hX
        go_enter Tryz.func101, Tryz.ntmps101
        go_wp2_with fail
        refine (HC.out).mono ?_
        rintro e w1 ⟨rfl, ho1, hr1⟩
        have h1 := HH.out.1.read ho1 hr1
        have c352 : w1.cell? ⟨g, 352, none⟩ = some (.int .i64 (m : Int)) := by rw [h1.on.dec.hd (by decide) (by decide), HH.out.2.2.2.2.2.2.2.1.n, ← HF.out.2.2.2]
        have c35 : w1.cell? ⟨g, 35, none⟩ = some (f.hd 35) := h1.on.dec.hd (by decide) (by decide)
        have f35 : w1.frozen? ⟨g, 35, none⟩ = false := Has.free h1.on.dec 35
        generalize f.hd 35 = u at c35
        have H1 := hide (And.intro ho1 h1)
        clear ho1 hr1 h1
        go_wp2_with fail
        all_goals
          go_ret
          have hH := HH.out
          have oW : Only [g] w1 (w1.setCell ⟨g, 35, none⟩ (.int .i64 (X : Int))) := (Only.refl [g] _).setCell (by simp) _
          have d2 : Dc (w1.setCell ⟨g, 35, none⟩ (.int .i64 (X : Int))) g { f with hd := fun j => if j = 35 then .int .i64 (X : Int) else f.hd j } := Dc.set_hd H1.out.2.on.dec (by decide) (by decide) _
          have hM1 := hH.1.mdr hH.2.1 H1.out.1
          have hHd := ((hM1.hd (by omega) (by omega)).set_sym (X := X) (p := s.p + n) hH.2.2.2.2.2.2.2.2).resolve_right (by omega)
          have hM2 : Md w1 { f with hd := fun j => if j = 35 then .int .i64 (X : Int) else f.hd j } { s with k := 6, sym := X, p := s.p + n } :=
            ⟨hM1.last, fun h => absurd (show (6 : Nat) = 2 from h) (by decide), fun h => absurd (show (7 : Nat) ≤ 6 from h) (by decide), fun h => absurd (show (6 : Nat) = 8 ∨ (6 : Nat) = 10 from h) (by decide), fun h => absurd (show (9 : Nat) ≤ 6 from h) (by decide), fun _ _ => hHd, hM1.tab⟩
          first
            | (exfalso; omega)
            | exact ⟨0, rfl, q + n, [], vo, { f with hd := fun j => if j = 35 then .int .i64 (X : Int) else f.hd j }, by simpa using H1.out.2.cells oW d2 rfl rfl (H1.out.2.keepX oW), (Since.refl _ _ _).step ((H1.out.1.weak (T := [g, gf, gw, gr]) (by simp)).trans (oW.weak (T := [g, gf, gw, gr]) (by simp)) (by simp)), ⟨rfl, rfl, rfl, rfl, rfl, rfl, rfl, rfl, rfl⟩, by simpa using hH.2.2.2.1, .inl ⟨rfl, _, .one hH.2.2.2.2.1 HN.out HF.out.1, by simp, H1.out.2.mdg hM2 oW, .of (by show s.p + n = _; rw [hH.2.2.1]; omega) (by show (6 : Nat) ≠ 1; decide), rfl, rfl⟩⟩

set_option maxRecDepth 100000 in
set_option maxHeartbeats 2000000 in
theorem meant_any (g : Nat) (f : DF) (s : GSt) (w : World) (hd : Dc w g f) (hh : Hd w f.hd s) (hk : s.k = 6) (hs : s.sym ≤ 18) (hne : s.sym = 16 → s.lens ≠ []) (hlen : s.lens.length ≤ 316) :
    Calls Tryz.prog 110 #[.pointer (some ⟨g, 11, none⟩)] w fun e w' => e = .returned (.int .u8 ((repV s.sym s.lens).toNat : Int)) ∧ ∃ m, w' = w.drewN m := by
  have c35 : w.cell? ⟨g, 35, none⟩ = some (.int .i64 (s.sym : Int)) := by rw [hd.hd (by decide) (by decide), hh.sym hk]
  by_cases h16 : s.sym = 16
  · have hpos : 0 < s.lens.length := List.length_pos_iff.2 (hne h16)
    obtain ⟨m, hm⟩ : ∃ m, s.lens.length = m + 1 := ⟨s.lens.length - 1, by omega⟩
    have c352 : w.cell? ⟨g, 352, none⟩ = some (.int .i64 ((m + 1 : Nat) : Int)) := by rw [hd.hd (by decide) (by decide), hh.n, hm]
    have hlast : repV s.sym s.lens = s.lens[m]'(by omega) := by
      unfold repV
      rw [if_neg (by omega), if_pos h16]
      have : s.lens.getLast (List.ne_nil_of_length_pos hpos) = s.lens[m]'(by omega) := by rw [List.getLast_eq_getElem]; congr 1; omega
      rw [← this, List.getLastD_eq_getLast?, List.getLast?_eq_some_getLast (List.ne_nil_of_length_pos hpos)]
      rfl
    have cl : w.cell? ⟨g, 36 + m, none⟩ = some (.int .u8 ((s.lens[m]'(by omega)).toNat : Int)) := by rw [hd.hd (by omega) (by omega), hh.lens m (by omega)]
    rw [hlast]
    generalize s.lens[m]'(by omega) = b at *
    rw [h16] at c35
    have e1 : ((m + 1 : Nat) : Int) - 1 = (m : Int) := by omega
    have hm316 : m < 316 := by omega
    obtain ⟨m1, hm1⟩ : ∃ m1, m1 = m + 1 := ⟨_, rfl⟩
    rw [← hm1] at c352 e1
    have hm1b : m1 ≤ 316 := by omega
    clear hd hh hk hs hne hlen hpos hlast h16 hm hm1
    go_enter Tryz.func110, Tryz.ntmps110
    go_wp2_with fail
    go_region
    all_goals
      go_wp2_with fail
      go_ret
      exact ⟨rfl, _, rfl⟩
  · by_cases h17 : s.sym = 17 ∨ s.sym = 18
    · have e0 : repV s.sym s.lens = 0 := by unfold repV; rw [if_neg (by omega), if_neg h16]
      rw [e0]
      rcases h17 with h | h <;>
      · rw [h] at c35
        clear hd hh hk hs hne hlen h16 e0 h
        go_enter Tryz.func110, Tryz.ntmps110
        go_wp2_with fail
        go_ret
        exact ⟨rfl, 0, rfl⟩
    · have hlt : s.sym < 16 := by omega
      have e0 : (repV s.sym s.lens).toNat = s.sym := by unfold repV; rw [if_pos hlt, UInt8.toNat_ofNat']; omega
      rw [e0]
      generalize s.sym = y at *
      have n1 : ¬ (y : Int) = 16 := by omega
      have n2 : ¬ (y : Int) = 17 := by omega
      have n3 : ¬ (y : Int) = 18 := by omega
      have hy : (y : Int) < 256 := by omega
      clear hd hh hk hs hne hlen h16 h17 e0
      go_enter Tryz.func110, Tryz.ntmps110
      go_wp2_with fail
      go_ret
      exact ⟨rfl, 0, rfl⟩
end Go.Proofs.YtlknhiihdejpeaaGreatDoor


namespace Go.Proofs.YtlknhiihdejpeaaGreatDoor
open Go Go.RowKit

/-- The number in a cell. -/
def numOf (w : World) (g i : Nat) : Nat := match w.cell? ⟨g, i, none⟩ with
  | some (.int _ k) => k.toNat
  | _ => 0
theorem numOf_eq {w : World} {g i n : Nat} (h : w.cell? ⟨g, i, none⟩ = some (.int .i64 (n : Int))) : numOf w g i = n := by
  unfold numOf
  rw [h]
  rfl

/-- All lengths that came by now. -/
def lensS (s : GSt) (L : List UInt8) (p : Nat) : GSt := { s with lens := L, p := p }
theorem Hd.set_len {w : World} {hd : Nat → Value} {s : GSt} {L : List UInt8} {b : UInt8} {p p' n : Nat} (h : Hd w hd (lensS s L p)) (hn : n = L.length) (h19 : s.own.length = 19) (hl : n < 316) :
    Hd w (fun j => if j = 352 then .int .i64 ((n + 1 : Nat) : Int) else if j = 36 + n then .int .u8 (b.toNat : Int) else hd j) (lensS s (L ++ [b]) p') := by
  have key : ∀ j, j < 36 → (fun j => if j = 352 then Value.int .i64 ((n + 1 : Nat) : Int) else if j = 36 + n then .int .u8 (b.toNat : Int) else hd j) j = hd j := fun j hj => by
    show (if j = 352 then _ else if j = 36 + n then _ else hd j) = _
    rw [if_neg (by omega), if_neg (by omega)]
  refine ⟨(key 11 (by decide)).trans h.nl, (key 12 (by decide)).trans h.nd, (key 13 (by decide)).trans h.no, fun i hi => ?_, (key 33 (by decide)).trans h.nOwn, fun h5 => ?_, fun h6 => (key 35 (by decide)).trans (h.sym h6), fun i hi => ?_, ?_⟩
  · have hi2 : i < s.own.length := hi
    exact (key (14 + i) (by omega)).trans (h.own i hi)
  · obtain ⟨gt, h1, h2⟩ := h.tb h5
    exact ⟨gt, (key 34 (by decide)).trans h1, h2⟩
  · have hi3 : i < (L ++ [b]).length := hi
    have hi2 := hi3
    rw [List.length_append, List.length_singleton] at hi2
    show (if 36 + i = 352 then _ else if 36 + i = 36 + n then _ else hd (36 + i)) = .int .u8 (((L ++ [b])[i]'hi3).toNat : Int)
    rw [if_neg (by omega)]
    by_cases hin : i = n
    · rw [if_pos (by omega)]
      have : (L ++ [b])[i]'hi3 = b := by
        have e : (L ++ [b])[i]? = some b := by rw [hin, hn, List.getElem?_append_right (Nat.le_refl _)]; simp
        rw [List.getElem?_eq_getElem hi3] at e
        exact Option.some.inj e
      rw [this]
    · rw [if_neg (by omega)]
      have hiL : i < L.length := by omega
      have : (L ++ [b])[i]'hi3 = L[i] := List.getElem_append_left hiL
      rw [this]
      exact h.lens i hiL
  · show (if 352 = 352 then _ else _) = _
    rw [if_pos rfl, show (lensS s (L ++ [b]) p').lens.length = n + 1 by show (L ++ [b]).length = _; rw [List.length_append, hn]; rfl]

theorem repL (s : GSt) (p v : Nat) : s.lens ++ List.replicate (repM s.sym + v) (repV s.sym s.lens) = (lensS s (s.lens ++ List.replicate (repM s.sym + v) (repV s.sym s.lens)) p).lens := rfl

def RepQ (f f' : DF) (t : GSt) : Prop := f'.k = f.k ∧ t.k = 6
/-- What comes of a repeat. -/
def Repd (B : List UInt8) (a o : Nat) (l : List UInt8) (g gf gw gr : Nat) (K : List Nat) (f : DF) (v vo : Value) (q : Nat) (x : List UInt8) (s : GSt) (w : World) (c : Nat) (w' : World) : Prop :=
  (c = 0 ∧ ∃ (f' : DF) (L : List UInt8), L = s.lens ++ List.replicate (repM s.sym + num B / 2 ^ s.p % 2 ^ repB s.sym) (repV s.sym s.lens) ∧ Rn w' g gf gw gr K f' v vo l (q + repB s.sym) s.out x ∧ Only [g, gr] w w' ∧ Same f f' ∧ f'.k = f.k ∧
      8 * o + q + repB s.sym ≤ 8 * a ∧ L.length ≤ s.nl + s.nd ∧ Md w' f' (lensS s L (8 * o + q + repB s.sym))) ∨
    (c ≠ 0 ∧ Went B a o l g gf gw gr K f v vo x s (fun _ _ => False) (RepQ f) w c w')

set_option maxRecDepth 100000 in
set_option maxHeartbeats 16000000 in
theorem repeatH_any (B : List UInt8) (a o : Nat) (l : List UInt8) (hs : Src B a o l) (g gf gw gr : Nat) (K : List Nat) (f : DF) (v vo : Value) (q : Nat) (x : List UInt8) (s : GSt) (w : World) (h : Rn w g gf gw gr K f v vo l q s.out x) (hk : s.k = 6)
    (hm : Md w f s) (hwf : s.Wf) (hp : s.p = 8 * o + q) (hl : s.out.length ≤ f.most) :
    Calls Tryz.prog 102 #[.pointer (some ⟨g, 11, none⟩), .pointer (some ⟨gr, 0, none⟩)] w (fun e w' => ∃ c : Nat, e = .returned (.int .i64 (c : Int)) ∧ Repd B a o l g gf gw gr K f v vo q x s w c w') := by
  have hHd := hm.hd (by omega) (by omega)
  have hhead := hwf.head (by omega) (by omega)
  have hsaid := hwf.said (by omega) (by omega)
  have hsy := hwf.sym6 hk
  have hnx := GSt.nx_6 (L0 := fixedL) (D0 := fixedD2) (N := num B) (most := f.most) hk
  have h11 : s.k ≠ 11 := by omega
  have c35 : w.cell? ⟨g, 35, none⟩ = some (.int .i64 (s.sym : Int)) := by rw [h.on.dec.hd (by decide) (by decide), hHd.sym hk]
  have hB := bits_gen hs gr v q (repB s.sym) (by unfold repB; split <;> (try split) <;> (try split) <;> omega) w h.rd
  obtain ⟨y, hy⟩ : ∃ y, y = s.sym := ⟨_, rfl⟩
  rw [← hy] at c35
  obtain ⟨nb, hnb⟩ : ∃ nb, nb = repB s.sym := ⟨_, rfl⟩
  obtain ⟨le, hle⟩ : ∃ le, le = repM s.sym := ⟨_, rfl⟩
  obtain ⟨nbI, hnbI⟩ : ∃ z : Int, z = (nb : Int) := ⟨_, rfl⟩
  obtain ⟨leI, hleI⟩ : ∃ z : Int, z = (le : Int) := ⟨_, rfl⟩
  rw [← hnb, ← hp] at hB
  rw [← hnb, ← hle] at hnx
  rw [← hnbI] at hB
  have hcase : (y = 16 ∧ nbI = 2 ∧ leI = 3) ∨ (y = 17 ∧ nbI = 3 ∧ leI = 3) ∨ (y = 18 ∧ nbI = 7 ∧ leI = 11) ∨ (y < 16 ∧ nbI = 0 ∧ leI = 1) := by
    rw [hnbI, hleI, hnb, hle, hy]
    have h18 := hsy.1
    unfold repB repM
    by_cases h1 : s.sym = 16
    · rw [h1]; exact .inl ⟨rfl, rfl, rfl⟩
    by_cases h2 : s.sym = 17
    · rw [h2]; exact .inr (.inl ⟨rfl, rfl, rfl⟩)
    by_cases h3 : s.sym = 18
    · rw [h3]; exact .inr (.inr (.inl ⟨rfl, rfl, rfl⟩))
    · refine .inr (.inr (.inr ⟨by omega, ?_, ?_⟩))
      · rw [if_neg h1, if_neg h2, if_neg h3]; rfl
      · rw [if_neg (by omega), if_neg h3]; rfl
  have hle11 : le ≤ 11 ∧ nb ≤ 7 := by omega
  obtain ⟨z, hz⟩ : ∃ z, z = num B / 2 ^ s.p % 2 ^ nb := ⟨_, rfl⟩
  have hz2 : z < 128 := by
    have h1 : z < 2 ^ nb := by rw [hz]; exact Nat.mod_lt _ (Nat.two_pow_pos _)
    have h2 : 2 ^ nb ≤ 2 ^ 7 := Nat.pow_le_pow_right (by decide) hle11.2
    omega
  obtain ⟨n0, hn0⟩ : ∃ n0, n0 = s.lens.length := ⟨_, rfl⟩
  obtain ⟨n1, hn1⟩ : ∃ n1, n1 = n0 + le := ⟨_, rfl⟩
  obtain ⟨pa, hpa⟩ : ∃ pa, pa = n1 + z := ⟨_, rfl⟩
  obtain ⟨sm, hsm⟩ : ∃ sm, sm = s.nl + s.nd := ⟨_, rfl⟩
  have e1 : (n0 : Int) + leI = (n1 : Int) := by omega
  have e2 : (n1 : Int) + (z : Int) = (pa : Int) := by omega
  have e3 : (s.nl : Int) + (s.nd : Int) = (sm : Int) := by omega
  have b1 : n0 < 316 ∧ n1 < 400 ∧ pa < 600 ∧ sm ≤ 316 := by omega
  have b2 : s.nl ≤ 286 ∧ s.nd ≤ 30 := by omega
  rw [← hz] at hB hnx
  have HH := hide (And.intro h (And.intro hm (And.intro hp (And.intro hl (And.intro h11 (And.intro hk (And.intro hHd (And.intro hhead (And.intro hsaid hsy)))))))))
  have HN := hide (And.intro hnb (And.intro hle (And.intro hz (And.intro hn0 (And.intro hn1 (And.intro hpa (And.intro hsm hnx)))))))
  clear hs h hm hp hl hk hwf hnx hHd hhead hsaid hsy h11 hnb hle hz hn0 hn1 hpa hsm hnbI hleI hy
  rcases hB with ⟨hfar, hB⟩ | ⟨hnear, hB⟩
  · have HB := hide (And.intro hB hfar)
    clear hB hfar e1 e2 e3 b1 b2 hz2 hle11
    have hfin : ∀ w1, Only [gr] w w1 → Rd w1 gr v l q → Repd B a o l g gf gw gr K f v vo q x s w 2 w1 := fun w1 ho1 hr1 => by
      have hH := HH.out
      exact .inr ⟨by decide, q, [], vo, f, by simpa using hH.1.read ho1 hr1, (Since.refl _ _ _).step (ho1.weak (by simp)), Same.refl f, by simpa using hH.2.2.2.1, .inr (.inl ⟨rfl, s, .short s hH.2.2.2.2.1 (by rw [HN.out.2.2.2.2.2.2.2]; exact HB.out.2), by simp, hH.1.mdr hH.2.1 ho1, .of hH.2.2.1 (by have := hH.2.2.2.2.2.1; omega), rfl, hH.2.2.2.2.2.1⟩)⟩
    have HFin := hide hfin
    clear hfin
    rcases hcase with ⟨rfl, rfl, rfl⟩ | ⟨rfl, rfl, rfl⟩ | ⟨rfl, rfl, rfl⟩ | ⟨hlt, rfl, rfl⟩
    all_goals
      go_enter Tryz.func102, Tryz.ntmps102
      go_wp2_with fail
      refine (HB.out.1).mono ?_
      rintro e w1 ⟨rfl, ho1, hr1⟩
      have H1 := hide (And.intro ho1 hr1)
      clear ho1 hr1
      go_wp2_with fail
      go_ret
      exact ⟨2, rfl, HFin.out w1 H1.out.1 H1.out.2⟩
  · have HB := hide (And.intro hB hnear)
    clear hB hnear
    by_cases hlong : sm < pa
    · have hfin : ∀ w1, Only [gr] w w1 → Rd w1 gr v l (q + nb) → Repd B a o l g gf gw gr K f v vo q x s w 3 w1 := fun w1 ho1 hr1 => by
        have hH := HH.out
        have hnx := HN.out.2.2.2.2.2.2.2
        have hN := HN.out
        rw [if_pos (by rw [List.length_append, List.length_replicate]; omega)] at hnx
        exact .inr ⟨by decide, q + nb, [], vo, f, by simpa using hH.1.read ho1 hr1, (Since.refl _ _ _).step (ho1.weak (by simp)), Same.refl f, by simpa using hH.2.2.2.1, .inr (.inr ⟨.inl rfl, fun h => h, s, (Steps.refl s).bad hH.2.2.2.2.1 hnx HB.out.2⟩)⟩
      have HFin := hide hfin
      have hli : (sm : Int) < (pa : Int) := by omega
      clear hfin hlong
      rcases hcase with ⟨rfl, rfl, rfl⟩ | ⟨rfl, rfl, rfl⟩ | ⟨rfl, rfl, rfl⟩ | ⟨hlt, rfl, rfl⟩
      all_goals
        go_enter Tryz.func102, Tryz.ntmps102
        go_wp2_with fail
        refine (HB.out.1).mono ?_
        rintro e w1 ⟨rfl, ho1, hr1⟩
        have h1 := HH.out.1.read ho1 hr1
        have c11 : w1.cell? ⟨g, 11, none⟩ = some (.int .i64 (s.nl : Int)) := by rw [h1.on.dec.hd (by decide) (by decide), HH.out.2.2.2.2.2.2.1.nl]
        have c12 : w1.cell? ⟨g, 12, none⟩ = some (.int .i64 (s.nd : Int)) := by rw [h1.on.dec.hd (by decide) (by decide), HH.out.2.2.2.2.2.2.1.nd]
        have c352 : w1.cell? ⟨g, 352, none⟩ = some (.int .i64 (n0 : Int)) := by rw [h1.on.dec.hd (by decide) (by decide), HH.out.2.2.2.2.2.2.1.n, ← HN.out.2.2.2.1]
        have H1 := hide (And.intro ho1 hr1)
        clear ho1 hr1 h1
        go_wp2_with fail
        go_region
        all_goals
          go_wp2_with fail
          go_ret
          exact ⟨3, rfl, HFin.out _ (H1.out.1.drew) (H1.out.2.drewN 1)⟩
    · have hli : ¬ (sm : Int) < (pa : Int) := by omega
      have HL := hide hlong
      clear hlong
      rcases hcase with ⟨rfl, rfl, rfl⟩ | ⟨rfl, rfl, rfl⟩ | ⟨rfl, rfl, rfl⟩ | ⟨hlt, rfl, rfl⟩
      all_goals
        go_enter Tryz.func102, Tryz.ntmps102
        go_wp2_with fail
        refine (HB.out.1).mono ?_
        rintro e w1 ⟨rfl, ho1, hr1⟩
        have h1 := HH.out.1.read ho1 hr1
        have c11 : w1.cell? ⟨g, 11, none⟩ = some (.int .i64 (s.nl : Int)) := by rw [h1.on.dec.hd (by decide) (by decide), HH.out.2.2.2.2.2.2.1.nl]
        have c12 : w1.cell? ⟨g, 12, none⟩ = some (.int .i64 (s.nd : Int)) := by rw [h1.on.dec.hd (by decide) (by decide), HH.out.2.2.2.2.2.2.1.nd]
        have c352 : w1.cell? ⟨g, 352, none⟩ = some (.int .i64 (n0 : Int)) := by rw [h1.on.dec.hd (by decide) (by decide), HH.out.2.2.2.2.2.2.1.n, ← HN.out.2.2.2.1]
        have hM1 := HH.out.1.mdr HH.out.2.1 ho1
        have hH := HH.out
        have hMe := meant_any g f s w1.drew (Has.only h1.on.dec (Only.refl [] w1).drew (by simp)) ((hM1.hd (by omega) (by omega)).keep (S := []) (Only.refl [] w1).drew (Other.nil _)) hH.2.2.2.2.2.1 hH.2.2.2.2.2.2.2.2.2.1 hH.2.2.2.2.2.2.2.2.2.2 (by have := HN.out.2.2.2.1; omega)
        have H1 := hide (And.intro ho1 (And.intro h1 (And.intro hM1 hMe)))
        clear ho1 hr1 h1 hM1 hMe hH
        go_wp2_with fail
        go_region
        all_goals
          go_wp2_with fail
          refine (H1.out.2.2.2).mono ?_
          rintro e w2 ⟨rfl, mm, rfl⟩
          clear c11 c12 c352 e1 e2 e3
          go_wp2_with fail
          go_loopw [51] (fun _ wr => ∃ (j : Nat) (f' : DF), n0 + j ≤ pa ∧ Rn wr g gf gw gr K f' v vo l (q + nb) s.out x ∧ Only [g, gr] w wr ∧ Same f f' ∧ f'.k = f.k ∧ Md wr f' (lensS s (s.lens ++ List.replicate j (repV s.sym s.lens)) (8 * o + q + nb))) (fun _ wr => pa - numOf wr g 352)
          case atStart =>
            have oS : Only [] w1 (w1.drewN (1 + mm)) := (Only.refl [] w1).drewN _
            exact ⟨0, f, by have := HN.out; omega, H1.out.2.1.still oS, (H1.out.1.weak (by simp)).trans oS (by simp), Same.refl f, rfl, by
              have hM := H1.out.2.2.1.keep oS (Other.nil _)
              have e : lensS s (s.lens ++ List.replicate 0 (repV s.sym s.lens)) (8 * o + q + nb) = lensS s s.lens (8 * o + q + nb) := by rw [List.replicate_zero, List.append_nil]
              rw [e]
              exact ⟨hM.last, hM.left, hM.co, hM.sy, hM.le, fun h1 h2 => ⟨(hM.hd h1 h2).nl, (hM.hd h1 h2).nd, (hM.hd h1 h2).no, (hM.hd h1 h2).own, (hM.hd h1 h2).nOwn, (hM.hd h1 h2).tb, (hM.hd h1 h2).sym, (hM.hd h1 h2).lens, (hM.hd h1 h2).n⟩, hM.tab⟩⟩
          case round =>
            obtain ⟨j, f', hj, hR, ho, hsme, hkk, hM⟩ := hrel
            have hk6 := HH.out.2.2.2.2.2.1
            have hHd := hM.hd (show 4 ≤ s.k by omega) (show s.k ≤ 6 by omega)
            obtain ⟨nj, hnj⟩ : ∃ nj, nj = n0 + j := ⟨_, rfl⟩
            have hLl : (s.lens ++ List.replicate j (repV s.sym s.lens)).length = nj := by rw [List.length_append, List.length_replicate, hnj, HN.out.2.2.2.1]
            have c352 : wr.cell? ⟨g, 352, none⟩ = some (.int .i64 (nj : Int)) := by
              rw [hR.on.dec.hd (by decide) (by decide), hHd.n]
              show some (Value.int .i64 (((s.lens ++ List.replicate j (repV s.sym s.lens)).length : Nat) : Int)) = _
              rw [hLl]
            have hnum := numOf_eq c352
            by_cases hlt : nj < pa
            · have hli2 : (nj : Int) < (pa : Int) := by omega
              have hb316 : nj < 316 := by have := HL.out; omega
              have cst : wr.cell? ⟨g, 36 + nj, none⟩ = some (f'.hd (36 + nj)) := hR.on.dec.hd (by omega) (by omega)
              have fst : wr.frozen? ⟨g, 36 + nj, none⟩ = false := Has.free hR.on.dec _
              generalize f'.hd (36 + nj) = u at cst
              have HR := hide (And.intro hR (And.intro ho (And.intro hsme (And.intro hkk (And.intro hM (And.intro hLl (And.intro hnj (And.intro hnum (And.intro hHd hlt)))))))))
              clear hR ho hsme hkk hM hLl hnj hnum hHd hj hlt
              go_wp2_with fail
              go_region
              all_goals
                obtain ⟨b, hb⟩ : ∃ b, b = repV s.sym s.lens := ⟨_, rfl⟩
                rw [← hb]
                have d2 : Dc (wr.setCell ⟨g, 36 + nj, none⟩ (.int .u8 (b.toNat : Int))).drew g { f' with hd := fun i => if i = 36 + nj then .int .u8 (b.toNat : Int) else f'.hd i } := Dc.set_hd HR.out.1.on.dec (by omega) (by omega) _
                have o2 : Only [g] wr (wr.setCell ⟨g, 36 + nj, none⟩ (.int .u8 (b.toNat : Int))).drew := ((Only.refl [g] wr).setCell (by simp) _).drew
                have k352 : (wr.setCell ⟨g, 36 + nj, none⟩ (.int .u8 (b.toNat : Int))).drew.cell? ⟨g, 352, none⟩ = some (.int .i64 (nj : Int)) := by
                  rw [d2.hd (by decide) (by decide)]
                  show some (if 352 = 36 + nj then _ else f'.hd 352) = _
                  rw [if_neg (by omega), ← HR.out.1.on.dec.hd (by decide) (by decide)]
                  exact c352
                have q352 : (wr.setCell ⟨g, 36 + nj, none⟩ (.int .u8 (b.toNat : Int))).drew.frozen? ⟨g, 352, none⟩ = false := Has.free d2 352
                have H2 := hide (And.intro d2 (And.intro o2 hb))
                clear d2 o2 cst fst c352 hb
                generalize (wr.setCell ⟨g, 36 + nj, none⟩ (.int .u8 (b.toNat : Int))).drew = w3 at *
                go_wp2_with fail
                have d3 : Dc (w3.setCell ⟨g, 352, none⟩ (.int .i64 ((nj + 1 : Nat) : Int))) g { f' with hd := fun i => if i = 352 then .int .i64 ((nj + 1 : Nat) : Int) else if i = 36 + nj then .int .u8 (b.toNat : Int) else f'.hd i } := Dc.set_hd H2.out.1 (by decide) (by decide) _
                have o3 : Only [g] wr (w3.setCell ⟨g, 352, none⟩ (.int .i64 ((nj + 1 : Nat) : Int))) := H2.out.2.1.setCell (by simp) _
                have H3 := hide (And.intro d3 o3)
                clear d3 o3
                have hb := H2.out.2.2
                subst hb
                go_roundw
                case rel =>
                  have hR := HR.out
                  have hM := hR.2.2.2.2.1
                  have hHd := hR.2.2.2.2.2.2.2.2.1.set_len (b := repV s.sym s.lens) (p' := 8 * o + q + nb) (n := nj) hR.2.2.2.2.2.1.symm HH.out.2.2.2.2.2.2.2.1.2.2.2.2.2.2.1 hb316
                  have e : s.lens ++ List.replicate j (repV s.sym s.lens) ++ [repV s.sym s.lens] = s.lens ++ List.replicate (j + 1) (repV s.sym s.lens) := by rw [List.append_assoc, List.replicate_succ']
                  rw [e] at hHd
                  have hM3 : Md wr { f' with hd := fun i => if i = 352 then .int .i64 ((nj + 1 : Nat) : Int) else if i = 36 + nj then .int .u8 ((repV s.sym s.lens).toNat : Int) else f'.hd i } (lensS s (s.lens ++ List.replicate (j + 1) (repV s.sym s.lens)) (8 * o + q + nb)) :=
                    ⟨hM.last, fun h => hM.left h, fun h1 h2 => hM.co h1 h2, fun h => hM.sy h, fun h1 h2 => hM.le h1 h2, fun _ _ => hHd, hM.tab⟩
                  exact ⟨j + 1, { f' with hd := fun i => if i = 352 then .int .i64 ((nj + 1 : Nat) : Int) else if i = 36 + nj then .int .u8 ((repV s.sym s.lens).toNat : Int) else f'.hd i }, by have := hR.2.2.2.2.2.2.1; have := hR.2.2.2.2.2.2.2.2.2; omega, hR.1.cells H3.out.2 H3.out.1 rfl rfl (hR.1.keepX H3.out.2), hR.2.1.trans (H3.out.2.weak (T := [g, gr]) (by simp)) (by simp), hR.2.2.1.trans ⟨rfl, rfl, rfl, rfl, rfl, rfl, rfl, rfl, rfl⟩, hR.2.2.2.1, hR.1.mdg hM3 H3.out.2⟩
                case measure =>
                  have h1 := HR.out.2.2.2.2.2.2.2.1
                  have h2 : numOf (w3.setCell ⟨g, 352, none⟩ (.int .i64 ((nj + 1 : Nat) : Int))) g 352 = nj + 1 := numOf_eq (by rw [H3.out.1.hd (by decide) (by decide)]; rfl)
                  have h3 := HR.out.2.2.2.2.2.2.2.2.2
                  show pa - numOf (w3.setCell ⟨g, 352, none⟩ (.int .i64 ((nj + 1 : Nat) : Int))) g 352 < _
                  rw [h1, h2]
                  omega
            · have hli2 : ¬ (nj : Int) < (pa : Int) := by omega
              have HR := hide (And.intro hR (And.intro ho (And.intro hsme (And.intro hkk (And.intro hM (And.intro hLl (And.intro hnj (And.intro hj hlt))))))))
              clear hR ho hsme hkk hM hLl hnj hnum hHd hj hlt
              go_wp2_with fail
              go_ret
              have hR := HR.out
              have hN := HN.out
              have ej : j = repM s.sym + num B / 2 ^ s.p % 2 ^ repB s.sym := by rw [← hN.1, ← hN.2.2.1, ← hN.2.1]; omega
              refine ⟨0, rfl, .inl ⟨rfl, f', s.lens ++ List.replicate j (repV s.sym s.lens), by rw [ej], by rw [← hN.1]; exact hR.1, hR.2.1, hR.2.2.1, hR.2.2.2.1, by rw [← hN.1, ← HH.out.2.2.1]; exact HB.out.2, by rw [hR.2.2.2.2.2.1]; have := HL.out; omega, by rw [← hN.1]; exact hR.2.2.2.2.1⟩⟩
end Go.Proofs.YtlknhiihdejpeaaGreatDoor

