/-
  Contracts of package base64: Write and End.
-/
import Derived.Test.YtibbaeelgihmgaaDoorB64D
import Derived.OwnWalk
namespace Go.Proofs.YtibbaeelgihmgaaDoor
open Go Go.RowKit

theorem De.not_tab {w : World} {g : Nat} {s : St} (h : De w g s) (T : Tab w) : g ≠ 0 ∧ g ≠ 1 := by
  constructor
  · rintro rfl
    have h1 := h.cell 63
    rw [T.abc 63 (by omega)] at h1
    simp [St.cells] at h1
  · rintro rfl
    have h1 := h.cell 63
    rw [T.six 63 (by omega)] at h1
    simp [St.cells] at h1
theorem De.tab {w w' : World} {g : Nat} {s : St} (h : De w g s) (T : Tab w) (ho : Only [g] w w') : Tab w' :=
  T.only ho (by simpa using (h.not_tab T).1.symm) (by simpa using (h.not_tab T).2.symm)

theorem held_o (g : Nat) (s : St) (w : World) (h : De w g s) (hl : s.cs.length ≤ 4) (hf : s.fl ≤ 4) :
    Calls Tryd.prog 15 #[.pointer (some ⟨g, 0, none⟩)] w fun e w' => e = .returned (.int .i64 (s.held : Nat)) ∧ De w' g s ∧ Only [] w w' :=
  (held_any g s w h hl hf).mono fun _ _ ⟨he, m, hm⟩ => ⟨he, by rw [hm]; exact h.drewN m, by rw [hm]; exact (Only.refl _ _).drewN m⟩

def Wrote (g : Nat) (x : List UInt8 × Nat × St) (w : World) (e : Ending) (w' : World) : Prop :=
  ∃ v', e = .returned (.tuple #[v', .int .i64 (x.2.1 : Nat)]) ∧ w'.ownsRow w.heap.size 5 1 v' x.1.length (bvals x.1) ∧ De w' g x.2.2 ∧ Only [g] w w'

set_option maxHeartbeats 2000000 in
theorem write_any (g : Nat) (s : St) (A : Option Addr) (n c : Nat) (l : List UInt8) (w : World) (T : Tab w) (h : De w g s) (hs : s.Ok) (hb : Holds w 1 A n (bvals l)) (hl : l.length = n) (hn : n ≤ 1000000)
    (hA : 0 < n → ∀ ad, A = some ad → ad.block ≠ g) :
    Calls Tryd.prog 13 #[.pointer (some ⟨g, 0, none⟩), .slice A n c] w (Wrote g (s.write l) w) := by
  subst hl
  obtain ⟨⟨c0, c1, c2, c3, c4⟩, f0, f1, f2, f3, f4⟩ := h.facts
  by_cases hbad : s.bad = true
  · have hw : s.write l = ([], 3, s) := by unfold St.write; rw [if_pos hbad]
    rw [hw]
    rw [hbad] at c4
    have H := hide h
    clear h hs hb T hA hw hbad
    go_enter Tryd.func13, Tryd.ntmps13
    go_wp2_with fail
    go_ret2
    exact ⟨_, rfl, World.ownsRow_nil _ _ _ _, H.out, Only.refl _ _⟩
  have hbad : s.bad = false := by simpa using hbad
  rw [hbad] at c4
  have hw : s.write l = match s.run l with
    | none => ([], 3, St.wrong)
    | some (o, t) => (o, 0, t) := by unfold St.write; rw [hbad]; rfl
  have hfew := hs.few
  have hhe : s.held ≤ 3 := by unfold St.held; omega
  have HH := hide (held_o g s w h (by omega) (by omega))
  have HE := hide (And.intro h (And.intro hs (And.intro hb (And.intro hA (And.intro T (And.intro hw hbad))))))
  clear h hs hb T hA hw hbad c0 c1 c2 c3 f0 f1 f2 f3 f4
  obtain ⟨i0, hi0, hz0, hz1, hz2⟩ := info_of u8_info
  generalize s.held = hd at *
  go_enter Tryd.func13, Tryd.ntmps13
  go_wp2_with fail
  refine (HH.out).mono ?_
  rintro e w1 ⟨rfl, h1, ho1⟩
  have H1 := hide (And.intro h1 ho1)
  clear h1 ho1
  go_wp2_with (at_make; refine wpList_make_own _ rfl _ _ _ rfl w.heap.size 5 i0 (.int .u8 0) 1 Tryd.underlying28 hi0 hz0 hz1 .i64 .i64 _ ((hd + l.length) / 4 * 3) rfl rfl (by omega) (by rw [hz2]; omega) (by unfold maxLen; omega) H1.out.2.size ?_; intro w2 hown2 hgr2; have H2 := hide (And.intro hown2 hgr2); clear hown2 hgr2)
  go_loopw [6, 23] (fun o i wr => ∃ (j : Nat) (vr : Value) (q : List UInt8) (t : St), j ≤ l.length ∧ i = .int .i64 j ∧ o = vr ∧ s.run (l.take j) = some (q, t) ∧ wr.ownsRow w.heap.size 5 1 vr q.length (bvals q) ∧ De wr g t ∧ Only [g] w wr) (fun _ i _ => l.length - (intOf i).toNat)
  case atStart => exact ⟨0, _, [], s, Nat.zero_le _, rfl, rfl, run_nil s, H2.out.1, H1.out.1.grown H2.out.2 (by simp), H1.out.2.of_nil.grown H2.out.2 (by simp)⟩
  case round =>
    obtain ⟨j, vr, q, t, hj, rfl, rfl, hrun, hownr, hde, hon⟩ := hrel
    obtain ⟨htok, htb⟩ := run_ok HE.out.2.1 HE.out.2.2.2.2.2.2 hrun
    have hqf := run_few HE.out.2.1 HE.out.2.2.2.2.2.2 hrun
    have hql : q.length ≤ 3 * l.length := by rw [List.length_take] at hqf; omega
    clear hqf
    obtain ⟨A1, cc1, rfl, _, _⟩ := own_shape hownr
    have hw := hownr.lt
    by_cases hlt : j < l.length
    · have hbk := HE.out.2.2.1.keepPos hon (fun h0 ad ha _ => by simpa using HE.out.2.2.2.1 h0 ad ha)
      have hT := HE.out.1.tab HE.out.2.2.2.2.1 hon
      obtain ⟨b, o, rfl, hc2⟩ := hbk.addr (by simpa using (show 0 < l.length by omega))
      have hcell : wr.cell? ⟨b, o + j, none⟩ = some (.int .u8 (l[j].toNat : Int)) := hc2 j _ (bvals_get l j hlt)
      have htk := List.take_succ_eq_append_getElem hlt
      have hdr : l = l.take j ++ l[j] :: l.drop (j + 1) := by rw [← List.drop_eq_getElem_cons hlt, List.take_append_drop]
      have hta := take_any g t l[j] wr hT hde htok
      have hst := run_snoc hrun l[j]
      have hsn := run_snoc_none hrun l[j] (l.drop (j + 1))
      rw [← hdr] at hsn
      rw [← htk] at hst
      have hmid := fun u (h : t.take l[j] = some u) => take_mid htok htb h
      unfold St.took at hta
      unfold St.step at hst hsn
      clear hc2 hbk hdr htk
      generalize l[j] = ch at *
      cases htake : t.take ch with
      | none =>
        rw [htake] at hta hsn
        have hrn := hsn rfl
        have hw0 := HE.out.2.2.2.2.2.1
        rw [hrn] at hw0
        have HF := hide (And.intro hta (And.intro hw0 (And.intro hon hownr)))
        clear hta hst hsn hmid htake hrun hownr hde hon htok htb hT hw hrn hw0
        go_wp2_with fail
        refine (HF.out.1).mono ?_
        rintro e w3 ⟨rfl, h3, ho3⟩
        have H3 := hide (And.intro h3 ho3)
        clear h3 ho3
        go_wp2_with fail
        refine (fail_any g _ w3 H3.out.1).mono ?_
        rintro e w4 ⟨rfl, h4, ho4⟩
        have H4 := hide (And.intro h4 ho4)
        clear h4 ho4
        go_wp2_with fail
        go_ret2
        rw [HF.out.2.1]
        exact ⟨_, rfl, World.ownsRow_nil _ _ _ _, H4.out.1, (HF.out.2.2.1.trans H3.out.2 (by simp)).trans H4.out.2 (by simp)⟩
      | some u =>
        rw [htake] at hta hst
        have hm := hmid u htake
        simp only [Option.map_some] at hst
        have h4 := hm.few
        have hh := held_o g u
        have hfl : u.fl ≤ 4 := by omega
        by_cases hq4 : u.cs.length + u.fl = 4
        · have hpo : u.pour = (outOf u.cs, ⟨[], 0, decide (0 < u.fl), u.bad⟩) := by unfold St.pour; rw [if_pos hq4]
          rw [hpo] at hst
          have hh4 : u.held = 4 := hq4
          rw [hh4] at hh
          have hs3 : ∀ w, De w g u → De (w.setCell ⟨g, 3, none⟩ (.bool (decide (0 < u.fl)))) g { u with shut := decide (0 < u.fl) } := fun w h => Has.set h 3 _
          have hs3' : ∀ w, De w g u → w.cell? ⟨g, 2, none⟩ = some (.int .i64 (u.fl : Nat)) ∧ w.cell? ⟨g, 3, none⟩ = some (.bool u.shut) ∧ w.frozen? ⟨g, 3, none⟩ = false := fun w h => ⟨h.cell 2, h.cell 3, h.free 3⟩
          have hpr := fun w h B hB ho => pour_any g { u with shut := decide (0 < u.fl) } (.slice A1 q.length cc1) q w h hm.six (by show u.cs.length ≤ 4; omega) B hB ho (by omega)
          have HF := hide (And.intro hta (And.intro hst (And.intro hon (And.intro hownr (And.intro hh (And.intro hs3 (And.intro hs3' hpr)))))))
          have HC := hide (show u.cs.length ≤ 4 ∧ u.fl ≤ 4 from ⟨by omega, by omega⟩)
          have HW := hide hw
          clear hta hst hsn hmid htake hrun hownr hde hon htok htb hT hw hh hs3 hs3' hpr hm hpo hh4 hq4 h4
          go_wp2_with fail
          refine (HF.out.1).mono ?_
          rintro e w3 ⟨rfl, h3, ho3⟩
          have H3 := hide (And.intro h3 ho3)
          clear h3 ho3
          go_wp2_with fail
          refine (HF.out.2.2.2.2.1 w3 H3.out.1 HC.out.1 HC.out.2).mono ?_
          rintro e w4 ⟨rfl, h4, ho4⟩
          obtain ⟨k2, k3, f3⟩ := HF.out.2.2.2.2.2.2.1 w4 h4
          have H4 := hide (And.intro h4 ho4)
          clear h4 ho4
          go_wp2_with fail
          have honw := HF.out.2.2.1
          have hsz3 := H3.out.2.size
          have hsz4 := H4.out.2.size
          have hg := HE.out.1.lt
          have hown4 : (w4.setCell ⟨g, 3, none⟩ (.bool (decide (0 < u.fl)))).ownsRow w.heap.size 5 1 (.slice A1 q.length cc1) q.length (bvals q) := by
            refine ownsRow_setCell_other (own_keep (own_keep HF.out.2.2.2.1 H3.out.2 (fun b hb => ?_)) H4.out.2 (by simp)) (fun hb => ?_) _
            · have := HW.out b hb
              simp; omega
            · have := HW.out g hb
              omega
          have HP := hide (HF.out.2.2.2.2.2.2.2 _ (HF.out.2.2.2.2.2.1 w4 H4.out.1) w.heap.size (by simp only [World.size_setCell]; have := honw.size; omega) hown4)
          clear hown4 honw hsz3 hsz4 hg k2 k3 f3
          refine (HP.out).mono ?_
          rintro e w5 ⟨v5, rfl, h5, hd5, hs5⟩
          have H5 := hide (And.intro h5 (And.intro hd5 hs5))
          clear h5 hd5 hs5
          go_wp2_with fail
          go_roundw
          case rel =>
            refine ⟨j + 1, _, q ++ outOf u.cs, ⟨[], 0, decide (0 < u.fl), u.bad⟩, hlt, by go_num, rfl, by simpa using HF.out.2.1, H5.out.1, H5.out.2.1, ?_⟩
            refine (((HF.out.2.2.1.trans H3.out.2 (by simp)).trans H4.out.2 (by simp)).setCell (by simp) _).trans H5.out.2.2.only ?_
            intro i hi hlt
            rcases List.mem_append.1 hi with hi | hi
            · exact hi
            · have hb : (Value.slice A1 q.length cc1).ownBlock = some i := by simpa using hi
              have := HW.out i hb
              omega
          case measure => simp [intOf]; omega
        · have hpo : u.pour = ([], u) := by unfold St.pour; rw [if_neg hq4]
          rw [hpo] at hst
          have hh4 : ((u.held : Int) == 4) = false := by unfold St.held; simp; omega
          have hh5 : u.held ≤ 4 := by unfold St.held; omega
          have HF := hide (And.intro hta (And.intro hst (And.intro hon (And.intro hownr hh))))
          have HC := hide (show u.cs.length ≤ 4 ∧ u.fl ≤ 4 from ⟨by omega, by omega⟩)
          clear hta hst hsn hmid htake hrun hownr hde hon htok htb hT hh hm hpo hq4 h4
          generalize u.held = z at *
          go_wp2_with fail
          refine (HF.out.1).mono ?_
          rintro e w3 ⟨rfl, h3, ho3⟩
          have H3 := hide (And.intro h3 ho3)
          clear h3 ho3
          go_wp2_with fail
          refine (HF.out.2.2.2.2 w3 H3.out.1 HC.out.1 HC.out.2).mono ?_
          rintro e w4 ⟨rfl, h4, ho4⟩
          have H4 := hide (And.intro h4 ho4)
          clear h4 ho4
          go_wp2_with fail
          go_roundw
          case rel =>
            refine ⟨j + 1, _, q, u, hlt, by go_num, rfl, by simpa using HF.out.2.1, ?_, H4.out.1, (HF.out.2.2.1.trans H3.out.2 (by simp)).trans H4.out.2 (by simp)⟩
            refine own_keep (own_keep HF.out.2.2.2.1 H3.out.2 (fun b hb => ?_)) H4.out.2 (by simp)
            have := hw b hb
            have hg := HE.out.1.lt
            simp; omega
          case measure => simp [intOf]; omega
    · obtain rfl : j = l.length := by omega
      rw [List.take_length] at hrun
      have hw0 := HE.out.2.2.2.2.2.1
      rw [hrun] at hw0
      have HF := hide (And.intro hw0 (And.intro hon (And.intro hownr hde)))
      clear hrun hw0 hon hownr hde hw htok htb hlt
      go_wp2_with fail
      go_ret2
      rw [HF.out.1]
      exact ⟨_, rfl, HF.out.2.2.1, HF.out.2.2.2, HF.out.2.1⟩
end Go.Proofs.YtibbaeelgihmgaaDoor
