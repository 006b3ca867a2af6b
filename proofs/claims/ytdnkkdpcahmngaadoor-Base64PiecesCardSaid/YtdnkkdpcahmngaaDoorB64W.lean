/-
  Contracts of the reference's decoder: End.
-/
import Derived.Test.YtdnkkdpcahmngaaDoorB64V
namespace Go.Proofs.YtdnkkdpcahmngaaDoor
open Go Go.RowKit

/-- Bytes do not lie in a block that holds none. -/
theorem Holds.ne_has {w : World} {A : Option Addr} {m g : Nat} {l : List UInt8} {t : TypeId} {cs : Array Value} (h : Holds w 1 A m (bvals l)) (hg : Has w g t cs) (hc : ∀ (i : Nat) (x : Int), cs[i]? ≠ some (.int .u8 x)) (hm : 0 < m) : ∀ ad, A = some ad → ad.block ≠ g := by
  have hl := h.1
  rw [bvals_length] at hl
  obtain ⟨b, o, rfl, hce⟩ := h.addr (by simp; omega)
  rintro ad he rfl
  injection he with he
  subst he
  have h0 := hce 0 _ (bvals_get l 0 (by omega))
  rw [hg.cell] at h0
  exact hc _ _ h0
theorem rec_no_byte (v : Value) (a b : Bool) (hv : ∀ x, v ≠ .int .u8 x) (i : Nat) (x : Int) : (#[v, .bool a, .bool b] : Array Value)[i]? ≠ some (.int .u8 x) := by
  intro h
  rcases i with _ | _ | _ | i
  · simp at h; exact hv x h
  · simp at h
  · simp at h
  · simp at h

theorem Rf.fresh (B : Nat) (w : World) (q : Nat) (hq : q = w.heap.size) : Rf B (w.alloc (.cells #[.slice none 0 0, .bool false, .bool false] 30)) q (.slice none 0 0) St.new := by
  subst hq
  exact ⟨Has.new w _ _, World.ownsRow_nil _ _ _ _⟩

/-- What the reference's End tells, and leaves. -/
def TEnded (B g : Nat) (v : Value) (x : List UInt8 × Nat × St) (w : World) (e : Ending) (w' : World) : Prop :=
  ∃ A m c v', e = .returned (.tuple #[.slice A m c, .int .i64 (x.2.1 : Nat)]) ∧ Holds w' 1 A m (bvals x.1) ∧ Rf B w' g v' x.2.2 ∧ Since [g] w v w' v' ∧ Only [g] w w'

set_option maxHeartbeats 4000000 in
theorem tEnd (B g : Nat) (v : Value) (s : St) (w : World) (h : Rf B w g v s) (hs : s.Ok) :
    Calls Tryd.prog 11 #[.pointer (some ⟨g, 0, none⟩)] w (TEnded B g v s.fin w) := by
  obtain ⟨A, cp, rfl, hcp, _⟩ := own_shape h.own
  have hfew : s.held < 4 := hs.few
  have hh : s.held = s.cs.length + s.fl := rfl
  have HS := hide (tSigns B g _ s w h hs.six (by omega))
  have c0 : w.cell? ⟨g, 0, none⟩ = some (.slice A s.held cp) := h.has.cell 0
  have c1 : w.cell? ⟨g, 1, none⟩ = some (.bool s.shut) := h.has.cell 1
  have c2 : w.cell? ⟨g, 2, none⟩ = some (.bool s.bad) := h.has.cell 2
  have f0 := h.has.free 0
  have f1 := h.has.free 1
  have f2 := h.has.free 2
  by_cases hbad : s.bad = true
  · have hf : s.fin = ([], 3, s) := by unfold St.fin; rw [if_pos (.inl hbad), hs.bad hbad]
    rw [hf]
    rw [hbad] at c2
    have H := hide h
    clear h hs hf hbad c0 c1 f0 f1 f2
    go_enter Tryd.func11, Tryd.ntmps11
    go_wp2_with fail
    go_ret2
    exact ⟨_, _, _, _, rfl, Holds.empty _ _ _, H.out, Since.refl _ _ _, Only.refl _ _⟩
  have hbad : s.bad = false := by simpa using hbad
  rw [hbad] at c2
  have HR := hide (fun w1 (ho : Only [] w w1) a b => (⟨(Rf.store (h.only ho (by simp) (by simp)) a b), Since.reset ((Since.refl [g] w (.slice A s.held cp)).step ho.of_nil) _ _ _, ((ho.of_nil.setCell (by simp) _).setCell (by simp) _).setCell (by simp) _⟩ : Rf B (((w1.setCell ⟨g, 0, none⟩ (.slice none 0 0)).setCell ⟨g, 1, none⟩ (.bool a)).setCell ⟨g, 2, none⟩ (.bool b)) g (.slice none 0 0) ⟨[], 0, a, b⟩ ∧ Since [g] w (.slice A s.held cp) (((w1.setCell ⟨g, 0, none⟩ (.slice none 0 0)).setCell ⟨g, 1, none⟩ (.bool a)).setCell ⟨g, 2, none⟩ (.bool b)) (.slice none 0 0) ∧ Only [g] w (((w1.setCell ⟨g, 0, none⟩ (.slice none 0 0)).setCell ⟨g, 1, none⟩ (.bool a)).setCell ⟨g, 2, none⟩ (.bool b))))
  by_cases h0 : s.held = 0
  · have hf : s.fin = ([], 0, St.new) := by
      have hc0 : s.cs = [] := List.eq_nil_of_length_eq_zero (by omega)
      unfold St.fin
      rw [if_neg (by rw [hbad, hc0]; simp [beyond, V]; omega), hc0]
      rfl
    rw [hf]
    rw [h0] at c0 HR ⊢
    clear h hs hf hbad h0 hh hfew hcp
    go_enter Tryd.func11, Tryd.ntmps11
    go_wp2_with fail
    go_ret2
    exact ⟨_, _, _, _, rfl, Holds.empty _ _ _, HR.out w (Only.refl _ _) false false⟩
  by_cases h1 : s.held = 1
  · have hf : s.fin = ([], 3, St.wrong) := by
      unfold St.fin
      rw [if_pos (.inr (.inl (by
        by_cases hfl : 0 < s.fl
        · have := (hs.fl hfl).1; omega
        · omega)))]
    rw [hf]
    rw [h1] at c0 HR ⊢
    clear h hs hf hbad h0 h1 hh hfew hcp
    go_enter Tryd.func11, Tryd.ntmps11
    go_wp2_with fail
    go_ret2
    exact ⟨_, _, _, _, rfl, Holds.empty _ _ _, HR.out w (Only.refl _ _) false true⟩
  have hn0 : ((s.held : Int) == 0) = false := by simp; omega
  have hn1 : ((s.held : Int) == 1) = false := by simp; omega
  by_cases hfl : 0 < s.fl
  · have hf : s.fin = ([], 3, St.wrong) := by unfold St.fin; rw [if_pos (.inr (.inr (.inl hfl)))]
    rw [hf]
    have hd : s.cs.length < s.held := by omega
    clear h hs hf hbad h0 h1 hh hfew hcp
    generalize s.held = n at *
    generalize s.cs.length = m at *
    go_enter Tryd.func11, Tryd.ntmps11
    go_wp2_with fail
    refine (HS.out).mono ?_
    rintro e w1 ⟨rfl, rfl⟩
    go_wp2_with fail
    go_ret2
    exact ⟨_, _, _, _, rfl, Holds.empty _ _ _, HR.out w (Only.refl _ _) false true⟩
  · have hcl : s.cs.length = s.held := by omega
    have hwc : s.wait = s.cs := by unfold St.wait; have : s.fl = 0 := by omega
                                   rw [this]; simp
    have hown := h.own
    rw [hwc] at hown
    have hT := tThreeX A s.held cp s.cs w hs.six (Holds.of_own hown) hcl (by omega) (by omega)
    have hafter : ∀ w1, Only [] w w1 → (w1.cell? ⟨g, 0, none⟩ = some (.slice A s.held cp) ∧ w1.cell? ⟨g, 1, none⟩ = some (.bool s.shut) ∧ w1.cell? ⟨g, 2, none⟩ = some (.bool s.bad)) ∧ (w1.frozen? ⟨g, 0, none⟩ = false ∧ w1.frozen? ⟨g, 1, none⟩ = false ∧ w1.frozen? ⟨g, 2, none⟩ = false) :=
        fun w1 ho => ⟨⟨(h.has.only ho (by simp)).cell 0, (h.has.only ho (by simp)).cell 1, (h.has.only ho (by simp)).cell 2⟩, ⟨(h.has.only ho (by simp)).free 0, (h.has.only ho (by simp)).free 1, (h.has.only ho (by simp)).free 2⟩⟩
    have HA := hide hafter
    have HH := hide (fun w1 (ho : Only [] w w1) => h.has.only ho (by simp))
    rw [hcl] at HS
    have glt := h.has.lt
    by_cases hb : beyond s.cs = 0
    · have hf : s.fin = (outOf s.cs, 0, St.new) := by unfold St.fin; rw [if_neg (by rw [hbad]; simp [hb]; omega)]
      rw [hf]
      have HT := hide (hT true (by rw [decide_eq_true hb]))
      rw [if_pos hb] at HT
      clear h hs hf hbad h0 h1 hh hfew hcp hcl hwc hown hT hb hfl hafter
      generalize s.held = n at *
      go_enter Tryd.func11, Tryd.ntmps11
      go_wp2_with fail
      refine (HS.out).mono ?_
      rintro e w1 ⟨rfl, rfl⟩
      go_wp2_with fail
      refine (HT.out).mono ?_
      rintro e w1 ⟨A1, m1, c1, rfl, _, hh1, ho1⟩
      obtain ⟨⟨k0, k1, k2⟩, g0, g1, g2⟩ := HA.out w1 ho1
      have H1 := hide (And.intro hh1 ho1)
      clear hh1 ho1
      go_wp2_with fail
      go_ret2
      refine ⟨_, _, _, _, rfl, H1.out.1.keepPos (S := [g]) ((((Only.refl [g] w1).setCell (by simp) _).setCell (by simp) _).setCell (by simp) _) (fun hm ad ha _ hx => ?_), HR.out w1 H1.out.2 false false⟩
      refine H1.out.1.ne_has (HH.out w1 H1.out.2) (rec_no_byte _ _ _ (by simp)) hm ad ha (by simpa using hx)
    · have hf : s.fin = ([], 3, St.wrong) := by unfold St.fin; rw [if_pos (.inr (.inr (.inr hb)))]
      rw [hf]
      have HT := hide (hT false (by rw [decide_eq_false hb]))
      clear h hs hf hbad h0 h1 hh hfew hcp hcl hwc hown hT hb hfl hafter
      generalize s.held = n at *
      go_enter Tryd.func11, Tryd.ntmps11
      go_wp2_with fail
      refine (HS.out).mono ?_
      rintro e w1 ⟨rfl, rfl⟩
      go_wp2_with fail
      refine (HT.out).mono ?_
      rintro e w1 ⟨A1, m1, c1, rfl, _, hh1, ho1⟩
      obtain ⟨⟨k0, k1, k2⟩, g0, g1, g2⟩ := HA.out w1 ho1
      have H1 := hide (And.intro hh1 ho1)
      clear hh1 ho1
      go_wp2_with fail
      go_ret2
      exact ⟨_, _, _, _, rfl, Holds.empty _ _ _, HR.out w1 H1.out.2 false true⟩
end Go.Proofs.YtdnkkdpcahmngaaDoor
