/-
  Package attr: one parameter with what belongs to it: 0, 1 to 9, 22, 23 to 29.
-/
import Derived.Test.YtjfmebjjdiodbaaDoorAtB
import Derived.Test.YtjfmebjjdiodbaaDoorAtN
namespace Go.Proofs.YtjfmebjjdiodbaaDoor
open Go Go.RowKit

set_option maxRecDepth 100000 in
set_option maxHeartbeats 4000000 in
theorem step_0 (g : Nat) (a : At) (ha : a.Wf) (b o c : Nat) (l : List Int) (w : World) (T : Tab w) (hg : Has w g 23 a.cells) (hl : ∀ j u, (ivals l)[j]? = some u → w.cell? ⟨b, o + j, none⟩ = some u) (h0 : 0 < l.length) (h : l.getD 0 0 = 0) :
    Calls Tryd.prog 20 #[.pointer (some ⟨g, 0, none⟩), .slice (some ⟨b, o, none⟩) l.length c] w fun e w' => e = .returned (.int .i64 (usedA l : Nat)) ∧ Has w' g 23 (stepA a l).cells ∧ Only [g] w w' := by
  have HF := hide (numbered_any g a true b o c l w hg hl h0)
  have HB := hide (numbered_any g a false b o c l w hg hl h0)
  simp only [if_true, Bool.false_eq_true, if_false] at HF HB
  have cn := hl 0 _ (ivals_get l 0 h0)
  have h1 : l.getD 0 0 ≠ 38 → l.getD 0 0 ≠ 48 → stepA a l = oneA a (l.getD 0 0) ∧ usedA l = 1 := fun k1 k2 => stepA_one a rfl k1 k2
  have h2 : l.getD 0 0 = 38 → stepA a l = longA a true l ∧ usedA l = usedL l := fun h => by unfold stepA usedA; rw [if_pos h, if_pos (.inl h)]; exact ⟨rfl, rfl⟩
  have h3 : l.getD 0 0 = 48 → stepA a l = longA a false l ∧ usedA l = usedL l := fun h => by unfold stepA usedA; rw [if_neg (by omega), if_pos h, if_pos (.inr h)]; exact ⟨rfl, rfl⟩
  generalize stepA a l = S at *
  generalize usedA l = U at *
  generalize longA a true l = LF at *
  generalize longA a false l = LB at *
  generalize usedL l = V at *
  generalize l.getD 0 0 = n at *
  generalize l.length = m at *
  rw [Nat.add_zero] at cn
  have c0 : w.cell? ⟨g, 0, none⟩ = some (.int .i64 a.fg) := hg.cell 0
  have c1 : w.cell? ⟨g, 1, none⟩ = some (.int .i64 a.bg) := hg.cell 1
  have c2 : w.cell? ⟨g, 2, none⟩ = some (.int .i64 a.fl) := hg.cell 2
  have f0 := hg.free 0
  have f1 := hg.free 1
  have f2 := hg.free 2
  have H1 := hide (And.intro h1 (And.intro h2 h3))
  clear h1 h2 h3 hl
  have s0 : ∀ x, Has (w.setCell ⟨g, 0, none⟩ (.int .i64 x)) g 23 ({ a with fg := x } : At).cells ∧ Only [g] w (w.setCell ⟨g, 0, none⟩ (.int .i64 x)) := fun x => ⟨hg.set 0 _, (Only.refl _ w).setCell (by simp) _⟩
  have s1 : ∀ x, Has (w.setCell ⟨g, 1, none⟩ (.int .i64 x)) g 23 ({ a with bg := x } : At).cells ∧ Only [g] w (w.setCell ⟨g, 1, none⟩ (.int .i64 x)) := fun x => ⟨hg.set 1 _, (Only.refl _ w).setCell (by simp) _⟩
  have s2 : ∀ x, Has (w.setCell ⟨g, 2, none⟩ (.int .i64 x)) g 23 ({ a with fl := x } : At).cells ∧ Only [g] w (w.setCell ⟨g, 2, none⟩ (.int .i64 x)) := fun x => ⟨hg.set 2 _, (Only.refl _ w).setCell (by simp) _⟩
  have HS := hide (And.intro s0 (And.intro s1 (And.intro s2 (And.intro hg (Only.refl [g] w)))))
  clear s0 s1 s2
  have HG := hide (And.intro hg (And.intro T ha))
  clear hg T ha
  subst h
  have HE := hide (H1.out.1 (by decide) (by decide))
  clear H1
  go_enter Tryd.func20, Tryd.ntmps20
  go_wp2_with fail
  go_ret
  rw [HE.out.1, HE.out.2]
  exact ⟨rfl, ((HG.out.1.set 0 (.int .i64 0)).set 1 (.int .i64 0)).set 2 (.int .i64 0), (((Only.refl [g] w).setCell (by simp) _).setCell (by simp) _).setCell (by simp) _⟩
set_option maxRecDepth 100000 in
set_option maxHeartbeats 4000000 in
theorem step_1 (g : Nat) (a : At) (ha : a.Wf) (b o c : Nat) (l : List Int) (w : World) (T : Tab w) (hg : Has w g 23 a.cells) (hl : ∀ j u, (ivals l)[j]? = some u → w.cell? ⟨b, o + j, none⟩ = some u) (h0 : 0 < l.length) (h : 1 ≤ l.getD 0 0 ∧ l.getD 0 0 ≤ 9) :
    Calls Tryd.prog 20 #[.pointer (some ⟨g, 0, none⟩), .slice (some ⟨b, o, none⟩) l.length c] w fun e w' => e = .returned (.int .i64 (usedA l : Nat)) ∧ Has w' g 23 (stepA a l).cells ∧ Only [g] w w' := by
  have HF := hide (numbered_any g a true b o c l w hg hl h0)
  have HB := hide (numbered_any g a false b o c l w hg hl h0)
  simp only [if_true, Bool.false_eq_true, if_false] at HF HB
  have cn := hl 0 _ (ivals_get l 0 h0)
  have h1 : l.getD 0 0 ≠ 38 → l.getD 0 0 ≠ 48 → stepA a l = oneA a (l.getD 0 0) ∧ usedA l = 1 := fun k1 k2 => stepA_one a rfl k1 k2
  have h2 : l.getD 0 0 = 38 → stepA a l = longA a true l ∧ usedA l = usedL l := fun h => by unfold stepA usedA; rw [if_pos h, if_pos (.inl h)]; exact ⟨rfl, rfl⟩
  have h3 : l.getD 0 0 = 48 → stepA a l = longA a false l ∧ usedA l = usedL l := fun h => by unfold stepA usedA; rw [if_neg (by omega), if_pos h, if_pos (.inr h)]; exact ⟨rfl, rfl⟩
  generalize stepA a l = S at *
  generalize usedA l = U at *
  generalize longA a true l = LF at *
  generalize longA a false l = LB at *
  generalize usedL l = V at *
  generalize l.getD 0 0 = n at *
  generalize l.length = m at *
  rw [Nat.add_zero] at cn
  have c0 : w.cell? ⟨g, 0, none⟩ = some (.int .i64 a.fg) := hg.cell 0
  have c1 : w.cell? ⟨g, 1, none⟩ = some (.int .i64 a.bg) := hg.cell 1
  have c2 : w.cell? ⟨g, 2, none⟩ = some (.int .i64 a.fl) := hg.cell 2
  have f0 := hg.free 0
  have f1 := hg.free 1
  have f2 := hg.free 2
  have H1 := hide (And.intro h1 (And.intro h2 h3))
  clear h1 h2 h3 hl
  have s0 : ∀ x, Has (w.setCell ⟨g, 0, none⟩ (.int .i64 x)) g 23 ({ a with fg := x } : At).cells ∧ Only [g] w (w.setCell ⟨g, 0, none⟩ (.int .i64 x)) := fun x => ⟨hg.set 0 _, (Only.refl _ w).setCell (by simp) _⟩
  have s1 : ∀ x, Has (w.setCell ⟨g, 1, none⟩ (.int .i64 x)) g 23 ({ a with bg := x } : At).cells ∧ Only [g] w (w.setCell ⟨g, 1, none⟩ (.int .i64 x)) := fun x => ⟨hg.set 1 _, (Only.refl _ w).setCell (by simp) _⟩
  have s2 : ∀ x, Has (w.setCell ⟨g, 2, none⟩ (.int .i64 x)) g 23 ({ a with fl := x } : At).cells ∧ Only [g] w (w.setCell ⟨g, 2, none⟩ (.int .i64 x)) := fun x => ⟨hg.set 2 _, (Only.refl _ w).setCell (by simp) _⟩
  have HS := hide (And.intro s0 (And.intro s1 (And.intro s2 (And.intro hg (Only.refl [g] w)))))
  clear s0 s1 s2
  have HG := hide (And.intro hg (And.intro T ha))
  clear hg T ha
  obtain ⟨k, rfl⟩ : ∃ k : Nat, n = k := ⟨n.toNat, by omega⟩
  have HE := hide (H1.out.1 (by omega) (by omega))
  rw [oneA_1 a h] at HE
  have ct := HG.out.2.1.flag k (by omega)
  rw [show ((k : Nat) : Int).toNat = k from rfl] at HE
  generalize flagL.getD k 0 = f at *
  obtain ⟨hlo, hhi⟩ := h
  have q1 : 1 ≤ k := by omega
  have q2 : k ≤ 9 := by omega
  have q3 : (k : Int) < 10 := by omega
  have q4 : k < 10 := by omega
  clear H1
  go_enter Tryd.func20, Tryd.ntmps20
  go_wp2_with fail
  go_still_tail 10, (by kernel_rfl)
  change wpList _ _ _ _ _ w.drew
  go_wp2_with fail
  go_ret
  rw [HE.out.1, HE.out.2]
  exact ⟨rfl, (HS.out.2.2.1 _).1.drew, (HS.out.2.2.1 _).2.drew⟩
set_option maxRecDepth 100000 in
set_option maxHeartbeats 4000000 in
theorem step_22 (g : Nat) (a : At) (ha : a.Wf) (b o c : Nat) (l : List Int) (w : World) (T : Tab w) (hg8 : Above g) (hg : Has w g 23 a.cells) (hl : ∀ j u, (ivals l)[j]? = some u → w.cell? ⟨b, o + j, none⟩ = some u) (h0 : 0 < l.length) (h : l.getD 0 0 = 22) :
    Calls Tryd.prog 20 #[.pointer (some ⟨g, 0, none⟩), .slice (some ⟨b, o, none⟩) l.length c] w fun e w' => e = .returned (.int .i64 (usedA l : Nat)) ∧ Has w' g 23 (stepA a l).cells ∧ Only [g] w w' := by
  have HF := hide (numbered_any g a true b o c l w hg hl h0)
  have HB := hide (numbered_any g a false b o c l w hg hl h0)
  simp only [if_true, Bool.false_eq_true, if_false] at HF HB
  have cn := hl 0 _ (ivals_get l 0 h0)
  have h1 : l.getD 0 0 ≠ 38 → l.getD 0 0 ≠ 48 → stepA a l = oneA a (l.getD 0 0) ∧ usedA l = 1 := fun k1 k2 => stepA_one a rfl k1 k2
  have h2 : l.getD 0 0 = 38 → stepA a l = longA a true l ∧ usedA l = usedL l := fun h => by unfold stepA usedA; rw [if_pos h, if_pos (.inl h)]; exact ⟨rfl, rfl⟩
  have h3 : l.getD 0 0 = 48 → stepA a l = longA a false l ∧ usedA l = usedL l := fun h => by unfold stepA usedA; rw [if_neg (by omega), if_pos h, if_pos (.inr h)]; exact ⟨rfl, rfl⟩
  generalize stepA a l = S at *
  generalize usedA l = U at *
  generalize longA a true l = LF at *
  generalize longA a false l = LB at *
  generalize usedL l = V at *
  generalize l.getD 0 0 = n at *
  generalize l.length = m at *
  rw [Nat.add_zero] at cn
  have c0 : w.cell? ⟨g, 0, none⟩ = some (.int .i64 a.fg) := hg.cell 0
  have c1 : w.cell? ⟨g, 1, none⟩ = some (.int .i64 a.bg) := hg.cell 1
  have c2 : w.cell? ⟨g, 2, none⟩ = some (.int .i64 a.fl) := hg.cell 2
  have f0 := hg.free 0
  have f1 := hg.free 1
  have f2 := hg.free 2
  have H1 := hide (And.intro h1 (And.intro h2 h3))
  clear h1 h2 h3 hl
  have s0 : ∀ x, Has (w.setCell ⟨g, 0, none⟩ (.int .i64 x)) g 23 ({ a with fg := x } : At).cells ∧ Only [g] w (w.setCell ⟨g, 0, none⟩ (.int .i64 x)) := fun x => ⟨hg.set 0 _, (Only.refl _ w).setCell (by simp) _⟩
  have s1 : ∀ x, Has (w.setCell ⟨g, 1, none⟩ (.int .i64 x)) g 23 ({ a with bg := x } : At).cells ∧ Only [g] w (w.setCell ⟨g, 1, none⟩ (.int .i64 x)) := fun x => ⟨hg.set 1 _, (Only.refl _ w).setCell (by simp) _⟩
  have s2 : ∀ x, Has (w.setCell ⟨g, 2, none⟩ (.int .i64 x)) g 23 ({ a with fl := x } : At).cells ∧ Only [g] w (w.setCell ⟨g, 2, none⟩ (.int .i64 x)) := fun x => ⟨hg.set 2 _, (Only.refl _ w).setCell (by simp) _⟩
  have HS := hide (And.intro s0 (And.intro s1 (And.intro s2 (And.intro hg (Only.refl [g] w)))))
  clear s0 s1 s2
  have HG := hide (And.intro hg (And.intro T ha))
  clear hg T ha
  subst h
  have HE := hide (H1.out.1 (by decide) (by decide))
  rw [oneA_22 a rfl, ← not_12] at HE
  have ct : w.cell? ⟨2, 2, none⟩ = some (.int .i64 2) := HG.out.2.1.flag 2 (by decide)
  clear H1
  go_enter Tryd.func20, Tryd.ntmps20
  go_wp2_with fail
  have o1 := (HS.out.2.2.1 (bits .andNot .i64 a.fl 1)).2
  have h1 := (HS.out.2.2.1 (bits .andNot .i64 a.fl 1)).1
  have t1 := HG.out.2.1.only o1 (by intro k hk; simp at hk; rw [hk]; exact hg8)
  generalize w.setCell ⟨g, 2, none⟩ (.int .i64 (bits .andNot .i64 a.fl 1)) = w1 at *
  have cc1 : w1.cell? ⟨g, 2, none⟩ = some (.int .i64 (bits .andNot .i64 a.fl 1)) := h1.cell 2
  have ff1 := h1.free 2
  obtain ⟨f, hf⟩ : ∃ f : Int, f = 2 := ⟨_, rfl⟩
  obtain ⟨j, hj⟩ : ∃ j : Nat, j = 2 := ⟨_, rfl⟩
  have ct1 : w1.cell? ⟨2, j, none⟩ = some (.int .i64 f) := by rw [hj, hf]; exact t1.flag 2 (by decide)
  have q5 : IntKind.i64.wrap 2 = (j : Int) := by rw [hj]; decide
  have q3 : (j : Int) < 10 := by omega
  have q4 : j < 10 := by omega
  rw [← hf] at HE
  clear hj hf
  have HK := hide (And.intro o1 h1)
  generalize bits .andNot .i64 a.fl 1 = y at *
  clear o1 h1 t1 ct c0 c1 c2 f0 f1 f2
  as_aux_lemma =>
    go_wp2_with fail
    go_still_tail 11, (by kernel_rfl)
    change wpList _ _ _ _ _ w1.drew
    go_wp2_with fail
    go_ret
    rw [HE.out.1, HE.out.2]
    exact ⟨rfl, (HK.out.2.set 2 _).drew, (HK.out.1.setCell (by simp) _).drew⟩
set_option maxRecDepth 100000 in
set_option maxHeartbeats 4000000 in
theorem step_23 (g : Nat) (a : At) (ha : a.Wf) (b o c : Nat) (l : List Int) (w : World) (T : Tab w) (hg : Has w g 23 a.cells) (hl : ∀ j u, (ivals l)[j]? = some u → w.cell? ⟨b, o + j, none⟩ = some u) (h0 : 0 < l.length) (h : 23 ≤ l.getD 0 0 ∧ l.getD 0 0 ≤ 29) :
    Calls Tryd.prog 20 #[.pointer (some ⟨g, 0, none⟩), .slice (some ⟨b, o, none⟩) l.length c] w fun e w' => e = .returned (.int .i64 (usedA l : Nat)) ∧ Has w' g 23 (stepA a l).cells ∧ Only [g] w w' := by
  have HF := hide (numbered_any g a true b o c l w hg hl h0)
  have HB := hide (numbered_any g a false b o c l w hg hl h0)
  simp only [if_true, Bool.false_eq_true, if_false] at HF HB
  have cn := hl 0 _ (ivals_get l 0 h0)
  have h1 : l.getD 0 0 ≠ 38 → l.getD 0 0 ≠ 48 → stepA a l = oneA a (l.getD 0 0) ∧ usedA l = 1 := fun k1 k2 => stepA_one a rfl k1 k2
  have h2 : l.getD 0 0 = 38 → stepA a l = longA a true l ∧ usedA l = usedL l := fun h => by unfold stepA usedA; rw [if_pos h, if_pos (.inl h)]; exact ⟨rfl, rfl⟩
  have h3 : l.getD 0 0 = 48 → stepA a l = longA a false l ∧ usedA l = usedL l := fun h => by unfold stepA usedA; rw [if_neg (by omega), if_pos h, if_pos (.inr h)]; exact ⟨rfl, rfl⟩
  generalize stepA a l = S at *
  generalize usedA l = U at *
  generalize longA a true l = LF at *
  generalize longA a false l = LB at *
  generalize usedL l = V at *
  generalize l.getD 0 0 = n at *
  generalize l.length = m at *
  rw [Nat.add_zero] at cn
  have c0 : w.cell? ⟨g, 0, none⟩ = some (.int .i64 a.fg) := hg.cell 0
  have c1 : w.cell? ⟨g, 1, none⟩ = some (.int .i64 a.bg) := hg.cell 1
  have c2 : w.cell? ⟨g, 2, none⟩ = some (.int .i64 a.fl) := hg.cell 2
  have f0 := hg.free 0
  have f1 := hg.free 1
  have f2 := hg.free 2
  have H1 := hide (And.intro h1 (And.intro h2 h3))
  clear h1 h2 h3 hl
  have s0 : ∀ x, Has (w.setCell ⟨g, 0, none⟩ (.int .i64 x)) g 23 ({ a with fg := x } : At).cells ∧ Only [g] w (w.setCell ⟨g, 0, none⟩ (.int .i64 x)) := fun x => ⟨hg.set 0 _, (Only.refl _ w).setCell (by simp) _⟩
  have s1 : ∀ x, Has (w.setCell ⟨g, 1, none⟩ (.int .i64 x)) g 23 ({ a with bg := x } : At).cells ∧ Only [g] w (w.setCell ⟨g, 1, none⟩ (.int .i64 x)) := fun x => ⟨hg.set 1 _, (Only.refl _ w).setCell (by simp) _⟩
  have s2 : ∀ x, Has (w.setCell ⟨g, 2, none⟩ (.int .i64 x)) g 23 ({ a with fl := x } : At).cells ∧ Only [g] w (w.setCell ⟨g, 2, none⟩ (.int .i64 x)) := fun x => ⟨hg.set 2 _, (Only.refl _ w).setCell (by simp) _⟩
  have HS := hide (And.intro s0 (And.intro s1 (And.intro s2 (And.intro hg (Only.refl [g] w)))))
  clear s0 s1 s2
  have HG := hide (And.intro hg (And.intro T ha))
  clear hg T ha
  obtain ⟨k, rfl⟩ : ∃ k : Nat, n = (k : Int) + 20 := ⟨(n - 20).toNat, by omega⟩
  have HE := hide (H1.out.1 (by omega) (by omega))
  rw [oneA_23 a h] at HE
  have ct := HG.out.2.1.flag k (by omega)
  rw [show ((k : Int) + 20 - 20).toNat = k by omega] at HE
  generalize flagL.getD k 0 = f at *
  obtain ⟨hlo, hhi⟩ := h
  have q1 : 3 ≤ k := by omega
  have q2 : k ≤ 9 := by omega
  have q3 : (k : Int) < 10 := by omega
  have q4 : k < 10 := by omega
  have q5 : IntKind.i64.wrap (k : Int) = (k : Int) := by rw [IntKind.wrap_i64]; omega
  have q6 : (k : Int) + 20 - 20 = (k : Int) := by omega
  clear H1
  go_enter Tryd.func20, Tryd.ntmps20
  go_wp2_with fail
  go_still_tail 11, (by kernel_rfl)
  change wpList _ _ _ _ _ w.drew
  go_wp2_with fail
  go_ret
  rw [HE.out.1, HE.out.2]
  exact ⟨rfl, (HS.out.2.2.1 _).1.drew, (HS.out.2.2.1 _).2.drew⟩
end Go.Proofs.YtjfmebjjdiodbaaDoor
