/-
  Package attr: one parameter with what belongs to it: none.
-/
import Derived.Test.YtjfmebjjdiodbaaDoorAtB
import Derived.Test.YtjfmebjjdiodbaaDoorAtN
namespace Go.Proofs.YtjfmebjjdiodbaaDoor
open Go Go.RowKit

set_option maxRecDepth 100000 in
set_option maxHeartbeats 4000000 in
theorem step_no (g : Nat) (a : At) (ha : a.Wf) (b o c : Nat) (l : List Int) (w : World) (T : Tab w) (hg : Has w g 23 a.cells) (hl : ∀ j u, (ivals l)[j]? = some u → w.cell? ⟨b, o + j, none⟩ = some u) (h0 : 0 < l.length) (h : l.getD 0 0 < 0 ∨ (10 ≤ l.getD 0 0 ∧ l.getD 0 0 ≤ 21) ∨ (50 ≤ l.getD 0 0 ∧ l.getD 0 0 ≤ 89) ∨ (98 ≤ l.getD 0 0 ∧ l.getD 0 0 ≤ 99) ∨ 108 ≤ l.getD 0 0) :
    Calls Tryd.prog 20 #[.pointer (some ⟨g, 0, none⟩), .slice (some ⟨b, o, none⟩) l.length c] w fun e w' => e = .returned (.int .i64 (usedA l : Nat)) ∧ Has w' g 23 (stepA a l).cells ∧ Only [g] w w' := by
  have HF := hide (numbered_any g a true b o c l w hg hl h0)
  have HB := hide (numbered_any g a false b o c l w hg hl h0)
  simp only [if_true, Bool.false_eq_true, if_false] at HF HB
  have cn := hl 0 _ (ivals_get l 0 h0)
  have h1 : l.getD 0 0 ≠ 38 → l.getD 0 0 ≠ 48 → stepA a l = oneA a (l.getD 0 0) ∧ usedA l = 1 := fun k1 k2 => stepA_one a rfl k1 k2
  have h2 : l.getD 0 0 = 38 → stepA a l = longA a true l ∧ usedA l = usedL l := fun h => by unfold stepA usedA; rw [if_pos h, if_pos (.inl h)]; exact ⟨rfl, rfl⟩
  have h3 : l.getD 0 0 = 48 → stepA a l = longA a false l ∧ usedA l = usedL l := fun h => by unfold stepA usedA; rw [if_neg (by omega), if_pos h, if_pos (.inr h)]; exact ⟨rfl, rfl⟩
  generalize stepA a l = S at *
  generalize usedA l = U at *
  generalize longA a true l = LF at *
  generalize longA a false l = LB at *
  generalize usedL l = V at *
  generalize l.getD 0 0 = n at *
  generalize l.length = m at *
  rw [Nat.add_zero] at cn
  have c0 : w.cell? ⟨g, 0, none⟩ = some (.int .i64 a.fg) := hg.cell 0
  have c1 : w.cell? ⟨g, 1, none⟩ = some (.int .i64 a.bg) := hg.cell 1
  have c2 : w.cell? ⟨g, 2, none⟩ = some (.int .i64 a.fl) := hg.cell 2
  have f0 := hg.free 0
  have f1 := hg.free 1
  have f2 := hg.free 2
  have H1 := hide (And.intro h1 (And.intro h2 h3))
  clear h1 h2 h3 hl
  have s0 : ∀ x, Has (w.setCell ⟨g, 0, none⟩ (.int .i64 x)) g 23 ({ a with fg := x } : At).cells ∧ Only [g] w (w.setCell ⟨g, 0, none⟩ (.int .i64 x)) := fun x => ⟨hg.set 0 _, (Only.refl _ w).setCell (by simp) _⟩
  have s1 : ∀ x, Has (w.setCell ⟨g, 1, none⟩ (.int .i64 x)) g 23 ({ a with bg := x } : At).cells ∧ Only [g] w (w.setCell ⟨g, 1, none⟩ (.int .i64 x)) := fun x => ⟨hg.set 1 _, (Only.refl _ w).setCell (by simp) _⟩
  have s2 : ∀ x, Has (w.setCell ⟨g, 2, none⟩ (.int .i64 x)) g 23 ({ a with fl := x } : At).cells ∧ Only [g] w (w.setCell ⟨g, 2, none⟩ (.int .i64 x)) := fun x => ⟨hg.set 2 _, (Only.refl _ w).setCell (by simp) _⟩
  have HS := hide (And.intro s0 (And.intro s1 (And.intro s2 (And.intro hg (Only.refl [g] w)))))
  clear s0 s1 s2
  have HG := hide (And.intro hg (And.intro T ha))
  clear hg T ha
  have HE := hide (H1.out.1 (by omega) (by omega))
  rw [oneA_no a h] at HE
  clear H1
  rcases h with h | ⟨h, h'⟩ | ⟨h, h'⟩ | ⟨h, h'⟩ | h
  all_goals
    go_enter Tryd.func20, Tryd.ntmps20
    go_wp2_with fail
    go_ret
    rw [HE.out.1, HE.out.2]
    exact ⟨rfl, HS.out.2.2.2⟩

end Go.Proofs.YtjfmebjjdiodbaaDoor
