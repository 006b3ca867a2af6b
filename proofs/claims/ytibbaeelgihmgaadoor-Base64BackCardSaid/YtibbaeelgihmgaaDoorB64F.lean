/-
  Contracts of package base64: End.
-/
import Derived.Test.YtibbaeelgihmgaaDoorB64E
namespace Go.Proofs.YtibbaeelgihmgaaDoor
open Go Go.RowKit

theorem fail_o (g : Nat) (s : St) (w : World) (h : De w g s) :
    Calls Tryd.prog 22 #[.pointer (some ⟨g, 0, none⟩)] w (Wrote g ([], 3, St.wrong) w) :=
  (fail_any g s w h).mono fun _ _ ⟨he, h1, h2⟩ => ⟨_, he, World.ownsRow_nil _ _ _ _, h1, h2⟩

set_option maxHeartbeats 2000000 in
theorem end_any (g : Nat) (s : St) (w : World) (h : De w g s) (hs : s.Ok) :
    Calls Tryd.prog 10 #[.pointer (some ⟨g, 0, none⟩)] w (Wrote g s.fin w) := by
  obtain ⟨⟨c0, c1, c2, c3, c4⟩, f0, f1, f2, f3, f4⟩ := h.facts
  have hfew := hs.few
  have HB := hide (beyond_o g s w h hs.six (by omega) _ rfl)
  have HFL := hide (fun w' (h : De w' g s) => fail_any g s w' h)
  by_cases hy : s.bad = true ∨ s.cs.length = 1 ∨ 0 < s.fl ∨ beyond s.cs ≠ 0
  · have hf : s.fin = ([], 3, St.wrong) := by unfold St.fin; rw [if_pos hy]
    rw [hf]
    clear hf c0 c3 f0 f1 f2 f3 f4
    have H := hide h
    clear h hs
    by_cases hbad : s.bad = true
    · rw [hbad] at c4
      clear hbad hy c1 c2
      go_enter Tryd.func10, Tryd.ntmps10
      go_wp2_with fail
      refine (HFL.out w H.out).mono ?_
      rintro e w1 ⟨rfl, h1, ho1⟩
      have H1 := hide (And.intro h1 ho1)
      clear h1 ho1
      go_wp2_with fail
      go_ret2
      exact ⟨_, rfl, World.ownsRow_nil _ _ _ _, H1.out.1, H1.out.2⟩
    have hbad : s.bad = false := by simpa using hbad
    rw [hbad] at c4
    by_cases h1 : s.cs.length = 1
    · rw [h1] at c1
      clear hbad hy h1 c2 hfew
      go_enter Tryd.func10, Tryd.ntmps10
      go_wp2_with fail
      refine (HFL.out w H.out).mono ?_
      rintro e w1 ⟨rfl, h1, ho1⟩
      have H1 := hide (And.intro h1 ho1)
      clear h1 ho1
      go_wp2_with fail
      go_ret2
      exact ⟨_, rfl, World.ownsRow_nil _ _ _ _, H1.out.1, H1.out.2⟩
    have hn1 : ((s.cs.length : Int) == 1) = false := by simp; omega
    by_cases h2 : 0 < s.fl
    · have hd : decide (0 < s.fl) = true := by simpa using h2
      clear hbad hy h1 h2
      generalize s.fl = f at *
      generalize s.cs.length = n at *
      go_enter Tryd.func10, Tryd.ntmps10
      go_wp2_with fail
      refine (HFL.out w H.out).mono ?_
      rintro e w1 ⟨rfl, h1, ho1⟩
      have H1 := hide (And.intro h1 ho1)
      clear h1 ho1
      go_wp2_with fail
      go_ret2
      exact ⟨_, rfl, World.ownsRow_nil _ _ _ _, H1.out.1, H1.out.2⟩
    · have h2' : s.fl = 0 := by omega
      rw [h2'] at c2
      have hx : (((beyond s.cs : Nat) : Int) != 0) = true := by
        have : beyond s.cs ≠ 0 := by
          rcases hy with h | h | h | h
          · rw [hbad] at h; cases h
          · omega
          · omega
          · exact h
        simp; exact this
      clear hbad hy h1 h2 h2'
      generalize beyond s.cs = x at *
      generalize s.cs.length = n at *
      go_enter Tryd.func10, Tryd.ntmps10
      go_wp2_with fail
      refine (HB.out).mono ?_
      rintro e w1 ⟨rfl, h1, ho1⟩
      have H1 := hide (And.intro h1 ho1)
      clear h1 ho1
      go_wp2_with fail
      refine (HFL.out w1 H1.out.1).mono ?_
      rintro e w2 ⟨rfl, h1, ho1⟩
      have H2 := hide (And.intro h1 ho1)
      clear h1 ho1
      go_wp2_with fail
      go_ret2
      exact ⟨_, rfl, World.ownsRow_nil _ _ _ _, H2.out.1, H1.out.2.trans H2.out.2 (by simp)⟩
  · have hf : s.fin = (outOf s.cs, 0, St.new) := by unfold St.fin; rw [if_neg hy]
    rw [hf]
    have hbad : s.bad = false := by
      cases hb : s.bad with
      | true => exact absurd (.inl hb) hy
      | false => rfl
    have hn1 : ((s.cs.length : Int) == 1) = false := by simp; omega
    have h2' : s.fl = 0 := by omega
    have h3' : beyond s.cs = 0 := by omega
    rw [hbad] at c4
    rw [h2'] at c2
    rw [h3'] at HB
    have HP := hide (fun w' (h : De w' g s) B (hB : B ≤ w'.heap.size) => pour_any g s (.slice none 0 0) [] w' h hs.six (by omega) B hB (World.ownsRow_nil _ _ _ _) (by simp))
    have HR := hide (fun s w' (h : De w' g s) => reset_any g s w' h)
    have H := hide h
    clear h hs hf hy hbad h2' h3' c0 c3 f0 f1 f2 f3 f4
    generalize s.cs.length = n at *
    go_enter Tryd.func10, Tryd.ntmps10
    go_wp2_with fail
    refine (HB.out).mono ?_
    rintro e w1 ⟨rfl, h1, ho1⟩
    have H1 := hide (And.intro h1 ho1)
    clear h1 ho1
    go_wp2_with fail
    refine (HP.out w1 H1.out.1 w.heap.size H1.out.2.size).mono ?_
    rintro e w2 ⟨v2, rfl, ho2, hd2, hs2⟩
    have H2 := hide (And.intro ho2 (And.intro hd2 hs2))
    clear ho2 hd2 hs2
    go_wp2_with fail
    refine (HR.out _ w2 H2.out.2.1).mono ?_
    rintro e w3 ⟨rfl, h3, ho3⟩
    have H3 := hide (And.intro h3 ho3)
    clear h3 ho3
    go_wp2_with fail
    go_ret2
    have hg := H.out.lt
    refine ⟨_, rfl, ?_, H3.out.1, (H1.out.2.trans H2.out.2.2.only (by intro i hi _; simpa [Value.ownBlock] using hi)).trans H3.out.2 (by simp)⟩
    refine own_keep H2.out.1 H3.out.2 (fun b hb => ?_)
    have := H2.out.1.lt b hb
    simp; omega
end Go.Proofs.YtibbaeelgihmgaaDoor
