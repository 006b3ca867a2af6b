/-
  Contracts of package base64: what waits, and one sign more.
-/
import Derived.Test.YtibbaeelgihmgaaDoorB64A
namespace Go.Proofs.YtibbaeelgihmgaaDoor
open Go Go.RowKit

def St.cells (s : St) : Array Value := #[.int .u32 (V s.cs : Nat), .int .i64 (s.cs.length : Nat), .int .i64 (s.fl : Nat), .bool s.shut, .bool s.bad]
/-- Block g is a base64.Decoder in this state. -/
def De (w : World) (g : Nat) (s : St) : Prop := Has w g 48 s.cells

theorem V_lt4 {cs : List UInt8} (h : ∀ c ∈ cs, six c.toNat < 64) (hl : cs.length ≤ 4) : V cs < 16777216 := by
  have := V_lt cs h
  have h2 : 64 ^ cs.length ≤ 64 ^ 4 := Nat.pow_le_pow_right (by omega) hl
  omega
theorem V_lt3 {cs : List UInt8} (h : ∀ c ∈ cs, six c.toNat < 64) (hl : cs.length ≤ 3) : V cs < 262144 := by
  have := V_lt cs h
  have h2 : 64 ^ cs.length ≤ 64 ^ 3 := Nat.pow_le_pow_right (by omega) hl
  omega

theorem beyond_any (g : Nat) (s : St) (w : World) (h : De w g s) (h6 : ∀ c ∈ s.cs, six c.toNat < 64) (hl : s.cs.length ≤ 4) :
    Calls Tryd.prog 21 #[.pointer (some ⟨g, 0, none⟩)] w fun e w' => e = .returned (.int .u32 (beyond s.cs : Nat)) ∧ ∃ m, w' = w.drewN m := by
  have c0 : w.cell? ⟨g, 0, none⟩ = some (.int .u32 (V s.cs : Nat)) := h.cell 0
  have c1 : w.cell? ⟨g, 1, none⟩ = some (.int .i64 (s.cs.length : Nat)) := h.cell 1
  have hv := V_lt4 h6 hl
  unfold beyond
  clear h h6
  generalize V s.cs = v at *
  generalize s.cs.length = n at *
  have e := u32_low' v (6 * n % 8) (by omega) (by omega)
  have He := hide e
  clear e
  go_enter Tryd.func21, Tryd.ntmps21
  go_wp2
  go_quiet (fail)
  go_wp2
  go_ret
  refine ⟨ret_int ?_, _, rfl⟩
  exact He.out

theorem held_any (g : Nat) (s : St) (w : World) (h : De w g s) (hl : s.cs.length ≤ 4) (hf : s.fl ≤ 4) :
    Calls Tryd.prog 15 #[.pointer (some ⟨g, 0, none⟩)] w fun e w' => e = .returned (.int .i64 (s.held : Nat)) ∧ ∃ m, w' = w.drewN m := by
  have c1 : w.cell? ⟨g, 1, none⟩ = some (.int .i64 (s.cs.length : Nat)) := h.cell 1
  have c2 : w.cell? ⟨g, 2, none⟩ = some (.int .i64 (s.fl : Nat)) := h.cell 2
  unfold St.held
  clear h
  generalize s.cs.length = n at *
  generalize s.fl = f at *
  go_enter Tryd.func15, Tryd.ntmps15
  go_wp2
  go_quiet (fail)
  go_wp2
  go_ret
  exact ⟨ret_int (by omega), _, rfl⟩

theorem newDecoder_any (w : World) : Calls Tryd.prog 9 #[] w fun e w' => ∃ g, e = .returned (.pointer (some ⟨g, 0, none⟩)) ∧ w.heap.size ≤ g ∧ De w' g St.new ∧ Only [] w w' := by
  go_enter Tryd.func9, Tryd.ntmps9
  go_wp2
  go_ret
  exact ⟨_, rfl, Nat.le_refl _, Has.new w _ _, (Only.refl [] w).alloc _⟩

/-- A whole decoder stored anew, cell by cell. -/
theorem De.store {w : World} {g : Nat} {s : St} (h : De w g s) (t : St) :
    De (((((w.setCell ⟨g, 0, none⟩ (.int .u32 (V t.cs : Nat))).setCell ⟨g, 1, none⟩ (.int .i64 (t.cs.length : Nat))).setCell ⟨g, 2, none⟩ (.int .i64 (t.fl : Nat))).setCell ⟨g, 3, none⟩ (.bool t.shut)).setCell ⟨g, 4, none⟩ (.bool t.bad)) g t :=
  ((((Has.set h 0 _).set 1 _).set 2 _).set 3 _).set 4 _
theorem De.store_only (w : World) (g : Nat) (a b c d e : Value) :
    Only [g] w (((((w.setCell ⟨g, 0, none⟩ a).setCell ⟨g, 1, none⟩ b).setCell ⟨g, 2, none⟩ c).setCell ⟨g, 3, none⟩ d).setCell ⟨g, 4, none⟩ e) :=
  (((((Only.refl [g] w).setCell (by simp) _).setCell (by simp) _).setCell (by simp) _).setCell (by simp) _).setCell (by simp) _
theorem De.facts {w : World} {g : Nat} {s : St} (h : De w g s) : (w.cell? ⟨g, 0, none⟩ = some (.int .u32 (V s.cs : Nat)) ∧ w.cell? ⟨g, 1, none⟩ = some (.int .i64 (s.cs.length : Nat)) ∧ w.cell? ⟨g, 2, none⟩ = some (.int .i64 (s.fl : Nat)) ∧ w.cell? ⟨g, 3, none⟩ = some (.bool s.shut) ∧ w.cell? ⟨g, 4, none⟩ = some (.bool s.bad)) ∧
    (w.frozen? ⟨g, 0, none⟩ = false ∧ w.frozen? ⟨g, 1, none⟩ = false ∧ w.frozen? ⟨g, 2, none⟩ = false ∧ w.frozen? ⟨g, 3, none⟩ = false ∧ w.frozen? ⟨g, 4, none⟩ = false) :=
  ⟨⟨h.cell 0, h.cell 1, h.cell 2, h.cell 3, h.cell 4⟩, h.free 0, h.free 1, h.free 2, h.free 3, h.free 4⟩

theorem reset_any (g : Nat) (s : St) (w : World) (h : De w g s) :
    Calls Tryd.prog 12 #[.pointer (some ⟨g, 0, none⟩)] w fun e w' => e = .returned (.tuple #[]) ∧ De w' g St.new ∧ Only [g] w w' := by
  have H := hide h
  obtain ⟨⟨c0, c1, c2, c3, c4⟩, f0, f1, f2, f3, f4⟩ := h.facts
  clear h
  generalize V s.cs = x0 at *
  generalize s.cs.length = x1 at *
  generalize s.fl = x2 at *
  generalize s.shut = x3 at *
  generalize s.bad = x4 at *
  go_enter Tryd.func12, Tryd.ntmps12
  go_wp2
  go_end0
  exact ⟨rfl, H.out.store St.new, De.store_only _ _ _ _ _ _ _⟩

theorem fail_any (g : Nat) (s : St) (w : World) (h : De w g s) :
    Calls Tryd.prog 22 #[.pointer (some ⟨g, 0, none⟩)] w fun e w' => e = .returned (.tuple #[.slice none 0 0, .int .i64 3]) ∧ De w' g St.wrong ∧ Only [g] w w' := by
  have H := hide h
  obtain ⟨⟨c0, c1, c2, c3, c4⟩, f0, f1, f2, f3, f4⟩ := h.facts
  clear h
  generalize V s.cs = x0 at *
  generalize s.cs.length = x1 at *
  generalize s.fl = x2 at *
  generalize s.shut = x3 at *
  generalize s.bad = x4 at *
  go_enter Tryd.func22, Tryd.ntmps22
  go_wp2
  go_ret2
  exact ⟨rfl, H.out.store St.wrong, De.store_only _ _ _ _ _ _ _⟩

theorem beyond_o (g : Nat) (s : St) (w : World) (h : De w g s) (h6 : ∀ c ∈ s.cs, six c.toNat < 64) (hl : s.cs.length ≤ 4) (x : Nat) (hx : beyond s.cs = x) :
    Calls Tryd.prog 21 #[.pointer (some ⟨g, 0, none⟩)] w fun e w' => e = .returned (.int .u32 (x : Nat)) ∧ De w' g s ∧ Only [g] w w' := by
  subst hx
  refine (beyond_any g s w h h6 hl).mono ?_
  rintro e w' ⟨rfl, m, rfl⟩
  exact ⟨rfl, h.drewN m, (Only.refl _ _).drewN m⟩

theorem fill_no (g : Nat) (s : St) (w : World) (h : De w g s) (h6 : ∀ c ∈ s.cs, six c.toNat < 64) (hl : s.cs.length ≤ 4) (hn : s.cs.length < 2 ∨ beyond s.cs ≠ 0) :
    Calls Tryd.prog 30 #[.pointer (some ⟨g, 0, none⟩)] w fun e w' => e = .returned (.bool false) ∧ De w' g s ∧ Only [g] w w' := by
  have H := hide h
  obtain ⟨⟨c0, c1, c2, c3, c4⟩, f0, f1, f2, f3, f4⟩ := h.facts
  have hb := hide (beyond_o g s w h h6 hl _ rfl)
  clear h h6 c0 c2 c3 c4 f0 f1 f2 f3 f4
  by_cases h2 : s.cs.length < 2
  · clear hn hb
    generalize s.cs.length = x1 at *
    go_enter Tryd.func30, Tryd.ntmps30
    go_wp2
    go_ret
    exact ⟨rfl, H.out, Only.refl _ _⟩
  · have hx : ¬ ((beyond s.cs : Nat) : Int) = 0 := by omega
    have hd : decide (s.cs.length < 2) = false := by simpa using h2
    have hxb : (((beyond s.cs : Nat) : Int) != 0) = true := by simpa using hx
    clear hn hx
    generalize beyond s.cs = x at *
    generalize s.cs.length = x1 at *
    go_enter Tryd.func30, Tryd.ntmps30
    go_wp2_with fail
    refine (hb.out).mono ?_
    rintro e w1 ⟨rfl, h1, ho1⟩
    have H1 := hide (And.intro h1 ho1)
    clear h1 ho1
    go_wp2_with fail
    go_ret
    exact ⟨rfl, H1.out.1, H1.out.2⟩

theorem fill_yes (g : Nat) (s : St) (w : World) (h : De w g s) (h6 : ∀ c ∈ s.cs, six c.toNat < 64) (hl : s.cs.length ≤ 4) (hf : s.fl ≤ 4) (h2 : ¬ s.cs.length < 2) (hx : beyond s.cs = 0) :
    Calls Tryd.prog 30 #[.pointer (some ⟨g, 0, none⟩)] w fun e w' => e = .returned (.bool true) ∧ De w' g { s with fl := s.fl + 1 } ∧ Only [g] w w' := by
  obtain ⟨⟨c0, c1, c2, c3, c4⟩, f0, f1, f2, f3, f4⟩ := h.facts
  have hb := hide (beyond_o g s w h h6 hl _ hx)
  clear h h6 c0 c2 c3 c4 f0 f1 f2 f3 f4
  have hd : decide (s.cs.length < 2) = false := by simpa using h2
  have hs : ∀ w, De w g s → De (w.setCell ⟨g, 2, none⟩ (.int .i64 ((s.fl : Nat) + 1))) g { s with fl := s.fl + 1 } := fun w h => Has.set h 2 _
  have HS := hide hs
  have hc : ∀ w, De w g s → w.cell? ⟨g, 2, none⟩ = some (.int .i64 (s.fl : Nat)) ∧ w.frozen? ⟨g, 2, none⟩ = false := fun w h => ⟨h.cell 2, h.free 2⟩
  have HC := hide hc
  clear hs hc hx
  generalize s.cs.length = x1 at *
  generalize s.fl = x2 at *
  go_enter Tryd.func30, Tryd.ntmps30
  go_wp2_with fail
  refine (hb.out).mono ?_
  rintro e w1 ⟨rfl, h1, ho1⟩
  obtain ⟨k1, k2⟩ := HC.out w1 h1
  have H1 := hide (And.intro h1 ho1)
  clear h1 ho1
  go_wp2_with fail
  go_ret
  exact ⟨rfl, HS.out _ H1.out.1, H1.out.2.setCell (by simp) _⟩
end Go.Proofs.YtibbaeelgihmgaaDoor
