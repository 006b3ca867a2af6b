/-
  Package ring, of numbers: Pop, Clear.
-/
import Derived.Test.YtakeoabeaopamaaRnL
import Derived.Deep.DeepCutAuto
namespace Go.Proofs.Ytakeoabeaopamaa
open Go Go.RowKit

/-- The last one taken away, its slot emptied. -/
theorem spot_pop {f n : Nat} {xs l : List Value} (x y : Value) (hl : l.length < n) (hf : f < n) (h : ∀ i u, (l ++ [y])[i]? = some u → xs[(f + i) % n]? = some u) :
    ∀ i u, l[i]? = some u → (xs.set ((f + l.length) % n) x)[(f + i) % n]? = some u := by
  intro i u hu
  have hi : i < l.length := (List.getElem?_eq_some_iff.1 hu).1
  have h1 := slot_at hf (i := i) (by omega)
  have h2 := slot_at hf (i := l.length) (by omega)
  rw [List.getElem?_set, if_neg (by rw [h1, h2]; split <;> split <;> omega)]
  exact h _ _ (by rw [List.getElem?_append_left hi]; exact hu)

set_option maxRecDepth 100000 in
set_option maxHeartbeats 4000000 in
theorem pop_none_ri {w : World} {B g M n c f k : Nat} {A : Option Addr} {xs : List Value} (h : Rg 48 3 w B g M n c A f xs [] k) :
    Calls Try.prog 11 #[.pointer (some ⟨g, 0, none⟩)] w fun e w' => e = .returned (.tuple #[(.int .i64 0 : Value), .bool false]) ∧ Only [] w w' := by
  have c3 : w.cell? ⟨g, 3, none⟩ = some (.int .i64 0) := h.box.cell 3
  clear h
  go_enter Try.func11, Try.ntmps11
  go_wp2_with fail
  go_ret2
  exact ⟨rfl, Only.refl _ _⟩

set_option maxRecDepth 100000 in
set_option maxHeartbeats 4000000 in
theorem pop_ri {w : World} {B g M n c f k : Nat} {A : Option Addr} {xs l : List Value} (y : Value) (h : Rg 48 3 w B g M n c A f xs (l ++ [y]) k) :
    Calls Try.prog 11 #[.pointer (some ⟨g, 0, none⟩)] w fun e w' => e = .returned (.tuple #[y, .bool true]) ∧ Rg 48 3 w' B g M n c A f (xs.set ((f + l.length) % n) (.int .i64 0)) l k ∧ Tn [g] w (.slice A n c) w' (.slice A n c) := by
  have hl : l.length < n := by have := h.cnt; simp at this; omega
  have hn : 0 < n := by omega
  have hf : f < n := by have := h.first; omega
  obtain ⟨b, rfl, hB, hlt, hfr, hc⟩ := own_open h.own hn
  have hbg : b ≠ g := fun e => own_ne h.own h.box (by decide) (by rw [e]; rfl)
  have hlen : (l ++ [y]).length = l.length + 1 := by simp
  have hbox := h.box
  rw [hlen] at hbox
  have c3 : w.cell? ⟨g, 3, none⟩ = some (.int .i64 ((l.length : Nat) + 1)) := hbox.cell 3
  have z3 := hbox.free 3
  have hn6 : n ≤ 65536 := by have := h.most; have := h.top; omega
  have hfn : f ≤ 65536 := by omega
  have hll : l.length ≤ 65536 := by omega
  have kw : IntKind.i64.wrap (((l.length : Int) + 1) - 1) = (l.length : Int) := by rw [IntWalk.i64_in _ ⟨by omega, by omega⟩]; omega
  have k0 : ¬ ((l.length : Int) + 1 = 0) := by omega
  have kq : (l.length : Int) + 1 - 1 = (l.length : Int) := by omega
  have hb1 := hbox.set 3 (.int .i64 (l.length : Nat))
  have hS1 : Only [g] w (w.setCell ⟨g, 3, none⟩ (.int .i64 (l.length : Nat))) := (Only.refl [g] w).setCell (p := ⟨g, 3, none⟩) (by simp) _
  have hne : ∀ b', (Value.slice (some ⟨b, 0, none⟩) n c).ownBlock = some b' → b' ∉ [g] := by
    intro b' hb'
    have : b = b' := by simpa [Value.ownBlock] using hb'
    subst this
    simp [hbg]
  have ho1 := own_keep h.own hS1 hne
  have hy := h.spot l.length y (by simp)
  have hsp := spot_pop (.int .i64 0) y hl hf h.spot
  have hs : (f + l.length) % n < n := Nat.mod_lt _ hn
  generalize hW1 : w.setCell ⟨g, 3, none⟩ (.int .i64 (l.length : Nat)) = W1 at *
  have g3 : W1.cell? ⟨g, 3, none⟩ = some (.int .i64 (l.length : Nat)) := hb1.cell 3
  have HSl := hide (slot_ri (w := W1) (g := g) (n := n) (c := c) (f := f) (A := some ⟨b, 0, none⟩) (hb1.cell 1) (hb1.cell 2) hfn hn6 l.length hll hn)
  generalize hsv : (f + l.length) % n = s at *
  have hW := hide hW1.symm
  have HH := hide (And.intro h (And.intro hbg (And.intro hsp (And.intro hl hs))))
  have HI := hide (And.intro hb1 (And.intro ho1 (And.intro hS1 hy)))
  clear h hB hlt hfr hc hbg hlen hbox hb1 ho1 hS1 hne hy hsp hs hW1 hsv hl
  go_enter Try.func11, Try.ntmps11
  go_upto_region 5 with fail
  rw [← hW.out]
  go_wp2_with fail
  refine (HSl.out).mono ?_
  rintro e w2 ⟨rfl, ho⟩
  obtain ⟨h, hbg, hsp, hl, hs⟩ := HH.out
  obtain ⟨hb1, ho1, hS1, hy⟩ := HI.out
  have hb2 := hb1.only ho (by simp)
  have ho2 := own_keep ho1 ho (by simp)
  obtain ⟨b', hb', _, _, hfr, hc⟩ := own_open ho2 (by omega)
  obtain rfl : b = b' := by injection hb' with hb'; injection hb'
  have d1 : w2.cell? ⟨g, 1, none⟩ = some (.slice (some ⟨b, 0, none⟩) n c) := hb2.cell 1
  have d2 := hc _ _ hy
  have d3 := hfr s
  have ks : (s : Int) < (n : Int) := by omega
  have hbx := hb2.other (p := ⟨b, s, none⟩) (fun e => hbg e.symm) (.int .i64 0)
  have hown := own_set ho2 s (.int .i64 0)
  have hO : Only [g, b] w (w2.setCell ⟨b, s, none⟩ (.int .i64 0)) := ((hS1.weak (T := [g, b]) (by simp)).trans ho (S := [g, b]) (by simp)).setCell (by simp) _
  have HF := hide (And.intro hbx (And.intro hown hO))
  clear h hbg hsp hl hs hb1 ho1 hS1 hy hb2 ho2 hfr hc hbx hown hO hb' HI ho
  go_wp2_with fail
  go_ret2
  obtain ⟨h, hbg, hsp, hl, hs⟩ := HH.out
  obtain ⟨hbx, hown, hO⟩ := HF.out
  exact ⟨rfl, ⟨hbx, hown, h.base, h.most, h.top, by omega, h.first, h.back, hsp⟩, ⟨hO, fun b h => .inl h⟩⟩

theorem pop_v {w : World} {B g M k : Nat} {v : Value} {l : List Value} (y : Value) (h : RgV_ri w B g M v (l ++ [y]) k) :
    Calls Try.prog 11 #[.pointer (some ⟨g, 0, none⟩)] w fun e w' => ∃ v', e = .returned (.tuple #[y, .bool true]) ∧ RgV_ri w' B g M v' l k ∧ Tn [g] w v w' v' := by
  obtain ⟨n, c, A, f, xs, rfl, h⟩ := h
  exact (pop_ri y h).mono fun _ _ ⟨he, hR, hT⟩ => ⟨_, he, ⟨_, _, _, _, _, rfl, hR⟩, hT⟩
theorem popNone_v {w : World} {B g M k : Nat} {v : Value} (h : RgV_ri w B g M v [] k) :
    Calls Try.prog 11 #[.pointer (some ⟨g, 0, none⟩)] w fun e w' => e = .returned (.tuple #[(.int .i64 0 : Value), .bool false]) ∧ Only [] w w' := by
  obtain ⟨n, c, A, f, xs, rfl, h⟩ := h
  exact pop_none_ri h
end Go.Proofs.Ytakeoabeaopamaa
