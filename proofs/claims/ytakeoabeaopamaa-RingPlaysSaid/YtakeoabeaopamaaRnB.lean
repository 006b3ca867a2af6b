/-
  Package ring, of numbers: slot, Len, Gone, At.
-/
import Derived.Test.YtakeoabeaopamaaRnA
import Derived.Test.YtakeoabeaopamaaLater
namespace Go.Proofs.Ytakeoabeaopamaa
open Go Go.RowKit

set_option maxRecDepth 100000 in
set_option maxHeartbeats 4000000 in
theorem slot_ri {w : World} {g n c f : Nat} {A : Option Addr} (c1 : w.cell? ⟨g, 1, none⟩ = some (.slice A n c)) (c2 : w.cell? ⟨g, 2, none⟩ = some (.int .i64 f)) (hf : f ≤ 65536) (hnt : n ≤ 65536) (i : Nat) (hi : i ≤ 65536) (hn : 0 < n) :
    Calls Try.prog 25 #[.pointer (some ⟨g, 0, none⟩), .int .i64 i] w fun e w' => e = .returned (.int .i64 ((f + i) % n : Nat)) ∧ Only [] w w' := by
  have k1 : IntKind.i64.wrap ((f : Int) + (i : Int)) = ((f + i : Nat) : Int) := by rw [IntWalk.i64_in _ ⟨by omega, by omega⟩]; omega
  have k2 : ¬ ((n : Int) = 0) := by omega
  have k3 : ((f + i : Nat) : Int).tmod (n : Int) = (((f + i) % n : Nat) : Int) := by rw [Int.tmod_eq_emod_of_nonneg (by omega)]; omega
  go_enter Try.func25, Try.ntmps25
  go_wp2_with fail
  go_region
  go_wp2_with fail
  go_ret
  exact ⟨by rw [← k3, Int.tmod_eq_emod_of_nonneg (by omega)]; simp, (Only.refl _ _).drew⟩

set_option maxHeartbeats 4000000 in
theorem len_ri {w : World} {B g M n c f k : Nat} {A : Option Addr} {xs l : List Value} (h : Rg 48 3 w B g M n c A f xs l k) :
    Calls Try.prog 16 #[.pointer (some ⟨g, 0, none⟩)] w fun e w' => e = .returned (.int .i64 (l.length : Nat)) ∧ Only [] w w' := by
  have c1 : w.cell? ⟨g, 3, none⟩ = some (.int .i64 (l.length : Nat)) := h.box.cell 3
  clear h
  go_enter Try.func16, Try.ntmps16
  go_wp2_with fail
  go_ret
  exact ⟨rfl, Only.refl _ _⟩

set_option maxHeartbeats 4000000 in
theorem gone_ri {w : World} {B g M n c f k : Nat} {A : Option Addr} {xs l : List Value} (h : Rg 48 3 w B g M n c A f xs l k) :
    Calls Try.prog 18 #[.pointer (some ⟨g, 0, none⟩)] w fun e w' => e = .returned (.int .i64 (k : Nat)) ∧ Only [] w w' := by
  have c1 : w.cell? ⟨g, 4, none⟩ = some (.int .i64 (k : Nat)) := h.box.cell 4
  clear h
  go_enter Try.func18, Try.ntmps18
  go_wp2_with fail
  go_ret
  exact ⟨rfl, Only.refl _ _⟩

set_option maxRecDepth 100000 in
set_option maxHeartbeats 4000000 in
theorem at_ri {w : World} {B g M n c f k : Nat} {A : Option Addr} {xs l : List Value} (h : Rg 48 3 w B g M n c A f xs l k) (i : Nat) (u : Value) (hi : l[i]? = some u) :
    Calls Try.prog 17 #[.pointer (some ⟨g, 0, none⟩), .int .i64 i] w fun e w' => e = .returned (.tuple #[u, .bool true]) ∧ Only [] w w' := by
  have hl : i < l.length := (List.getElem?_eq_some_iff.1 hi).1
  have hn : 0 < n := by have := h.cnt; omega
  obtain ⟨b, rfl, hB, hlt, hfr, hc⟩ := own_open h.own hn
  have hu := hc _ _ (h.spot i u hi)
  have c1 : w.cell? ⟨g, 1, none⟩ = some (.slice (some ⟨b, 0, none⟩) n c) := h.box.cell 1
  have c3 : w.cell? ⟨g, 3, none⟩ = some (.int .i64 (l.length : Nat)) := h.box.cell 3
  have hs : (f + i) % n < n := Nat.mod_lt _ hn
  have hi6 : i ≤ 65536 := by have := h.cnt; have := h.most; have := h.top; omega
  have c2 : w.cell? ⟨g, 2, none⟩ = some (.int .i64 f) := h.box.cell 2
  have hf : f ≤ 65536 := by have := h.first; have := h.most; have := h.top; omega
  have hnt : n ≤ 65536 := by have := h.most; have := h.top; omega
  have HS := hide (fun (x : Later w) => slot_ri (later_cell c1 x) (later_cell c2 x) hf hnt i hi6 hn)
  have hu := later_cell hu
  generalize hS : (f + i) % n = s at *
  have k1 : ¬ (i : Int) < 0 := by omega
  have k2 : ¬ ((i : Int) ≥ (l.length : Int)) := by omega
  have k3 : (s : Int) < (n : Int) := by omega
  have d1 := later_cell c1
  clear h hB hlt hfr hc hi hi6 c2 hf hnt
  go_enter Try.func17, Try.ntmps17
  go_wp2_with fail
  refine region_later (by kernel_rfl) (by kernel_rfl) ?_
  iterate 6 (go_big_quiet_step (fail))
  go_big_quiet_step ((go_at_call 25; refine later_of (HS.out _)))
  iterate 4 (go_big_quiet_step (fail))
  refine wpQuiet_nil ?_
  rintro _ ⟨X, rfl⟩
  go_wp2_with fail
  go_ret2
  exact ⟨rfl, X.only⟩

set_option maxRecDepth 100000 in
set_option maxHeartbeats 4000000 in
theorem none_ri {w : World} {B g M n c f k : Nat} {A : Option Addr} {xs l : List Value} (h : Rg 48 3 w B g M n c A f xs l k) (i : Int) (hi : i < 0 ∨ (l.length : Int) ≤ i) :
    Calls Try.prog 17 #[.pointer (some ⟨g, 0, none⟩), .int .i64 i] w fun e w' => e = .returned (.tuple #[(.int .i64 0 : Value), .bool false]) ∧ Only [] w w' := by
  have c3 : w.cell? ⟨g, 3, none⟩ = some (.int .i64 (l.length : Nat)) := h.box.cell 3
  clear h
  by_cases k1 : i < 0
  · go_enter Try.func17, Try.ntmps17
    go_wp2_with fail
    go_ret2
    exact ⟨rfl, Only.refl _ _⟩
  · have k2 : i ≥ (l.length : Int) := by omega
    go_enter Try.func17, Try.ntmps17
    go_wp2_with fail
    go_ret2
    exact ⟨rfl, Only.refl _ _⟩
end Go.Proofs.Ytakeoabeaopamaa
