import Derived.Test.YtglkfgpefpebmaaDoorProg
import Derived.Test.YtglkfgpefpebmaaDoorMem
import Derived.Test.YtglkfgpefpebmaaDoorInt
import Derived.Deep.QuietTactic
import Derived.BigQuiet
namespace Go.Proofs.YtglkfgpefpebmaaDoor
open Go Go.RowKit

set_option maxHeartbeats 400000 in
theorem lowest_any (v : Int) (V n : Nat) (w : World) (hV : v = V) (hv : V < 18446744073709551616) (hn : n ≤ 32) :
    Calls Tryd.prog 45 #[.int .u64 v, .int .i64 n] w fun e w' => e = .returned (.int .u64 ((V % 2 ^ n : Nat) : Int)) ∧ w = w' := by
  subst hV
  go_enter Tryd.func45, Tryd.ntmps45
  go_wp2
  go_ret
  exact ⟨ret_int (u64_low V n hv hn), rfl⟩

set_option maxHeartbeats 400000 in
theorem at_any (g : Nat) (v : Value) (k : Int) (w : World) (h : Has w g 138 #[v, .int .i64 k]) :
    Calls Tryd.prog 64 #[.pointer (some ⟨g, 0, none⟩)] w fun e w' => e = .returned (.int .i64 k) ∧ w = w' := by
  have c1 : w.cell? ⟨g, 1, none⟩ = some (.int .i64 k) := h.cell 1
  have c0 : w.cell? ⟨g, 0, none⟩ = some v := h.cell 0
  clear h
  go_enter Tryd.func64, Tryd.ntmps64
  go_wp2
  go_ret
  exact ⟨rfl, rfl⟩

set_option maxHeartbeats 400000 in
theorem left_any (g n c : Nat) (A : Option Addr) (k : Nat) (w : World) (h : Has w g 138 #[.slice A n c, .int .i64 k]) (hn : n ≤ 140737488355328) (hk : k ≤ 8 * n) :
    Calls Tryd.prog 77 #[.pointer (some ⟨g, 0, none⟩)] w fun e w' => e = .returned (.int .i64 ((8 * n - k : Nat) : Int)) ∧ ∃ m, w' = w.drewN m := by
  have c1 : w.cell? ⟨g, 1, none⟩ = some (.int .i64 (k : Int)) := h.cell 1
  have c0 : w.cell? ⟨g, 0, none⟩ = some (.slice A n c) := h.cell 0
  clear h
  go_enter Tryd.func77, Tryd.ntmps77
  go_wp2
  go_quiet (fail)
  go_wp2
  go_ret
  exact ⟨ret_int (by omega), _, rfl⟩

set_option maxHeartbeats 400000 in
/-- Peek, where it answers no. -/
theorem peek_no (g len c : Nat) (A : Option Addr) (k : Nat) (n : Int) (w : World) (h : Has w g 138 #[.slice A len c, .int .i64 k]) (hl : len ≤ 140737488355328) (hk : k ≤ 8 * len)
    (hn : n < 0 ∨ 32 < n ∨ (8 * len - k : Nat) < n) :
    Calls Tryd.prog 72 #[.pointer (some ⟨g, 0, none⟩), .int .i64 n] w fun e w' => e = .returned (.tuple #[.int .u32 0, .bool false]) ∧ ∃ m, w' = w.drewN m := by
  by_cases h1 : n < 0
  · go_enter Tryd.func72, Tryd.ntmps72
    go_wp2
    go_ret2
    exact ⟨rfl, 0, rfl⟩
  · by_cases h2 : 32 < n
    · go_enter Tryd.func72, Tryd.ntmps72
      go_wp2
      go_ret2
      exact ⟨rfl, 0, rfl⟩
    · have h3 : ((8 * len - k : Nat) : Int) < n := by omega
      go_enter Tryd.func72, Tryd.ntmps72
      go_wp2_with fail
      refine (left_any g len c A k _ h hl hk).mono ?_
      rintro e w' ⟨rfl, m, rfl⟩
      go_wp2
      go_ret2
      exact ⟨rfl, m, rfl⟩
end Go.Proofs.YtglkfgpefpebmaaDoor
