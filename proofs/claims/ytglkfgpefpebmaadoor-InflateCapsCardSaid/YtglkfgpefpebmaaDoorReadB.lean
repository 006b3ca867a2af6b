import Derived.Test.YtglkfgpefpebmaaDoorReadA
namespace Go.Proofs.YtglkfgpefpebmaaDoor
open Go Go.RowKit

set_option maxHeartbeats 1000000 in
theorem peek_yes (g len c gb off : Nat) (l : List UInt8) (k n : Nat) (w : World) (h : Has w g 138 #[.slice (some ⟨gb, off, none⟩) len c, .int .i64 k])
    (hlen : l.length = len) (hl : len ≤ 140737488355328) (hc : len ≤ c)
    (hcell : ∀ i, (hi : i < l.length) → w.cell? ⟨gb, off + i, none⟩ = some (.int .u8 (l[i].toNat : Int)))
    (hn : n ≤ 32) (hk : k + n ≤ 8 * len) (hz : ¬ (k + n + 7) / 8 = k / 8) :
    Calls Tryd.prog 72 #[.pointer (some ⟨g, 0, none⟩), .int .i64 n] w fun e w' =>
      e = .returned (.tuple #[.int .u32 (bitsOf (num l) k n : Nat), .bool true]) ∧ ∃ m, w' = w.drewN m := by
  have c1 : w.cell? ⟨g, 1, none⟩ = some (.int .i64 (k : Int)) := h.cell 1
  have c0 : w.cell? ⟨g, 0, none⟩ = some (.slice (some ⟨gb, off, none⟩) len c) := h.cell 0
  have h3 : ¬ ((8 * len - k : Nat) : Int) < n := by omega
  clear h3
  go_enter Tryd.func72, Tryd.ntmps72
  go_wp2_with fail
  refine (left_any g len c _ k _ h hl (by omega)).mono ?_
  rintro e w' ⟨rfl, m, rfl⟩
  go_wp2
  go_quiet (fail)
  go_wp2
  go_loop [8, 9, 10, 45] (fun v _ _ i => ∃ j : Nat, j ≤ (k + n + 7) / 8 - k / 8 ∧ i = .int .i64 j ∧ v = .int .u64 (num ((l.drop (k / 8)).take j) : Nat)) (fun _ _ _ i => (k + n + 7) / 8 - k / 8 - (intOf i).toNat)
  case atStart => exact ⟨0, Nat.zero_le _, rfl, rfl⟩
  case round =>
    obtain ⟨j, hj, rfl, rfl⟩ := hrel
    by_cases hlt : j < (k + n + 7) / 8 - k / 8
    · have hce : w.cell? ⟨gb, off + k / 8 + j, none⟩ = some (.int .u8 ((l[k / 8 + j]'(by omega)).toNat : Int)) := by
        rw [Nat.add_assoc]; exact hcell _ (by omega)
      have hst := u64_byte (l.drop (k / 8)) j (by omega) (by rw [List.length_drop]; omega)
      rw [List.getElem_drop] at hst
      have Hst := hide hst
      clear hst
      go_wp2
      go_round
      case rel => exact ⟨j + 1, hlt, by go_num, by rw [Hst.out]⟩
      case measure => simp [intOf]; omega
    · obtain rfl : j = (k + n + 7) / 8 - k / 8 := by omega
      clear hlt
      have e7 : bits BinOp.and IntKind.i64 (k : Int) 7 = ((k % 8 : Nat) : Int) := by rw [i64_and7]; rfl
      have hb := num_lt ((l.drop (k / 8)).take ((k + n + 7) / 8 - k / 8))
      have hl5 : ((l.drop (k / 8)).take ((k + n + 7) / 8 - k / 8)).length ≤ 5 := by rw [List.length_take]; omega
      have hb5 : num ((l.drop (k / 8)).take ((k + n + 7) / 8 - k / 8)) < 1099511627776 :=
        Nat.lt_of_lt_of_le hb (by rw [pow_256]; exact pow_le40 (by omega))
      have hd := Nat.div_le_self (num ((l.drop (k / 8)).take ((k + n + 7) / 8 - k / 8))) (2 ^ (k % 8))
      obtain ⟨X, hX⟩ : ∃ X, X = bitsOf (num l) k n := ⟨_, rfl⟩
      have hlt : X < 4294967296 := by rw [hX]; exact bitsOf_lt32 _ _ _ hn
      have hcut : num ((l.drop (k / 8)).take ((k + n + 7) / 8 - k / 8)) / 2 ^ (k % 8) % 2 ^ n = X := by
        rw [hX]; exact bitsOf_cut l k n (k / 8) ((k + n + 7) / 8) rfl rfl
      have HX := hide hX
      clear hX
      generalize num ((l.drop (k / 8)).take ((k + n + 7) / 8 - k / 8)) = V at *
      have Hcut := hide hcut
      clear hcut hb hl5
      go_wp2_with fail
      refine (lowest_any _ (V / 2 ^ (k % 8)) n _ (by simp) (by omega) hn).mono ?_
      rintro e w' ⟨rfl, rfl⟩
      rw [Hcut.out]
      go_wp2
      go_ret2
      exact ⟨ret_int_bool (by rw [HX.out]) rfl, _, rfl⟩

set_option maxHeartbeats 1000000 in
theorem peek_zero (g len c : Nat) (A : Option Addr) (k : Nat) (w : World) (h : Has w g 138 #[.slice A len c, .int .i64 k])
    (hl : len ≤ 140737488355328) (hc : len ≤ c) (hA : A = none → c = 0) (hk : k ≤ 8 * len) (h8 : k % 8 = 0) :
    Calls Tryd.prog 72 #[.pointer (some ⟨g, 0, none⟩), .int .i64 0] w fun e w' =>
      e = .returned (.tuple #[.int .u32 0, .bool true]) ∧ ∃ m, w' = w.drewN m := by
  have c1 : w.cell? ⟨g, 1, none⟩ = some (.int .i64 (k : Int)) := h.cell 1
  have c0 : w.cell? ⟨g, 0, none⟩ = some (.slice A len c) := h.cell 0
  have hz : (k + 7) / 8 = k / 8 := by omega
  have e7 : bits BinOp.and IntKind.i64 (k : Int) 7 = 0 := by rw [i64_and7]; omega
  rcases A with _ | ad
  · obtain rfl := hA rfl
    obtain rfl : len = 0 := by omega
    obtain rfl : k = 0 := by omega
    clear hA e7
    have e7 : bits BinOp.and IntKind.i64 0 7 = 0 := i64_and7 0
    go_enter Tryd.func72, Tryd.ntmps72
    go_wp2_with fail
    refine (left_any g 0 0 none 0 _ h hl (by omega)).mono ?_
    rintro e w' ⟨rfl, m, rfl⟩
    go_wp2
    go_quiet (fail)
    go_wp2
    go_loop [8, 9, 10, 45] (fun v _ _ i => v = .int .u64 0 ∧ i = .int .i64 0) (fun _ _ _ _ => 0)
    case atStart => exact ⟨rfl, rfl⟩
    case round =>
      obtain ⟨rfl, rfl⟩ := hrel
      go_wp2_with fail
      refine (lowest_any _ 0 0 _ (by simp) (by omega) (by omega)).mono ?_
      rintro e w' ⟨rfl, rfl⟩
      go_wp2
      go_ret2
      exact ⟨rfl, _, rfl⟩
  · clear hA
    go_enter Tryd.func72, Tryd.ntmps72
    go_wp2_with fail
    refine (left_any g len c (some ad) k _ h hl (by omega)).mono ?_
    rintro e w' ⟨rfl, m, rfl⟩
    go_wp2
    go_quiet (fail)
    go_wp2
    go_loop [8, 9, 10, 45] (fun v _ _ i => v = .int .u64 0 ∧ i = .int .i64 0) (fun _ _ _ _ => 0)
    case atStart => exact ⟨rfl, rfl⟩
    case round =>
      obtain ⟨rfl, rfl⟩ := hrel
      go_wp2_with fail
      refine (lowest_any _ 0 0 _ (by simp) (by omega) (by omega)).mono ?_
      rintro e w' ⟨rfl, rfl⟩
      go_wp2
      go_ret2
      exact ⟨rfl, _, rfl⟩
end Go.Proofs.YtglkfgpefpebmaaDoor
