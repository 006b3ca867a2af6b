/-
  Rows of one byte, repeated.
-/
import Derived.Test.YtglkfgpefpebmaaDoorHufG
import Derived.Deep.RegionLaw
import Derived.Deep.OwnRows
import Derived.Laws.CopyRow
import Derived.Laws.IdiomCopy
import Derived.Lib.AppendZerosOnto
namespace Go.Proofs.YtglkfgpefpebmaaDoor
open Go Go.RowKit

/-- The numbers of times that package huff repeats by. -/
def Times (N : Nat) : Prop := N = 144 ∨ N = 112 ∨ N = 24 ∨ N = 8 ∨ N = 30
theorem Times.le {N : Nat} (h : Times N) : 1 ≤ N ∧ N ≤ 144 := by unfold Times at h; omega

set_option maxRecDepth 100000 in
theorem mul64_any (N : Nat) (hN : Times N) (w : World) : Calls Tryd.prog 75 #[.int .u64 1, .int .u64 N] w fun e w' => e = .returned (.tuple #[.int .u64 0, .int .u64 N]) ∧ w = w' := by
  rcases hN with rfl | rfl | rfl | rfl | rfl
  all_goals
    go_enter Tryd.func75, Tryd.ntmps75
    go_wp2_with fail
    go_ret2
    exact ⟨rfl, rfl⟩

set_option maxRecDepth 100000 in
theorem mulU_any (N : Nat) (hN : Times N) (w : World) : Calls Tryd.prog 68 #[.int .u64 1, .int .u64 N] w fun e w' => e = .returned (.tuple #[.int .u64 0, .int .u64 N]) ∧ w = w' := by
  have HM := hide (mul64_any N hN w)
  go_enter Tryd.func68, Tryd.ntmps68
  go_wp2_with fail
  refine (HM.out).mono ?_
  rintro e w1 ⟨rfl, rfl⟩
  go_wp2_with fail
  go_ret2
  exact ⟨rfl, rfl⟩

/-- n bytes v, and none beyond them. -/
def rep (v : UInt8) (n N : Nat) : List UInt8 := List.replicate n v ++ List.replicate (N - n) 0
theorem rep_length (v : UInt8) {n N : Nat} (h : n ≤ N) : (rep v n N).length = N := by simp [rep]; omega
theorem rep_full (v : UInt8) (N : Nat) : rep v N N = List.replicate N v := by simp [rep]
theorem rep_step (v : UInt8) {n m N : Nat} (h : n + m ≤ N) : (bvals (rep v n N)).take n ++ bvals (List.replicate m v) ++ (bvals (rep v n N)).drop (n + m) = bvals (rep v (n + m) N) := by
  rw [← bvals_take, ← bvals_drop, ← bvals_append, ← bvals_append]
  congr 1
  unfold rep
  have e1 : (List.replicate n v ++ List.replicate (N - n) (0 : UInt8)).take n = List.replicate n v := by
    rw [List.take_append_of_le_length (by simp)]
    rw [List.take_replicate, Nat.min_self]
  have e2 : (List.replicate n v ++ List.replicate (N - n) (0 : UInt8)).drop (n + m) = List.replicate (N - (n + m)) 0 := by
    rw [List.drop_append, List.drop_replicate, List.drop_replicate, List.length_replicate]
    rw [show n - (n + m) = 0 by omega, show N - n - (n + m - n) = N - (n + m) by omega]
    rfl
  rw [e1, e2]
  show List.replicate n v ++ List.replicate m v ++ _ = _
  rw [List.replicate_append_replicate]

/-- copy where the operation stands: into a row known whole. -/
theorem op_copy {P : Program} (w : World) {o : Oper} {a : Act} {K : Act → World → Prop} {Q : Exit → Act → World → Prop} (d s : Operand) (t : TypeId) (hop : o.op = .call { callee := .builtin .copy, args := #[d, s], argTypes := #[t, t] })
    (elem : TypeId) (g p dLen dCap : Nat) (ad : Addr) (sLen sCap : Nat) (cur : Array Value) (ty : TypeId) (cs : List Value) (hu : P.underlying t = some (.slice elem)) (hs : (P.info? elem).map (·.size) = some 1)
    (hg : Has w g ty cur) (hn : cs.length = Nat.min sLen dLen) (hsrc : ∀ j v, cs[j]? = some v → w.cell? (ad.add j) = some v) (hfit : p + cs.length ≤ cur.size) (h1 : ∀ v ∈ cs, v.oneCell' = true)
    (hd : a.eval d = .slice (some ⟨g, p, none⟩) dLen dCap) (hse : a.eval s = .slice (some ad) sLen sCap)
    (h : ∀ w', Has w' g ty (cur.toList.take p ++ cs ++ cur.toList.drop (p + cs.length)).toArray → Only [g] w w' → K (a.put o.dst (.int .i64 (cs.length : Int))) w') : o.wp P a w K Q := by
  have hrun := run_copy_row (P := P) w t t o.type elem g p dLen dCap ad sLen sCap cur ty cs hu hs hg hn hsrc hfit h1
  unfold Oper.wp execOp
  simp only [hop, resolve, invoke, builtin, Sem.run_bind, Sem.run_pure, Result.andThen_ok, List.map_toArray, List.map_cons, List.map_nil, hd, hse, hrun]
  exact h _ (hg.setRow _) ((Only.refl _ w).setRow (by simp) _)
theorem list_copy {P : Program} (w : World) {ops : Array Oper} {rest : List Oper} {o : Oper} {a : Act} {Q : Exit → Act → World → Prop} (hgd : o.guard = none) (d s : Operand) (t : TypeId) (hop : o.op = .call { callee := .builtin .copy, args := #[d, s], argTypes := #[t, t] })
    (elem : TypeId) (g p dLen dCap : Nat) (ad : Addr) (sLen sCap : Nat) (cur : Array Value) (ty : TypeId) (cs : List Value) (hu : P.underlying t = some (.slice elem)) (hs : (P.info? elem).map (·.size) = some 1)
    (hg : Has w g ty cur) (hn : cs.length = Nat.min sLen dLen) (hsrc : ∀ j v, cs[j]? = some v → w.cell? (ad.add j) = some v) (hfit : p + cs.length ≤ cur.size) (h1 : ∀ v ∈ cs, v.oneCell' = true)
    (hd : a.eval d = .slice (some ⟨g, p, none⟩) dLen dCap) (hse : a.eval s = .slice (some ad) sLen sCap)
    (h : ∀ w', Has w' g ty (cur.toList.take p ++ cs ++ cur.toList.drop (p + cs.length)).toArray → Only [g] w w' → wpList P ops Q rest (a.put o.dst (.int .i64 (cs.length : Int))) w') : wpList P ops Q (o :: rest) a w :=
  wpList_plain hgd fun _ hK => op_copy w d s t hop elem g p dLen dCap ad sLen sCap cur ty cs hu hs hg hn hsrc hfit h1 hd hse fun w' q1 q2 => hK _ _ (h w' q1 q2)
theorem step_copy {P : Program} (w : World) {ops : Array Oper} {o : Oper} {a : Act} {K : Act → World → Prop} {Q : Exit → Act → World → Prop} {E : Prop} (hgd : o.guard = none) (d s : Operand) (t : TypeId) (hop : o.op = .call { callee := .builtin .copy, args := #[d, s], argTypes := #[t, t] })
    (elem : TypeId) (g p dLen dCap : Nat) (ad : Addr) (sLen sCap : Nat) (cur : Array Value) (ty : TypeId) (cs : List Value) (hu : P.underlying t = some (.slice elem)) (hs : (P.info? elem).map (·.size) = some 1)
    (hg : Has w g ty cur) (hn : cs.length = Nat.min sLen dLen) (hsrc : ∀ j v, cs[j]? = some v → w.cell? (ad.add j) = some v) (hfit : p + cs.length ≤ cur.size) (h1 : ∀ v ∈ cs, v.oneCell' = true)
    (hd : a.eval d = .slice (some ⟨g, p, none⟩) dLen dCap) (hse : a.eval s = .slice (some ad) sLen sCap)
    (h : ∀ w', Has w' g ty (cur.toList.take p ++ cs ++ cur.toList.drop (p + cs.length)).toArray → Only [g] w w' → K (a.put o.dst (.int .i64 (cs.length : Int))) w') :
    if Region.wanted o (yielded ops a.tmps) = true then Oper.wp P o a w K Q else E := by
  rw [if_pos (by simp [Region.wanted, hgd])]
  exact op_copy w d s t hop elem g p dLen dCap ad sLen sCap cur ty cs hu hs hg hn hsrc hfit h1 hd hse h

theorem zeros_eq (m : Nat) : madeCells #[.int .u8 0] m = (bvals (List.replicate m 0)).toArray := by
  apply Array.ext'
  rw [toList_madeCells_one]
  simp [bvals]

set_option maxRecDepth 100000 in
set_option maxHeartbeats 8000000 in
theorem repeat_row (gx : Nat) (v : UInt8) (N : Nat) (hN : Times N) (w : World) (hx : Holds w 1 (some ⟨gx, 0, none⟩) 1 (bvals [v])) :
    Calls Tryd.prog 54 #[.slice (some ⟨gx, 0, none⟩) 1 1, .int .i64 N] w fun e w' =>
      ∃ g, e = .returned (.slice (some ⟨g, 0, none⟩) N N) ∧ w.heap.size ≤ g ∧ Has w' g 5 (bvals (List.replicate N v)).toArray ∧ Only [] w w' := by
  have hl := hN.le
  have HM := hide (mulU_any N hN w)
  have hmk : ∀ W : World, (Instr.makeSlice 22 (.int .i64 (N : Int)) (.int .i64 (N : Int))).run Tryd.prog W = .ok (.slice (some ⟨W.heap.size, 0, none⟩) N N) (W.alloc (.cells (bvals (rep v 0 N)).toArray 5)) := by
    intro W
    have h := run_make_row' (P := Tryd.prog) 22 5 (.int .u8 0) 1 Tryd.underlying22 u8_info rfl .i64 .i64 N (by omega) (by omega) W
    rw [h, zeros_eq]; rfl
  have hN1 : IntKind.u64.wrap (N : Int) = (N : Int) := IntWalk.u64_in _ ⟨by omega, by omega⟩
  have hN2 : IntKind.i64.wrap (N : Int) = (N : Int) := wrap64 rfl (by omega)
  have hN3 : ¬ (N : Int) < 0 := by omega
  have hN4 : ¬ (9223372036854775807 : Int) < (N : Int) := by omega
  have hsz : (Tryd.prog.info? 5).map (·.size) = some 1 := by kernel_rfl
  have hR : Has (w.alloc (.cells (bvals (rep v 0 N)).toArray 5)) w.heap.size 5 (bvals (rep v 0 N)).toArray := Has.new w _ _
  have hx2 : Holds (w.alloc (.cells (bvals (rep v 0 N)).toArray 5)) 1 (some ⟨gx, 0, none⟩) 1 (bvals [v]) := hx.keep ((Only.refl [] w).alloc _) (by simp)
  have hfit : 0 + (bvals [v]).length ≤ (bvals (rep v 0 N)).toArray.size := by simp [rep, bvals]; omega
  have hone1 := bvals_one [v]
  have hn1 : (bvals [v]).length = Nat.min 1 N := (Nat.min_eq_left hl.1).symm
  clear hx
  go_enter Tryd.func54, Tryd.ntmps54
  go_wp2_with fail
  refine (HM.out).mono ?_
  rintro e w1 ⟨rfl, rfl⟩
  go_wp2_with (refine list_copy _ rfl (.tmp 31) (.tmp 32) 22 rfl 5 w.heap.size 0 N N ⟨gx, 0, none⟩ 1 1 _ 5 (bvals [v]) Tryd.underlying22 hsz hR hn1 (hx2.at_ _ rfl) hfit hone1 rfl rfl ?_; intro w2 hR2 hO2; have H2 := hide (And.intro hR2 hO2); clear hR2 hO2)
  have hrow1 : Has w2 w.heap.size 5 (bvals (rep v 1 N)).toArray := by
    have := H2.out.1
    have e := rep_step v (n := 0) (m := 1) (N := N) (by omega)
    rw [Nat.zero_add] at e
    rw [← e]
    simpa using this
  have HS := hide (And.intro hrow1 (((Only.refl [] w).alloc (.cells (bvals (rep v 0 N)).toArray 5)).trans H2.out.2 (by simp)))
  clear hrow1 H2 hR hx2 hfit hone1 hn1 hmk HM
  go_loopw [8] (fun i wr => ∃ n : Nat, 1 ≤ n ∧ n ≤ N ∧ i = .int .i64 n ∧ Has wr w.heap.size 5 (bvals (rep v n N)).toArray ∧ Only [] w wr) (fun i _ => N - (intOf i).toNat)
  case atStart => exact ⟨1, Nat.le_refl _, hl.1, rfl, HS.out.1, HS.out.2⟩
  case round =>
    obtain ⟨n, hn1, hn2, rfl, hR, ho⟩ := hrel
    by_cases hlt : n < N
    · obtain ⟨m, hm⟩ : ∃ m, m = min n (N - n) := ⟨_, rfl⟩
      have hm1 : 1 ≤ m ∧ m ≤ n ∧ n + m ≤ N := by omega
      have hn := rep_step v (n := n) (m := m) (N := N) hm1.2.2
      have hcs : (bvals (List.replicate m v)).length = Nat.min n (N - n) := by rw [bvals_length, List.length_replicate]; exact hm
      have hRd : Has wr.drew w.heap.size 5 (bvals (rep v n N)).toArray := hR
      have hsrc : ∀ j u, (bvals (List.replicate m v))[j]? = some u → wr.drew.cell? ((⟨w.heap.size, 0, none⟩ : Addr).add j) = some u := fun j u hu => by
        rw [add_zero_of, hRd.cell]
        have hj : j < m := by
          have := (List.getElem?_eq_some_iff.1 hu).1
          rw [bvals_length, List.length_replicate] at this; exact this
        rw [List.getElem?_toArray]
        unfold rep bvals
        unfold bvals at hu
        rw [List.map_append, List.getElem?_append_left (by simp; omega)]
        rw [List.getElem?_map, List.getElem?_replicate, if_pos (by omega)] at *
        exact hu
      have hfit : n + (bvals (List.replicate m v)).length ≤ (bvals (rep v n N)).toArray.size := by
        rw [bvals_length, List.length_replicate]; simp [rep, bvals]; omega
      have hone := bvals_one (List.replicate m v)
      have hlen : ((bvals (List.replicate m v)).length : Int) = (m : Int) := by rw [bvals_length, List.length_replicate]
      have hnm : (n : Int) + (m : Int) = ((n + m : Nat) : Int) := by omega
      have hw1 : IntKind.i64.wrap ((n : Int) + (m : Int)) = (n : Int) + (m : Int) := by have := wrap64 (z := (n : Int) + (m : Int)) (n := n + m) (by omega) (by omega); omega
      have HN := hide (And.intro hn (And.intro ho hm1))
      have hm144 : m ≤ 144 := by omega
      have hn0 : (0 : Int) ≤ (n : Int) := by omega
      have hnN : (n : Int) ≤ (N : Int) := by omega
      have hnN2 : (n : Int) < (N : Int) := by omega
      have hNn : ¬ N = n := by omega
      clear hn hR ho hm hm1 hnm
      go_wp2_with fail
      go_region_law ((refine step_copy _ rfl (.tmp 41) (.tmp 44) 22 rfl 5 w.heap.size n (N - n) (N - n) ⟨w.heap.size, 0, none⟩ n N _ 5 (bvals (List.replicate m v)) Tryd.underlying22 hsz hRd hcs hsrc hfit hone (by kernel_rfl) (by kernel_rfl) ?_; intro w3 hR3 hO3; have H3 := hide (And.intro hR3 hO3); clear hR3 hO3 hcs hsrc hfit hone hRd; rw [hlen]; clear hlen))
      have hR4 : Has w3 w.heap.size 5 (bvals (rep v (n + m) N)).toArray := by
        rw [← HN.out.1]
        have := H3.out.1
        rw [bvals_length, List.length_replicate] at this
        simpa using this
      have H4 := hide (And.intro hR4 (HN.out.2.1.drew.trans H3.out.2 (by simp)))
      clear H3 hR4
      go_simp
      go_wp2_with fail
      go_roundw
      case rel => exact ⟨n + m, by omega, HN.out.2.2.2.2, by go_num, H4.out.1, H4.out.2⟩
      case measure => have := HN.out.2.2; simp [intOf]; omega
    · obtain rfl : n = N := by omega
      have HF := hide (And.intro hR ho)
      clear hR ho
      go_wp2_with fail
      go_ret
      refine ⟨w.heap.size, rfl, Nat.le_refl _, ?_, HF.out.2⟩
      have h := HF.out.1
      rw [rep_full] at h
      exact h
theorem repeat_any (gx : Nat) (v : UInt8) (N : Nat) (hN : Times N) (w : World) (hx : Holds w 1 (some ⟨gx, 0, none⟩) 1 (bvals [v])) :
    Calls Tryd.prog 54 #[.slice (some ⟨gx, 0, none⟩) 1 1, .int .i64 N] w fun e w' =>
      ∃ g, e = .returned (.slice (some ⟨g, 0, none⟩) N N) ∧ w.heap.size ≤ g ∧ Holds w' 1 (some ⟨g, 0, none⟩) N (bvals (List.replicate N v)) ∧ Only [] w w' :=
  (repeat_row gx v N hN w hx).mono fun _ _ ⟨g, he, hg, hh, ho⟩ => ⟨g, he, hg, ⟨by rw [bvals_length, List.length_replicate, Nat.mul_one], fun _ => ⟨_, rfl, hh.lt, fun j u hu => by
    rw [add_zero_of, hh.cell, List.getElem?_toArray]
    exact hu⟩⟩, ho⟩
end Go.Proofs.YtglkfgpefpebmaaDoor
