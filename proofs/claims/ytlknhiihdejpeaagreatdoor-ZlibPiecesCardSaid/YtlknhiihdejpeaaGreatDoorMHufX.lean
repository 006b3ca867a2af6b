/-
  Rows of one byte, repeated. | Rows of bytes put one behind the other. | The fixed codes' lengths, by both.
-/
import Derived.Test.YtlknhiihdejpeaaGreatDoorMHufG
import Derived.Deep.RegionLaw
import Derived.Deep.OwnRows
import Derived.Laws.CopyRow
import Derived.Laws.IdiomCopy
import Derived.Lib.AppendZerosOnto
namespace Go.Proofs.YtlknhiihdejpeaaGreatDoor
open Go Go.RowKit

/-- The numbers of times that package huff repeats by. -/
def Times (N : Nat) : Prop := N = 144 ∨ N = 112 ∨ N = 24 ∨ N = 8 ∨ N = 30
theorem Times.le {N : Nat} (h : Times N) : 1 ≤ N ∧ N ≤ 144 := by unfold Times at h; omega

set_option maxRecDepth 100000 in
theorem mul64_any (N : Nat) (hN : Times N) (w : World) : Calls Tryz.prog 89 #[.int .u64 1, .int .u64 N] w fun e w' => e = .returned (.tuple #[.int .u64 0, .int .u64 N]) ∧ w = w' := by
  rcases hN with rfl | rfl | rfl | rfl | rfl
  all_goals
    go_enter Tryz.func89, Tryz.ntmps89
    go_wp2_with fail
    go_ret2
    exact ⟨rfl, rfl⟩

set_option maxRecDepth 100000 in
theorem mulU_any (N : Nat) (hN : Times N) (w : World) : Calls Tryz.prog 75 #[.int .u64 1, .int .u64 N] w fun e w' => e = .returned (.tuple #[.int .u64 0, .int .u64 N]) ∧ w = w' := by
  have HM := hide (mul64_any N hN w)
  go_enter Tryz.func75, Tryz.ntmps75
  go_wp2_with fail
  refine (HM.out).mono ?_
  rintro e w1 ⟨rfl, rfl⟩
  go_wp2_with fail
  go_ret2
  exact ⟨rfl, rfl⟩

/-- n bytes v, and none beyond them. -/
def rep (v : UInt8) (n N : Nat) : List UInt8 := List.replicate n v ++ List.replicate (N - n) 0
theorem rep_length (v : UInt8) {n N : Nat} (h : n ≤ N) : (rep v n N).length = N := by simp [rep]; omega
theorem rep_full (v : UInt8) (N : Nat) : rep v N N = List.replicate N v := by simp [rep]
theorem rep_step (v : UInt8) {n m N : Nat} (h : n + m ≤ N) : (bvals (rep v n N)).take n ++ bvals (List.replicate m v) ++ (bvals (rep v n N)).drop (n + m) = bvals (rep v (n + m) N) := by
  rw [← bvals_take, ← bvals_drop, ← bvals_append, ← bvals_append]
  congr 1
  unfold rep
  have e1 : (List.replicate n v ++ List.replicate (N - n) (0 : UInt8)).take n = List.replicate n v := by
    rw [List.take_append_of_le_length (by simp)]
    rw [List.take_replicate, Nat.min_self]
  have e2 : (List.replicate n v ++ List.replicate (N - n) (0 : UInt8)).drop (n + m) = List.replicate (N - (n + m)) 0 := by
    rw [List.drop_append, List.drop_replicate, List.drop_replicate, List.length_replicate]
    rw [show n - (n + m) = 0 by omega, show N - n - (n + m - n) = N - (n + m) by omega]
    rfl
  rw [e1, e2]
  show List.replicate n v ++ List.replicate m v ++ _ = _
  rw [List.replicate_append_replicate]

/-- copy where the operation stands: into a row known whole. -/
theorem op_copy {P : Program} (w : World) {o : Oper} {a : Act} {K : Act → World → Prop} {Q : Exit → Act → World → Prop} (d s : Operand) (t : TypeId) (hop : o.op = .call { callee := .builtin .copy, args := #[d, s], argTypes := #[t, t] })
    (elem : TypeId) (g p dLen dCap : Nat) (ad : Addr) (sLen sCap : Nat) (cur : Array Value) (ty : TypeId) (cs : List Value) (hu : P.underlying t = some (.slice elem)) (hs : (P.info? elem).map (·.size) = some 1)
    (hg : Has w g ty cur) (hn : cs.length = Nat.min sLen dLen) (hsrc : ∀ j v, cs[j]? = some v → w.cell? (ad.add j) = some v) (hfit : p + cs.length ≤ cur.size) (h1 : ∀ v ∈ cs, v.oneCell' = true)
    (hd : a.eval d = .slice (some ⟨g, p, none⟩) dLen dCap) (hse : a.eval s = .slice (some ad) sLen sCap)
    (h : ∀ w', Has w' g ty (cur.toList.take p ++ cs ++ cur.toList.drop (p + cs.length)).toArray → Only [g] w w' → K (a.put o.dst (.int .i64 (cs.length : Int))) w') : o.wp P a w K Q := by
  have hrun := run_copy_row (P := P) w t t o.type elem g p dLen dCap ad sLen sCap cur ty cs hu hs hg hn hsrc hfit h1
  unfold Oper.wp execOp
  simp only [hop, resolve, invoke, builtin, Sem.run_bind, Sem.run_pure, Result.andThen_ok, List.map_toArray, List.map_cons, List.map_nil, hd, hse, hrun]
  exact h _ (hg.setRow _) ((Only.refl _ w).setRow (by simp) _)
theorem list_copy {P : Program} (w : World) {ops : Array Oper} {rest : List Oper} {o : Oper} {a : Act} {Q : Exit → Act → World → Prop} (hgd : o.guard = none) (d s : Operand) (t : TypeId) (hop : o.op = .call { callee := .builtin .copy, args := #[d, s], argTypes := #[t, t] })
    (elem : TypeId) (g p dLen dCap : Nat) (ad : Addr) (sLen sCap : Nat) (cur : Array Value) (ty : TypeId) (cs : List Value) (hu : P.underlying t = some (.slice elem)) (hs : (P.info? elem).map (·.size) = some 1)
    (hg : Has w g ty cur) (hn : cs.length = Nat.min sLen dLen) (hsrc : ∀ j v, cs[j]? = some v → w.cell? (ad.add j) = some v) (hfit : p + cs.length ≤ cur.size) (h1 : ∀ v ∈ cs, v.oneCell' = true)
    (hd : a.eval d = .slice (some ⟨g, p, none⟩) dLen dCap) (hse : a.eval s = .slice (some ad) sLen sCap)
    (h : ∀ w', Has w' g ty (cur.toList.take p ++ cs ++ cur.toList.drop (p + cs.length)).toArray → Only [g] w w' → wpList P ops Q rest (a.put o.dst (.int .i64 (cs.length : Int))) w') : wpList P ops Q (o :: rest) a w :=
  wpList_plain hgd fun _ hK => op_copy w d s t hop elem g p dLen dCap ad sLen sCap cur ty cs hu hs hg hn hsrc hfit h1 hd hse fun w' q1 q2 => hK _ _ (h w' q1 q2)
theorem step_copy {P : Program} (w : World) {ops : Array Oper} {o : Oper} {a : Act} {K : Act → World → Prop} {Q : Exit → Act → World → Prop} {E : Prop} (hgd : o.guard = none) (d s : Operand) (t : TypeId) (hop : o.op = .call { callee := .builtin .copy, args := #[d, s], argTypes := #[t, t] })
    (elem : TypeId) (g p dLen dCap : Nat) (ad : Addr) (sLen sCap : Nat) (cur : Array Value) (ty : TypeId) (cs : List Value) (hu : P.underlying t = some (.slice elem)) (hs : (P.info? elem).map (·.size) = some 1)
    (hg : Has w g ty cur) (hn : cs.length = Nat.min sLen dLen) (hsrc : ∀ j v, cs[j]? = some v → w.cell? (ad.add j) = some v) (hfit : p + cs.length ≤ cur.size) (h1 : ∀ v ∈ cs, v.oneCell' = true)
    (hd : a.eval d = .slice (some ⟨g, p, none⟩) dLen dCap) (hse : a.eval s = .slice (some ad) sLen sCap)
    (h : ∀ w', Has w' g ty (cur.toList.take p ++ cs ++ cur.toList.drop (p + cs.length)).toArray → Only [g] w w' → K (a.put o.dst (.int .i64 (cs.length : Int))) w') :
    if Region.wanted o (yielded ops a.tmps) = true then Oper.wp P o a w K Q else E := by
  rw [if_pos (by simp [Region.wanted, hgd])]
  exact op_copy w d s t hop elem g p dLen dCap ad sLen sCap cur ty cs hu hs hg hn hsrc hfit h1 hd hse h

theorem zeros_eq (m : Nat) : madeCells #[.int .u8 0] m = (bvals (List.replicate m 0)).toArray := by
  apply Array.ext'
  rw [toList_madeCells_one]
  simp [bvals]

set_option maxRecDepth 100000 in
set_option maxHeartbeats 8000000 in
theorem repeat_row (gx : Nat) (v : UInt8) (N : Nat) (hN : Times N) (w : World) (hx : Holds w 1 (some ⟨gx, 0, none⟩) 1 (bvals [v])) :
    Calls Tryz.prog 62 #[.slice (some ⟨gx, 0, none⟩) 1 1, .int .i64 N] w fun e w' =>
      ∃ g, e = .returned (.slice (some ⟨g, 0, none⟩) N N) ∧ w.heap.size ≤ g ∧ Has w' g 5 (bvals (List.replicate N v)).toArray ∧ Only [] w w' := by
  have hl := hN.le
  have HM := hide (mulU_any N hN w)
  have hmk : ∀ W : World, (Instr.makeSlice 22 (.int .i64 (N : Int)) (.int .i64 (N : Int))).run Tryz.prog W = .ok (.slice (some ⟨W.heap.size, 0, none⟩) N N) (W.alloc (.cells (bvals (rep v 0 N)).toArray 5)) := by
    intro W
    have h := run_make_row' (P := Tryz.prog) 22 5 (.int .u8 0) 1 Tryz.underlying22 u8_info rfl .i64 .i64 N (by omega) (by omega) W
    rw [h, zeros_eq]; rfl
  have hN1 : IntKind.u64.wrap (N : Int) = (N : Int) := IntWalk.u64_in _ ⟨by omega, by omega⟩
  have hN2 : IntKind.i64.wrap (N : Int) = (N : Int) := wrap64 rfl (by omega)
  have hN3 : ¬ (N : Int) < 0 := by omega
  have hN4 : ¬ (9223372036854775807 : Int) < (N : Int) := by omega
  have hsz : (Tryz.prog.info? 5).map (·.size) = some 1 := by kernel_rfl
  have hR : Has (w.alloc (.cells (bvals (rep v 0 N)).toArray 5)) w.heap.size 5 (bvals (rep v 0 N)).toArray := Has.new w _ _
  have hx2 : Holds (w.alloc (.cells (bvals (rep v 0 N)).toArray 5)) 1 (some ⟨gx, 0, none⟩) 1 (bvals [v]) := hx.keep ((Only.refl [] w).alloc _) (by simp)
  have hfit : 0 + (bvals [v]).length ≤ (bvals (rep v 0 N)).toArray.size := by simp [rep, bvals]; omega
  have hone1 := bvals_one [v]
  have hn1 : (bvals [v]).length = Nat.min 1 N := (Nat.min_eq_left hl.1).symm
  clear hx
  go_enter Tryz.func62, Tryz.ntmps62
  go_wp2_with fail
  refine (HM.out).mono ?_
  rintro e w1 ⟨rfl, rfl⟩
  go_wp2_with (refine list_copy _ rfl (.tmp 31) (.tmp 32) 22 rfl 5 w.heap.size 0 N N ⟨gx, 0, none⟩ 1 1 _ 5 (bvals [v]) Tryz.underlying22 hsz hR hn1 (hx2.at_ _ rfl) hfit hone1 rfl rfl ?_; intro w2 hR2 hO2; have H2 := hide (And.intro hR2 hO2); clear hR2 hO2)
  have hrow1 : Has w2 w.heap.size 5 (bvals (rep v 1 N)).toArray := by
    have := H2.out.1
    have e := rep_step v (n := 0) (m := 1) (N := N) (by omega)
    rw [Nat.zero_add] at e
    rw [← e]
    simpa using this
  have HS := hide (And.intro hrow1 (((Only.refl [] w).alloc (.cells (bvals (rep v 0 N)).toArray 5)).trans H2.out.2 (by simp)))
  clear hrow1 H2 hR hx2 hfit hone1 hn1 hmk HM
  go_loopw [8] (fun i wr => ∃ n : Nat, 1 ≤ n ∧ n ≤ N ∧ i = .int .i64 n ∧ Has wr w.heap.size 5 (bvals (rep v n N)).toArray ∧ Only [] w wr) (fun i _ => N - (intOf i).toNat)
  case atStart => exact ⟨1, Nat.le_refl _, hl.1, rfl, HS.out.1, HS.out.2⟩
  case round =>
    obtain ⟨n, hn1, hn2, rfl, hR, ho⟩ := hrel
    by_cases hlt : n < N
    · obtain ⟨m, hm⟩ : ∃ m, m = min n (N - n) := ⟨_, rfl⟩
      have hm1 : 1 ≤ m ∧ m ≤ n ∧ n + m ≤ N := by omega
      have hn := rep_step v (n := n) (m := m) (N := N) hm1.2.2
      have hcs : (bvals (List.replicate m v)).length = Nat.min n (N - n) := by rw [bvals_length, List.length_replicate]; exact hm
      have hRd : Has wr.drew w.heap.size 5 (bvals (rep v n N)).toArray := hR
      have hsrc : ∀ j u, (bvals (List.replicate m v))[j]? = some u → wr.drew.cell? ((⟨w.heap.size, 0, none⟩ : Addr).add j) = some u := fun j u hu => by
        rw [add_zero_of, hRd.cell]
        have hj : j < m := by
          have := (List.getElem?_eq_some_iff.1 hu).1
          rw [bvals_length, List.length_replicate] at this; exact this
        rw [List.getElem?_toArray]
        unfold rep bvals
        unfold bvals at hu
        rw [List.map_append, List.getElem?_append_left (by simp; omega)]
        rw [List.getElem?_map, List.getElem?_replicate, if_pos (by omega)] at *
        exact hu
      have hfit : n + (bvals (List.replicate m v)).length ≤ (bvals (rep v n N)).toArray.size := by
        rw [bvals_length, List.length_replicate]; simp [rep, bvals]; omega
      have hone := bvals_one (List.replicate m v)
      have hlen : ((bvals (List.replicate m v)).length : Int) = (m : Int) := by rw [bvals_length, List.length_replicate]
      have hnm : (n : Int) + (m : Int) = ((n + m : Nat) : Int) := by omega
      have hw1 : IntKind.i64.wrap ((n : Int) + (m : Int)) = (n : Int) + (m : Int) := by have := wrap64 (z := (n : Int) + (m : Int)) (n := n + m) (by omega) (by omega); omega
      have HN := hide (And.intro hn (And.intro ho hm1))
      have hm144 : m ≤ 144 := by omega
      have hn0 : (0 : Int) ≤ (n : Int) := by omega
      have hnN : (n : Int) ≤ (N : Int) := by omega
      have hnN2 : (n : Int) < (N : Int) := by omega
      have hNn : ¬ N = n := by omega
      clear hn hR ho hm hm1 hnm
      go_wp2_with fail
      go_region_law ((refine step_copy _ rfl (.tmp 41) (.tmp 44) 22 rfl 5 w.heap.size n (N - n) (N - n) ⟨w.heap.size, 0, none⟩ n N _ 5 (bvals (List.replicate m v)) Tryz.underlying22 hsz hRd hcs hsrc hfit hone (by kernel_rfl) (by kernel_rfl) ?_; intro w3 hR3 hO3; have H3 := hide (And.intro hR3 hO3); clear hR3 hO3 hcs hsrc hfit hone hRd; rw [hlen]; clear hlen))
      have hR4 : Has w3 w.heap.size 5 (bvals (rep v (n + m) N)).toArray := by
        rw [← HN.out.1]
        have := H3.out.1
        rw [bvals_length, List.length_replicate] at this
        simpa using this
      have H4 := hide (And.intro hR4 (HN.out.2.1.drew.trans H3.out.2 (by simp)))
      clear H3 hR4
      go_simp
      go_wp2_with fail
      go_roundw
      case rel => exact ⟨n + m, by omega, HN.out.2.2.2.2, by go_num, H4.out.1, H4.out.2⟩
      case measure => have := HN.out.2.2; simp [intOf]; omega
    · obtain rfl : n = N := by omega
      have HF := hide (And.intro hR ho)
      clear hR ho
      go_wp2_with fail
      go_ret
      refine ⟨w.heap.size, rfl, Nat.le_refl _, ?_, HF.out.2⟩
      have h := HF.out.1
      rw [rep_full] at h
      exact h
theorem repeat_any (gx : Nat) (v : UInt8) (N : Nat) (hN : Times N) (w : World) (hx : Holds w 1 (some ⟨gx, 0, none⟩) 1 (bvals [v])) :
    Calls Tryz.prog 62 #[.slice (some ⟨gx, 0, none⟩) 1 1, .int .i64 N] w fun e w' =>
      ∃ g, e = .returned (.slice (some ⟨g, 0, none⟩) N N) ∧ w.heap.size ≤ g ∧ Holds w' 1 (some ⟨g, 0, none⟩) N (bvals (List.replicate N v)) ∧ Only [] w w' :=
  (repeat_row gx v N hN w hx).mono fun _ _ ⟨g, he, hg, hh, ho⟩ => ⟨g, he, hg, ⟨by rw [bvals_length, List.length_replicate, Nat.mul_one], fun _ => ⟨_, rfl, hh.lt, fun j u hu => by
    rw [add_zero_of, hh.cell, List.getElem?_toArray]
    exact hu⟩⟩, ho⟩
end Go.Proofs.YtlknhiihdejpeaaGreatDoor


namespace Go.Proofs.YtlknhiihdejpeaaGreatDoor
open Go Go.RowKit

theorem int_under : Tryz.prog.underlying 3 = some (.int .i64) := Tryz.underlying3

/-- append(nil, make([]byte, n)...). -/
theorem list_append_zeros (w : World) {ops : Array Oper} {rest : List Oper} {o : Oper} {a : Act} {Q : Exit → Act → World → Prop} (hgd : o.guard = none) (s x : Operand) (hop : o.op = .call { callee := .builtin .append, args := #[s, x], argTypes := #[22, 3] })
    (n : Nat) (hn0 : 0 < n) (hn : n ≤ 100000) (hs : a.eval s = .slice none 0 0) (hx : a.eval x = .int .i64 n)
    (h : ∀ w' G, n ≤ G → w'.ownsRow w.heap.size 5 1 (.slice (some ⟨w.heap.size, 0, none⟩) 0 G) 0 [] → Only [] w w' → wpList Tryz.prog ops Q rest (a.put o.dst (.slice (some ⟨w.heap.size, 0, none⟩) n G)) w') : wpList Tryz.prog ops Q (o :: rest) a w := by
  obtain ⟨i0, hi0, hz0, hz1, hz2⟩ := info_of u8_info
  have hrun := Lib.run_append_grow_zeros (P := Tryz.prog) w 22 3 o.type 5 i0 (.int .u8 0) .i64 .i64 Tryz.underlying22 int_under hi0 hz0 none 0 0 [] (run_firstCells_none w.drew i0.size 0 0 0) n hn0 (by omega) (by omega) (by omega) (by rw [hz2]; omega)
    (growslice_fits (by omega) (by rw [hz2]; omega))
  rw [Nat.zero_add] at hrun
  refine wpList_plain hgd fun _ hK => ?_
  unfold Oper.wp execOp
  simp only [hop, resolve, invoke, builtin, Sem.run_bind, Sem.run_pure, Result.andThen_ok, List.map_toArray, List.map_cons, List.map_nil, hs, hx, hrun]
  refine hK _ _ (h _ _ (grownCap_ge w n 0 _) ?_ (((Only.refl [] w).drew).alloc _))
  have hG := grownCap_le_maxLen w n 0 5 (by unfold maxLen; omega)
  have hge := grownCap_ge w n 0 5
  refine ⟨rfl, .inr ⟨w.heap.size, _, _, rfl, Nat.le_refl _, Has.new w.drew _ _, Nat.zero_le _, hG, ?_, ?_⟩⟩
  · simp [Builtin.zeroCells, Value.cells]; omega
  · simp

set_option maxRecDepth 100000 in
theorem grow_any (n : Nat) (hn0 : 0 < n) (hn : n ≤ 100000) (w : World) :
    Calls Tryz.prog 37 #[.slice none 0 0, .int .i64 n] w fun e w' => ∃ G, e = .returned (.slice (some ⟨w.heap.size, 0, none⟩) 0 G) ∧ w'.ownsRow w.heap.size 5 1 (.slice (some ⟨w.heap.size, 0, none⟩) 0 G) 0 [] ∧ Only [] w w' := by
  have h1 : ¬ (n : Int) < 0 := by omega
  have h2 : (0 : Int) < (n : Int) := by omega
  go_enter Tryz.func37, Tryz.ntmps37
  go_wp2_with (refine list_append_zeros _ rfl (.tmp 20) (.tmp 21) rfl n hn0 hn rfl rfl ?_; intro w1 G hG hown ho; have H1 := hide (And.intro hown ho); clear hown ho)
  go_ret
  exact ⟨G, rfl, H1.out.1, H1.out.2⟩

/-- A part: a slice of bytes. -/
structure CPart where
  A : Option Addr
  c : Nat
  l : List UInt8
def CPart.val (p : CPart) : Value := .slice p.A p.l.length p.c
def CPart.all (ps : List CPart) : List UInt8 := (ps.map CPart.l).flatten
theorem CPart.all_take (ps : List CPart) (j : Nat) (h : j < ps.length) : CPart.all (ps.take (j + 1)) = CPart.all (ps.take j) ++ ps[j].l := by
  unfold CPart.all
  rw [List.take_succ_eq_append_getElem h, List.map_append, List.flatten_append]
  simp
theorem CPart.all_le (ps : List CPart) (j : Nat) : (CPart.all (ps.take j)).length ≤ (CPart.all ps).length := by
  have h : CPart.all ps = CPart.all (ps.take j) ++ CPart.all (ps.drop j) := by
    unfold CPart.all
    rw [← List.flatten_append, ← List.map_append, List.take_append_drop]
  rw [h, List.length_append]; omega

set_option maxRecDepth 100000 in
set_option maxHeartbeats 8000000 in
theorem concat_any (PA : Option Addr) (kc : Nat) (ps : List CPart) (w : World) (hP : Holds w 1 PA ps.length (ps.map CPart.val)) (hk : ps.length ≤ 10) (hps : ∀ p ∈ ps, Holds w 1 p.A p.l.length (bvals p.l)) (ht0 : 0 < (CPart.all ps).length) (ht1 : (CPart.all ps).length ≤ 100000) :
    Calls Tryz.prog 21 #[.slice PA ps.length kc] w fun e w' => ∃ v, e = .returned v ∧ w'.ownsRow w.heap.size 5 1 v (CPart.all ps).length (bvals (CPart.all ps)) ∧ Only [] w w' := by
  have HP := hide (And.intro hP hps)
  have HG := hide (fun w1 => grow_any (CPart.all ps).length ht0 ht1 w1)
  clear hP hps
  have hcell : ∀ wr, Only [] w wr → ∀ j (hj : j < ps.length), ∃ b o, PA = some ⟨b, o, none⟩ ∧ wr.cell? ⟨b, o + j, none⟩ = some (ps[j].val) := fun wr ho j hj => by
    obtain ⟨b, o, hA, hc⟩ := (HP.out.1.keep ho (by simp)).addr (by simp; omega)
    refine ⟨b, o, hA, hc j _ ?_⟩
    rw [List.getElem?_map, List.getElem?_eq_getElem hj]; rfl
  have HC := hide hcell
  clear hcell
  obtain ⟨T, hT⟩ : ∃ T, T = (CPart.all ps).length := ⟨_, rfl⟩
  rw [← hT] at HG ht0 ht1
  have HT := hide hT
  clear hT
  go_enter Tryz.func21, Tryz.ntmps21
  go_wp2_with fail
  go_loop [3, 11] (fun v i => ∃ j : Nat, j ≤ ps.length ∧ i = .int .i64 j ∧ v = .int .i64 ((CPart.all (ps.take j)).length : Nat)) (fun _ i => ps.length - (intOf i).toNat)
  case atStart => exact ⟨0, Nat.zero_le _, rfl, rfl⟩
  case round =>
    obtain ⟨j, hj, rfl, rfl⟩ := hrel
    by_cases hlt : j < ps.length
    · obtain ⟨b, o, rfl, hce⟩ := HC.out w (Only.refl _ _) j hlt
      have e1 := congrArg List.length (CPart.all_take ps j hlt)
      rw [List.length_append] at e1
      have h2 := CPart.all_le ps (j + 1)
      rw [← HT.out] at h2
      unfold CPart.val at hce
      obtain ⟨a, ha⟩ : ∃ a, a = (CPart.all (ps.take j)).length := ⟨_, rfl⟩
      rw [← ha] at e1 ⊢
      generalize ps[j].A = pA at *
      generalize ps[j].c = pc at *
      generalize hpl : ps[j].l.length = pl at *
      clear hpl ha
      have hb : a + pl ≤ 100000 := by omega
      have hneg : ¬ (a : Int) + (pl : Int) < 0 := by omega
      have HE := hide e1
      clear e1 h2
      go_wp2_with fail
      go_round
      case rel => exact ⟨j + 1, hlt, by go_num, by rw [HE.out]; go_num⟩
      case measure => simp [intOf]; omega
    · obtain rfl : j = ps.length := by omega
      rw [List.take_length, ← HT.out]
      go_wp2_with fail
      refine (HG.out w).mono ?_
      rintro e w1 ⟨G, rfl, hown, ho⟩
      have H1 := hide (And.intro hown ho)
      clear hown ho
      go_wp2_with fail
      go_loopw [6, 27] (fun v i wr => ∃ (j : Nat) (v' : Value), j ≤ ps.length ∧ i = .int .i64 j ∧ v = v' ∧ wr.ownsRow w.heap.size 5 1 v' (CPart.all (ps.take j)).length (bvals (CPart.all (ps.take j))) ∧ Only [] w wr) (fun _ i _ => ps.length - (intOf i).toNat)
      case atStart => exact ⟨0, _, Nat.zero_le _, rfl, rfl, H1.out.1, H1.out.2⟩
      case round =>
        obtain ⟨j, v', hj, rfl, rfl, hown, ho⟩ := hrel
        obtain ⟨Av, cv, rfl, _, _⟩ := own_shape hown
        by_cases hlt : j < ps.length
        · obtain ⟨b, o, rfl, hce⟩ := HC.out wr ho j hlt
          unfold CPart.val at hce
          have hsrc : Holds wr 1 ps[j].A ps[j].l.length (bvals ps[j].l) := (HP.out.2 _ (List.getElem_mem hlt)).keep ho (by simp)
          have e1 := CPart.all_take ps j hlt
          have h2 := CPart.all_le ps (j + 1)
          rw [← HT.out] at h2
          have h3 := congrArg List.length e1
          rw [List.length_append] at h3
          have hrm : ((CPart.all (ps.take j)).length + ps[j].l.length) * 1 ≤ 140737488355328 := by omega
          have hone := bvals_one ps[j].l
          have hbase : w.heap.size ≤ wr.heap.size := ho.size
          obtain ⟨i0, hi0, hz0, hz1, hz2⟩ := info_of u8_info
          have HH := hide (And.intro hown (And.intro ho (And.intro e1 hsrc)))
          clear hown ho e1 h2 h3 hsrc
          go_wp2_with (at_builtin; refine list_append _ rfl (.tmp 31) (.tmp 32) 22 rfl w.heap.size 1 1 Tryz.underlying22 hi0 hz0 hz1 hz2 rfl (Nat.zero_lt_one) HH.out.1 rfl HH.out.2.2.2 rfl hone hrm (Nat.zero_lt_one) hbase ?_; intro A7 c7 w7 hown7 hgrow hat; have H7 := hide (And.intro hown7 hgrow); clear hown7 hgrow hat)
          go_roundw
          case rel =>
            refine ⟨j + 1, _, hlt, by go_num, rfl, ?_, HH.out.2.1.grown H7.out.2 (fun k hk hlt2 => by have := (HH.out.1.lt k hk).1; omega)⟩
            rw [HH.out.2.2.1, List.length_append, bvals_append]
            exact H7.out.1
          case measure => simp [intOf]; omega
        · obtain rfl : j = ps.length := by omega
          rw [List.take_length] at hown
          have HH := hide (And.intro hown ho)
          clear hown ho
          go_wp2_with fail
          go_ret
          refine ⟨_, rfl, ?_, HH.out.2⟩
          have := HH.out.1
          rw [List.take_length] at *
          exact this
end Go.Proofs.YtlknhiihdejpeaaGreatDoor


namespace Go.Proofs.YtlknhiihdejpeaaGreatDoor
open Go Go.RowKit

def fixedL : List UInt8 := List.replicate 144 8 ++ (List.replicate 112 9 ++ (List.replicate 24 7 ++ List.replicate 8 8))
def fixedD : List UInt8 := List.replicate 30 5
theorem fixedL_len : fixedL.length = 288 := by decide +kernel
theorem fixedD_len : fixedD.length = 30 := by decide +kernel

/-- The first i of a list, and zeros behind. -/
def upTo (L : List UInt8) (i : Nat) : List UInt8 := L.take i ++ List.replicate (L.length - i) 0
theorem upTo_length (L : List UInt8) (i : Nat) (h : i ≤ L.length) : (upTo L i).length = L.length := by unfold upTo; simp; omega
theorem upTo_zero (L : List UInt8) : upTo L 0 = List.replicate L.length 0 := by simp [upTo]
theorem upTo_all (L : List UInt8) : upTo L L.length = L := by simp [upTo]
theorem upTo_set (L : List UInt8) (i b : Nat) (h : i < L.length) (hb : L[i].toNat = b) : (bvals (upTo L i)).toArray.setIfInBounds i (.int .u8 (b : Int)) = (bvals (upTo L (i + 1))).toArray := by
  have hb2 : b < 256 := by rw [← hb]; exact L[i].toNat_lt
  rw [List.setIfInBounds_toArray, bvals_set _ _ _ hb2]
  congr 2
  unfold upTo
  have e : UInt8.ofNat b = L[i] := by rw [← hb]; simp
  rw [e, List.set_append_right _ _ (by rw [List.length_take]; omega), List.length_take, Nat.min_eq_left (by omega), Nat.sub_self]
  obtain ⟨q, hq⟩ : ∃ q, L.length - i = q + 1 := ⟨L.length - i - 1, by omega⟩
  rw [hq, List.replicate_succ, List.set_cons_zero, take_snoc h, List.append_assoc, show L.length - (i + 1) = q by omega]
  rfl

theorem fixedL_all : ((List.range 288).all fun i => (fixedL[i]?).map (·.toNat) == some (if i < 144 then 8 else if i < 256 then 9 else if i < 280 then 7 else 8)) = true := by decide +kernel
theorem fixedL_get {i : Nat} (h : i < 288) (h' : i < fixedL.length) : fixedL[i].toNat = if i < 144 then 8 else if i < 256 then 9 else if i < 280 then 7 else 8 := by
  have := List.all_eq_true.1 fixedL_all i (List.mem_range.2 h)
  rw [beq_iff_eq, List.getElem?_eq_getElem h'] at this
  simpa using this
theorem fixedD_all : ((List.range 30).all fun i => (fixedD[i]?).map (·.toNat) == some 5) = true := by decide +kernel
theorem fixedD_get {i : Nat} (h : i < 30) (h' : i < fixedD.length) : fixedD[i].toNat = 5 := by
  have := List.all_eq_true.1 fixedD_all i (List.mem_range.2 h)
  rw [beq_iff_eq, List.getElem?_eq_getElem h'] at this
  simpa using this

theorem Has.holds {w : World} {g n : Nat} {t : TypeId} {l : List UInt8} (h : Has w g t (bvals l).toArray) (hn : l.length = n) : Holds w 1 (some ⟨g, 0, none⟩) n (bvals l) :=
  ⟨by rw [bvals_length, hn, Nat.mul_one], fun _ => ⟨_, rfl, h.lt, fun j u hu => by rw [add_zero_of, h.cell, List.getElem?_toArray]; exact hu⟩⟩

set_option maxRecDepth 100000 in
set_option maxHeartbeats 8000000 in
theorem tFixed_any (w : World) : Calls Tryz.prog 38 #[] w fun e w' => ∃ g h, e = .returned (.tuple #[.slice (some ⟨g, 0, none⟩) 288 288, .slice (some ⟨h, 0, none⟩) 30 30]) ∧ Holds w' 1 (some ⟨g, 0, none⟩) 288 (bvals fixedL) ∧ Holds w' 1 (some ⟨h, 0, none⟩) 30 (bvals fixedD) ∧ Only [] w w' := by
  have hmk1 : ∀ W : World, (Instr.makeSlice 22 (.int .i64 288) (.int .i64 288)).run Tryz.prog W = .ok (.slice (some ⟨W.heap.size, 0, none⟩) 288 288) (W.alloc (.cells (bvals (upTo fixedL 0)).toArray 5)) := fun W => by
    have h := run_make_row' (P := Tryz.prog) 22 5 (.int .u8 0) 1 Tryz.underlying22 u8_info rfl .i64 .i64 288 (by omega) (by omega) W
    rw [zeros_eq] at h
    rw [upTo_zero, fixedL_len]
    exact h
  have hmk2 : ∀ W : World, (Instr.makeSlice 22 (.int .i64 30) (.int .i64 30)).run Tryz.prog W = .ok (.slice (some ⟨W.heap.size, 0, none⟩) 30 30) (W.alloc (.cells (bvals (upTo fixedD 0)).toArray 5)) := fun W => by
    have h := run_make_row' (P := Tryz.prog) 22 5 (.int .u8 0) 1 Tryz.underlying22 u8_info rfl .i64 .i64 30 (by omega) (by omega) W
    rw [zeros_eq] at h
    rw [upTo_zero, fixedD_len]
    exact h
  go_enter Tryz.func38, Tryz.ntmps38
  go_wp2_with fail
  go_loopw [3] (fun v wr => ∃ i : Nat, i ≤ 288 ∧ v = .int .i64 i ∧ Has wr w.heap.size 5 (bvals (upTo fixedL i)).toArray ∧ Only [] w wr) (fun v _ => 288 - (intOf v).toNat)
  case atStart => exact ⟨0, by omega, rfl, Has.new w _ _, (Only.refl [] w).alloc _⟩
  case round =>
    obtain ⟨i, hi, rfl, hH, ho⟩ := hrel
    by_cases hlt : i < 288
    · have hl := fixedL_len
      have hil : i < fixedL.length := by omega
      have hset := fun (b : Nat) (hb : (fixedL[i]'hil).toNat = b) => upTo_set fixedL i b hil hb
      have hg := fixedL_get hlt hil
      have hlt' : (i : Int) < 288 := by omega
      have hi0 : (0 : Int) ≤ (i : Int) := by omega
      have cu : wr.cell? ⟨w.heap.size, i, none⟩ = some (.int .u8 (((upTo fixedL i)[i]'(by rw [upTo_length _ _ (by omega)]; omega)).toNat : Int)) := by
        rw [hH.cell, List.getElem?_toArray, bvals_get _ _ (by rw [upTo_length _ _ (by omega)]; omega)]
      have fu : wr.frozen? ⟨w.heap.size, i, none⟩ = false := hH.free i
      generalize ((upTo fixedL i)[i]'(by rw [upTo_length _ _ (by omega)]; omega)).toNat = old at cu
      have hst : ∀ b : Nat, (fixedL[i]'hil).toNat = b → Has (wr.setCell ⟨w.heap.size, i, none⟩ (.int .u8 (b : Int))) w.heap.size 5 (bvals (upTo fixedL (i + 1))).toArray ∧ Only [] w (wr.setCell ⟨w.heap.size, i, none⟩ (.int .u8 (b : Int))) := fun b hb => by
        have := hH.set i (.int .u8 (b : Int))
        rw [hset b hb] at this
        exact ⟨this, ho.setCell (by simp) _⟩
      have hcase : (i < 144 ∧ (fixedL[i]'hil).toNat = 8) ∨ (144 ≤ i ∧ i < 256 ∧ (fixedL[i]'hil).toNat = 9) ∨ (256 ≤ i ∧ i < 280 ∧ (fixedL[i]'hil).toNat = 7) ∨ (280 ≤ i ∧ (fixedL[i]'hil).toNat = 8) := by
        rw [hg]
        by_cases h1 : i < 144
        · exact .inl ⟨h1, if_pos h1⟩
        · rw [if_neg h1]
          by_cases h2 : i < 256
          · exact .inr (.inl ⟨by omega, h2, if_pos h2⟩)
          · rw [if_neg h2]
            by_cases h3 : i < 280
            · exact .inr (.inr (.inl ⟨by omega, h3, if_pos h3⟩))
            · exact .inr (.inr (.inr ⟨by omega, if_neg h3⟩))
      have HS := hide hst
      clear hset hg hst hH ho hl hmk1 hmk2
      rcases hcase with ⟨h1, hv⟩ | ⟨h1, h2, hv⟩ | ⟨h1, h2, hv⟩ | ⟨h1, hv⟩
      · have a1 : (i : Int) < 144 := by omega
        have H2 := hide (HS.out 8 hv)
        clear hv HS h1
        go_wp2_with fail
        go_roundw
        case rel => exact ⟨i + 1, hlt, by go_num, H2.out.1, H2.out.2⟩
        case measure => simp [intOf]; omega
      · have a1 : ¬ (i : Int) < 144 := by omega
        have a2 : (i : Int) < 256 := by omega
        have H2 := hide (HS.out 9 hv)
        clear hv HS h1 h2
        go_wp2_with fail
        go_roundw
        case rel => exact ⟨i + 1, hlt, by go_num, H2.out.1, H2.out.2⟩
        case measure => simp [intOf]; omega
      · have a1 : ¬ (i : Int) < 144 := by omega
        have a2 : ¬ (i : Int) < 256 := by omega
        have a3 : (i : Int) < 280 := by omega
        have H2 := hide (HS.out 7 hv)
        clear hv HS h1 h2
        go_wp2_with fail
        go_roundw
        case rel => exact ⟨i + 1, hlt, by go_num, H2.out.1, H2.out.2⟩
        case measure => simp [intOf]; omega
      · have a1 : ¬ (i : Int) < 144 := by omega
        have a2 : ¬ (i : Int) < 256 := by omega
        have a3 : ¬ (i : Int) < 280 := by omega
        have H2 := hide (HS.out 8 hv)
        clear hv HS h1
        go_wp2_with fail
        go_roundw
        case rel => exact ⟨i + 1, hlt, by go_num, H2.out.1, H2.out.2⟩
        case measure => simp [intOf]; omega
    · obtain rfl : i = 288 := by omega
      have hfull : Has wr w.heap.size 5 (bvals fixedL).toArray := by
        have := hH
        rw [show (288 : Nat) = fixedL.length from fixedL_len.symm, upTo_all] at this
        exact this
      have HF := hide (And.intro hfull ho)
      clear hH ho hfull hmk1
      generalize wr = wq at *
      go_wp2_with fail
      go_loopw [5] (fun v w2 => ∃ i : Nat, i ≤ 30 ∧ v = .int .i64 i ∧ Has w2 wq.heap.size 5 (bvals (upTo fixedD i)).toArray ∧ Only [] wq w2) (fun v _ => 30 - (intOf v).toNat)
      case atStart => exact ⟨0, by omega, rfl, Has.new wq _ _, (Only.refl [] wq).alloc _⟩
      case round =>
        obtain ⟨i, hi, rfl, hH, ho⟩ := hrel
        by_cases hlt : i < 30
        · have hl := fixedD_len
          have hset := upTo_set fixedD i 5 (by omega) (fixedD_get hlt (by omega))
          have hlt' : (i : Int) < 30 := by omega
          have hi0 : (0 : Int) ≤ (i : Int) := by omega
          have cu := hH.cell i
          rw [List.getElem?_toArray, bvals_get _ _ (by rw [upTo_length _ _ (by omega)]; omega)] at cu
          have fu := hH.free i
          generalize ((upTo fixedD i)[i]'(by rw [upTo_length _ _ (by omega)]; omega)).toNat = old at cu
          have h5 := hH.set i (.int .u8 ((5 : Nat) : Int))
          rw [hset] at h5
          have H2 := hide (And.intro h5 (ho.setCell (p := ⟨wq.heap.size, i, none⟩) (by simp) (.int .u8 ((5 : Nat) : Int))))
          clear hset hH ho hl h5 hmk2
          go_wp2_with fail
          go_roundw
          case rel => exact ⟨i + 1, hlt, by go_num, H2.out.1, H2.out.2⟩
          case measure => simp [intOf]; omega
        · obtain rfl : i = 30 := by omega
          have hfull2 := hH
          rw [show (30 : Nat) = fixedD.length from fixedD_len.symm, upTo_all] at hfull2
          have H2 := hide (And.intro hfull2 ho)
          clear hH ho hfull2
          go_wp2_with fail
          go_ret2
          exact ⟨_, _, rfl, (Has.holds HF.out.1 fixedL_len).keep H2.out.2 (by simp), Has.holds H2.out.1 fixedD_len, HF.out.2.trans H2.out.2 (by simp)⟩
end Go.Proofs.YtlknhiihdejpeaaGreatDoor

