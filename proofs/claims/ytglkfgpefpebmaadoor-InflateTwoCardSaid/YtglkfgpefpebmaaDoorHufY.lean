/-
  Rows of bytes put one behind the other.
-/
import Derived.Test.YtglkfgpefpebmaaDoorHufX
namespace Go.Proofs.YtglkfgpefpebmaaDoor
open Go Go.RowKit

theorem int_under : Tryd.prog.underlying 3 = some (.int .i64) := Tryd.underlying3

/-- append(nil, make([]byte, n)...). -/
theorem list_append_zeros (w : World) {ops : Array Oper} {rest : List Oper} {o : Oper} {a : Act} {Q : Exit → Act → World → Prop} (hgd : o.guard = none) (s x : Operand) (hop : o.op = .call { callee := .builtin .append, args := #[s, x], argTypes := #[22, 3] })
    (n : Nat) (hn0 : 0 < n) (hn : n ≤ 100000) (hs : a.eval s = .slice none 0 0) (hx : a.eval x = .int .i64 n)
    (h : ∀ w' G, n ≤ G → w'.ownsRow w.heap.size 5 1 (.slice (some ⟨w.heap.size, 0, none⟩) 0 G) 0 [] → Only [] w w' → wpList Tryd.prog ops Q rest (a.put o.dst (.slice (some ⟨w.heap.size, 0, none⟩) n G)) w') : wpList Tryd.prog ops Q (o :: rest) a w := by
  obtain ⟨i0, hi0, hz0, hz1, hz2⟩ := info_of u8_info
  have hrun := Lib.run_append_grow_zeros (P := Tryd.prog) w 22 3 o.type 5 i0 (.int .u8 0) .i64 .i64 Tryd.underlying22 int_under hi0 hz0 none 0 0 [] (run_firstCells_none w.drew i0.size 0 0 0) n hn0 (by omega) (by omega) (by omega) (by rw [hz2]; omega)
    (growslice_fits (by omega) (by rw [hz2]; omega))
  rw [Nat.zero_add] at hrun
  refine wpList_plain hgd fun _ hK => ?_
  unfold Oper.wp execOp
  simp only [hop, resolve, invoke, builtin, Sem.run_bind, Sem.run_pure, Result.andThen_ok, List.map_toArray, List.map_cons, List.map_nil, hs, hx, hrun]
  refine hK _ _ (h _ _ (grownCap_ge w n 0 _) ?_ (((Only.refl [] w).drew).alloc _))
  have hG := grownCap_le_maxLen w n 0 5 (by unfold maxLen; omega)
  have hge := grownCap_ge w n 0 5
  refine ⟨rfl, .inr ⟨w.heap.size, _, _, rfl, Nat.le_refl _, Has.new w.drew _ _, Nat.zero_le _, hG, ?_, ?_⟩⟩
  · simp [Builtin.zeroCells, Value.cells]; omega
  · simp

set_option maxRecDepth 100000 in
theorem grow_any (n : Nat) (hn0 : 0 < n) (hn : n ≤ 100000) (w : World) :
    Calls Tryd.prog 50 #[.slice none 0 0, .int .i64 n] w fun e w' => ∃ G, e = .returned (.slice (some ⟨w.heap.size, 0, none⟩) 0 G) ∧ w'.ownsRow w.heap.size 5 1 (.slice (some ⟨w.heap.size, 0, none⟩) 0 G) 0 [] ∧ Only [] w w' := by
  have h1 : ¬ (n : Int) < 0 := by omega
  have h2 : (0 : Int) < (n : Int) := by omega
  go_enter Tryd.func50, Tryd.ntmps50
  go_wp2_with (refine list_append_zeros _ rfl (.tmp 20) (.tmp 21) rfl n hn0 hn rfl rfl ?_; intro w1 G hG hown ho; have H1 := hide (And.intro hown ho); clear hown ho)
  go_ret
  exact ⟨G, rfl, H1.out.1, H1.out.2⟩

/-- A part: a slice of bytes. -/
structure CPart where
  A : Option Addr
  c : Nat
  l : List UInt8
def CPart.val (p : CPart) : Value := .slice p.A p.l.length p.c
def CPart.all (ps : List CPart) : List UInt8 := (ps.map CPart.l).flatten
theorem CPart.all_take (ps : List CPart) (j : Nat) (h : j < ps.length) : CPart.all (ps.take (j + 1)) = CPart.all (ps.take j) ++ ps[j].l := by
  unfold CPart.all
  rw [List.take_succ_eq_append_getElem h, List.map_append, List.flatten_append]
  simp
theorem CPart.all_le (ps : List CPart) (j : Nat) : (CPart.all (ps.take j)).length ≤ (CPart.all ps).length := by
  have h : CPart.all ps = CPart.all (ps.take j) ++ CPart.all (ps.drop j) := by
    unfold CPart.all
    rw [← List.flatten_append, ← List.map_append, List.take_append_drop]
  rw [h, List.length_append]; omega

set_option maxRecDepth 100000 in
set_option maxHeartbeats 8000000 in
theorem concat_any (PA : Option Addr) (kc : Nat) (ps : List CPart) (w : World) (hP : Holds w 1 PA ps.length (ps.map CPart.val)) (hk : ps.length ≤ 10) (hps : ∀ p ∈ ps, Holds w 1 p.A p.l.length (bvals p.l)) (ht0 : 0 < (CPart.all ps).length) (ht1 : (CPart.all ps).length ≤ 100000) :
    Calls Tryd.prog 36 #[.slice PA ps.length kc] w fun e w' => ∃ v, e = .returned v ∧ w'.ownsRow w.heap.size 5 1 v (CPart.all ps).length (bvals (CPart.all ps)) ∧ Only [] w w' := by
  have HP := hide (And.intro hP hps)
  have HG := hide (fun w1 => grow_any (CPart.all ps).length ht0 ht1 w1)
  clear hP hps
  have hcell : ∀ wr, Only [] w wr → ∀ j (hj : j < ps.length), ∃ b o, PA = some ⟨b, o, none⟩ ∧ wr.cell? ⟨b, o + j, none⟩ = some (ps[j].val) := fun wr ho j hj => by
    obtain ⟨b, o, hA, hc⟩ := (HP.out.1.keep ho (by simp)).addr (by simp; omega)
    refine ⟨b, o, hA, hc j _ ?_⟩
    rw [List.getElem?_map, List.getElem?_eq_getElem hj]; rfl
  have HC := hide hcell
  clear hcell
  obtain ⟨T, hT⟩ : ∃ T, T = (CPart.all ps).length := ⟨_, rfl⟩
  rw [← hT] at HG ht0 ht1
  have HT := hide hT
  clear hT
  go_enter Tryd.func36, Tryd.ntmps36
  go_wp2_with fail
  go_loop [3, 11] (fun v i => ∃ j : Nat, j ≤ ps.length ∧ i = .int .i64 j ∧ v = .int .i64 ((CPart.all (ps.take j)).length : Nat)) (fun _ i => ps.length - (intOf i).toNat)
  case atStart => exact ⟨0, Nat.zero_le _, rfl, rfl⟩
  case round =>
    obtain ⟨j, hj, rfl, rfl⟩ := hrel
    by_cases hlt : j < ps.length
    · obtain ⟨b, o, rfl, hce⟩ := HC.out w (Only.refl _ _) j hlt
      have e1 := congrArg List.length (CPart.all_take ps j hlt)
      rw [List.length_append] at e1
      have h2 := CPart.all_le ps (j + 1)
      rw [← HT.out] at h2
      unfold CPart.val at hce
      obtain ⟨a, ha⟩ : ∃ a, a = (CPart.all (ps.take j)).length := ⟨_, rfl⟩
      rw [← ha] at e1 ⊢
      generalize ps[j].A = pA at *
      generalize ps[j].c = pc at *
      generalize hpl : ps[j].l.length = pl at *
      clear hpl ha
      have hb : a + pl ≤ 100000 := by omega
      have hneg : ¬ (a : Int) + (pl : Int) < 0 := by omega
      have HE := hide e1
      clear e1 h2
      go_wp2_with fail
      go_round
      case rel => exact ⟨j + 1, hlt, by go_num, by rw [HE.out]; go_num⟩
      case measure => simp [intOf]; omega
    · obtain rfl : j = ps.length := by omega
      rw [List.take_length, ← HT.out]
      go_wp2_with fail
      refine (HG.out w).mono ?_
      rintro e w1 ⟨G, rfl, hown, ho⟩
      have H1 := hide (And.intro hown ho)
      clear hown ho
      go_wp2_with fail
      go_loopw [6, 27] (fun v i wr => ∃ (j : Nat) (v' : Value), j ≤ ps.length ∧ i = .int .i64 j ∧ v = v' ∧ wr.ownsRow w.heap.size 5 1 v' (CPart.all (ps.take j)).length (bvals (CPart.all (ps.take j))) ∧ Only [] w wr) (fun _ i _ => ps.length - (intOf i).toNat)
      case atStart => exact ⟨0, _, Nat.zero_le _, rfl, rfl, H1.out.1, H1.out.2⟩
      case round =>
        obtain ⟨j, v', hj, rfl, rfl, hown, ho⟩ := hrel
        obtain ⟨Av, cv, rfl, _, _⟩ := own_shape hown
        by_cases hlt : j < ps.length
        · obtain ⟨b, o, rfl, hce⟩ := HC.out wr ho j hlt
          unfold CPart.val at hce
          have hsrc : Holds wr 1 ps[j].A ps[j].l.length (bvals ps[j].l) := (HP.out.2 _ (List.getElem_mem hlt)).keep ho (by simp)
          have e1 := CPart.all_take ps j hlt
          have h2 := CPart.all_le ps (j + 1)
          rw [← HT.out] at h2
          have h3 := congrArg List.length e1
          rw [List.length_append] at h3
          have hrm : ((CPart.all (ps.take j)).length + ps[j].l.length) * 1 ≤ 140737488355328 := by omega
          have hone := bvals_one ps[j].l
          have hbase : w.heap.size ≤ wr.heap.size := ho.size
          obtain ⟨i0, hi0, hz0, hz1, hz2⟩ := info_of u8_info
          have HH := hide (And.intro hown (And.intro ho (And.intro e1 hsrc)))
          clear hown ho e1 h2 h3 hsrc
          go_wp2_with (at_builtin; refine list_append _ rfl (.tmp 31) (.tmp 32) 22 rfl w.heap.size 1 1 Tryd.underlying22 hi0 hz0 hz1 hz2 rfl (Nat.zero_lt_one) HH.out.1 rfl HH.out.2.2.2 rfl hone hrm (Nat.zero_lt_one) hbase ?_; intro A7 c7 w7 hown7 hgrow hat; have H7 := hide (And.intro hown7 hgrow); clear hown7 hgrow hat)
          go_roundw
          case rel =>
            refine ⟨j + 1, _, hlt, by go_num, rfl, ?_, HH.out.2.1.grown H7.out.2 (fun k hk hlt2 => by have := (HH.out.1.lt k hk).1; omega)⟩
            rw [HH.out.2.2.1, List.length_append, bvals_append]
            exact H7.out.1
          case measure => simp [intOf]; omega
        · obtain rfl : j = ps.length := by omega
          rw [List.take_length] at hown
          have HH := hide (And.intro hown ho)
          clear hown ho
          go_wp2_with fail
          go_ret
          refine ⟨_, rfl, ?_, HH.out.2⟩
          have := HH.out.1
          rw [List.take_length] at *
          exact this
end Go.Proofs.YtglkfgpefpebmaaDoor
