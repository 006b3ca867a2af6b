/-
  Package line: New, Mend, how many there are.
-/
import Derived.Test.YtilpegmjkbmldaaDoorLnC
namespace Go.Proofs.YtilpegmjkbmldaaDoor
open Go Go.RowKit

/-- copy where the operation stands. -/
theorem list_copy_gen {P : Program} (w : World) {ops : Array Oper} {rest : List Oper} {o : Oper} {a : Act} {Q : Exit → Act → World → Prop} (hgd : o.guard = none) (d s : Operand) (dT sT : TypeId) (hop : o.op = .call { callee := .builtin .copy, args := #[d, s], argTypes := #[dT, sT] })
    {D S v : Value} {R : World → Prop} (hrun : ∀ ty, ∃ w', (Builtin.copy_ #[dT, sT] ty #[D, S]).run P w = .ok v w' ∧ R w') (hd : a.eval d = D) (hse : a.eval s = S)
    (h : ∀ w', R w' → wpList P ops Q rest (a.put o.dst v) w') : wpList P ops Q (o :: rest) a w :=
  wpList_plain hgd fun _ hK => by
    obtain ⟨w', h1, h2⟩ := hrun o.type
    unfold Oper.wp execOp
    simp only [hop, resolve, invoke, builtin, Sem.run_bind, Sem.run_pure, Result.andThen_ok, List.map_toArray, List.map_cons, List.map_nil, hd, hse, h1]
    exact hK _ _ (h w' h2)

/-- A line of the call's own. -/
structure NewLine (w w' : World) (g : Nat) (L : List Ce) : Prop where
  new : w.heap.size ≤ g
  has : Has w' g 37 (cvals L).toArray
  only : Only [] w w'
/-- A line, wherever it lies. -/
structure LineAt (w : World) (A : Option Addr) (n c : Nat) (L : List Ce) : Prop where
  row : Holds w 5 A n (cvals L)
  le : n ≤ c
  nil : A = none → c = 0
theorem LineAt.len {w : World} {A : Option Addr} {n c : Nat} {L : List Ce} (h : LineAt w A n c L) : L.length = n := h.row.clen
theorem LineAt.keep {w w' : World} {A : Option Addr} {n c : Nat} {L : List Ce} (h : LineAt w A n c L) (ho : Only [] w w') : LineAt w' A n c L := ⟨h.row.keep ho (by simp), h.le, h.nil⟩
theorem NewLine.at {w w' : World} {g : Nat} {L : List Ce} (h : NewLine w w' g L) : LineAt w' (some ⟨g, 0, none⟩) L.length L.length L := ⟨h.has.holds, Nat.le_refl _, by simp⟩

set_option maxRecDepth 100000 in
set_option maxHeartbeats 4000000 in
theorem mend_any (A : Option Addr) (n c : Nat) (L : List Ce) (w : World) (h : LineAt w A n c L) (hn : n ≤ 1000000000) :
    Calls Tryd.prog 9 #[.slice A n c] w fun e w' => ∃ g, e = .returned (.slice (some ⟨g, 0, none⟩) n n) ∧ NewLine w w' g (mendL L) := by
  have hl := h.len
  have hmk := run_make_line n hn
  have o0 : Only [] w (w.alloc (.cells (cvals (List.replicate n noCe)).toArray 37)) := (Only.refl [] w).alloc _
  have hcp : ∀ ty, ∃ w', (Builtin.copy_ #[25, 25] ty #[.slice (some ⟨w.heap.size, 0, none⟩) n n, .slice A n c]).run Tryd.prog (w.alloc (.cells (cvals (List.replicate n noCe)).toArray 37)) = .ok (.int .i64 (n : Int)) w' ∧
      (Has w' w.heap.size 37 (cvals L).toArray ∧ Only [] w w') := fun ty => by
    obtain ⟨w', h1, h2, h3⟩ := run_copy_ce (w.alloc (.cells (cvals (List.replicate n noCe)).toArray 37)) w.heap.size 0 0 n n n c n A (List.replicate n noCe) L (Has.new w _ _) rfl (Nat.min_self n).symm hl (h.row.keep o0 (by simp)) (by rw [List.length_replicate]; omega) (fun h0 ha => ⟨h.nil ha, h0⟩) 25 25 Tryd.underlying25 ty
    refine ⟨w', h1, ?_, o0.trans h3 (by intro k hk hlt; simp at hk; omega)⟩
    have e : (List.replicate n noCe).take 0 ++ L ++ (List.replicate n noCe).drop (0 + n) = L := by simp
    rw [e] at h2
    exact h2
  have H0 := hide (And.intro hl hn)
  clear h o0 hl hn
  generalize (cvals (List.replicate n noCe)).toArray = Z at *
  go_enter Tryd.func9, Tryd.ntmps9
  go_wp2_with (refine list_copy_gen _ rfl (.tmp 7) (.tmp 8) 25 25 rfl hcp rfl rfl ?_; rintro w1 ⟨hw1, ho1⟩)
  have HS := hide (mendSelf_any w.heap.size n L w1 hw1 (by have := H0.out; omega))
  have HO := hide ho1
  clear hw1 ho1 hcp hmk
  rw [H0.out.1] at HS
  refine (HS.out).mono ?_
  rintro e w2 ⟨rfl, hw2, ho2⟩
  have HF := hide (NewLine.mk (Nat.le_refl _) hw2 (HO.out.trans ho2 (S := []) (by intro k hk hlt; simp at hk; omega)))
  clear hw2 ho2
  go_wp2_with fail
  go_ret
  exact ⟨w.heap.size, rfl, HF.out⟩

set_option maxRecDepth 100000 in
set_option maxHeartbeats 4000000 in
theorem new_any (cols : Int) (a : Lk) (w : World) :
    Calls Tryd.prog 8 #[.int .i64 cols, a.val] w fun e w' => ∃ A, e = .returned (.slice A (newL cols a).length (newL cols a).length) ∧ LineAt w' A (newL cols a).length (newL cols a).length (newL cols a) ∧ Only [] w w' := by
  show Calls Tryd.prog 8 #[.int .i64 cols, .agg #[.int .i64 a.fg, .int .i64 a.bg, .int .i64 a.fl]] w _
  by_cases h : 0 ≤ cols ∧ cols ≤ 1000
  · obtain ⟨n, rfl⟩ : ∃ n : Nat, cols = n := ⟨cols.toNat, by omega⟩
    have hn : n ≤ 1000 := by omega
    have e : newL (n : Int) a = List.replicate n (blankC a) := by unfold newL; rw [if_pos h]; rfl
    rw [e, List.length_replicate]
    have h1 : ¬ (n : Int) < 0 := by omega
    have h2 : ¬ (1000 : Int) < (n : Int) := by omega
    have hmk := run_make_line n (by omega)
    have o0 : Only [] w ((w.alloc (.cells #[.int .i64 a.fg, .int .i64 a.bg, .int .i64 a.fl] 23)).alloc (.cells (cvals (List.replicate n noCe)).toArray 37)) := ((Only.refl [] w).alloc _).alloc _
    have hR : Has ((w.alloc (.cells #[.int .i64 a.fg, .int .i64 a.bg, .int .i64 a.fl] 23)).alloc (.cells (cvals (List.replicate n noCe)).toArray 37)) (w.heap.size + 1) 37 (cvals (List.replicate n noCe)).toArray := by
      have := Has.new (w.alloc (.cells #[.int .i64 a.fg, .int .i64 a.bg, .int .i64 a.fl] 23)) 37 (cvals (List.replicate n noCe)).toArray
      rwa [World.size_alloc] at this
    have HF := hide (fill_any (w.heap.size + 1) 0 0 n n (List.replicate n noCe) a _ hR rfl (by rw [List.length_replicate]; omega) (by rw [List.length_replicate]; omega))
    have HO := hide o0
    have e2 : fillL (List.replicate n noCe) 0 n a = List.replicate n (blankC a) := by unfold fillL; simp
    rw [e2] at HF
    clear hR o0 e2 e h
    unfold Lk.val Lk.cells at HF
    generalize (cvals (List.replicate n noCe)).toArray = Z at *
    go_enter Tryd.func8, Tryd.ntmps8
    go_wp2_with fail
    refine (HF.out).mono ?_
    rintro e w1 ⟨rfl, hw1, ho1⟩
    have HG := hide (And.intro hw1 (HO.out.trans ho1 (S := []) (by intro k hk hlt; simp at hk; omega)))
    clear hw1 ho1
    go_wp2_with fail
    go_ret
    refine ⟨some ⟨w.heap.size + 1, 0, none⟩, rfl, ⟨?_, Nat.le_refl _, by simp⟩, HG.out.2⟩
    have := HG.out.1.holds
    rwa [List.length_replicate] at this
  · have e : newL cols a = [] := by unfold newL; rw [if_neg h]
    rw [e]
    have o0 : Only [] w (w.alloc (.cells #[.int .i64 a.fg, .int .i64 a.bg, .int .i64 a.fl] 23)) := (Only.refl [] w).alloc _
    have HO := hide o0
    clear o0 e
    rcases Classical.em (cols < 0) with h1 | h1
    · clear h
      go_enter Tryd.func8, Tryd.ntmps8
      go_wp2_with fail
      go_ret
      exact ⟨none, rfl, ⟨Holds.empty _ _ _, Nat.le_refl _, fun _ => rfl⟩, HO.out⟩
    · have h2 : (1000 : Int) < cols := by omega
      clear h
      go_enter Tryd.func8, Tryd.ntmps8
      go_wp2_with fail
      go_ret
      exact ⟨none, rfl, ⟨Holds.empty _ _ _, Nat.le_refl _, fun _ => rfl⟩, HO.out⟩

/-- How many of n, from a column on. -/
def withinN (len : Nat) (col n : Int) : Nat := if n < 1 ∨ col < 0 ∨ (len : Int) ≤ col then 0 else (min n ((len : Int) - col)).toNat
set_option maxRecDepth 100000 in
theorem within_any (A : Option Addr) (len c : Nat) (col n : Int) (w : World) (hl : len ≤ 1000000000) :
    Calls Tryd.prog 32 #[.slice A len c, .int .i64 col, .int .i64 n] w fun e w' => e = .returned (.int .i64 (withinN len col n : Nat)) ∧ w' = w := by
  by_cases h1 : n < 1
  · rw [show withinN len col n = 0 by unfold withinN; rw [if_pos (.inl h1)]]
    go_enter Tryd.func32, Tryd.ntmps32
    go_wp2_with fail
    go_ret
    exact ⟨rfl, rfl⟩
  · by_cases h2 : col < 0
    · rw [show withinN len col n = 0 by unfold withinN; rw [if_pos (.inr (.inl h2))]]
      go_enter Tryd.func32, Tryd.ntmps32
      go_wp2_with fail
      go_ret
      exact ⟨rfl, rfl⟩
    · by_cases h3 : (len : Int) ≤ col
      · rw [show withinN len col n = 0 by unfold withinN; rw [if_pos (.inr (.inr h3))]]
        go_enter Tryd.func32, Tryd.ntmps32
        go_wp2_with fail
        go_ret
        exact ⟨rfl, rfl⟩
      · have hz : (((withinN len col n : Nat)) : Int) = min n ((len : Int) - col) := by unfold withinN; rw [if_neg (by omega)]; omega
        rw [hz]
        have hw : IntKind.i64.wrap ((len : Int) - col) = (len : Int) - col := IntWalk.i64_in _ ⟨by omega, by omega⟩
        clear hz
        generalize hq : (len : Int) - col = q at *
        have HM : min n q = if q < n then q else n := by omega
        generalize min n q = m at *
        go_enter Tryd.func32, Tryd.ntmps32
        go_wp2_with fail
        all_goals go_ret
        all_goals exact ⟨rfl, rfl⟩
end Go.Proofs.YtilpegmjkbmldaaDoor
