/-
  The document's New, Right.
-/
import Derived.Test.YtilpegmjkbmldaaDoorLnG
namespace Go.Proofs.YtilpegmjkbmldaaDoor
open Go Go.RowKit

/-- A cell that is as it has to be. -/
def goodC (p : Int) (c : Ce) (q : Int) : Prop := c.k = 0 ∨ (c.k = 1 ∧ q = 2) ∨ (c.k = 2 ∧ p = 1 ∧ c.r = 0)
theorem mendC_eq (p : Int) (c : Ce) (q : Int) : mendC p c q = c ↔ goodC p c q := by
  obtain ⟨r, k, a⟩ := c
  unfold mendC blankC goodC
  simp only
  by_cases a1 : k = 1
  · subst a1
    by_cases a3 : q = 2
    · simp [a3]
    · simp [a3]
  · by_cases a2 : k = 2
    · subst a2
      by_cases a4 : p = 1
      · simp [a4]; exact eq_comm
      · simp [a4]
    · simp [a1, a2]; exact eq_comm
theorem mendAt_eq {L : List Ce} {i : Nat} {C : Ce} (hC : L[i]? = some C) : mendAt L i = L.getD i noCe ↔ goodC (aheadN L i) C (kindN L (i + 1)) := by
  unfold mendAt
  rw [getD_of hC]
  exact mendC_eq _ _ _
theorem kindN_of {L : List Ce} {i : Nat} {C : Ce} (h : L[i]? = some C) : kindN L i = C.k := by unfold kindN; rw [getD_of h]

theorem LineAt.of_own {w : World} {B n c : Nat} {A : Option Addr} {L : List Ce} (h : w.ownsRow B 37 5 (.slice A n c) n (cvals L)) : LineAt w A n c L := by
  obtain ⟨A', c', he, h1, h2⟩ := own_shape h
  injection he with e1 _ e3
  subst e1
  subst e3
  exact ⟨Holds.of_own h, h1, h2⟩

set_option maxRecDepth 100000 in
set_option maxHeartbeats 4000000 in
theorem rnew_any (cols : Int) (a : Lk) (w : World) :
    Calls Tryd.prog 11 #[.int .i64 cols, a.val] w fun e w' => ∃ A c, e = .returned (.slice A (newL cols a).length c) ∧ LineAt w' A (newL cols a).length c (newL cols a) ∧ Only [] w w' := by
  have o0 := (Only.refl [] w).alloc (.cells #[.int .i64 a.fg, .int .i64 a.bg, .int .i64 a.fl] 23)
  have hb := Has.new w 23 #[.int .i64 a.fg, .int .i64 a.bg, .int .i64 a.fl]
  have HB := hide (rblank_any a)
  have H0 := hide (And.intro o0 hb)
  clear o0 hb
  show Calls Tryd.prog 11 #[.int .i64 cols, .agg #[.int .i64 a.fg, .int .i64 a.bg, .int .i64 a.fl]] w _
  by_cases h2 : 1000 < cols
  · have e : newL cols a = [] := by unfold newL; rw [if_neg (by omega)]
    rw [e]
    clear e
    go_enter Tryd.func11, Tryd.ntmps11
    go_wp2_with fail
    go_ret
    exact ⟨none, 0, rfl, ⟨Holds.empty _ _ _, Nat.le_refl _, fun _ => rfl⟩, H0.out.1⟩
  · obtain ⟨n, hn, e, hcl⟩ : ∃ n : Nat, n ≤ 1000 ∧ newL cols a = List.replicate n (blankC a) ∧ ∀ k : Nat, (k : Int) < cols ↔ k < n := by
      unfold newL
      by_cases h : 0 ≤ cols ∧ cols ≤ 1000
      · exact ⟨cols.toNat, by omega, by rw [if_pos h], fun k => by omega⟩
      · exact ⟨0, by omega, by rw [if_neg h]; rfl, fun k => by omega⟩
    rw [e, List.length_replicate]
    have HC := hide hcl
    clear e hcl
    go_enter Tryd.func11, Tryd.ntmps11
    go_wp2_with fail
    go_loopw [5, 6] (fun v i wr => ∃ (k : Nat) (A : Option Addr) (c : Nat), k ≤ n ∧ v = .slice A k c ∧ i = .int .i64 k ∧ wr.ownsRow (w.heap.size + 1) 37 5 (.slice A k c) k (cvals (List.replicate k (blankC a))) ∧ Has wr w.heap.size 23 #[.int .i64 a.fg, .int .i64 a.bg, .int .i64 a.fl] ∧ Only [] w wr) (fun _ i _ => n - (intOf i).toNat)
    case atStart => exact ⟨0, none, 0, Nat.zero_le _, rfl, rfl, World.ownsRow_nil _ _ _ _, H0.out.2, H0.out.1⟩
    case round =>
      obtain ⟨k, A, c, hk, rfl, rfl, hown, hA, ho⟩ := hrel
      by_cases hlt : k < n
      · have hkc : (k : Int) < cols := (HC.out k).2 hlt
        have hw1 : IntKind.i64.wrap ((k : Int) + 1) = (k : Int) + 1 := IntWalk.i64_in _ ⟨by omega, by omega⟩
        have d0 : wr.cell? ⟨w.heap.size, 0, none⟩ = some (.int .i64 a.fg) := hA.cell 0
        have d1 : wr.cell? ⟨w.heap.size, 1, none⟩ = some (.int .i64 a.bg) := hA.cell 1
        have d2 : wr.cell? ⟨w.heap.size, 2, none⟩ = some (.int .i64 a.fl) := hA.cell 2
        have HF := hide (And.intro hown (And.intro hA ho))
        clear hown hA ho
        unfold Lk.val Lk.cells at HB
        go_wp2_with fail
        refine (HB.out _).mono ?_
        rintro e w1 ⟨rfl, ho1⟩
        obtain ⟨hown, hA, ho⟩ := HF.out
        have hown1 := (own_keep hown ho1 (by simp)).alloc (.cells #[.int .i32 0, .int .i64 0, .int .i64 a.fg, .int .i64 a.bg, .int .i64 a.fl] 37)
        have hA1 := (hA.only ho1 (by simp)).alloc (.cells #[.int .i32 0, .int .i64 0, .int .i64 a.fg, .int .i64 a.bg, .int .i64 a.fl] 37)
        have oo1 := (ho.trans ho1 (S := []) (by simp)).alloc (.cells #[.int .i32 0, .int .i64 0, .int .i64 a.fg, .int .i64 a.bg, .int .i64 a.fl] 37)
        have hlit : Has (w1.alloc (.cells #[.int .i32 0, .int .i64 0, .int .i64 a.fg, .int .i64 a.bg, .int .i64 a.fl] 37)) w1.heap.size 37 (cvals [blankC a]).toArray := Has.new w1 _ _
        have hH := hlit.holds
        have hbase : w.heap.size + 1 ≤ (w1.alloc (.cells #[.int .i32 0, .int .i64 0, .int .i64 a.fg, .int .i64 a.bg, .int .i64 a.fl] 37)).heap.size := hA1.lt
        have HG := hide (And.intro hown1 (And.intro hH (And.intro hbase (And.intro hA1 oo1))))
        clear hown hA ho hown1 hA1 oo1 hlit hH hbase ho1 d0 d1 d2 HF
        unfold blankC Ce.val
        simp only
        obtain ⟨i0, hi0, hz0, hz1, hz2⟩ := info_of cell_info
        go_wp2_with (at_builtin; refine list_append _ rfl (.tmp 14) (.tmp 17) 24 rfl (w.heap.size + 1) 5 40 Tryd.underlying24 hi0 hz0 hz1 hz2 rfl (by omega) HG.out.1 rfl HG.out.2.1 rfl (cvals_one _) (by show (k + 1) * 40 ≤ _; omega) (by omega) HG.out.2.2.1 ?_; intro A2 c2 w2 hown2 hg2 hat2; have HQ := hide (And.intro hown2 hg2); clear hown2 hg2 hat2)
        go_roundw
        case rel =>
          obtain ⟨hown2, hg2⟩ := HQ.out
          refine ⟨k + 1, A2, c2, by omega, rfl, by go_num, ?_, HG.out.2.2.2.1.grown hg2 (own_ne HG.out.1 HG.out.2.2.2.1 (by decide)), HG.out.2.2.2.2.grown hg2 (fun j hj hlt => by have := (HG.out.1.lt j hj).1; omega)⟩
          rw [List.replicate_succ', cvals_app]
          exact hown2
        case measure => simp [intOf]; omega
      · obtain rfl : k = n := by omega
        have hkc : ¬ (k : Int) < cols := fun h => hlt ((HC.out k).1 h)
        have HF := hide (And.intro hown ho)
        clear hown hA ho
        go_wp2_with fail
        go_ret
        refine ⟨A, c, rfl, ?_, HF.out.2⟩
        exact LineAt.of_own HF.out.1
end Go.Proofs.YtilpegmjkbmldaaDoor
