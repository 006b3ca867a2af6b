/-
  Package attr: Apply.
-/
import Derived.Test.YtjfmebjjdiodbaaDoorAtC
import Derived.Test.YtjfmebjjdiodbaaDoorAtD
import Derived.Test.YtjfmebjjdiodbaaDoorAtE
import Derived.Test.YtjfmebjjdiodbaaDoorAtF
import Derived.Test.YtjfmebjjdiodbaaDoorCutI
import Derived.Laws.ResultCell
namespace Go.Proofs.YtjfmebjjdiodbaaDoor
open Go Go.RowKit

theorem step_any (g : Nat) (a : At) (ha : a.Wf) (b o c : Nat) (l : List Int) (w : World) (T : Tab w) (hg8 : Above g) (hg : Has w g 23 a.cells) (hl : ∀ j u, (ivals l)[j]? = some u → w.cell? ⟨b, o + j, none⟩ = some u) (h0 : 0 < l.length) :
    Calls Tryd.prog 20 #[.pointer (some ⟨g, 0, none⟩), .slice (some ⟨b, o, none⟩) l.length c] w fun e w' => e = .returned (.int .i64 (usedA l : Nat)) ∧ Has w' g 23 (stepA a l).cells ∧ Only [g] w w' := by
  rcases classes (l.getD 0 0) with h | h | h | h | h | h | h | h | h | h | h | h | h
  · exact step_0 g a ha b o c l w T hg hl h0 h
  · exact step_1 g a ha b o c l w T hg hl h0 h
  · exact step_22 g a ha b o c l w T hg8 hg hl h0 h
  · exact step_23 g a ha b o c l w T hg hl h0 h
  · exact step_30 g a ha b o c l w T hg hl h0 h
  · exact step_38 g a ha b o c l w T hg hl h0 h
  · exact step_39 g a ha b o c l w T hg hl h0 h
  · exact step_40 g a ha b o c l w T hg hl h0 h
  · exact step_48 g a ha b o c l w T hg hl h0 h
  · exact step_49 g a ha b o c l w T hg hl h0 h
  · exact step_90 g a ha b o c l w T hg hl h0 h
  · exact step_100 g a ha b o c l w T hg hl h0 h
  · exact step_no g a ha b o c l w T hg hl h0 h

theorem Has.set3 {w : World} {g : Nat} {t : TypeId} {x y z : Value} (h : Has w g t #[x, y, z]) (x' y' z' : Value) : Has (((w.setCell ⟨g, 0, none⟩ x').setCell ⟨g, 1, none⟩ y').setCell ⟨g, 2, none⟩ z') g t #[x', y', z'] :=
  ((h.set 0 x').set 1 y').set 2 z'
theorem Only.set3 {S : List Nat} {a w : World} {g : Nat} (h : Only S a w) (hg : g < a.heap.size → g ∈ S) (x y z : Value) : Only S a (((w.setCell ⟨g, 0, none⟩ x).setCell ⟨g, 1, none⟩ y).setCell ⟨g, 2, none⟩ z) :=
  ((h.setCell hg x).setCell hg y).setCell hg z

/-- How many elements a slice has. -/
def atSlen : Value → Nat
  | .slice _ n _ => n
  | _ => 0

/-- Where Apply's loop stands. -/
structure ApS (w : World) (l : List Int) (R a : At) (A : Option Addr) (n c : Nat) (wr : World) : Prop where
  len : l.length = n
  le : n ≤ c
  row : Holds w 1 A n (ivals l)
  here : Has wr w.heap.size 23 a.cells
  res : Has wr (w.heap.size + 1) 23 At.zero.cells
  only : Only [] w wr
  wf : a.Wf
  all : allA a l = R

set_option maxRecDepth 100000 in
set_option maxHeartbeats 4000000 in
theorem apply_any (a : At) (ha : a.Wf) (A : Option Addr) (n c : Nat) (l : List Int) (w : World) (T : Tab w) (hl : Holds w 1 A n (ivals l)) (hn : l.length = n) (hc : n ≤ c) :
    Calls Tryd.prog 9 #[a.val, .slice A n c] w fun e w' => e = .returned (applyA a l).val ∧ Only [] w w' := by
  by_cases h0 : n = 0
  · subst h0
    obtain rfl : l = [] := List.eq_nil_of_length_eq_zero hn
    show Calls Tryd.prog 9 #[.agg #[.int .i64 a.fg, .int .i64 a.bg, .int .i64 a.fl], .slice A 0 c] w _
    clear hl hn
    go_enter Tryd.func9, Tryd.ntmps9
    go_wp2_with fail
    exact bodyPost_ret (results_cell_row Tryd.results9 _ _ (w.heap.size + 1) 23 _ (0, 0) _ rfl (by have := Has.new (w.alloc (.cells a.cells 23)) 23 At.zero.cells; rwa [World.size_alloc] at this) Tryd.underlying23 rfl (by kernel_rfl)) rfl ⟨rfl, ((Only.refl [] w).alloc _).alloc _⟩
  · have hR : applyA a l = allA a l := by unfold applyA; rw [if_neg (by intro h; rw [h] at hn; exact h0 hn.symm)]
    rw [hR]
    obtain ⟨R, hR2⟩ : ∃ R, R = allA a l := ⟨_, rfl⟩
    rw [← hR2]
    have hnn : ((n : Int) == 0) = false := by rw [beq_eq_false_iff_ne]; omega
    have HI := hide (And.intro hl (And.intro hn (And.intro hR2.symm (And.intro T ha))))
    clear hl hn hR hR2 T ha
    show Calls Tryd.prog 9 #[.agg #[.int .i64 a.fg, .int .i64 a.bg, .int .i64 a.fl], .slice A n c] w _
    go_enter Tryd.func9, Tryd.ntmps9
    go_wp2_with fail
    go_loopw [1] (fun pv wr => ∃ (a' : At) (l' : List Int) (A' : Option Addr) (n' c' : Nat), pv = .slice A' n' c' ∧ ApS w l' R a' A' n' c' wr) (fun pv _ => atSlen pv)
    case atStart => exact ⟨a, l, A, n, c, rfl, HI.out.2.1, hc, HI.out.1, (Has.new w _ _).alloc _, (by have := Has.new (w.alloc (.cells a.cells 23)) 23 At.zero.cells; rwa [World.size_alloc] at this), ((Only.refl [] w).alloc _).alloc _, HI.out.2.2.2.2, HI.out.2.2.1⟩
    case round =>
      obtain ⟨a', l', A', n', c', rfl, S⟩ := hrel
      by_cases hz : n' = 0
      · have hl0 : l' = [] := List.eq_nil_of_length_eq_zero (S.len.trans hz)
        subst hz
        have hRa : a' = R := by have := S.all; rw [hl0, allA_nil] at this; exact this
        subst hRa
        have d0 : wr.cell? ⟨w.heap.size, 0, none⟩ = some (.int .i64 a'.fg) := S.here.cell 0
        have d1 : wr.cell? ⟨w.heap.size, 1, none⟩ = some (.int .i64 a'.bg) := S.here.cell 1
        have d2 : wr.cell? ⟨w.heap.size, 2, none⟩ = some (.int .i64 a'.fl) := S.here.cell 2
        have e0 : wr.cell? ⟨w.heap.size + 1, 0, none⟩ = some (.int .i64 0) := S.res.cell 0
        have e1 : wr.cell? ⟨w.heap.size + 1, 1, none⟩ = some (.int .i64 0) := S.res.cell 1
        have e2 : wr.cell? ⟨w.heap.size + 1, 2, none⟩ = some (.int .i64 0) := S.res.cell 2
        have f0 := S.res.free 0
        have f1 := S.res.free 1
        have f2 := S.res.free 2
        have HS := hide S
        clear S hl0
        go_wp2_with fail
        exact bodyPost_ret (results_cell_row Tryd.results9 _ _ (w.heap.size + 1) 23 _ (0, 0) _ rfl (HS.out.res.set3 _ _ _) Tryd.underlying23 rfl (by kernel_rfl)) rfl ⟨rfl, HS.out.only.set3 (by omega) _ _ _⟩
      · obtain ⟨b, o, rfl, hcell⟩ := S.row.addr (by rw [ivals_length, S.len]; omega)
        have hlen := S.len
        subst hlen
        have hp : 0 < l'.length := by omega
        have hne : l' ≠ [] := List.length_pos_iff.1 hp
        have HK := hide (step_any w.heap.size a' S.wf b o c' l' wr (HI.out.2.2.2.1.only S.only (by simp)) HI.out.2.2.2.1.above S.here (fun j u hu => by
          have hb := S.row.blk hp _ rfl
          rw [S.only.cell (p := ⟨b, o + j, none⟩) hb (by simp)]
          exact hcell j u hu) hp)
        obtain ⟨A2, c2, hrun, hl2, hc2, _⟩ := run_ifrom S.row rfl S.le (usedA l') (usedA_le hne)
        have hu1 := usedA_pos hne
        have hu2 := usedA_le hne
        have hst : allA (stepA a' l') (l'.drop (usedA l')) = R := by rw [← allA_step a' hne]; exact S.all
        have HS := hide (And.intro S (And.intro hl2 (And.intro hc2 (And.intro hu1 (And.intro hu2 hst)))))
        clear S hl2 hc2 hu1 hu2 hst hne hcell
        generalize usedA l' = U at *
        generalize l'.length = m at *
        go_wp2_with fail
        refine (HK.out).mono ?_
        rintro e w1 ⟨rfl, hg1, ho1⟩
        go_wp2_with fail
        go_roundw
        case rel =>
          obtain ⟨S, hl2, hc2, hu1, hu2, hst⟩ := HS.out
          exact ⟨stepA a' l', l'.drop U, A2, m - U, c2, rfl, by rw [List.length_drop, S.len], hc2, hl2, hg1, S.res.only ho1 (by simp), S.only.trans ho1 (by simp), stepA_wf S.wf _, hst⟩
        case measure => have := HS.out; show m - U < m; omega
end Go.Proofs.YtjfmebjjdiodbaaDoor
