/-
  Package pixel: spots, copies, blank matrices, faults.
-/
import Derived.Test.YtngaabnmhcncmaaPxC
import Derived.Deep.RegionWith
import Derived.Deep.OwnRows
import Derived.Lib.AppendZerosOnto
namespace Go.Proofs.Ytngaabnmhcncmaa
open Go Go.RowKit

theorem u8_info : (Try.prog.info? 5).map (fun i => (i.zero, i.size, i.bytes)) = some (some (.int .u8 0), 1, 1) := by kernel_rfl

set_option maxHeartbeats 400000 in
theorem bclone_nil (w : World) : Calls Try.prog 60 #[.slice none 0 0] w fun e w' => e = .returned (.slice none 0 0) ∧ w = w' := by
  have hn : (binOp .eql 22 (.slice none 0 0) (.slice none 0 0)).run Try.prog w = .ok (.bool true) w := by kernel_rfl
  go_enter Try.func60, Try.ntmps60
  go_wp2_with fail
  go_ret
  exact ⟨rfl, rfl⟩

set_option maxHeartbeats 400000 in
theorem bclone_some (ad : Addr) (n c : Nat) (l : List UInt8) (w : World) (h : Holds w 1 (some ad) n (bvals l)) (hn : n ≤ 140737488355328) :
    Calls Try.prog 60 #[.slice (some ad) n c] w fun e w' =>
      ∃ v, e = .returned v ∧ w'.ownsRow w.heap.size 5 1 v n (bvals l) ∧ Only [] w w' := by
  obtain ⟨i0, hi0, hz0, hz1, hz2⟩ := info_of u8_info
  have hne : ∀ w : World, (binOp .eql 22 (.slice (some ad) n c) (.slice none 0 0)).run Try.prog w = .ok (.bool false) w := fun w => by
    have := Lib.run_eql_slice_nil (P := Try.prog) w 22 5 (some ad) n c 0 0 Try.underlying22
    simpa using this
  go_enter Try.func60, Try.ntmps60
  have hempty : (w.alloc (.cells #[] 5)).ownsRow w.heap.size 5 1 (.slice (some ⟨w.heap.size, 0, none⟩) 0 0) 0 [] :=
    World.ownsRow_made w #[] 0 (Nat.le_refl _) (by simp [maxLen]) rfl
  go_wp2_with (at_builtin; refine list_append _ rfl (.tmp 5) (.tmp 6) 22 rfl w.heap.size 1 1 Try.underlying22 hi0 hz0 hz1 hz2 rfl (by omega) hempty rfl (h.keep ((Only.refl [] w).alloc _) (by simp)) rfl (bvals_one l) (by omega) (by omega) (by simp) ?_; intro A1 c1 w1 hown1 hg1 hat1)
  go_ret
  refine ⟨_, rfl, by simpa using hown1, ((Only.refl [] w).alloc _).grown hg1 ?_⟩
  intro k hk hlt
  have hk' : w.heap.size = k := by injection hk
  omega

/-- bytes.Clone: a row of the call's own, nil for nil. -/
theorem bclone_any (A : Option Addr) (n c : Nat) (l : List UInt8) (w : World) (h : Holds w 1 A n (bvals l)) (hn : n ≤ 140737488355328) (hA : A = none → c = 0 ∧ n = 0) :
    Calls Try.prog 60 #[.slice A n c] w fun e w' =>
      ∃ v, e = .returned v ∧ w'.ownsRow w.heap.size 5 1 v n (bvals l) ∧ Only [] w w' := by
  rcases A with _ | ad
  · obtain ⟨rfl, rfl⟩ := hA rfl
    refine (bclone_nil w).mono ?_
    rintro e w' ⟨rfl, rfl⟩
    have : bvals l = [] := List.eq_nil_of_length_eq_zero (by rw [h.1])
    rw [this]
    exact ⟨_, rfl, World.ownsRow_nil _ _ _ _, Only.refl _ _⟩
  · exact bclone_some ad n c l w h hn

theorem mat_one (W H : Int) (A : Option Addr) (n c : Nat) : (#[Value.int .i64 W, .int .i64 H, .slice A n c] : Array Value).all (·.oneCell') = true := by simp [Value.oneCell']
/-- A matrix of the call's own. -/
def Own (w : World) (B : Nat) (W H : Int) (v : Value) (l : List UInt8) : Prop :=
  ∃ A c, v = mval W H A l.length c ∧ w.ownsRow B 5 1 (.slice A l.length c) l.length (bvals l)

set_option maxRecDepth 100000 in
set_option maxHeartbeats 4000000 in
theorem like_any (W H : Int) (A : Option Addr) (n c : Nat) (l : List UInt8) (w : World) (h : Holds w 1 A n (bvals l)) (hl : l.length = n) (hn : n ≤ 140737488355328) (hA : A = none → c = 0 ∧ n = 0) :
    Calls Try.prog 47 #[mval W H A n c] w fun e w' => ∃ v, e = .returned v ∧ Own w' w.heap.size W H v l ∧ Only [] w w' := by
  show Calls Try.prog 47 #[.agg #[.int .i64 W, .int .i64 H, .slice A n c]] w _
  have hbx : Has ((w.alloc (.cells #[.int .i64 W, .int .i64 H, .slice A n c] 24)).alloc (.cells #[.int .i64 0, .int .i64 0, .slice none 0 0] 24)) w.heap.size 24 #[.int .i64 W, .int .i64 H, .slice A n c] := (Has.new w _ _).alloc _
  have hrs : Has ((w.alloc (.cells #[.int .i64 W, .int .i64 H, .slice A n c] 24)).alloc (.cells #[.int .i64 0, .int .i64 0, .slice none 0 0] 24)) (w.heap.size + 1) 24 #[.int .i64 0, .int .i64 0, .slice none 0 0] := by
    have := Has.new (w.alloc (.cells #[.int .i64 W, .int .i64 H, .slice A n c] 24)) 24 #[.int .i64 0, .int .i64 0, .slice none 0 0]
    simpa using this
  have o2 : Only [] w ((w.alloc (.cells #[.int .i64 W, .int .i64 H, .slice A n c] 24)).alloc (.cells #[.int .i64 0, .int .i64 0, .slice none 0 0] 24)) := ((Only.refl [] w).alloc _).alloc _
  have h2 := h.keep o2 (by simp)
  go_enter Try.func47, Try.ntmps47
  go_wp2_with fail
  generalize (w.alloc (.cells #[.int .i64 W, .int .i64 H, .slice A n c] 24)).alloc (.cells #[.int .i64 0, .int .i64 0, .slice none 0 0] 24) = w0 at *
  have b0 : w0.drew.cell? ⟨w.heap.size, 0, none⟩ = some (.int .i64 W) := hbx.drew.cell 0
  have b1 : w0.drew.cell? ⟨w.heap.size, 1, none⟩ = some (.int .i64 H) := hbx.drew.cell 1
  have b2 : w0.drew.cell? ⟨w.heap.size, 2, none⟩ = some (.slice A n c) := hbx.drew.cell 2
  have HC := hide (bclone_any A n c l w0.drew (h2.keep ((Only.refl [] w0).drew) (by simp)) hn hA)
  have HI := hide (And.intro hbx (And.intro hrs (And.intro o2 hl)))
  clear hbx hrs o2 h2 h hl hA
  go_region_with (go_at_call 60; refine (HC.out).mono ?_; rintro e w1 ⟨v, rfl, how, ho1⟩; obtain ⟨A1, c1, rfl, hc1, hA1⟩ := own_shape how; have d0 : w1.cell? ⟨w.heap.size, 0, none⟩ = some (.int .i64 W) := (HI.out.1.drew.only ho1 (by simp)).cell 0; have d1 : w1.cell? ⟨w.heap.size, 1, none⟩ = some (.int .i64 H) := (HI.out.1.drew.only ho1 (by simp)).cell 1; have d2 : w1.cell? ⟨w.heap.size + 1, 0, none⟩ = some (.int .i64 0) := (HI.out.2.1.drew.only ho1 (by simp)).cell 0; have d3 : w1.cell? ⟨w.heap.size + 1, 1, none⟩ = some (.int .i64 0) := (HI.out.2.1.drew.only ho1 (by simp)).cell 1; have d4 : w1.cell? ⟨w.heap.size + 1, 2, none⟩ = some (.slice none 0 0) := (HI.out.2.1.drew.only ho1 (by simp)).cell 2; have f2 : w1.frozen? ⟨w.heap.size + 1, 0, none⟩ = false := (HI.out.2.1.drew.only ho1 (by simp)).free 0; have f3 : w1.frozen? ⟨w.heap.size + 1, 1, none⟩ = false := (HI.out.2.1.drew.only ho1 (by simp)).free 1; have f4 : w1.frozen? ⟨w.heap.size + 1, 2, none⟩ = false := (HI.out.2.1.drew.only ho1 (by simp)).free 2)
  all_goals
    go_wp2_with fail
    have hfin : Has (((w1.setCell ⟨w.heap.size + 1, 0, none⟩ (.int .i64 W)).setCell ⟨w.heap.size + 1, 1, none⟩ (.int .i64 H)).setCell ⟨w.heap.size + 1, 2, none⟩ (.slice A1 n c1)) (w.heap.size + 1) 24 #[.int .i64 W, .int .i64 H, .slice A1 n c1] :=
      (((HI.out.2.1.drew.only ho1 (by simp)).set 0 (.int .i64 W)).set 1 (.int .i64 H)).set 2 (.slice A1 n c1)
    have hlt := HI.out.2.1.lt
    have hw0 := HI.out.2.2.1.size
    have hw1 := ho1.size
    obtain ⟨hHI1, hHI2, hHI3, hl⟩ := HI.out
    subst hl
    refine bodyPost_ret (results_cell_row Try.results47 _ _ (w.heap.size + 1) 24 _ (0, 0) _ rfl hfin Try.underlying24 rfl (by kernel_rfl)) rfl ⟨_, rfl, ⟨A1, c1, rfl, ?_⟩, ?_⟩
    · have hb : ∀ b, (Value.slice A1 l.length c1).ownBlock = some b → b ≠ w.heap.size + 1 := by
        intro b hb e
        rcases how.2 with ⟨h0, _⟩ | ⟨gb, cap, cur, hv, hge, _⟩
        · rw [h0] at hb; cases hb
        · rw [hv] at hb
          have : gb = b := by simpa [Value.ownBlock] using hb
          have h2 : w0.heap.size ≤ gb := hge
          omega
      have hmono := own_mono how (base' := w.heap.size) hw0
      exact ownsRow_setCell_other (ownsRow_setCell_other (ownsRow_setCell_other hmono (fun h => hb _ h rfl) _) (fun h => hb _ h rfl) _) (fun h => hb _ h rfl) _
    · have hS : ∀ p : Addr, p.block = w.heap.size + 1 → p.block < w.heap.size → p.block ∈ ([] : List Nat) := fun p h1 h2 => by omega
      exact ((((hHI3.drew).trans ho1 (S := []) (by simp)).setCell (hS _ rfl) _).setCell (hS _ rfl) _).setCell (hS _ rfl) _
end Go.Proofs.Ytngaabnmhcncmaa
