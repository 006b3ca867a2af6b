/-
  Package zlib: Write, whatever its parts give. | Package inflate, New; package zlib, New. | Package zlib: Unpack, whatever Write gives.
-/
import Derived.Test.YtopjkmobnmaaaaaDoorMZlI
import Derived.Test.YtopjkmobnmaaaaaDoorMFlWr
import Derived.OwnWalk
namespace Go.Proofs.YtopjkmobnmaaaaaDoor
open Go Go.RowKit

/-- The body is asked: with which bytes, in which world. -/
def Reach1 (g p : Nat) (b : Value) (w : World) (R0 : Ending → World → Prop) (b1 : Value) (w1 : World) : Prop :=
  (p = 1 ∧ b1 = b ∧ w1 = w) ∨ (p = 0 ∧ R0 (.returned (.tuple #[b1, .int .i64 0])) w1 ∧ w1.cell? ⟨g, 358, none⟩ = some (.int .i64 1))
/-- The sum is asked: what is told, with which bytes, in which world. -/
def Reach2 (g p : Nat) (b : Value) (w : World) (R0 : Ending → World → Prop) (R1 : Value → World → Ending → World → Prop) (v b2 : Value) (w2 : World) : Prop :=
  (p = 2 ∧ v = .slice none 0 0 ∧ b2 = b ∧ w2 = w) ∨ (∃ b1 w1, Reach1 g p b w R0 b1 w1 ∧ R1 b1 w1 (.returned (.tuple #[v, b2, .int .i64 0])) w2 ∧ w2.cell? ⟨g, 358, none⟩ = some (.int .i64 2))
/-- What comes of a Write. -/
def ZWrote (g p : Nat) (b : Value) (w : World) (R0 : Ending → World → Prop) (R1 : Value → World → Ending → World → Prop) (R2 : Value → World → Ending → World → Prop) (e : Ending) (w' : World) : Prop :=
  (p = 0 ∧ ∃ (b1 : Value) (c : Nat), R0 (.returned (.tuple #[b1, .int .i64 (c : Int)])) w' ∧ c ≠ 0 ∧ e = .returned (.tuple #[.slice none 0 0, .int .i64 (c : Int)])) ∨
  (p = 0 ∧ ∃ b1 : Value, R0 (.returned (.tuple #[b1, .int .i64 0])) w' ∧ w'.cell? ⟨g, 358, none⟩ = some (.int .i64 0) ∧ e = .returned (.tuple #[.slice none 0 0, .int .i64 0])) ∨
  (∃ b1 w1, Reach1 g p b w R0 b1 w1 ∧ ∃ (v b2 : Value) (c : Nat), R1 b1 w1 (.returned (.tuple #[v, b2, .int .i64 (c : Int)])) w' ∧ c ≠ 0 ∧ e = .returned (.tuple #[.slice none 0 0, .int .i64 (c : Int)])) ∨
  (∃ b1 w1, Reach1 g p b w R0 b1 w1 ∧ ∃ v b2 : Value, R1 b1 w1 (.returned (.tuple #[v, b2, .int .i64 0])) w' ∧ w'.cell? ⟨g, 358, none⟩ = some (.int .i64 1) ∧ e = .returned (.tuple #[v, .int .i64 0])) ∨
  (∃ v b2 w2, Reach2 g p b w R0 R1 v b2 w2 ∧ ∃ c : Nat, R2 b2 w2 (.returned (.int .i64 (c : Int))) w' ∧ ((c ≠ 0 ∧ e = .returned (.tuple #[.slice none 0 0, .int .i64 (c : Int)])) ∨ (c = 0 ∧ e = .returned (.tuple #[v, .int .i64 0])))) ∨
  (p = 3 ∧ w' = w ∧ e = .returned (.tuple #[.slice none 0 0, .int .i64 0]))

set_option maxRecDepth 100000 in
set_option maxHeartbeats 8000000 in
theorem zwrite_gen (g p : Nat) (A : Option Addr) (n cb : Nat) (w : World) (hp : w.cell? ⟨g, 358, none⟩ = some (.int .i64 (p : Int))) (hp3 : p ≤ 3)
    (R0 : Ending → World → Prop) (R1 : Value → World → Ending → World → Prop) (R2 : Value → World → Ending → World → Prop)
    (h0 : p = 0 → Calls Tryd.prog 26 #[.pointer (some ⟨g, 0, none⟩), .slice A n cb] w R0)
    (s0 : ∀ e w1, R0 e w1 → ∃ (b1 : Value) (c p1 : Nat), e = .returned (.tuple #[b1, .int .i64 (c : Int)]) ∧ w1.cell? ⟨g, 358, none⟩ = some (.int .i64 (p1 : Int)) ∧ (p1 = 0 ∨ p1 = 1))
    (h1 : ∀ b1 w1, Reach1 g p (.slice A n cb) w R0 b1 w1 → Calls Tryd.prog 27 #[.pointer (some ⟨g, 0, none⟩), b1] w1 (R1 b1 w1))
    (s1 : ∀ b1 w1 e w2, R1 b1 w1 e w2 → ∃ (v b2 : Value) (c p2 : Nat), e = .returned (.tuple #[v, b2, .int .i64 (c : Int)]) ∧ w2.cell? ⟨g, 358, none⟩ = some (.int .i64 (p2 : Int)) ∧ (p2 = 1 ∨ p2 = 2))
    (h2 : ∀ v b2 w2, Reach2 g p (.slice A n cb) w R0 R1 v b2 w2 → Calls Tryd.prog 28 #[.pointer (some ⟨g, 0, none⟩), b2] w2 (R2 b2 w2))
    (s2 : ∀ b2 w2 e w3, R2 b2 w2 e w3 → ∃ c : Nat, e = .returned (.int .i64 (c : Int))) :
    Calls Tryd.prog 15 #[.pointer (some ⟨g, 0, none⟩), .slice A n cb] w (ZWrote g p (.slice A n cb) w R0 R1 R2) := by
  have HA := hide (And.intro h0 (And.intro s0 (And.intro h1 (And.intro s1 (And.intro h2 s2)))))
  clear h0 s0 h1 s1 h2 s2
  have hpp : p = 0 ∨ p = 1 ∨ p = 2 ∨ p = 3 := by omega
  rcases hpp with rfl | rfl | rfl | rfl
  · have hp0 : w.cell? ⟨g, 358, none⟩ = some (.int .i64 0) := hp
    clear hp
    have HC0 := hide (HA.out.1 rfl)
    go_enter Tryd.func15, Tryd.ntmps15
    go_wp2_with fail
    refine (HC0.out).mono ?_
    intro e w3 hr3
    obtain ⟨b1, c3, p1, rfl, hcell3, hp1⟩ := HA.out.2.1 _ _ hr3
    have H3 := hide hr3
    clear hr3
    by_cases hc3 : c3 = 0
    · subst hc3
      rcases hp1 with rfl | rfl
      · have hc30 : w3.cell? ⟨g, 358, none⟩ = some (.int .i64 0) := hcell3
        clear hcell3
        go_wp2_with fail
        go_ret2
        exact .inr (.inl ⟨rfl, b1, H3.out, hc30, rfl⟩)
      · have hc31 : w3.cell? ⟨g, 358, none⟩ = some (.int .i64 1) := hcell3
        clear hcell3
        have HR1 := hide (show Reach1 g 0 (.slice A n cb) w R0 b1 w3 from .inr ⟨rfl, H3.out, hc31⟩)
        have HC1 := hide (HA.out.2.2.1 _ _ HR1.out)
        go_wp2_with fail
        refine (HC1.out).mono ?_
        intro e w5 hr5
        obtain ⟨v, b2, c5, p2, rfl, hcell5, hp2⟩ := HA.out.2.2.2.1 _ _ _ _ hr5
        have H5 := hide hr5
        clear hr5
        by_cases hc5 : c5 = 0
        · subst hc5
          rcases hp2 with rfl | rfl
          · have hc51 : w5.cell? ⟨g, 358, none⟩ = some (.int .i64 1) := hcell5
            clear hcell5
            go_wp2_with fail
            go_ret2
            exact .inr (.inr (.inr (.inl ⟨_, _, HR1.out, v, b2, H5.out, hc51, rfl⟩)))
          · have hc52 : w5.cell? ⟨g, 358, none⟩ = some (.int .i64 2) := hcell5
            clear hcell5
            have HR2 := hide (show Reach2 g _ (.slice A n cb) w R0 R1 v b2 w5 from .inr ⟨_, _, HR1.out, H5.out, hc52⟩)
            have HC2 := hide (HA.out.2.2.2.2.1 _ _ _ HR2.out)
            go_wp2_with fail
            refine (HC2.out).mono ?_
            intro e w9 hr9
            obtain ⟨c9, rfl⟩ := HA.out.2.2.2.2.2 _ _ _ _ hr9
            have H9 := hide hr9
            clear hr9
            by_cases hc9 : c9 = 0
            · subst hc9
              go_wp2_with fail
              go_ret2
              exact .inr (.inr (.inr (.inr (.inl ⟨_, _, _, HR2.out, 0, H9.out, .inr ⟨rfl, rfl⟩⟩))))
            · have hcz : ¬ (c9 : Int) = 0 := by omega
              go_wp2_with fail
              go_ret2
              exact .inr (.inr (.inr (.inr (.inl ⟨_, _, _, HR2.out, c9, H9.out, .inl ⟨hc9, rfl⟩⟩))))
        · have hcz : ¬ (c5 : Int) = 0 := by omega
          clear hcell5
          go_wp2_with fail
          go_ret2
          exact .inr (.inr (.inl ⟨_, _, HR1.out, v, b2, c5, H5.out, hc5, rfl⟩))
    · have hcz : ¬ (c3 : Int) = 0 := by omega
      clear hcell3
      go_wp2_with fail
      go_ret2
      exact .inl ⟨rfl, b1, c3, H3.out, hc3, rfl⟩
  · have hp1 : w.cell? ⟨g, 358, none⟩ = some (.int .i64 1) := hp
    clear hp
    go_enter Tryd.func15, Tryd.ntmps15
    have HR1 := hide (show Reach1 g 1 (.slice A n cb) w R0 (.slice A n cb) w from .inl ⟨rfl, rfl, rfl⟩)
    have HC1 := hide (HA.out.2.2.1 _ _ HR1.out)
    go_wp2_with fail
    refine (HC1.out).mono ?_
    intro e w5 hr5
    obtain ⟨v, b2, c5, p2, rfl, hcell5, hp2⟩ := HA.out.2.2.2.1 _ _ _ _ hr5
    have H5 := hide hr5
    clear hr5
    by_cases hc5 : c5 = 0
    · subst hc5
      rcases hp2 with rfl | rfl
      · have hc51 : w5.cell? ⟨g, 358, none⟩ = some (.int .i64 1) := hcell5
        clear hcell5
        go_wp2_with fail
        go_ret2
        exact .inr (.inr (.inr (.inl ⟨_, _, HR1.out, v, b2, H5.out, hc51, rfl⟩)))
      · have hc52 : w5.cell? ⟨g, 358, none⟩ = some (.int .i64 2) := hcell5
        clear hcell5
        have HR2 := hide (show Reach2 g _ (.slice A n cb) w R0 R1 v b2 w5 from .inr ⟨_, _, HR1.out, H5.out, hc52⟩)
        have HC2 := hide (HA.out.2.2.2.2.1 _ _ _ HR2.out)
        go_wp2_with fail
        refine (HC2.out).mono ?_
        intro e w9 hr9
        obtain ⟨c9, rfl⟩ := HA.out.2.2.2.2.2 _ _ _ _ hr9
        have H9 := hide hr9
        clear hr9
        by_cases hc9 : c9 = 0
        · subst hc9
          go_wp2_with fail
          go_ret2
          exact .inr (.inr (.inr (.inr (.inl ⟨_, _, _, HR2.out, 0, H9.out, .inr ⟨rfl, rfl⟩⟩))))
        · have hcz : ¬ (c9 : Int) = 0 := by omega
          go_wp2_with fail
          go_ret2
          exact .inr (.inr (.inr (.inr (.inl ⟨_, _, _, HR2.out, c9, H9.out, .inl ⟨hc9, rfl⟩⟩))))
    · have hcz : ¬ (c5 : Int) = 0 := by omega
      clear hcell5
      go_wp2_with fail
      go_ret2
      exact .inr (.inr (.inl ⟨_, _, HR1.out, v, b2, c5, H5.out, hc5, rfl⟩))
  · have hp2 : w.cell? ⟨g, 358, none⟩ = some (.int .i64 2) := hp
    clear hp
    go_enter Tryd.func15, Tryd.ntmps15
    have HR2 := hide (show Reach2 g 2 (.slice A n cb) w R0 R1 (.slice none 0 0) (.slice A n cb) w from .inl ⟨rfl, rfl, rfl, rfl⟩)
    have HC2 := hide (HA.out.2.2.2.2.1 _ _ _ HR2.out)
    go_wp2_with fail
    refine (HC2.out).mono ?_
    intro e w9 hr9
    obtain ⟨c9, rfl⟩ := HA.out.2.2.2.2.2 _ _ _ _ hr9
    have H9 := hide hr9
    clear hr9
    by_cases hc9 : c9 = 0
    · subst hc9
      go_wp2_with fail
      go_ret2
      exact .inr (.inr (.inr (.inr (.inl ⟨_, _, _, HR2.out, 0, H9.out, .inr ⟨rfl, rfl⟩⟩))))
    · have hcz : ¬ (c9 : Int) = 0 := by omega
      go_wp2_with fail
      go_ret2
      exact .inr (.inr (.inr (.inr (.inl ⟨_, _, _, HR2.out, c9, H9.out, .inl ⟨hc9, rfl⟩⟩))))
  · have hp3' : w.cell? ⟨g, 358, none⟩ = some (.int .i64 3) := hp
    clear hp
    go_enter Tryd.func15, Tryd.ntmps15
    go_wp2_with fail
    go_ret2
    exact .inr (.inr (.inr (.inr (.inr ⟨rfl, rfl, rfl⟩))))
end Go.Proofs.YtopjkmobnmaaaaaDoor


namespace Go.Proofs.YtopjkmobnmaaaaaDoor
open Go Go.RowKit

/-- A new decoder. -/
def DF.new (most gw gt : Nat) : DF := ⟨most, 0, 0, 0, 0, .slice (some ⟨gw, 0, none⟩) 32768 32768, 0, .slice (some ⟨gt, 0, none⟩) 0 4, 0, false, 0, fun i => if i = 34 then .pointer none else if 14 ≤ i ∧ i < 33 ∨ 36 ≤ i ∧ i < 352 then .int .u8 0 else .int .i64 0, .pointer none, .pointer none, 0, 0, false, []⟩

set_option maxRecDepth 100000 in
theorem zero_decoder (most gw gt : Nat) : ((((Tryd.zeroCells54.setIfInBounds 0 (.int .i64 (most : Int))).setIfInBounds 5 (.slice (some ⟨gw, 0, none⟩) 32768 32768)).setIfInBounds 6 (.int .i64 0)).setIfInBounds 7 (.slice (some ⟨gt, 0, none⟩) 0 4)) = (DF.new most gw gt).cells := by kernel_rfl

theorem mk_ring : ∃ zr : Array Value, zr.size = 32768 ∧ ∀ W : World, (Instr.makeSlice 22 (.int .i64 32768) (.int .i64 32768)).run Tryd.prog W = .ok (.slice (some ⟨W.heap.size, 0, none⟩) 32768 32768) (W.alloc (.cells zr 5)) :=
  ⟨madeCells #[.int .u8 0] 32768, by rw [zeros_eq, List.size_toArray, bvals_length, List.length_replicate], fun W => run_make_row' (P := Tryd.prog) 22 5 (.int .u8 0) 1 Tryd.underlying22 u8_info rfl .i64 .i64 32768 (by decide) (by decide) W⟩
theorem mk_waits : ∃ zw : Array Value, zw.size = 4 ∧ ∀ W : World, (Instr.makeSlice 22 (.int .i64 0) (.int .i64 4)).run Tryd.prog W = .ok (.slice (some ⟨W.heap.size, 0, none⟩) 0 4) (W.alloc (.cells zw 5)) := by
  obtain ⟨i0, hi0, hz0, hz1, hz2⟩ := info_of u8_info
  refine ⟨madeCells (Value.int .u8 0).cells ((4 : Int).toNat * i0.size), ?_, fun W => run_make W 22 5 i0 (.int .u8 0) Tryd.underlying22 hi0 hz0 .i64 .i64 0 4 (by decide) (by decide) (by rw [hz2]; decide) (by decide)⟩
  rw [hz1]
  have := zeros_eq 4
  show (madeCells #[.int .u8 0] 4).size = 4
  rw [this]; simp [bvals]

set_option maxRecDepth 100000 in
set_option maxHeartbeats 1000000 in
theorem newRing_any (w : World) : Calls Tryd.prog 35 #[] w fun e w' => ∃ gw, e = .returned (.agg #[.slice (some ⟨gw, 0, none⟩) 32768 32768, .int .i64 0]) ∧ w.heap.size ≤ gw ∧ Rg w' gw [] ∧ Only [] w w' := by
  obtain ⟨zr, hzr, hmk⟩ := mk_ring
  go_enter Tryd.func35, Tryd.ntmps35
  go_wp2_with fail
  have hr : Has ((w.alloc (.cells #[.slice (some ⟨w.heap.size + 1, 0, none⟩) 32768 32768, .int .i64 0] 46)).alloc (.cells zr 5)) w.heap.size 46 #[.slice (some ⟨w.heap.size + 1, 0, none⟩) 32768 32768, .int .i64 0] := (Has.new w _ _).alloc _
  have hz : Has ((w.alloc (.cells #[.slice (some ⟨w.heap.size + 1, 0, none⟩) 32768 32768, .int .i64 0] 46)).alloc (.cells zr 5)) (w.heap.size + 1) 5 zr := by
    have := Has.new (w.alloc (.cells #[.slice (some ⟨w.heap.size + 1, 0, none⟩) 32768 32768, .int .i64 0] 46)) 5 zr
    simpa using this
  exact bodyPost_ret (results_cell_row Tryd.results35 _ _ w.heap.size 46 #[.slice (some ⟨w.heap.size + 1, 0, none⟩) 32768 32768, .int .i64 0] (0, 0) _ rfl hr Tryd.underlying46 rfl (by kernel_rfl)) rfl
    ⟨w.heap.size + 1, rfl, by omega, ⟨zr, hz, hzr, fun i hi _ => absurd hi (by simp)⟩, ((Only.refl [] w).alloc _).alloc _⟩

set_option maxRecDepth 100000 in
set_option maxHeartbeats 4000000 in
theorem newDec_any (most : Nat) (w : World) (hm : most ≤ 1073741824) : Calls Tryd.prog 25 #[.int .i64 (most : Int)] w fun e w' =>
    ∃ g gw gt, e = .returned (.tuple #[.pointer (some ⟨g, 0, none⟩), .int .i64 0]) ∧ w.heap.size ≤ g ∧ w.heap.size ≤ gw ∧ w.heap.size ≤ gt ∧ gt ≠ gw ∧ Dc w' g (DF.new most gw gt) ∧ Rg w' gw [] ∧ w'.ownsRow 0 5 1 (.slice (some ⟨gt, 0, none⟩) 0 4) 0 [] ∧ Only [] w w' := by
  obtain ⟨zw, hzw, hmk⟩ := mk_waits
  have hbd := zero_decoder most
  have HNR := hide newRing_any
  have hm1 : ¬ (1073741824 : Int) < (most : Int) := by omega
  have hm0 : ¬ (most : Int) < 0 := by omega
  go_enter Tryd.func25, Tryd.ntmps25
  go_wp2_with fail
  go_region_with (go_at_call 35; refine (HNR.out _).mono ?_; rintro e w1 ⟨gw, rfl, hgw, hrg, ho1⟩)
  all_goals
    go_wp2_with fail
    go_ret2
  · obtain ⟨ws, hws, hwz⟩ := hrg
    have hlt := hws.lt
    have hsz := ho1.size
    have o1 : Only [] w w1 := ((Only.refl [] w).drew).trans ho1 (by simp)
    have hg : Has ((w1.alloc (.cells zw 5)).alloc (.cells (DF.new most gw w1.heap.size).cells 54)) (w1.heap.size + 1) 54 (DF.new most gw w1.heap.size).cells := by
      have := Has.new (w1.alloc (.cells zw 5)) 54 (DF.new most gw w1.heap.size).cells
      simpa using this
    refine ⟨w1.heap.size + 1, gw, w1.heap.size, rfl, ?_, hgw, ?_, by omega, hg, ⟨ws, (hws.alloc _).alloc _, hwz⟩, (World.ownsRow_made w1 zw 4 (Nat.zero_le _) (by decide) (by rw [hzw])).alloc _, (o1.alloc _).alloc _⟩
    · have : w.drew.heap.size = w.heap.size := rfl
      omega
    · have : w.drew.heap.size = w.heap.size := rfl
      omega
  · obtain ⟨ws, hws, hwz⟩ := hrg
    have hlt := hws.lt
    have hsz := ho1.size
    have hs0 : (w.drew.alloc (.cells zw 5)).heap.size = w.heap.size + 1 := by simp
    have o1 : Only [] w w1 := (((Only.refl [] w).drew).alloc _).trans ho1 (by simp)
    have hg : Has (w1.alloc (.cells (DF.new most gw w.heap.size).cells 54)) w1.heap.size 54 (DF.new most gw w.heap.size).cells := Has.new w1 _ _
    have how : (w.drew.alloc (.cells zw 5)).ownsRow 0 5 1 (.slice (some ⟨w.heap.size, 0, none⟩) 0 4) 0 [] := World.ownsRow_made w.drew zw 4 (Nat.zero_le _) (by decide) (by rw [hzw])
    refine ⟨w1.heap.size, gw, w.heap.size, rfl, ?_, ?_, Nat.le_refl _, ?_, hg, ⟨ws, hws.alloc _, hwz⟩, (own_keep how ho1 (by simp)).alloc _, o1.alloc _⟩
    · exact o1.size
    · have h1 : (w.drew.alloc (.cells zw 5)).heap.size ≤ gw := hgw
      omega
    · have h1 : (w.drew.alloc (.cells zw 5)).heap.size ≤ gw := hgw
      omega


/-- A new decoder of package zlib: its sum, its part, what waits, how many wait. -/
def DF.newZ (most gw gt : Nat) : DF := { DF.new most gw gt with z := true, tail := [.nilIface, .int .i64 0, .int .u8 0, .int .u8 0, .int .u8 0, .int .u8 0, .int .i64 0] }
set_option maxRecDepth 100000 in
theorem built_body (most gw gt : Nat) : Tryd.prog.built 58 [(0, .agg (DF.new most gw gt).cells)] = some ((DF.new most gw gt).cells.push .nilIface) := by kernel_rfl
set_option maxRecDepth 100000 in
theorem built_zlib (most gw gt : Nat) : Tryd.prog.built 61 [(0, .agg ((DF.new most gw gt).cells.push .nilIface))] = some (DF.newZ most gw gt).cells := by kernel_rfl

set_option maxRecDepth 100000 in
set_option maxHeartbeats 4000000 in
theorem newZ_any (most : Nat) (w : World) (hm : most ≤ 1073741824) : Calls Tryd.prog 14 #[.int .i64 (most : Int)] w fun e w' =>
    ∃ g gw gt, e = .returned (.tuple #[.pointer (some ⟨g, 0, none⟩), .int .i64 0]) ∧ w.heap.size ≤ g ∧ w.heap.size ≤ gw ∧ w.heap.size ≤ gt ∧ gt ≠ gw ∧ Dc w' g (DF.newZ most gw gt) ∧ Rg w' gw [] ∧ w'.ownsRow 0 5 1 (.slice (some ⟨gt, 0, none⟩) 0 4) 0 [] ∧ Only [] w w' := by
  have HN := hide (newDec_any most w hm)
  clear hm
  go_enter Tryd.func14, Tryd.ntmps14
  go_wp2_with fail
  refine (HN.out).mono ?_
  rintro e w1 ⟨g, gw, gt, rfl, hg, hgw, hgt, hne, hd, hr, ho, ho1⟩
  have hdH : w1.heap[g]? = some (.cells (DF.new most gw gt).cells 54 (0, 0)) := hd
  have hb1 := built_body most gw gt
  have hb2 := built_zlib most gw gt
  have HO := hide (And.intro hg (And.intro hgw (And.intro hgt (And.intro hne (And.intro hr (And.intro ho ho1))))))
  have hsz : (Tryd.prog.info? 54).map (·.size) = some (DF.new most gw gt).cells.size := by rw [DF.cells_size]; kernel_rfl
  clear hg hgw hgt hne hr ho ho1 HN hd
  go_wp2_with (first
    | (refine wpList_load_row rfl 54 (.tmp 15) rfl g rfl 54 (DF.new most gw gt).cells (0, 0) _ hdH Tryd.underlying54 rfl hsz ?_)
    | (refine list_build rfl 58 0 (.tmp 16) rfl (.agg (DF.new most gw gt).cells) rfl _ hb1 ?_)
    | (refine list_build rfl 61 0 (.tmp 17) rfl (.agg ((DF.new most gw gt).cells.push .nilIface)) rfl _ hb2 ?_))
  go_ret2
  have hO := HO.out
  have hnew : Has (w1.alloc (.cells (DF.newZ most gw gt).cells 61)) w1.heap.size 61 (DF.newZ most gw gt).cells := Has.new w1 _ _
  obtain ⟨ws, hws, hwz⟩ := hO.2.2.2.2.1
  exact ⟨w1.heap.size, gw, gt, rfl, hO.2.2.2.2.2.2.size, hO.2.1, hO.2.2.1, hO.2.2.2.1, hnew, ⟨ws, hws.alloc _, hwz⟩, hO.2.2.2.2.2.1.alloc _, hO.2.2.2.2.2.2.alloc _⟩

set_option maxRecDepth 100000 in
set_option maxHeartbeats 4000000 in
theorem newDec_bad (most : Int) (w : World) (hm : most < 0 ∨ 1073741824 < most) : Calls Tryd.prog 25 #[.int .i64 most] w fun e w' => e = .returned (.tuple #[.pointer none, .int .i64 1]) ∧ w = w' := by
  rcases hm with hm | hm
  all_goals
    go_enter Tryd.func25, Tryd.ntmps25
    go_wp2_with fail
    go_ret2
    exact ⟨rfl, rfl⟩
set_option maxRecDepth 100000 in
set_option maxHeartbeats 4000000 in
theorem newZ_bad (most : Int) (w : World) (hm : most < 0 ∨ 1073741824 < most) : Calls Tryd.prog 14 #[.int .i64 most] w fun e w' => e = .returned (.tuple #[.pointer none, .int .i64 1]) ∧ w = w' := by
  have HN := hide (newDec_bad most w hm)
  clear hm
  go_enter Tryd.func14, Tryd.ntmps14
  go_wp2_with fail
  refine (HN.out).mono ?_
  rintro e w1 ⟨rfl, rfl⟩
  go_wp2_with fail
  go_ret2
  exact ⟨rfl, rfl⟩
end Go.Proofs.YtopjkmobnmaaaaaDoor


namespace Go.Proofs.YtopjkmobnmaaaaaDoor
open Go Go.RowKit

/-- What New leaves. -/
def Newed (most : Nat) (w : World) (g gw gt : Nat) (w1 : World) : Prop :=
  w.heap.size ≤ g ∧ w.heap.size ≤ gw ∧ w.heap.size ≤ gt ∧ gt ≠ gw ∧ Dc w1 g (DF.newZ most gw gt) ∧ Rg w1 gw [] ∧ w1.ownsRow 0 5 1 (.slice (some ⟨gt, 0, none⟩) 0 4) 0 [] ∧ Only [] w w1

set_option maxRecDepth 100000 in
theorem unpack_bad (most : Int) (A : Option Addr) (n cb : Nat) (w : World) (hm : most < 0 ∨ 1073741824 < most) :
    Calls Tryd.prog 7 #[.slice A n cb, .int .i64 most] w fun e w' => e = .returned (.tuple #[.slice none 0 0, .int .i64 0, .int .i64 1]) ∧ w = w' := by
  have HN := hide (newZ_bad most w hm)
  clear hm
  go_enter Tryd.func7, Tryd.ntmps7
  go_wp2_with fail
  refine (HN.out).mono ?_
  rintro e w1 ⟨rfl, rfl⟩
  go_wp2_with fail
  go_ret3
  exact ⟨rfl, rfl⟩

set_option maxRecDepth 100000 in
set_option maxHeartbeats 8000000 in
theorem unpack_gen (most : Nat) (A : Option Addr) (n cb : Nat) (w : World) (hm : most ≤ 1073741824) (R : Nat → World → Ending → World → Prop)
    (hW : ∀ g gw gt w1, Newed most w g gw gt w1 → Calls Tryd.prog 15 #[.pointer (some ⟨g, 0, none⟩), .slice A n cb] w1 (R g w1))
    (sh : ∀ g w1 e w2, R g w1 e w2 → ∃ (v : Value) (c : Nat) (f : DF) (sm : Value) (part : Nat) (wb : List UInt8) (k : Nat), e = .returned (.tuple #[v, .int .i64 (c : Int)]) ∧ Dc w2 g f ∧ f.tail = tailZ sm part wb k ∧ f.used ≤ 1000000000) :
    Calls Tryd.prog 7 #[.slice A n cb, .int .i64 (most : Int)] w fun e w' =>
      ∃ g gw gt w1, Newed most w g gw gt w1 ∧ ∃ (v : Value) (c : Nat) (f : DF) (sm : Value) (part : Nat) (wb : List UInt8) (k : Nat), R g w1 (.returned (.tuple #[v, .int .i64 (c : Int)])) w' ∧ Dc w' g f ∧ f.tail = tailZ sm part wb k ∧
        ((c ≠ 0 ∧ e = .returned (.tuple #[.slice none 0 0, .int .i64 0, .int .i64 (c : Int)])) ∨
          (c = 0 ∧ part ≠ 3 ∧ e = .returned (.tuple #[.slice none 0 0, .int .i64 0, .int .i64 2])) ∨
          (c = 0 ∧ part = 3 ∧ e = .returned (.tuple #[v, .int .i64 ((2 + f.used + 4 : Nat) : Int), .int .i64 0]))) := by
  have HA := hide (And.intro hW sh)
  have HN := hide (newZ_any most w hm)
  clear hW sh hm
  go_enter Tryd.func7, Tryd.ntmps7
  go_wp2_with fail
  refine (HN.out).mono ?_
  rintro e w1 ⟨g, gw, gt, rfl, hnew⟩
  have HNW := hide (show Newed most w g gw gt w1 from hnew)
  have HC := hide (HA.out.1 g gw gt w1 hnew)
  clear hnew
  go_wp2_with fail
  refine (HC.out).mono ?_
  intro e w2 hr
  obtain ⟨v, c, f, sm, part, wb, k, rfl, hd, ht, hu⟩ := HA.out.2 _ _ _ _ hr
  have H2 := hide (And.intro hr (And.intro hd (And.intro ht hu)))
  clear hr
  by_cases hc : c = 0
  · subst hc
    by_cases hp : part = 3
    · have HD := hide (zdone_any g f sm part k wb w2 hd ht true (decide_eq_true hp))
      have HU := hide (used_any g f w2 hd)
      clear hd ht
      go_wp2_with fail
      refine (HD.out).mono ?_
      rintro e w3 ⟨rfl, rfl⟩
      go_wp2_with fail
      refine (HU.out).mono ?_
      rintro e w4 ⟨rfl, rfl⟩
      go_wp2_with fail
      go_ret3
      exact ⟨g, gw, gt, w1, HNW.out, v, 0, f, sm, part, wb, k, H2.out.1, H2.out.2.1, H2.out.2.2.1, .inr (.inr ⟨rfl, hp, by
        have e1 : ((2 + f.used + 4 : Nat) : Int) = 2 + (f.used : Int) + 4 := by omega
        rw [e1]
        rfl⟩)⟩
    · have HD := hide (zdone_any g f sm part k wb w2 hd ht false (decide_eq_false hp))
      clear hd ht hu
      go_wp2_with fail
      refine (HD.out).mono ?_
      rintro e w3 ⟨rfl, rfl⟩
      go_wp2_with fail
      go_ret3
      exact ⟨g, gw, gt, w1, HNW.out, v, 0, f, sm, part, wb, k, H2.out.1, H2.out.2.1, H2.out.2.2.1, .inr (.inl ⟨rfl, hp, rfl⟩)⟩
  · have hcz : ¬ (c : Int) = 0 := by omega
    clear hd ht hu
    go_wp2_with fail
    go_ret3
    exact ⟨g, gw, gt, w1, HNW.out, v, c, f, sm, part, wb, k, H2.out.1, H2.out.2.1, H2.out.2.2.1, .inl ⟨hc, rfl⟩⟩
end Go.Proofs.YtopjkmobnmaaaaaDoor

