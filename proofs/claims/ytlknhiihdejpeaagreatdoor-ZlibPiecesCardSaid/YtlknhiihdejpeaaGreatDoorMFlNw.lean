/-
  Package inflate, New; package zlib, New. | Package zlib: Unpack, whatever Write gives. | Package inflate, for the new base: Store, Fixed.
-/
import Derived.Test.YtlknhiihdejpeaaGreatDoorMFlWr
import Derived.OwnWalk
import Derived.Test.YtlknhiihdejpeaaGreatDoorMZlH
import Derived.Test.YtlknhiihdejpeaaGreatDoorMHufFx
import Derived.Test.YtlknhiihdejpeaaGreatDoorMWriteA
import Derived.Test.YtlknhiihdejpeaaGreatDoorMFlD
namespace Go.Proofs.YtlknhiihdejpeaaGreatDoor
open Go Go.RowKit

/-- A new decoder. -/
def DF.new (most gw gt : Nat) : DF := ⟨most, 0, 0, 0, 0, .slice (some ⟨gw, 0, none⟩) 32768 32768, 0, .slice (some ⟨gt, 0, none⟩) 0 4, 0, false, 0, fun i => if i = 34 then .pointer none else if 14 ≤ i ∧ i < 33 ∨ 36 ≤ i ∧ i < 352 then .int .u8 0 else .int .i64 0, .pointer none, .pointer none, 0, 0, false, []⟩

set_option maxRecDepth 100000 in
theorem zero_decoder (most gw gt : Nat) : ((((Tryz.zeroCells49.setIfInBounds 0 (.int .i64 (most : Int))).setIfInBounds 5 (.slice (some ⟨gw, 0, none⟩) 32768 32768)).setIfInBounds 6 (.int .i64 0)).setIfInBounds 7 (.slice (some ⟨gt, 0, none⟩) 0 4)) = (DF.new most gw gt).cells := by kernel_rfl

theorem mk_ring : ∃ zr : Array Value, zr.size = 32768 ∧ ∀ W : World, (Instr.makeSlice 22 (.int .i64 32768) (.int .i64 32768)).run Tryz.prog W = .ok (.slice (some ⟨W.heap.size, 0, none⟩) 32768 32768) (W.alloc (.cells zr 5)) :=
  ⟨madeCells #[.int .u8 0] 32768, by rw [zeros_eq, List.size_toArray, bvals_length, List.length_replicate], fun W => run_make_row' (P := Tryz.prog) 22 5 (.int .u8 0) 1 Tryz.underlying22 u8_info rfl .i64 .i64 32768 (by decide) (by decide) W⟩
theorem mk_waits : ∃ zw : Array Value, zw.size = 4 ∧ ∀ W : World, (Instr.makeSlice 22 (.int .i64 0) (.int .i64 4)).run Tryz.prog W = .ok (.slice (some ⟨W.heap.size, 0, none⟩) 0 4) (W.alloc (.cells zw 5)) := by
  obtain ⟨i0, hi0, hz0, hz1, hz2⟩ := info_of u8_info
  refine ⟨madeCells (Value.int .u8 0).cells ((4 : Int).toNat * i0.size), ?_, fun W => run_make W 22 5 i0 (.int .u8 0) Tryz.underlying22 hi0 hz0 .i64 .i64 0 4 (by decide) (by decide) (by rw [hz2]; decide) (by decide)⟩
  rw [hz1]
  have := zeros_eq 4
  show (madeCells #[.int .u8 0] 4).size = 4
  rw [this]; simp [bvals]

set_option maxRecDepth 100000 in
set_option maxHeartbeats 1000000 in
theorem newRing_any (w : World) : Calls Tryz.prog 43 #[] w fun e w' => ∃ gw, e = .returned (.agg #[.slice (some ⟨gw, 0, none⟩) 32768 32768, .int .i64 0]) ∧ w.heap.size ≤ gw ∧ Rg w' gw [] ∧ Only [] w w' := by
  obtain ⟨zr, hzr, hmk⟩ := mk_ring
  go_enter Tryz.func43, Tryz.ntmps43
  go_wp2_with fail
  have hr : Has ((w.alloc (.cells #[.slice (some ⟨w.heap.size + 1, 0, none⟩) 32768 32768, .int .i64 0] 41)).alloc (.cells zr 5)) w.heap.size 41 #[.slice (some ⟨w.heap.size + 1, 0, none⟩) 32768 32768, .int .i64 0] := (Has.new w _ _).alloc _
  have hz : Has ((w.alloc (.cells #[.slice (some ⟨w.heap.size + 1, 0, none⟩) 32768 32768, .int .i64 0] 41)).alloc (.cells zr 5)) (w.heap.size + 1) 5 zr := by
    have := Has.new (w.alloc (.cells #[.slice (some ⟨w.heap.size + 1, 0, none⟩) 32768 32768, .int .i64 0] 41)) 5 zr
    simpa using this
  exact bodyPost_ret (results_cell_row Tryz.results43 _ _ w.heap.size 41 #[.slice (some ⟨w.heap.size + 1, 0, none⟩) 32768 32768, .int .i64 0] (0, 0) _ rfl hr Tryz.underlying41 rfl (by kernel_rfl)) rfl
    ⟨w.heap.size + 1, rfl, by omega, ⟨zr, hz, hzr, fun i hi _ => absurd hi (by simp)⟩, ((Only.refl [] w).alloc _).alloc _⟩

set_option maxRecDepth 100000 in
set_option maxHeartbeats 4000000 in
theorem newDec_any (most : Nat) (w : World) (hm : most ≤ 1073741824) : Calls Tryz.prog 25 #[.int .i64 (most : Int)] w fun e w' =>
    ∃ g gw gt, e = .returned (.tuple #[.pointer (some ⟨g, 0, none⟩), .int .i64 0]) ∧ w.heap.size ≤ g ∧ w.heap.size ≤ gw ∧ w.heap.size ≤ gt ∧ gt ≠ gw ∧ Dc w' g (DF.new most gw gt) ∧ Rg w' gw [] ∧ w'.ownsRow 0 5 1 (.slice (some ⟨gt, 0, none⟩) 0 4) 0 [] ∧ Only [] w w' := by
  obtain ⟨zw, hzw, hmk⟩ := mk_waits
  have hbd := zero_decoder most
  have HNR := hide newRing_any
  have hm1 : ¬ (1073741824 : Int) < (most : Int) := by omega
  have hm0 : ¬ (most : Int) < 0 := by omega
  go_enter Tryz.func25, Tryz.ntmps25
  go_wp2_with fail
  go_region_with (go_at_call 43; refine (HNR.out _).mono ?_; rintro e w1 ⟨gw, rfl, hgw, hrg, ho1⟩)
  all_goals
    go_wp2_with fail
    go_ret2
  · obtain ⟨ws, hws, hwz⟩ := hrg
    have hlt := hws.lt
    have hsz := ho1.size
    have o1 : Only [] w w1 := ((Only.refl [] w).drew).trans ho1 (by simp)
    have hg : Has ((w1.alloc (.cells zw 5)).alloc (.cells (DF.new most gw w1.heap.size).cells 49)) (w1.heap.size + 1) 49 (DF.new most gw w1.heap.size).cells := by
      have := Has.new (w1.alloc (.cells zw 5)) 49 (DF.new most gw w1.heap.size).cells
      simpa using this
    refine ⟨w1.heap.size + 1, gw, w1.heap.size, rfl, ?_, hgw, ?_, by omega, hg, ⟨ws, (hws.alloc _).alloc _, hwz⟩, (World.ownsRow_made w1 zw 4 (Nat.zero_le _) (by decide) (by rw [hzw])).alloc _, (o1.alloc _).alloc _⟩
    · have : w.drew.heap.size = w.heap.size := rfl
      omega
    · have : w.drew.heap.size = w.heap.size := rfl
      omega
  · obtain ⟨ws, hws, hwz⟩ := hrg
    have hlt := hws.lt
    have hsz := ho1.size
    have hs0 : (w.drew.alloc (.cells zw 5)).heap.size = w.heap.size + 1 := by simp
    have o1 : Only [] w w1 := (((Only.refl [] w).drew).alloc _).trans ho1 (by simp)
    have hg : Has (w1.alloc (.cells (DF.new most gw w.heap.size).cells 49)) w1.heap.size 49 (DF.new most gw w.heap.size).cells := Has.new w1 _ _
    have how : (w.drew.alloc (.cells zw 5)).ownsRow 0 5 1 (.slice (some ⟨w.heap.size, 0, none⟩) 0 4) 0 [] := World.ownsRow_made w.drew zw 4 (Nat.zero_le _) (by decide) (by rw [hzw])
    refine ⟨w1.heap.size, gw, w.heap.size, rfl, ?_, ?_, Nat.le_refl _, ?_, hg, ⟨ws, hws.alloc _, hwz⟩, (own_keep how ho1 (by simp)).alloc _, o1.alloc _⟩
    · exact o1.size
    · have h1 : (w.drew.alloc (.cells zw 5)).heap.size ≤ gw := hgw
      omega
    · have h1 : (w.drew.alloc (.cells zw 5)).heap.size ≤ gw := hgw
      omega


/-- A new decoder of package zlib: its sum, its part, what waits, how many wait. -/
def DF.newZ (most gw gt : Nat) : DF := { DF.new most gw gt with z := true, tail := [.nilIface, .int .i64 0, .int .u8 0, .int .u8 0, .int .u8 0, .int .u8 0, .int .i64 0] }
set_option maxRecDepth 100000 in
theorem built_body (most gw gt : Nat) : Tryz.prog.built 53 [(0, .agg (DF.new most gw gt).cells)] = some ((DF.new most gw gt).cells.push .nilIface) := by kernel_rfl
set_option maxRecDepth 100000 in
theorem built_zlib (most gw gt : Nat) : Tryz.prog.built 57 [(0, .agg ((DF.new most gw gt).cells.push .nilIface))] = some (DF.newZ most gw gt).cells := by kernel_rfl

set_option maxRecDepth 100000 in
set_option maxHeartbeats 4000000 in
theorem newZ_any (most : Nat) (w : World) (hm : most ≤ 1073741824) : Calls Tryz.prog 10 #[.int .i64 (most : Int)] w fun e w' =>
    ∃ g gw gt, e = .returned (.tuple #[.pointer (some ⟨g, 0, none⟩), .int .i64 0]) ∧ w.heap.size ≤ g ∧ w.heap.size ≤ gw ∧ w.heap.size ≤ gt ∧ gt ≠ gw ∧ Dc w' g (DF.newZ most gw gt) ∧ Rg w' gw [] ∧ w'.ownsRow 0 5 1 (.slice (some ⟨gt, 0, none⟩) 0 4) 0 [] ∧ Only [] w w' := by
  have HN := hide (newDec_any most w hm)
  clear hm
  go_enter Tryz.func10, Tryz.ntmps10
  go_wp2_with fail
  refine (HN.out).mono ?_
  rintro e w1 ⟨g, gw, gt, rfl, hg, hgw, hgt, hne, hd, hr, ho, ho1⟩
  have hdH : w1.heap[g]? = some (.cells (DF.new most gw gt).cells 49 (0, 0)) := hd
  have hb1 := built_body most gw gt
  have hb2 := built_zlib most gw gt
  have HO := hide (And.intro hg (And.intro hgw (And.intro hgt (And.intro hne (And.intro hr (And.intro ho ho1))))))
  have hsz : (Tryz.prog.info? 49).map (·.size) = some (DF.new most gw gt).cells.size := by rw [DF.cells_size]; kernel_rfl
  clear hg hgw hgt hne hr ho ho1 HN hd
  go_wp2_with (first
    | (refine wpList_load_row rfl 49 (.tmp 15) rfl g rfl 49 (DF.new most gw gt).cells (0, 0) _ hdH Tryz.underlying49 rfl hsz ?_)
    | (refine list_build rfl 53 0 (.tmp 16) rfl (.agg (DF.new most gw gt).cells) rfl _ hb1 ?_)
    | (refine list_build rfl 57 0 (.tmp 17) rfl (.agg ((DF.new most gw gt).cells.push .nilIface)) rfl _ hb2 ?_))
  go_ret2
  have hO := HO.out
  have hnew : Has (w1.alloc (.cells (DF.newZ most gw gt).cells 57)) w1.heap.size 57 (DF.newZ most gw gt).cells := Has.new w1 _ _
  obtain ⟨ws, hws, hwz⟩ := hO.2.2.2.2.1
  exact ⟨w1.heap.size, gw, gt, rfl, hO.2.2.2.2.2.2.size, hO.2.1, hO.2.2.1, hO.2.2.2.1, hnew, ⟨ws, hws.alloc _, hwz⟩, hO.2.2.2.2.2.1.alloc _, hO.2.2.2.2.2.2.alloc _⟩

set_option maxRecDepth 100000 in
set_option maxHeartbeats 4000000 in
theorem newDec_bad (most : Int) (w : World) (hm : most < 0 ∨ 1073741824 < most) : Calls Tryz.prog 25 #[.int .i64 most] w fun e w' => e = .returned (.tuple #[.pointer none, .int .i64 1]) ∧ w = w' := by
  rcases hm with hm | hm
  all_goals
    go_enter Tryz.func25, Tryz.ntmps25
    go_wp2_with fail
    go_ret2
    exact ⟨rfl, rfl⟩
set_option maxRecDepth 100000 in
set_option maxHeartbeats 4000000 in
theorem newZ_bad (most : Int) (w : World) (hm : most < 0 ∨ 1073741824 < most) : Calls Tryz.prog 10 #[.int .i64 most] w fun e w' => e = .returned (.tuple #[.pointer none, .int .i64 1]) ∧ w = w' := by
  have HN := hide (newDec_bad most w hm)
  clear hm
  go_enter Tryz.func10, Tryz.ntmps10
  go_wp2_with fail
  refine (HN.out).mono ?_
  rintro e w1 ⟨rfl, rfl⟩
  go_wp2_with fail
  go_ret2
  exact ⟨rfl, rfl⟩
end Go.Proofs.YtlknhiihdejpeaaGreatDoor


namespace Go.Proofs.YtlknhiihdejpeaaGreatDoor
open Go Go.RowKit

/-- What New leaves. -/
def Newed (most : Nat) (w : World) (g gw gt : Nat) (w1 : World) : Prop :=
  w.heap.size ≤ g ∧ w.heap.size ≤ gw ∧ w.heap.size ≤ gt ∧ gt ≠ gw ∧ Dc w1 g (DF.newZ most gw gt) ∧ Rg w1 gw [] ∧ w1.ownsRow 0 5 1 (.slice (some ⟨gt, 0, none⟩) 0 4) 0 [] ∧ Only [] w w1

set_option maxRecDepth 100000 in
theorem unpack_bad (most : Int) (A : Option Addr) (n cb : Nat) (w : World) (hm : most < 0 ∨ 1073741824 < most) :
    Calls Tryz.prog 6 #[.slice A n cb, .int .i64 most] w fun e w' => e = .returned (.tuple #[.slice none 0 0, .int .i64 0, .int .i64 1]) ∧ w = w' := by
  have HN := hide (newZ_bad most w hm)
  clear hm
  go_enter Tryz.func6, Tryz.ntmps6
  go_wp2_with fail
  refine (HN.out).mono ?_
  rintro e w1 ⟨rfl, rfl⟩
  go_wp2_with fail
  go_ret3
  exact ⟨rfl, rfl⟩

set_option maxRecDepth 100000 in
set_option maxHeartbeats 8000000 in
theorem unpack_gen (most : Nat) (A : Option Addr) (n cb : Nat) (w : World) (hm : most ≤ 1073741824) (R : Nat → World → Ending → World → Prop)
    (hW : ∀ g gw gt w1, Newed most w g gw gt w1 → Calls Tryz.prog 12 #[.pointer (some ⟨g, 0, none⟩), .slice A n cb] w1 (R g w1))
    (sh : ∀ g w1 e w2, R g w1 e w2 → ∃ (v : Value) (c : Nat) (f : DF) (sm : Value) (part : Nat) (wb : List UInt8) (k : Nat), e = .returned (.tuple #[v, .int .i64 (c : Int)]) ∧ Dc w2 g f ∧ f.tail = tailZ sm part wb k ∧ f.used ≤ 1000000000) :
    Calls Tryz.prog 6 #[.slice A n cb, .int .i64 (most : Int)] w fun e w' =>
      ∃ g gw gt w1, Newed most w g gw gt w1 ∧ ∃ (v : Value) (c : Nat) (f : DF) (sm : Value) (part : Nat) (wb : List UInt8) (k : Nat), R g w1 (.returned (.tuple #[v, .int .i64 (c : Int)])) w' ∧ Dc w' g f ∧ f.tail = tailZ sm part wb k ∧
        ((c ≠ 0 ∧ e = .returned (.tuple #[.slice none 0 0, .int .i64 0, .int .i64 (c : Int)])) ∨
          (c = 0 ∧ part ≠ 3 ∧ e = .returned (.tuple #[.slice none 0 0, .int .i64 0, .int .i64 2])) ∨
          (c = 0 ∧ part = 3 ∧ e = .returned (.tuple #[v, .int .i64 ((2 + f.used + 4 : Nat) : Int), .int .i64 0]))) := by
  have HA := hide (And.intro hW sh)
  have HN := hide (newZ_any most w hm)
  clear hW sh hm
  go_enter Tryz.func6, Tryz.ntmps6
  go_wp2_with fail
  refine (HN.out).mono ?_
  rintro e w1 ⟨g, gw, gt, rfl, hnew⟩
  have HNW := hide (show Newed most w g gw gt w1 from hnew)
  have HC := hide (HA.out.1 g gw gt w1 hnew)
  clear hnew
  go_wp2_with fail
  refine (HC.out).mono ?_
  intro e w2 hr
  obtain ⟨v, c, f, sm, part, wb, k, rfl, hd, ht, hu⟩ := HA.out.2 _ _ _ _ hr
  have H2 := hide (And.intro hr (And.intro hd (And.intro ht hu)))
  clear hr
  by_cases hc : c = 0
  · subst hc
    by_cases hp : part = 3
    · have HD := hide (zdone_any g f sm part k wb w2 hd ht true (decide_eq_true hp))
      have HU := hide (used_any g f w2 hd)
      clear hd ht
      go_wp2_with fail
      refine (HD.out).mono ?_
      rintro e w3 ⟨rfl, rfl⟩
      go_wp2_with fail
      refine (HU.out).mono ?_
      rintro e w4 ⟨rfl, rfl⟩
      go_wp2_with fail
      go_ret3
      exact ⟨g, gw, gt, w1, HNW.out, v, 0, f, sm, part, wb, k, H2.out.1, H2.out.2.1, H2.out.2.2.1, .inr (.inr ⟨rfl, hp, by
        have e1 : ((2 + f.used + 4 : Nat) : Int) = 2 + (f.used : Int) + 4 := by omega
        rw [e1]
        rfl⟩)⟩
    · have HD := hide (zdone_any g f sm part k wb w2 hd ht false (decide_eq_false hp))
      clear hd ht hu
      go_wp2_with fail
      refine (HD.out).mono ?_
      rintro e w3 ⟨rfl, rfl⟩
      go_wp2_with fail
      go_ret3
      exact ⟨g, gw, gt, w1, HNW.out, v, 0, f, sm, part, wb, k, H2.out.1, H2.out.2.1, H2.out.2.2.1, .inr (.inl ⟨rfl, hp, rfl⟩)⟩
  · have hcz : ¬ (c : Int) = 0 := by omega
    clear hd ht hu
    go_wp2_with fail
    go_ret3
    exact ⟨g, gw, gt, w1, HNW.out, v, c, f, sm, part, wb, k, H2.out.1, H2.out.2.1, H2.out.2.2.1, .inl ⟨hc, rfl⟩⟩
end Go.Proofs.YtlknhiihdejpeaaGreatDoor


namespace Go.Proofs.YtlknhiihdejpeaaGreatDoor
open Go Go.RowKit

/-- A stored block that is the last one. -/
def storeB (last : Bool) (b : List UInt8) : List UInt8 := hdr last b.length ++ b
theorem storeB_length (last : Bool) (b : List UInt8) : (storeB last b).length = 5 + b.length := by unfold storeB; rw [List.length_append]; rfl
theorem storeB_num (last : Bool) (b : List UInt8) (h : b.length < 65536) : num (storeB last b) = last.toNat + b.length % 65536 * 2 ^ 8 + (4294967295 - b.length) % 65536 * 2 ^ 24 + num b * 2 ^ 40 := by
  unfold storeB
  rw [num_append, num_hdr _ _ h, show (hdr last b.length).length = 5 from rfl]
  omega

theorem Wr.keep {w w' : World} {g : Nat} {v : Value} {N n : Nat} (h : Wr w g v N n) (ho : Only [] w w') : Wr w' g v N n := by
  obtain ⟨l, rest, cnt, ⟨h1, h2, h3⟩, hc⟩ := h
  exact ⟨l, rest, cnt, ⟨h1.only ho (by simp), own_keep h2 ho (by simp), h3⟩, hc⟩

set_option maxRecDepth 100000 in
set_option maxHeartbeats 4000000 in
theorem layStored_any (g : Nat) (v : Value) (A : Option Addr) (n c : Nat) (b : List UInt8) (w : World) (hW : Wr w g v 0 0) (hb : Holds w 1 A n (bvals b)) (hl : b.length = n) (hn : n < 65536)
    (hA : 0 < n → ∀ ad, A = some ad → ad.block ∉ g :: v.ownBlock.toList) :
    Calls Tryz.prog 32 #[.pointer (some ⟨g, 0, none⟩), .slice A n c, .int .u32 1] w fun e w' => e = .returned (.tuple #[]) ∧ ∃ v', Wr w' g v' (num (storeB true b)) (8 * (5 + n)) ∧ WSince w g v w' v' := by
  subst hl
  have b0 : bits .or .u32 1 0 = 1 := by decide
  have hn1 : (b.length : Int) < 65536 := by omega
  have e2 := flip32 b.length (by omega)
  have e5 : (if IntKind.u32.signed = true then -1 else IntKind.u32.max) = IntKind.u32.max := by decide
  have H1 := hide (wBits g v 0 0 1 3 w hW (by decide) (by decide))
  have HB := hide (And.intro hb (And.intro hA hn))
  have HNUM := hide (storeB_num true b hn)
  clear hW hb hA hn
  obtain ⟨y, hy⟩ : ∃ y, y = 4294967295 - b.length := ⟨_, rfl⟩
  rw [← hy] at e2
  have HY := hide hy
  clear hy
  go_enter Tryz.func32, Tryz.ntmps32
  go_wp2_with fail
  refine (H1.out).mono ?_
  rintro e w1 ⟨rfl, v1, hw1, hs1⟩
  rw [show laidN 0 0 1 3 = 1 from rfl, show laidL 0 3 = 3 from rfl] at hw1
  have H2 := hide (And.intro hs1 (wAlign g v1 1 3 w1 hw1 (by decide)))
  clear hw1 hs1
  go_wp2_with fail
  refine (H2.out.2).mono ?_
  rintro e w2 ⟨rfl, v2, hw2, hs2⟩
  rw [show 3 + padOf 3 = 8 from rfl] at hw2
  have H3 := hide (And.intro (H2.out.1.trans hs2) (wBits g v2 1 8 b.length 16 w2 hw2 (by have := HB.out.2.2; omega) (by decide)))
  clear hw2 hs2
  go_wp2_with fail
  refine (H3.out.2).mono ?_
  rintro e w3 ⟨rfl, v3, hw3, hs3⟩
  rw [show laidL 8 16 = 24 from rfl] at hw3
  have H4 := hide (And.intro (H3.out.1.trans hs3) (wBits g v3 _ 24 y 16 w3 hw3 (by have := HY.out; omega) (by decide)))
  clear hw3 hs3
  go_wp2_with fail
  refine (H4.out.2).mono ?_
  rintro e w4 ⟨rfl, v4, hw4, hs4⟩
  rw [show laidL 24 16 = 40 from rfl] at hw4
  have hs04 := H4.out.1.trans hs4
  have H5 := hide (And.intro hs04 (wBytes g v4 _ 40 A b.length c b w4 hw4 (HB.out.1.keepPos hs04.1 (fun h0 ad ha _ => HB.out.2.1 h0 ad ha)) rfl (by have := HB.out.2.2; omega) (fun h0 ad ha hlt hm => by
    have h1 := HB.out.1.blk h0 ad ha
    have h2 := HB.out.2.1 h0 ad ha
    rcases List.mem_cons.1 hm with hm | hm
    · exact h2 (by rw [hm]; exact List.mem_cons_self ..)
    · have hb4 : v4.ownBlock = some ad.block := by cases hv : v4.ownBlock with
        | none => rw [hv] at hm; simp at hm
        | some j => rw [hv] at hm; simp at hm; rw [hm]
      rcases hs04.2 _ hb4 with h | h
      · exact h2 (List.mem_cons_of_mem _ (by rw [h]; simp))
      · omega)))
  clear hw4 hs4 hs04
  go_wp2_with fail
  refine (H5.out.2).mono ?_
  rintro e w5 ⟨rfl, v5, hw5, hs5⟩
  have H6 := hide (And.intro hw5 (H5.out.1.trans hs5))
  clear hw5 hs5
  go_wp2_with fail
  go_end0
  refine ⟨rfl, v5, ?_, H6.out.2⟩
  have h := H6.out.1
  rw [HNUM.out]
  have hN : laidN (laidN 1 8 b.length 16) 24 y 16 + num b * 2 ^ (40 + padOf 40) = true.toNat + b.length % 65536 * 2 ^ 8 + (4294967295 - b.length) % 65536 * 2 ^ 24 + num b * 2 ^ 40 := by
    rw [HY.out]; rfl
  have hL : 40 + padOf 40 + 8 * b.length = 8 * (5 + b.length) := by
    rw [show padOf 40 = 0 from rfl]; omega
  rw [hN, hL] at h
  exact h

theorem mem_own' {v : Value} {b : Nat} (h : b ∈ v.ownBlock.toList) : v.ownBlock = some b := mem_own.1 h

set_option maxRecDepth 100000 in
set_option maxHeartbeats 4000000 in
theorem store_any (A : Option Addr) (n c : Nat) (b : List UInt8) (w : World) (hb : Holds w 1 A n (bvals b)) (hl : b.length = n) (hn : n < 65536) :
    Calls Tryz.prog 16 #[.slice A n c] w fun e w' => ∃ v, e = .returned v ∧ w'.ownsRow w.heap.size 5 1 v (storeB true b).length (bvals (storeB true b)) ∧ Only [] w w' := by
  subst hl
  have hn1 : ¬ (65535 : Int) < (b.length : Int) := by omega
  have HB := hide (And.intro hb hn)
  clear hb hn
  go_enter Tryz.func16, Tryz.ntmps16
  go_wp2_with fail
  refine (newWriter_any w).mono ?_
  rintro e w1 ⟨g, rfl, hg, hw1, ho1⟩
  have H1 := hide (And.intro hg (And.intro ho1 (layStored_any g _ A b.length c b w1 hw1 (HB.out.1.keep ho1 (by simp)) rfl HB.out.2 (fun h0 ad ha hm => by
    have h1 := HB.out.1.blk h0 ad ha
    simp [Value.ownBlock] at hm
    omega))))
  clear hg ho1 hw1
  go_wp2_with fail
  go_loopw [0] (fun s wr => s = .slice A b.length c ∧ wr = w1) (fun _ _ => 0)
  case atStart => exact ⟨rfl, rfl⟩
  case round =>
    obtain ⟨rfl, rfl⟩ := hrel
    go_wp2_with fail
    refine (H1.out.2.2).mono ?_
    rintro e w2 ⟨rfl, v2, hw2, hs2⟩
    have H2 := hide (And.intro hs2 (wDone g v2 _ _ w2 hw2 (by have := HB.out.2; omega)))
    clear hs2 hw2
    go_wp2_with fail
    refine (H2.out.2).mono ?_
    rintro e w3 ⟨rv, bs, rfl, hown, ho3, hlen, hnum⟩
    have hbs : bs = storeB true b := num_inj (by rw [hlen, storeB_length]; omega) hnum
    subst hbs
    have o02 : Only [] w w2 := H1.out.2.1.trans H2.out.1.1 (fun i hi hlt => by
      rcases List.mem_cons.1 hi with rfl | hi
      · have := H1.out.1; omega
      · simp [Value.ownBlock] at hi)
    have H3 := hide (And.intro (own_mono hown o02.size) (o02.trans ho3 (by simp)))
    clear hown ho3 o02 hlen hnum
    go_wp2_with fail
    go_ret
    exact ⟨rv, rfl, H3.out.1, H3.out.2⟩

/-- One fixed block of literals. -/
def symsOf (b : List UInt8) : List Nat := (b.map UInt8.toNat).reverse
/-- The bytes bs are those of b as a fixed block that is the last one. -/
def IsFixed (b bs : List UInt8) : Prop := num bs = 3 + 8 * bitsN fixedL (256 :: symsOf b) ∧ bs.length = (3 + bitsL fixedL (256 :: symsOf b) + 7) / 8
theorem IsFixed.inj {b x y : List UInt8} (h : IsFixed b x) (k : IsFixed b y) : x = y := num_inj (h.2.trans k.2.symm) (h.1.trans k.1.symm)
theorem symsOf_take (b : List UInt8) (j : Nat) (h : j < b.length) : symsOf (b.take (j + 1)) = b[j].toNat :: symsOf (b.take j) := by
  unfold symsOf
  rw [take_snoc h, List.map_append, List.reverse_append]; rfl
theorem symsOf_length (b : List UInt8) : (symsOf b).length = b.length := by simp [symsOf]
theorem fixL_pos : ∀ i, i < 288 → ln fixedL i ≠ 0 := by
  intro i hi
  have := fixedL_get hi (by rw [fixL_len]; exact hi)
  rw [ln_get (by rw [fixL_len]; exact hi), this]
  split
  · decide
  · split
    · decide
    · split <;> decide
theorem cvI_code (i : Nat) (hi : i < 288) : cvI fixedL (i : Int) = rev (cd fixedL i) (ln fixedL i) := by
  unfold cvI
  rw [lnI_nat, Int.toNat_natCast, if_pos (fixL_pos i hi)]
/-- One symbol more is laid. -/
theorem laid_sym (r : List Nat) (i : Nat) (hi : i < 288) : laidN (3 + 8 * bitsN fixedL r) (3 + bitsL fixedL r) (cvI fixedL (i : Int)) (lnI fixedL (i : Int) : Int) = 3 + 8 * bitsN fixedL (i :: r) ∧
    laidL (3 + bitsL fixedL r) (lnI fixedL (i : Int) : Int) = 3 + bitsL fixedL (i :: r) := by
  have h0 := fixL_pos i hi
  have h15 := fixL_far' i
  have hB : bitsN fixedL (i :: r) = bitsN fixedL r + rev (cd fixedL i) (ln fixedL i) * 2 ^ bitsL fixedL r := rfl
  have hL : bitsL fixedL (i :: r) = bitsL fixedL r + ln fixedL i := rfl
  rw [cvI_code i hi, lnI_nat]
  unfold laidN laidL
  rw [if_pos (by omega), if_pos (by omega), Int.toNat_natCast, Nat.mod_eq_of_lt (rev_lt _ _), hB, hL]
  refine ⟨?_, by omega⟩
  rw [Nat.pow_add, Nat.mul_add, ← Nat.mul_assoc, Nat.mul_comm _ (2 ^ 3), Nat.mul_assoc, Nat.add_assoc]

/-- A table stays while a writer writes. -/
theorem Tb.since {w w' : World} {g gT N n : Nat} {v v' : Value} {l : List UInt8} (h : Tb w gT l) (hW : Wr w g v N n) (hs : WSince w g v w' v') : Tb w' gT l := by
  obtain ⟨S, hD, hT⟩ := h
  obtain ⟨lb, rest, cnt, ⟨h1, h2, _⟩, _⟩ := hW
  refine Tb.only ⟨S, hD, hT⟩ hs.1 (fun hm => ?_)
  rcases List.mem_cons.1 hm with rfl | hm
  · exact Has.ne hT h1 (by decide) rfl
  · exact own_ne h2 hT (by decide) (mem_own.1 hm).symm

set_option maxRecDepth 100000 in
set_option maxHeartbeats 4000000 in
theorem fixedP_any (A : Option Addr) (n c : Nat) (b : List UInt8) (w : World) (hb : Holds w 1 A n (bvals b)) (hl : b.length = n) (hn : n ≤ 1000000) :
    Calls Tryz.prog 17 #[.slice A n c] w fun e w' => ∃ v bs, e = .returned v ∧ IsFixed b bs ∧ w'.ownsRow w.heap.size 5 1 v bs.length (bvals bs) ∧ Only [] w w' := by
  subst hl
  have HB := hide (And.intro hb hn)
  clear hb hn
  go_enter Tryz.func17, Tryz.ntmps17
  go_wp2_with fail
  refine (fixedC_any w).mono ?_
  rintro e w1 ⟨gc, rfl, ⟨gT, gD, hcd, hT⟩, ho1⟩
  have k0 : w1.cell? ⟨gc, 0, none⟩ = some (.pointer (some ⟨gT, 0, none⟩)) := hcd.cell 0
  have H1 := hide (And.intro hT ho1)
  clear hT ho1 hcd
  go_wp2_with fail
  refine (newWriter_any w1).mono ?_
  rintro e w2 ⟨g, rfl, hg, hw2, ho2⟩
  have H2 := hide (And.intro hg (And.intro (H1.out.2.trans ho2 (S := []) (by simp)) (And.intro (H1.out.1.1.only ho2 (by simp)) (wBits g _ 0 0 3 3 w2 hw2 (by decide) (by decide)))))
  clear hg ho2 hw2
  go_wp2_with fail
  refine (H2.out.2.2.2).mono ?_
  rintro e w3 ⟨rfl, v3, hw3, hs3⟩
  rw [show laidN 0 0 3 3 = 3 from rfl, show laidL 0 3 = 3 from rfl] at hw3
  have hT3 : Tb w3 gT fixedL := H2.out.2.2.1.only hs3.1 (fun hm => by
    have h1 := H1.out.1.1.lt
    have h2 := H2.out.1
    simp [Value.ownBlock] at hm
    omega)
  have hsz := H2.out.2.1.size
  have H3 := hide (And.intro hw3 (And.intro hs3 hT3))
  clear hw3 hs3 hT3
  go_wp2_with fail
  go_loopw [16] (fun i wr => ∃ (j : Nat) (v' : Value), j ≤ b.length ∧ i = .int .i64 j ∧ Wr wr g v' (3 + 8 * bitsN fixedL (symsOf (b.take j))) (3 + bitsL fixedL (symsOf (b.take j))) ∧ WSince w2 g (.slice none 0 0) wr v' ∧ Tb wr gT fixedL) (fun i _ => b.length - (intOf i).toNat)
  case atStart => exact ⟨0, v3, Nat.zero_le _, rfl, H3.out.1, H3.out.2.1, H3.out.2.2⟩
  case round =>
    obtain ⟨j, v', hj, rfl, hW, hS, hT⟩ := hrel
    have hbl := bitsL_le fixL_far' (symsOf (b.take j))
    rw [symsOf_length, List.length_take, Nat.min_eq_left hj] at hbl
    have hnb := HB.out.2
    by_cases hjn : j < b.length
    · have hbr := (HB.out.1.keep H2.out.2.1 (by simp)).keepPos hS.1 (fun h0 ad ha _ hm => by
        have h1 := HB.out.1.blk h0 ad ha
        have h2 := H2.out.1
        have h3 := H1.out.2.size
        simp [Value.ownBlock] at hm
        omega)
      obtain ⟨ba, oa, rfl, hc2⟩ := hbr.addr (by simpa using (show 0 < b.length by omega))
      have hcell : wr.cell? ⟨ba, oa + j, none⟩ = some (.int .u8 (b[j].toNat : Int)) := hc2 j _ (bvals_get b j hjn)
      have hlt := b[j].toNat_lt
      have htk := symsOf_take b j hjn
      have hbl2 := bitsL_le fixL_far' (symsOf (b.take (j + 1)))
      rw [htk] at hbl2
      obtain ⟨x, hx⟩ : ∃ x, x = b[j].toNat := ⟨_, rfl⟩
      rw [← hx] at hcell hlt htk hbl2
      have hla := laid_sym (symsOf (b.take j)) x (by omega)
      have HCo := hide (code_any gT fixedL (x : Int) wr hT (by rw [fixL_len]; decide) fixL_far' fixL_sum)
      have hcv := cvI_lt fixL_sum fixL_far' (x : Int)
      have HJ := hide (And.intro hW (And.intro hS (And.intro hT (And.intro hla (And.intro htk hbl)))))
      clear hW hS hT hla htk hbr hc2 hx hbl hbl2
      generalize cvI fixedL (x : Int) = cv at *
      generalize lnI fixedL (x : Int) = nn at *
      go_wp2_with fail
      refine (HCo.out).mono ?_
      rintro e w4 ⟨rfl, m4, rfl⟩
      have hW4 := HJ.out.1.keep ((Only.refl [] wr).drewN m4)
      have hBt := wBits g v' _ _ cv (nn : Int) (wr.drewN m4) hW4 (by omega) (by have := HJ.out.2.2.2.2.2; have := HB.out.2; omega)
      rw [HJ.out.2.2.2.1.1, HJ.out.2.2.2.1.2] at hBt
      have H4 := hide (And.intro hBt hW4)
      clear hBt hW4
      go_wp2_with fail
      refine (H4.out.1).mono ?_
      rintro e w5 ⟨rfl, v5, hw5, hs5⟩
      have hT5 := (HJ.out.2.2.1.only ((Only.refl [] wr).drewN m4) (by simp)).since H4.out.2 hs5
      have hS5 : WSince w2 g (.slice none 0 0) w5 v5 := (HJ.out.2.1.trans ⟨(Only.refl _ wr).drewN m4, fun _ h => .inl h⟩).trans hs5
      have H5 := hide (And.intro hw5 (And.intro hS5 hT5))
      clear hw5 hs5 hT5 hS5
      go_wp2_with fail
      go_roundw
      case rel => exact ⟨j + 1, v5, hjn, by go_num, by rw [HJ.out.2.2.2.2.1]; exact H5.out.1, H5.out.2.1, H5.out.2.2⟩
      case measure => simp [intOf]; omega
    · obtain rfl : j = b.length := by omega
      rw [List.take_length] at hW hbl
      have hla := laid_sym (symsOf b) 256 (by decide)
      have HCo := hide (code_any gT fixedL ((256 : Nat) : Int) wr hT (by rw [fixL_len]; decide) fixL_far' fixL_sum)
      have hcv := cvI_lt fixL_sum fixL_far' ((256 : Nat) : Int)
      have HJ := hide (And.intro hW (And.intro hS (And.intro hla hbl)))
      clear hW hS hT hla hbl
      generalize cvI fixedL ((256 : Nat) : Int) = cv at *
      generalize lnI fixedL ((256 : Nat) : Int) = nn at *
      go_wp2_with fail
      refine (HCo.out).mono ?_
      rintro e w4 ⟨rfl, m4, rfl⟩
      have hW4 := HJ.out.1.keep ((Only.refl [] wr).drewN m4)
      have hBt := wBits g v' _ _ cv (nn : Int) (wr.drewN m4) hW4 (by omega) (by have := HJ.out.2.2.2; have := HB.out.2; omega)
      rw [HJ.out.2.2.1.1, HJ.out.2.2.1.2] at hBt
      have H4 := hide hBt
      clear hBt hW4
      go_wp2_with fail
      refine (H4.out).mono ?_
      rintro e w5 ⟨rfl, v5, hw5, hs5⟩
      have hS5 : WSince w2 g (.slice none 0 0) w5 v5 := (HJ.out.2.1.trans ⟨(Only.refl _ wr).drewN m4, fun _ h => .inl h⟩).trans hs5
      have hL : bitsL fixedL (256 :: symsOf b) = bitsL fixedL (symsOf b) + ln fixedL 256 := rfl
      have h15 := fixL_far' 256
      have H5 := hide (And.intro hS5 (wDone g v5 _ _ w5 hw5 (by have := HJ.out.2.2.2; have := HB.out.2; omega)))
      clear hw5 hs5 hS5 hL h15
      go_wp2_with fail
      refine (H5.out.2).mono ?_
      rintro e w6 ⟨rv, bs, rfl, hown, ho6, hlen, hnum⟩
      have o05 : Only [] w w5 := H2.out.2.1.trans H5.out.1.1 (fun i hi hlt => by
        rcases List.mem_cons.1 hi with rfl | hi
        · have := H2.out.1; have := H1.out.2.size; omega
        · simp [Value.ownBlock] at hi)
      have H6 := hide (And.intro (own_mono hown o05.size) (And.intro (o05.trans ho6 (by simp)) (And.intro hlen hnum)))
      clear hown ho6 o05 hlen hnum
      go_wp2_with fail
      go_ret
      exact ⟨rv, bs, rfl, ⟨H6.out.2.2.2, H6.out.2.2.1⟩, H6.out.1, H6.out.2.1⟩
end Go.Proofs.YtlknhiihdejpeaaGreatDoor

