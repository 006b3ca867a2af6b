/-
  Package inflate: New, Inflate.
-/
import Derived.Test.YtglkfgpefpebmaaDoorInfK
import Derived.OwnWalk
namespace Go.Proofs.YtglkfgpefpebmaaDoor
open Go Go.RowKit

/-- A new decoder. -/
def DF.new (most gw gt : Nat) : DF := ⟨most, 0, 0, 0, 0, .slice (some ⟨gw, 0, none⟩) 32768 32768, 0, .slice (some ⟨gt, 0, none⟩) 0 4, 0, false, 0, fun i => if i = 34 then .pointer none else if 14 ≤ i ∧ i < 33 ∨ 36 ≤ i ∧ i < 352 then .int .u8 0 else .int .i64 0, .pointer none, .pointer none, 0, 0⟩

set_option maxRecDepth 100000 in
theorem zero_decoder (most gw gt : Nat) : ((((Tryd.zeroCells78.setIfInBounds 0 (.int .i64 (most : Int))).setIfInBounds 5 (.slice (some ⟨gw, 0, none⟩) 32768 32768)).setIfInBounds 6 (.int .i64 0)).setIfInBounds 7 (.slice (some ⟨gt, 0, none⟩) 0 4)) = (DF.new most gw gt).cells := by kernel_rfl

theorem mk_ring : ∃ zr : Array Value, zr.size = 32768 ∧ ∀ W : World, (Instr.makeSlice 22 (.int .i64 32768) (.int .i64 32768)).run Tryd.prog W = .ok (.slice (some ⟨W.heap.size, 0, none⟩) 32768 32768) (W.alloc (.cells zr 5)) :=
  ⟨madeCells #[.int .u8 0] 32768, by rw [zeros_eq, List.size_toArray, bvals_length, List.length_replicate], fun W => run_make_row' (P := Tryd.prog) 22 5 (.int .u8 0) 1 Tryd.underlying22 u8_info rfl .i64 .i64 32768 (by decide) (by decide) W⟩
theorem mk_waits : ∃ zw : Array Value, zw.size = 4 ∧ ∀ W : World, (Instr.makeSlice 22 (.int .i64 0) (.int .i64 4)).run Tryd.prog W = .ok (.slice (some ⟨W.heap.size, 0, none⟩) 0 4) (W.alloc (.cells zw 5)) := by
  obtain ⟨i0, hi0, hz0, hz1, hz2⟩ := info_of u8_info
  refine ⟨madeCells (Value.int .u8 0).cells ((4 : Int).toNat * i0.size), ?_, fun W => run_make W 22 5 i0 (.int .u8 0) Tryd.underlying22 hi0 hz0 .i64 .i64 0 4 (by decide) (by decide) (by rw [hz2]; decide) (by decide)⟩
  rw [hz1]
  have := zeros_eq 4
  show (madeCells #[.int .u8 0] 4).size = 4
  rw [this]; simp [bvals]

set_option maxRecDepth 100000 in
set_option maxHeartbeats 1000000 in
theorem newRing_any (w : World) : Calls Tryd.prog 48 #[] w fun e w' => ∃ gw, e = .returned (.agg #[.slice (some ⟨gw, 0, none⟩) 32768 32768, .int .i64 0]) ∧ w.heap.size ≤ gw ∧ Rg w' gw [] ∧ Only [] w w' := by
  obtain ⟨zr, hzr, hmk⟩ := mk_ring
  go_enter Tryd.func48, Tryd.ntmps48
  go_wp2_with fail
  have hr : Has ((w.alloc (.cells #[.slice (some ⟨w.heap.size + 1, 0, none⟩) 32768 32768, .int .i64 0] 72)).alloc (.cells zr 5)) w.heap.size 72 #[.slice (some ⟨w.heap.size + 1, 0, none⟩) 32768 32768, .int .i64 0] := (Has.new w _ _).alloc _
  have hz : Has ((w.alloc (.cells #[.slice (some ⟨w.heap.size + 1, 0, none⟩) 32768 32768, .int .i64 0] 72)).alloc (.cells zr 5)) (w.heap.size + 1) 5 zr := by
    have := Has.new (w.alloc (.cells #[.slice (some ⟨w.heap.size + 1, 0, none⟩) 32768 32768, .int .i64 0] 72)) 5 zr
    simpa using this
  exact bodyPost_ret (results_cell_row Tryd.results48 _ _ w.heap.size 72 #[.slice (some ⟨w.heap.size + 1, 0, none⟩) 32768 32768, .int .i64 0] (0, 0) _ rfl hr Tryd.underlying72 rfl (by kernel_rfl)) rfl
    ⟨w.heap.size + 1, rfl, by omega, ⟨zr, hz, hzr, fun i hi _ => absurd hi (by simp)⟩, ((Only.refl [] w).alloc _).alloc _⟩

set_option maxRecDepth 100000 in
set_option maxHeartbeats 4000000 in
theorem newDec_any (most : Nat) (w : World) (hm : most ≤ 1073741824) : Calls Tryd.prog 29 #[.int .i64 (most : Int)] w fun e w' =>
    ∃ g gw gt, e = .returned (.tuple #[.pointer (some ⟨g, 0, none⟩), .int .i64 0]) ∧ w.heap.size ≤ g ∧ w.heap.size ≤ gw ∧ w.heap.size ≤ gt ∧ gt ≠ gw ∧ Dc w' g (DF.new most gw gt) ∧ Rg w' gw [] ∧ w'.ownsRow 0 5 1 (.slice (some ⟨gt, 0, none⟩) 0 4) 0 [] ∧ Only [] w w' := by
  obtain ⟨zw, hzw, hmk⟩ := mk_waits
  have hbd := zero_decoder most
  have HNR := hide newRing_any
  have hm1 : ¬ (1073741824 : Int) < (most : Int) := by omega
  have hm0 : ¬ (most : Int) < 0 := by omega
  go_enter Tryd.func29, Tryd.ntmps29
  go_wp2_with fail
  go_region_with (go_at_call 48; refine (HNR.out _).mono ?_; rintro e w1 ⟨gw, rfl, hgw, hrg, ho1⟩)
  all_goals
    go_wp2_with fail
    go_ret2
  · obtain ⟨ws, hws, hwz⟩ := hrg
    have hlt := hws.lt
    have hsz := ho1.size
    have o1 : Only [] w w1 := ((Only.refl [] w).drew).trans ho1 (by simp)
    have hg : Has ((w1.alloc (.cells zw 5)).alloc (.cells (DF.new most gw w1.heap.size).cells 78)) (w1.heap.size + 1) 78 (DF.new most gw w1.heap.size).cells := by
      have := Has.new (w1.alloc (.cells zw 5)) 78 (DF.new most gw w1.heap.size).cells
      simpa using this
    refine ⟨w1.heap.size + 1, gw, w1.heap.size, rfl, ?_, hgw, ?_, by omega, hg, ⟨ws, (hws.alloc _).alloc _, hwz⟩, (World.ownsRow_made w1 zw 4 (Nat.zero_le _) (by decide) (by rw [hzw])).alloc _, (o1.alloc _).alloc _⟩
    · have : w.drew.heap.size = w.heap.size := rfl
      omega
    · have : w.drew.heap.size = w.heap.size := rfl
      omega
  · obtain ⟨ws, hws, hwz⟩ := hrg
    have hlt := hws.lt
    have hsz := ho1.size
    have hs0 : (w.drew.alloc (.cells zw 5)).heap.size = w.heap.size + 1 := by simp
    have o1 : Only [] w w1 := (((Only.refl [] w).drew).alloc _).trans ho1 (by simp)
    have hg : Has (w1.alloc (.cells (DF.new most gw w.heap.size).cells 78)) w1.heap.size 78 (DF.new most gw w.heap.size).cells := Has.new w1 _ _
    have how : (w.drew.alloc (.cells zw 5)).ownsRow 0 5 1 (.slice (some ⟨w.heap.size, 0, none⟩) 0 4) 0 [] := World.ownsRow_made w.drew zw 4 (Nat.zero_le _) (by decide) (by rw [hzw])
    refine ⟨w1.heap.size, gw, w.heap.size, rfl, ?_, ?_, Nat.le_refl _, ?_, hg, ⟨ws, hws.alloc _, hwz⟩, (own_keep how ho1 (by simp)).alloc _, o1.alloc _⟩
    · exact o1.size
    · have h1 : (w.drew.alloc (.cells zw 5)).heap.size ≤ gw := hgw
      omega
    · have h1 : (w.drew.alloc (.cells zw 5)).heap.size ≤ gw := hgw
      omega

/-- What Inflate answers. -/
def Inflated (n : Nat) (most : Nat) (E : St) (w : World) (e : Ending) (w' : World) : Prop :=
  Only [] w w' ∧ ((∃ v, e = .returned (.tuple #[v, .int .i64 (((E.p + 7) / 8 : Nat) : Int), .int .i64 0]) ∧ w'.ownsRow 0 5 1 v E.out.length (bvals E.out) ∧ E.p ≤ 8 * n ∧ E.out.length ≤ most) ∨
    (e = .returned (.tuple #[.slice none 0 0, .int .i64 0, .int .i64 2]) ∧ 8 * n < E.p) ∨
    (e = .returned (.tuple #[.slice none 0 0, .int .i64 0, .int .i64 5]) ∧ most < E.out.length))

set_option maxRecDepth 100000 in
set_option maxHeartbeats 4000000 in
theorem inflate_any (B : List UInt8) (n cb most : Nat) (A : Option Addr) (E : St) (w : World) (hw : Way fixedL (num B) ⟨0, false, 0, 0, []⟩ E) (hE : E.k = 11) (hp : 0 < E.p) (hb : Holds w 1 A n (bvals (B.take n))) (hcb : n ≤ cb) (hn : n ≤ B.length) (hB : B.length ≤ 90000) (hmost : most ≤ 1073741824) :
    Calls Tryd.prog 14 #[.slice A n cb, .int .i64 (most : Int)] w (Inflated n most E w) := by
  have HI := hide (And.intro hw (And.intro hE (And.intro hp (And.intro hb (And.intro hcb (And.intro hn (And.intro hB hmost)))))))
  have HN := hide (newDec_any most w hmost)
  clear hw hE hp hb hcb hn hB hmost
  go_enter Tryd.func14, Tryd.ntmps14
  go_wp2_with fail
  refine (HN.out).mono ?_
  rintro e w1 ⟨g, gw, gt, rfl, hg, hgw, hgt, hne, hd, hr, ho, ho1⟩
  have hrest : Rest w1 g gw (DF.new most gw gt) B 0 0 ⟨0, false, 0, 0, []⟩ [] := ⟨hd, hr, rfl, rfl, ho, by simpa [DF.new, Value.ownBlock] using hne, ⟨rfl, rfl, rfl, rfl, rfl, by simp, by show 0 < 65536; omega⟩, by show 0 < 8; omega, Nat.le_refl _, Nat.zero_le _, Nat.le_refl _, .inl rfl, fun h => by cases h⟩
  have hW := write_any B 0 0 n cb A g gw (DF.new most gw gt) [] E ⟨0, false, 0, 0, []⟩ w1 hrest HI.out.1 HI.out.2.1 (by show (0 : Nat) ≠ 11; decide) (by have := HI.out.2.2.1; omega) rfl (by rw [List.drop_zero]; exact HI.out.2.2.2.1.keep ho1 (by simp)) HI.out.2.2.2.2.1 (by have := HI.out.2.2.2.2.2.1; omega) HI.out.2.2.2.2.2.2.1 (Nat.zero_le _) HI.out.2.2.2.2.2.2.2 (by show 0 + n ≤ 1000000000; have := HI.out.2.2.2.2.2; omega) (by show 0 ≤ 1000000000; omega) (fun h0 ad ha hm => by
    have h1 := HI.out.2.2.2.1.blk h0 ad ha
    simp only [List.mem_append, List.mem_cons, List.not_mem_nil, or_false] at hm
    rcases hm with (hm | hm) | hm
    · omega
    · omega
    · have := mem_own.1 hm
      have : gt = ad.block := by simpa [DF.new, Value.ownBlock] using this
      omega)
  have HW := hide hW
  have HO := hide (And.intro ho1 (And.intro hg (And.intro hgw hgt)))
  clear hg hgw hgt hne hd hr ho ho1 hrest hW HN
  go_wp2_with fail
  refine (HW.out).mono ?_
  rintro e w2 ⟨c, y, v, f', rfl, hfr, hv, hcase⟩
  have h02 : Only [] w w2 := HO.out.1.trans hfr (fun i hi hlt => by
    simp only [List.mem_append, List.mem_cons, List.not_mem_nil, or_false] at hi
    rcases hi with (hm | hm) | hm
    · have := HO.out.2.1; omega
    · have := HO.out.2.2.1; omega
    · have h1 := mem_own.1 hm
      have h2 : gt = i := by simpa [DF.new, Value.ownBlock] using h1
      have := HO.out.2.2.2; omega)
  have H02 := hide h02
  clear hfr hv h02
  rcases hcase with ⟨rfl, hown, hto, hmo, hy, hk⟩ | ⟨rfl, rfl, rfl, hlong⟩
  · rcases hk with ⟨h11, hus, hEp, hEo, hd⟩ | ⟨h11, hus, hfar, hfa, o', s', hre, _⟩
    · have HD := hide (done_any g f' w2 hd true (by rw [h11]; rfl))
      have HU := hide (used_any g f' w2 hd)
      have hus2 : f'.used = (E.p + 7) / 8 := by rw [hus]; show 0 + ((E.p + 7) / 8 - 0) = _; omega
      rw [hus2] at HU
      rw [List.nil_append] at hEo
      have hyl : y.length ≤ most := by have : ([] : List UInt8).length + y.length ≤ most := hy; simpa using this
      have HJ := hide (And.intro hown (And.intro hEp (And.intro hEo hyl)))
      clear hown hto hmo hy h11 hus hEp hEo hd hus2 hyl
      go_wp2_with fail
      refine (HD.out).mono ?_
      rintro e w3 ⟨rfl, rfl⟩
      go_wp2_with fail
      refine (HU.out).mono ?_
      rintro e w3 ⟨rfl, rfl⟩
      go_wp2_with fail
      go_ret3
      have hEo := HJ.out.2.2.1
      refine ⟨H02.out, .inl ⟨v, rfl, by rw [hEo]; exact HJ.out.1, by have := HJ.out.2.1; omega, by rw [hEo]; exact HJ.out.2.2.2⟩⟩
    · have HD := hide (done_any g f' w2 hre.dec false (decide_eq_false (by omega)))
      have HJ := hide hfar
      clear hown hto hmo hy h11 hus hfar hfa hre
      go_wp2_with fail
      refine (HD.out).mono ?_
      rintro e w3 ⟨rfl, rfl⟩
      go_wp2_with fail
      go_ret3
      exact ⟨H02.out, .inr (.inl ⟨rfl, by have := HJ.out; omega⟩)⟩
  · have HJ := hide hlong
    clear hlong
    go_wp2_with fail
    go_ret3
    exact ⟨H02.out, .inr (.inr ⟨rfl, HJ.out⟩)⟩
end Go.Proofs.YtglkfgpefpebmaaDoor
