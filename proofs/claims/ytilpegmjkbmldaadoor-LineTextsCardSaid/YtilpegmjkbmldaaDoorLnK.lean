/-
  A builder of text: bytes, signs put behind it.
-/
import Derived.Test.YtilpegmjkbmldaaDoorLnJ
import Derived.Laws.Externs
import Derived.Lib.UnsafeStr
import Derived.Shelf.Strings.BuilderX
namespace Go.Proofs.YtilpegmjkbmldaaDoor
open Go Go.RowKit

/-- What a builder's call leaves as it was. -/
structure Wrote (w : World) (B g : Nat) (w' : World) : Prop where
  kept : ∀ h t cs, Has w h t cs → t ≠ 5 → h ≠ g → Has w' h t cs
  low : ∀ w0 : World, w0.heap.size ≤ B → w0.heap.size ≤ g → Only [] w0 w → Only [] w0 w'
theorem Wrote.refl (w : World) (B g : Nat) : Wrote w B g w := ⟨fun _ _ _ h _ _ => h, fun _ _ _ h => h⟩
theorem Wrote.trans {w w1 w2 : World} {B g : Nat} (h : Wrote w B g w1) (k : Wrote w1 B g w2) : Wrote w B g w2 :=
  ⟨fun x t cs hh h1 h2 => k.kept x t cs (h.kept x t cs hh h1 h2) h1 h2, fun w0 h1 h2 ho => k.low w0 h1 h2 (h.low w0 h1 h2 ho)⟩
theorem Wrote.only {w w' : World} {B g : Nat} (h : Only [g] w w') : Wrote w B g w' :=
  ⟨fun x t cs hh _ h2 => hh.only h (by simpa using h2), fun w0 _ h2 ho => ho.trans h (by intro k hk hlt; simp at hk; omega)⟩
theorem Wrote.nil {w w' : World} {B g : Nat} (h : Only [] w w') : Wrote w B g w' := Wrote.only h.of_nil
theorem Wrote.grown {w w' : World} {B g n : Nat} {v : Value} {xs : List Value} (hown : w.ownsRow B 5 1 v n xs) (hg : w.grownBy w' v.ownBlock) : Wrote w B g w' :=
  ⟨fun x t cs hh h1 _ => hh.grown hg (own_ne hown hh (Ne.symm h1)), fun w0 h1 _ ho => ho.grown hg (fun k hk hlt => by have := (hown.lt k hk).1; omega)⟩

theorem u8_info' : (Tryd.prog.info? 5).map (fun i => (i.zero, i.size, i.bytes)) = some (some (.int .u8 0), 1, 1) := by kernel_rfl
theorem builder_size : (Tryd.prog.info? 56).map (·.size) = some 2 := by kernel_rfl

/-- A builder that holds these bytes; its row lies at B or above. -/
structure Bd (w : World) (B g : Nat) (q : List UInt8) (p : Value) (A : Option Addr) (c : Nat) : Prop where
  has : Has w g 56 #[p, .slice A q.length c]
  own : w.ownsRow B 5 1 (.slice A q.length c) q.length (bvals q)
  ptr : p = .pointer none ∨ p = .pointer (some ⟨g, 0, none⟩)
  le : B ≤ w.heap.size

set_option maxRecDepth 100000 in
set_option maxHeartbeats 1000000 in
theorem copyCheck_any (g : Nat) (p s : Value) (w : World) (h : Has w g 56 #[p, s]) (hp : p = .pointer none ∨ p = .pointer (some ⟨g, 0, none⟩)) :
    Calls Tryd.prog 34 #[.pointer (some ⟨g, 0, none⟩)] w fun e w' => e = .returned (.tuple #[]) ∧ Has w' g 56 #[.pointer (some ⟨g, 0, none⟩), s] ∧ Only [g] w w' := by
  obtain ⟨j, hj, hjs⟩ := Option.map_eq_some_iff.1 builder_size
  have c0 : w.cell? ⟨g, 0, none⟩ = some p := h.cell 0
  have f0 := h.free 0
  rcases hp with rfl | rfl
  · have hsh : w.shape? g = some (56, 2) := by unfold Has at h; simp [World.shape?, h]
    have HF := hide (And.intro (show Has (w.setCell ⟨g, 0, none⟩ (.pointer (some ⟨g, 0, none⟩))) g 56 #[.pointer (some ⟨g, 0, none⟩), s] from h.set 0 _) ((Only.refl [g] w).setCell (p := ⟨g, 0, none⟩) (by simp) (.pointer (some ⟨g, 0, none⟩))))
    clear h
    go_enter Tryd.func34, Tryd.ntmps34
    go_wp2
    rw [Lib.run_to_unsafe w ⟨g, 0, none⟩ Tryd.underlying54 Tryd.underlying73 hj (by rw [hjs]; decide) hsh (Nat.zero_lt_succ 1)]
    simp only [Result.andThen]
    rw [Oper.upon_value]
    go_wp2
    rw [run_callFunc_extern Tryd.func40 (by kernel_rfl) (by kernel_rfl) (by kernel_rfl) (e := Extern.AbiNoEscape.same) (by kernel_rfl)]
    rw [Lib.run_noEscape]
    simp only [Result.andThen]
    rw [Oper.upon_value]
    go_wp2
    rw [Lib.run_from_unsafe w ⟨g, 0, none⟩ Tryd.underlying73 Tryd.underlying54 hj hsh (by kernel_rfl)]
    simp only [Result.andThen]
    rw [Oper.upon_value]
    go_wp2
    go_end0
    exact ⟨rfl, HF.out⟩
  · have HF := hide h
    clear h
    go_enter Tryd.func34, Tryd.ntmps34
    go_wp2
    rw [Lib.run_neq_ptr_same w _ Tryd.underlying54 hj]
    go_wp2
    go_end0
    exact ⟨rfl, HF.out, Only.refl _ _⟩

theorem own_off {w w' : World} {B g n : Nat} {t : TypeId} {cs : Array Value} {v : Value} {xs : List Value} (hown : w.ownsRow B 5 1 v n xs) (hg : Has w g t cs) (ht : 5 ≠ t) (ho : Only [g] w w') : w'.ownsRow B 5 1 v n xs :=
  own_keep hown ho (fun b hb hm => own_ne hown hg ht (by simp at hm; rw [hb, hm]))

set_option maxRecDepth 100000 in
set_option maxHeartbeats 1000000 in
theorem writeByte_any (B g : Nat) (q : List UInt8) (b : UInt8) (p : Value) (A : Option Addr) (c : Nat) (w : World) (h : Bd w B g q p A c) (hq : q.length ≤ 1000000000) :
    Calls Tryd.prog 28 #[.pointer (some ⟨g, 0, none⟩), .int .u8 (b.toNat : Int)] w fun e w' => e = .returned .nilIface ∧ (∃ A' c', Bd w' B g (q ++ [b]) (.pointer (some ⟨g, 0, none⟩)) A' c') ∧ Wrote w B g w' := by
  have HK := hide (copyCheck_any g p _ w h.has h.ptr)
  have H0 := hide h
  clear h
  obtain ⟨i0, hi0, hz0, hz1, hz2⟩ := info_of u8_info'
  go_enter Tryd.func28, Tryd.ntmps28
  go_wp2_with fail
  refine (HK.out).mono ?_
  rintro e w1 ⟨rfl, hh, ho⟩
  have hown1 := (own_off H0.out.own H0.out.has (by decide) ho).alloc (.cells #[.int .u8 (b.toNat : Int)] 5)
  have hh1 := hh.alloc (.cells #[.int .u8 (b.toNat : Int)] 5)
  have c1 : w1.cell? ⟨g, 1, none⟩ = some (.slice A q.length c) := hh.cell 1
  have hlit := Holds.lit w1 #[.int .u8 (b.toNat : Int)] 5
  have hbase : B ≤ (w1.alloc (.cells #[.int .u8 (b.toNat : Int)] 5)).heap.size := by have := H0.out.le; have := ho.size; simp; omega
  have HO := hide (And.intro hown1 (And.intro hlit (And.intro hbase (And.intro hh1 ho))))
  clear hown1 hlit hbase hh1 hh ho
  go_wp2_with (at_builtin; refine list_append _ rfl (.tmp 11) (.tmp 13) 43 rfl B 1 1 Tryd.underlying43 hi0 hz0 hz1 hz2 rfl (by omega) HO.out.1 rfl HO.out.2.1 rfl (by simp [Value.oneCell']) (by show (q.length + 1) * 1 ≤ _; omega) (by omega) HO.out.2.2.1 ?_; intro A2 c2 w2 hown2 hg2 hat2; have hw1 := HO.out.2.2.2.1.grown hg2 (own_ne HO.out.1 HO.out.2.2.2.1 (by decide)); have d1 := hw1.free 1; have e1 : w2.cell? ⟨g, 1, none⟩ = some (.slice A q.length c) := hw1.cell 1; have HQ := hide (And.intro hown2 (And.intro hg2 hw1)); clear hown2 hg2 hat2 hw1)
  go_ret
  obtain ⟨hown2, hg2, hw1⟩ := HQ.out
  obtain ⟨hown1, _, hbase, _, ho⟩ := HO.out
  have e : (q ++ [b]).length = q.length + 1 := by simp
  have hs1 := hw1.set 1 (.slice A2 (q.length + 1) c2)
  have ho2 : Only [g] w2 (w2.setCell ⟨g, 1, none⟩ (.slice A2 (q.length + 1) c2)) := (Only.refl _ w2).setCell (by simp) _
  refine ⟨rfl, ⟨A2, c2, ?_⟩, ((Wrote.only ho).trans (Wrote.nil ((Only.refl [] w1).alloc _))).trans ((Wrote.grown hown1 hg2).trans (Wrote.only ho2))⟩
  refine ⟨?_, ?_, .inr rfl, ?_⟩
  · rw [e]; exact hs1
  · rw [e, bvals_append]
    exact own_off hown2 hw1 (by decide) ho2
  · have := ho2.size; have := hg2.size; omega
end Go.Proofs.YtilpegmjkbmldaaDoor
