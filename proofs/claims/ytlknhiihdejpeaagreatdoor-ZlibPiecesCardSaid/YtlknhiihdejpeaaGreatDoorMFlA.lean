/-
  Package inflate: a decoder's cells (by itself, or at the front of one of package zlib), its window, one byte told.
-/
import Derived.Test.YtlknhiihdejpeaaGreatDoorMHufG
import Derived.Test.YtlknhiihdejpeaaGreatDoorMGrow
import Derived.Deep.RegionWith
import Derived.Deep.QuietTactic
import Derived.BigQuiet
namespace Go.Proofs.YtlknhiihdejpeaaGreatDoor
open Go Go.RowKit

/-- What a decoder's cells hold. -/
structure DF where
  most : Nat
  k : Nat
  fault : Nat
  used : Nat
  total : Nat
  wb : Value
  wn : Nat
  wt : Value
  ps : Nat
  last : Bool
  left : Nat
  hd : Nat → Value
  co : Value
  fx : Value
  sy : Nat
  le : Nat
  z : Bool
  tail : List Value

def DF.at (f : DF) (i : Nat) : Value :=
  if i = 0 then .int .i64 (f.most : Int) else if i = 1 then .int .i64 (f.k : Int) else if i = 2 then .int .i64 (f.fault : Int) else if i = 3 then .int .i64 (f.used : Int) else if i = 4 then .int .i64 (f.total : Int)
  else if i = 5 then f.wb else if i = 6 then .int .i64 (f.wn : Int) else if i = 7 then f.wt else if i = 8 then .int .i64 (f.ps : Int) else if i = 9 then .bool f.last else if i = 10 then .int .i64 (f.left : Int)
  else if i = 353 then f.co else if i = 354 then f.fx else if i = 355 then .int .i64 (f.sy : Int) else if i = 356 then .int .i64 (f.le : Int) else f.hd i
def DF.cells (f : DF) : Array Value := ((List.range 357).map f.at ++ f.tail).toArray
def DF.ty (f : DF) : TypeId := if f.z then 57 else 49
theorem DF.ty_ne (f : DF) {t : TypeId} (h1 : t ≠ 57) (h2 : t ≠ 49) : t ≠ f.ty := by unfold ty; split <;> assumption
theorem DF.ne_ty (f : DF) {t : TypeId} (h1 : 57 ≠ t) (h2 : 49 ≠ t) : f.ty ≠ t := by unfold ty; split <;> assumption

namespace DF
variable (f : DF)
theorem cells_size : f.cells.size = 357 + f.tail.length := by simp [cells]
theorem cells_get {i : Nat} (hi : i < 357) : f.cells[i]? = some (f.at i) := by simp [cells, List.getElem?_append, hi]
theorem cells_tail (i : Nat) : f.cells[357 + i]? = f.tail[i]? := by
  unfold cells
  rw [List.getElem?_toArray, List.getElem?_append_right (by simp)]
  simp
theorem cells_set {f f' : DF} {p : Nat} {v : Value} (hp : p < 357) (h1 : f'.at p = v) (h2 : ∀ i, i ≠ p → f'.at i = f.at i) (h3 : f'.tail = f.tail := by rfl) : f.cells.setIfInBounds p v = f'.cells := by
  apply Array.ext_getElem?
  intro i
  rw [Array.getElem?_setIfInBounds, cells_size]
  by_cases hi : i < 357
  · rw [cells_get f hi, cells_get f' hi]
    by_cases h : p = i
    · subst h; rw [if_pos rfl, if_pos (by omega), h1]
    · rw [if_neg h, h2 i (fun e => h e.symm)]
  · rw [if_neg (by omega), show i = 357 + (i - 357) by omega, cells_tail, cells_tail, h3]
theorem cells_set_tail (i : Nat) (v : Value) : f.cells.setIfInBounds (357 + i) v = { f with tail := f.tail.set i v }.cells := by
  apply Array.ext_getElem?
  intro j
  rw [Array.getElem?_setIfInBounds, cells_size]
  by_cases hj : j < 357
  · rw [cells_get f hj, cells_get _ hj, if_neg (by omega)]; rfl
  · rw [show j = 357 + (j - 357) by omega, cells_tail, cells_tail]
    show _ = (f.tail.set i v)[j - 357]?
    rw [List.getElem?_set]
    by_cases h : i = j - 357
    · rw [if_pos (by omega), if_pos h]
      by_cases h2 : i < f.tail.length
      · rw [if_pos (by omega), if_pos h2]
      · rw [if_neg (by omega), if_neg h2]
    · rw [if_neg (by omega), if_neg h]
theorem set_le (x : Nat) : f.cells.setIfInBounds 356 (.int .i64 (x : Int)) = { f with le := x }.cells := cells_set (by decide) rfl (fun i h => by simp only [DF.at, h, if_false])
theorem set_hd {i : Nat} (h1 : 11 ≤ i) (h2 : i < 353) (v : Value) : f.cells.setIfInBounds i v = { f with hd := fun j => if j = i then v else f.hd j }.cells := cells_set (by omega)
  (by simp only [DF.at]; iterate 15 rw [if_neg (by omega)]
      rw [if_pos trivial])
  (fun j h => by simp only [DF.at, h, if_false])
theorem set_k (x : Nat) : f.cells.setIfInBounds 1 (.int .i64 (x : Int)) = { f with k := x }.cells := cells_set (by decide) rfl (fun i h => by simp only [DF.at, h, if_false])
theorem set_fault (x : Nat) : f.cells.setIfInBounds 2 (.int .i64 (x : Int)) = { f with fault := x }.cells := cells_set (by decide) rfl (fun i h => by simp only [DF.at, h, if_false])
theorem set_used (x : Nat) : f.cells.setIfInBounds 3 (.int .i64 (x : Int)) = { f with used := x }.cells := cells_set (by decide) rfl (fun i h => by simp only [DF.at, h, if_false])
theorem set_total (x : Nat) : f.cells.setIfInBounds 4 (.int .i64 (x : Int)) = { f with total := x }.cells := cells_set (by decide) rfl (fun i h => by simp only [DF.at, h, if_false])
theorem set_wn (x : Nat) : f.cells.setIfInBounds 6 (.int .i64 (x : Int)) = { f with wn := x }.cells := cells_set (by decide) rfl (fun i h => by simp only [DF.at, h, if_false])
theorem set_wt (v : Value) : f.cells.setIfInBounds 7 v = { f with wt := v }.cells := cells_set (by decide) rfl (fun i h => by simp only [DF.at, h, if_false])
theorem set_ps (x : Nat) : f.cells.setIfInBounds 8 (.int .i64 (x : Int)) = { f with ps := x }.cells := cells_set (by decide) rfl (fun i h => by simp only [DF.at, h, if_false])
theorem set_last (x : Bool) : f.cells.setIfInBounds 9 (.bool x) = { f with last := x }.cells := cells_set (by decide) rfl (fun i h => by simp only [DF.at, h, if_false])
theorem set_left (x : Nat) : f.cells.setIfInBounds 10 (.int .i64 (x : Int)) = { f with left := x }.cells := cells_set (by decide) rfl (fun i h => by simp only [DF.at, h, if_false])
theorem set_co (v : Value) : f.cells.setIfInBounds 353 v = { f with co := v }.cells := cells_set (by decide) rfl (fun i h => by simp only [DF.at, h, if_false])
theorem set_fx (v : Value) : f.cells.setIfInBounds 354 v = { f with fx := v }.cells := cells_set (by decide) rfl (fun i h => by simp only [DF.at, h, if_false])
theorem set_sy (x : Nat) : f.cells.setIfInBounds 355 (.int .i64 (x : Int)) = { f with sy := x }.cells := cells_set (by decide) rfl (fun i h => by simp only [DF.at, h, if_false])
end DF

/-- Block g is a decoder. -/
def Dc (w : World) (g : Nat) (f : DF) : Prop := Has w g f.ty f.cells
namespace Dc
variable {w : World} {g : Nat} {f : DF}
theorem at_ (h : Dc w g f) {i : Nat} (hi : i < 357) : w.cell? ⟨g, i, none⟩ = some (f.at i) := by rw [Has.cell h, f.cells_get hi]
theorem most (h : Dc w g f) : w.cell? ⟨g, 0, none⟩ = some (.int .i64 (f.most : Int)) := h.at_ (by decide)
theorem k (h : Dc w g f) : w.cell? ⟨g, 1, none⟩ = some (.int .i64 (f.k : Int)) := h.at_ (by decide)
theorem fault (h : Dc w g f) : w.cell? ⟨g, 2, none⟩ = some (.int .i64 (f.fault : Int)) := h.at_ (by decide)
theorem used (h : Dc w g f) : w.cell? ⟨g, 3, none⟩ = some (.int .i64 (f.used : Int)) := h.at_ (by decide)
theorem total (h : Dc w g f) : w.cell? ⟨g, 4, none⟩ = some (.int .i64 (f.total : Int)) := h.at_ (by decide)
theorem wb (h : Dc w g f) : w.cell? ⟨g, 5, none⟩ = some f.wb := h.at_ (by decide)
theorem wn (h : Dc w g f) : w.cell? ⟨g, 6, none⟩ = some (.int .i64 (f.wn : Int)) := h.at_ (by decide)
theorem wt (h : Dc w g f) : w.cell? ⟨g, 7, none⟩ = some f.wt := h.at_ (by decide)
theorem ps (h : Dc w g f) : w.cell? ⟨g, 8, none⟩ = some (.int .i64 (f.ps : Int)) := h.at_ (by decide)
theorem last (h : Dc w g f) : w.cell? ⟨g, 9, none⟩ = some (.bool f.last) := h.at_ (by decide)
theorem left (h : Dc w g f) : w.cell? ⟨g, 10, none⟩ = some (.int .i64 (f.left : Int)) := h.at_ (by decide)
theorem co (h : Dc w g f) : w.cell? ⟨g, 353, none⟩ = some f.co := h.at_ (by decide)
theorem fx (h : Dc w g f) : w.cell? ⟨g, 354, none⟩ = some f.fx := h.at_ (by decide)
theorem le (h : Dc w g f) : w.cell? ⟨g, 356, none⟩ = some (.int .i64 (f.le : Int)) := h.at_ (by decide)
theorem hd (h : Dc w g f) {i : Nat} (h1 : 11 ≤ i) (h2 : i < 353) : w.cell? ⟨g, i, none⟩ = some (f.hd i) := by
  rw [h.at_ (by omega)]
  simp only [DF.at]
  iterate 15 rw [if_neg (by omega)]
theorem tail (h : Dc w g f) (i : Nat) : w.cell? ⟨g, 357 + i, none⟩ = f.tail[i]? := by rw [Has.cell h, f.cells_tail]
theorem sy (h : Dc w g f) : w.cell? ⟨g, 355, none⟩ = some (.int .i64 (f.sy : Int)) := h.at_ (by decide)
theorem set_k (h : Dc w g f) (x : Nat) : Dc (w.setCell ⟨g, 1, none⟩ (.int .i64 (x : Int))) g { f with k := x } := by unfold Dc; rw [← DF.set_k]; exact Has.set h _ _
theorem set_fault (h : Dc w g f) (x : Nat) : Dc (w.setCell ⟨g, 2, none⟩ (.int .i64 (x : Int))) g { f with fault := x } := by unfold Dc; rw [← DF.set_fault]; exact Has.set h _ _
theorem set_used (h : Dc w g f) (x : Nat) : Dc (w.setCell ⟨g, 3, none⟩ (.int .i64 (x : Int))) g { f with used := x } := by unfold Dc; rw [← DF.set_used]; exact Has.set h _ _
theorem set_total (h : Dc w g f) (x : Nat) : Dc (w.setCell ⟨g, 4, none⟩ (.int .i64 (x : Int))) g { f with total := x } := by unfold Dc; rw [← DF.set_total]; exact Has.set h _ _
theorem set_wn (h : Dc w g f) (x : Nat) : Dc (w.setCell ⟨g, 6, none⟩ (.int .i64 (x : Int))) g { f with wn := x } := by unfold Dc; rw [← DF.set_wn]; exact Has.set h _ _
theorem set_wt (h : Dc w g f) (v : Value) : Dc (w.setCell ⟨g, 7, none⟩ v) g { f with wt := v } := by unfold Dc; rw [← DF.set_wt]; exact Has.set h _ _
theorem set_ps (h : Dc w g f) (x : Nat) : Dc (w.setCell ⟨g, 8, none⟩ (.int .i64 (x : Int))) g { f with ps := x } := by unfold Dc; rw [← DF.set_ps]; exact Has.set h _ _
theorem set_last (h : Dc w g f) (x : Bool) : Dc (w.setCell ⟨g, 9, none⟩ (.bool x)) g { f with last := x } := by unfold Dc; rw [← DF.set_last]; exact Has.set h _ _
theorem set_left (h : Dc w g f) (x : Nat) : Dc (w.setCell ⟨g, 10, none⟩ (.int .i64 (x : Int))) g { f with left := x } := by unfold Dc; rw [← DF.set_left]; exact Has.set h _ _
theorem set_co (h : Dc w g f) (v : Value) : Dc (w.setCell ⟨g, 353, none⟩ v) g { f with co := v } := by unfold Dc; rw [← DF.set_co]; exact Has.set h _ _
theorem set_fx (h : Dc w g f) (v : Value) : Dc (w.setCell ⟨g, 354, none⟩ v) g { f with fx := v } := by unfold Dc; rw [← DF.set_fx]; exact Has.set h _ _
theorem set_sy (h : Dc w g f) (x : Nat) : Dc (w.setCell ⟨g, 355, none⟩ (.int .i64 (x : Int))) g { f with sy := x } := by unfold Dc; rw [← DF.set_sy]; exact Has.set h _ _
theorem set_le (h : Dc w g f) (x : Nat) : Dc (w.setCell ⟨g, 356, none⟩ (.int .i64 (x : Int))) g { f with le := x } := by unfold Dc; rw [← DF.set_le]; exact Has.set h _ _
theorem set_hd (h : Dc w g f) {i : Nat} (h1 : 11 ≤ i) (h2 : i < 353) (v : Value) : Dc (w.setCell ⟨g, i, none⟩ v) g { f with hd := fun j => if j = i then v else f.hd j } := by unfold Dc; rw [← DF.set_hd f h1 h2]; exact Has.set h _ _
theorem set_tail (h : Dc w g f) (i : Nat) (v : Value) : Dc (w.setCell ⟨g, 357 + i, none⟩ v) g { f with tail := f.tail.set i v } := by unfold Dc; rw [← DF.cells_set_tail]; exact Has.set h _ _
end Dc

/-- Block g holds the last bytes that were told. -/
def Rg (w : World) (g : Nat) (x : List UInt8) : Prop :=
  ∃ ws, Has w g 5 ws ∧ ws.size = 32768 ∧ ∀ i, (h : i < x.length) → x.length ≤ i + 32768 → ws[i % 32768]? = some (.int .u8 (x[i].toNat : Int))
theorem Rg.only {w w' : World} {g : Nat} {x : List UInt8} {S : List Nat} (h : Rg w g x) (ho : Only S w w') (hg : g ∉ S) : Rg w' g x := by
  obtain ⟨ws, h1, h2⟩ := h; exact ⟨ws, h1.only ho hg, h2⟩
theorem ring_push {x : List UInt8} {ws : Array Value} (c : UInt8) (hs : ws.size = 32768) (h : ∀ i, (h : i < x.length) → x.length ≤ i + 32768 → ws[i % 32768]? = some (.int .u8 (x[i].toNat : Int))) :
    ∀ i, (h : i < (x ++ [c]).length) → (x ++ [c]).length ≤ i + 32768 → (ws.setIfInBounds (x.length % 32768) (.int .u8 (c.toNat : Int)))[i % 32768]? = some (.int .u8 ((x ++ [c])[i].toNat : Int)) := by
  intro i hi hle
  rw [List.length_append, List.length_singleton] at hi hle
  rw [Array.getElem?_setIfInBounds, hs]
  rcases Nat.lt_or_ge i x.length with hx | hx
  · rw [if_neg (by omega), h i hx (by omega), List.getElem_append_left hx]
  · obtain rfl : i = x.length := by omega
    rw [if_pos rfl, if_pos (by omega), List.getElem_append_right (Nat.le_refl _)]
    simp

set_option maxRecDepth 100000 in
set_option maxHeartbeats 1000000 in
theorem put_any (g gw n c : Nat) (ws : Array Value) (w : World) (f : DF) (hD : Dc w g f) (hwb : f.wb = .slice (some ⟨gw, 0, none⟩) 32768 32768) (hwn : f.wn = n) (hW : Has w gw 5 ws) (hs : ws.size = 32768) (hn : n ≤ 1073741824) :
    Calls Tryz.prog 116 #[.pointer (some ⟨g, 5, none⟩), .int .u8 c] w fun e w' => e = .returned (.tuple #[]) ∧ Dc w' g { f with wn := n + 1 } ∧ Has w' gw 5 (ws.setIfInBounds (n % 32768) (.int .u8 c)) ∧ Only [g, gw] w w' := by
  have hne : g ≠ gw := Has.ne hD hW (f.ne_ty (by decide) (by decide))
  have hne' : gw ≠ g := fun h => hne h.symm
  have c5 : w.cell? ⟨g, 5, none⟩ = some (.slice (some ⟨gw, 0, none⟩) 32768 32768) := by rw [← hwb]; exact hD.wb
  have c6 : w.cell? ⟨g, 6, none⟩ = some (.int .i64 (n : Int)) := by rw [← hwn]; exact hD.wn
  have f6 : w.frozen? ⟨g, 6, none⟩ = false := Has.free hD 6
  have hi : n % 32768 < ws.size := by rw [hs]; omega
  have cw : w.cell? ⟨gw, n % 32768, none⟩ = some ws[n % 32768] := by rw [hW.cell, Array.getElem?_eq_getElem hi]
  have fw : w.frozen? ⟨gw, n % 32768, none⟩ = false := hW.free _
  generalize ws[n % 32768] = u at *
  have HH := hide (And.intro hD hW)
  have HN := hide hwn
  have hm : (n : Int).tmod 32768 = ((n % 32768 : Nat) : Int) := rfl
  have hm2 : n % 32768 < 32768 := by omega
  have hm3 : (n % 32768) * 1 = n % 32768 := Nat.mul_one _
  clear hD hW hwb hwn hi hs
  generalize n % 32768 = j at *
  go_enter Tryz.func116, Tryz.ntmps116
  go_wp2
  go_region
  all_goals
    have h1 : Dc (w.setCell ⟨gw, j, none⟩ (.int .u8 (c : Int))).drew g f := Has.other HH.out.1 (p := ⟨gw, j, none⟩) hne _
    have h2 : Has (w.setCell ⟨gw, j, none⟩ (.int .u8 (c : Int))).drew gw 5 (ws.setIfInBounds j (.int .u8 (c : Int))) := HH.out.2.set j _
    have ho : Only [g, gw] w (w.setCell ⟨gw, j, none⟩ (.int .u8 (c : Int))).drew := ((Only.refl [g, gw] w).setCell (by simp) _).drew
    have k6 : (w.setCell ⟨gw, j, none⟩ (.int .u8 (c : Int))).drew.cell? ⟨g, 6, none⟩ = some (.int .i64 (n : Int)) := by rw [← HN.out]; exact h1.wn
    have q6 : (w.setCell ⟨gw, j, none⟩ (.int .u8 (c : Int))).drew.frozen? ⟨g, 6, none⟩ = false := Has.free h1 6
    have HX := hide (And.intro h1 (And.intro h2 ho))
    clear h1 h2 ho
    generalize (w.setCell ⟨gw, j, none⟩ (.int .u8 (c : Int))).drew = w1 at *
    go_wp2
    go_end0
    exact ⟨rfl, Dc.set_wn HX.out.1 (n + 1), HX.out.2.1.other (p := ⟨g, 6, none⟩) hne' _, HX.out.2.2.setCell (by simp) _⟩

/-- A decoder at work: its window, what goes out, beside rows at the blocks K that it does not touch. -/
structure On (w : World) (g gf gw : Nat) (K : List Nat) (f : DF) (rp vo : Value) (all x : List UInt8) : Prop where
  dec : Dc w g f
  ring : Rg w gw all
  wb : f.wb = .slice (some ⟨gw, 0, none⟩) 32768 32768
  wn : f.wn = all.length
  flow : Has w gf 147 #[rp, vo]
  out : w.ownsRow 0 5 1 vo x.length (bvals x)
  gw_ : vo.ownBlock ≠ some gw
  apart : ∀ k ∈ K, vo.ownBlock ≠ some k ∧ k < w.heap.size
namespace On
variable {w : World} {g gf gw : Nat} {K : List Nat} {f : DF} {rp vo : Value} {all x : List UInt8}
theorem g_gf (h : On w g gf gw K f rp vo all x) : g ≠ gf := Has.ne h.dec h.flow (f.ne_ty (by decide) (by decide))
theorem g_gw (h : On w g gf gw K f rp vo all x) : g ≠ gw := by obtain ⟨ws, hw, _⟩ := h.ring; exact Has.ne h.dec hw (f.ne_ty (by decide) (by decide))
theorem gf_gw (h : On w g gf gw K f rp vo all x) : gf ≠ gw := by obtain ⟨ws, hw, _⟩ := h.ring; exact Has.ne h.flow hw (by decide)
theorem g_vo (h : On w g gf gw K f rp vo all x) : some g ≠ vo.ownBlock := own_ne h.out h.dec (f.ty_ne (by decide) (by decide))
theorem gf_vo (h : On w g gf gw K f rp vo all x) : some gf ≠ vo.ownBlock := own_ne h.out h.flow (by decide)
/-- Kept, where its own blocks are kept. -/
theorem only {w' : World} {S : List Nat} (h : On w g gf gw K f rp vo all x) (ho : Only S w w') (h1 : g ∉ S) (h2 : gf ∉ S) (h3 : gw ∉ S) (h4 : ∀ b, vo.ownBlock = some b → b ∉ S) : On w' g gf gw K f rp vo all x :=
  ⟨Has.only h.dec ho h1, h.ring.only ho h3, h.wb, h.wn, Has.only h.flow ho h2, own_keep h.out ho h4, h.gw_, fun k hk => ⟨(h.apart k hk).1, Nat.lt_of_lt_of_le (h.apart k hk).2 ho.size⟩⟩
end On

theorem mem_own {v : Value} {b : Nat} : b ∈ v.ownBlock.toList ↔ v.ownBlock = some b := by
  cases h : v.ownBlock with
  | none => simp
  | some k => simp [eq_comm]

set_option maxRecDepth 100000 in
set_option maxHeartbeats 2000000 in
theorem lay_any (g gf gw : Nat) (K : List Nat) (f : DF) (rp vo : Value) (all x : List UInt8) (c : UInt8) (w : World) (h : On w g gf gw K f rp vo all x) (hn : all.length ≤ 1073741824) (hx : x.length ≤ 1073741824) :
    Calls Tryz.prog 108 #[.pointer (some ⟨g, 0, none⟩), .pointer (some ⟨gf, 0, none⟩), .int .u8 (c.toNat : Int)] w fun e w' =>
      e = .returned (.tuple #[]) ∧ ∃ vo', On w' g gf gw K { f with wn := f.wn + 1 } rp vo' (all ++ [c]) (x ++ [c]) ∧ Since [g, gf, gw] w vo w' vo' := by
  obtain ⟨A, cc, rfl, hcc, _⟩ := own_shape h.out
  obtain ⟨ws, hW, hs, hr⟩ := h.ring
  have HP := hide (put_any g gw f.wn c.toNat ws w f h.dec h.wb rfl hW hs (by rw [h.wn]; exact hn))
  have HH := hide (And.intro h (And.intro hr hs))
  have HN := hide hx
  clear h hW hs hr hn hx
  go_enter Tryz.func108, Tryz.ntmps108
  go_wp2_with fail
  refine (HP.out).mono ?_
  rintro e w1 ⟨rfl, h1, hw1, ho1⟩
  have hgw : (Value.slice A x.length cc).ownBlock ≠ some gw := HH.out.1.gw_
  have hnog : ∀ b, (Value.slice A x.length cc).ownBlock = some b → b ∉ [g, gw] := fun b hb => by
    have h1 := HH.out.1.g_vo
    rintro (_ | ⟨_, _ | ⟨_, h⟩⟩)
    · exact h1 hb.symm
    · exact hgw hb
    · cases h
  have hown1 : w1.ownsRow 0 5 1 (.slice A x.length cc) x.length (bvals x) := own_keep HH.out.1.out ho1 hnog
  have hflow1 : Has w1 gf 147 #[rp, .slice A x.length cc] := Has.only HH.out.1.flow ho1 (by
    rintro (_ | ⟨_, _ | ⟨_, h⟩⟩)
    · exact HH.out.1.g_gf rfl
    · exact HH.out.1.gf_gw rfl
    · cases h)
  have k1 : w1.cell? ⟨gf, 1, none⟩ = some (.slice A x.length cc) := hflow1.cell 1
  have H1 := hide (And.intro h1 (And.intro hw1 (And.intro ho1 (And.intro hown1 (And.intro hflow1 (And.intro hgw hnog))))))
  clear h1 hw1 ho1 hown1 hflow1 hgw hnog
  go_wp2_with (at_builtin; refine list_push rfl (.tmp 15) (.tmp 17) rfl w1 (B := 0) (Nat.zero_le _) c rfl H1.out.2.2.2.1 (by have := HN.out; omega) _ rfl rfl rfl ?_; intro A2 c2 w2 hp2; have HP2 := hide hp2; clear hp2; have q1 := (HP2.out.has H1.out.2.2.2.2.1 (HH.out.1.gf_vo)).cell 1; have q2 := (HP2.out.has H1.out.2.2.2.2.1 (HH.out.1.gf_vo)).free 1)
  go_end0
  have o2 := HP2.out.only
  have hDf := HH.out.1
  have nb : ∀ k, k < w1.heap.size → (Value.slice A x.length cc).ownBlock ≠ some k → k ∉ (Value.slice A x.length cc).ownBlock.toList := fun k _ hk hm => hk (mem_own.1 hm)
  have hlt1 := H1.out.2.2.1.size
  have s01 : Since [g, gf, gw] w (.slice A x.length cc) w1 (.slice A x.length cc) := (Since.refl _ _ _).step (H1.out.2.2.1.weak (by simp))
  have s02 := HP2.out.since _ _ _ s01
  have s03 : Since [g, gf, gw] w (.slice A x.length cc) (w2.setCell ⟨gf, 1, none⟩ (.slice A2 (x.length + 1) c2)) (.slice A2 (x.length + 1) c2) := s02.step ((Only.refl _ _).setCell (by simp) _)
  have hnew : ∀ k, k < w.heap.size → (Value.slice A x.length cc).ownBlock ≠ some k → (Value.slice A2 (x.length + 1) c2).ownBlock ≠ some k := fun k hk hn he => by
    rcases s02.own k he with h | h
    · exact hn h
    · omega
  obtain ⟨ws0, hws0, _⟩ := hDf.ring
  have hout : w2.ownsRow 0 5 1 (.slice A2 (x.length + 1) c2) (x.length + 1) (bvals (x ++ [c])) := HP2.out.own
  have hgv2 : some gf ≠ (Value.slice A2 (x.length + 1) c2).ownBlock := own_ne hout ((HP2.out.has H1.out.2.2.2.2.1 hDf.gf_vo)) (by decide)
  refine ⟨rfl, _, ⟨?_, ?_, ?_, ?_, ?_, ?_, ?_, ?_⟩, s03⟩
  · exact (Has.only H1.out.1 o2 (nb g (Has.lt H1.out.1) (fun h => hDf.g_vo h.symm))).other (p := ⟨gf, 1, none⟩) hDf.g_gf _
  · refine ⟨_, (Has.only H1.out.2.1 o2 (nb gw (Has.lt H1.out.2.1) H1.out.2.2.2.2.2.1)).other (p := ⟨gf, 1, none⟩) (fun h => hDf.gf_gw h.symm) _, by rw [Array.size_setIfInBounds]; exact HH.out.2.2, ?_⟩
    rw [hDf.wn]
    exact ring_push c HH.out.2.2 HH.out.2.1
  · exact hDf.wb
  · show f.wn + 1 = (all ++ [c]).length
    rw [List.length_append, hDf.wn]; rfl
  · exact (HP2.out.has H1.out.2.2.2.2.1 hDf.gf_vo).set 1 _
  · rw [List.length_append]
    exact ownsRow_setCell_other hout (fun h => hgv2 h.symm) _
  · exact hnew gw (Has.lt hws0) hDf.gw_
  · intro k hk
    exact ⟨hnew k (hDf.apart k hk).2 (hDf.apart k hk).1, Nat.lt_of_lt_of_le (hDf.apart k hk).2 (by have := HP2.out.only.size; simp; omega)⟩
end Go.Proofs.YtlknhiihdejpeaaGreatDoor

