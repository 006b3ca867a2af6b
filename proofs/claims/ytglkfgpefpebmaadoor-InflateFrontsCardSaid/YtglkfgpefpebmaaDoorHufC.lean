/-
  Package huff: a table's cells; where the codes of each length begin.
-/
import Derived.Test.YtglkfgpefpebmaaDoorHufB
namespace Go.Proofs.YtglkfgpefpebmaaDoor
open Go Go.RowKit

/-- What a table's cells hold. -/
structure TF where
  len : Nat → Nat
  code : Nat → Nat
  sym : Nat → Nat
  cnt : Nat → Nat
  fst : Nat → Nat
  bef : Nat → Nat
  lng : Nat

def TF.at (f : TF) (i : Nat) : Value :=
  if i < 320 then .int .u8 (f.len i : Int) else if i < 640 then .int .u16 (f.code (i - 320) : Int) else if i < 960 then .int .i16 (f.sym (i - 640) : Int)
  else if i < 976 then .int .i64 (f.cnt (i - 960) : Int) else if i < 992 then .int .i64 (f.fst (i - 976) : Int) else if i < 1008 then .int .i64 (f.bef (i - 992) : Int) else .int .i64 (f.lng : Int)
def TF.cells (f : TF) : Array Value := ((List.range 1009).map f.at).toArray
def upd (f : Nat → Nat) (n x : Nat) : Nat → Nat := fun i => if i = n then x else f i

namespace TF
variable (f : TF)
theorem cells_size : f.cells.size = 1009 := by simp [cells]
theorem cells_get {i : Nat} (hi : i < 1009) : f.cells[i]? = some (f.at i) := by simp [cells, hi]
theorem at_len {i : Nat} (h : i < 320) : f.at i = .int .u8 (f.len i : Int) := by unfold TF.at; rw [if_pos h]
theorem at_code {i : Nat} (h : i < 320) : f.at (320 + i) = .int .u16 (f.code i : Int) := by
  unfold TF.at; rw [if_neg (by omega), if_pos (by omega), Nat.add_sub_cancel_left]
theorem at_sym {i : Nat} (h : i < 320) : f.at (640 + i) = .int .i16 (f.sym i : Int) := by
  unfold TF.at; rw [if_neg (by omega), if_neg (by omega), if_pos (by omega), Nat.add_sub_cancel_left]
theorem at_cnt {i : Nat} (h : i < 16) : f.at (960 + i) = .int .i64 (f.cnt i : Int) := by
  unfold TF.at; rw [if_neg (by omega), if_neg (by omega), if_neg (by omega), if_pos (by omega), Nat.add_sub_cancel_left]
theorem at_fst {i : Nat} (h : i < 16) : f.at (976 + i) = .int .i64 (f.fst i : Int) := by
  unfold TF.at; rw [if_neg (by omega), if_neg (by omega), if_neg (by omega), if_neg (by omega), if_pos (by omega), Nat.add_sub_cancel_left]
theorem at_bef {i : Nat} (h : i < 16) : f.at (992 + i) = .int .i64 (f.bef i : Int) := by
  unfold TF.at; rw [if_neg (by omega), if_neg (by omega), if_neg (by omega), if_neg (by omega), if_neg (by omega), if_pos (by omega), Nat.add_sub_cancel_left]
theorem at_end {i : Nat} (h : 1008 ≤ i) : f.at i = .int .i64 (f.lng : Int) := by
  unfold TF.at; rw [if_neg (by omega), if_neg (by omega), if_neg (by omega), if_neg (by omega), if_neg (by omega), if_neg (by omega)]
theorem at_lng : f.at 1008 = .int .i64 (f.lng : Int) := at_end f (Nat.le_refl _)
theorem rng (i : Nat) : i < 320 ∨ (∃ k, k < 320 ∧ i = 320 + k) ∨ (∃ k, k < 320 ∧ i = 640 + k) ∨ (∃ k, k < 16 ∧ i = 960 + k) ∨ (∃ k, k < 16 ∧ i = 976 + k) ∨ (∃ k, k < 16 ∧ i = 992 + k) ∨ 1008 ≤ i := by
  rcases (show i < 320 ∨ (320 ≤ i ∧ i < 640) ∨ (640 ≤ i ∧ i < 960) ∨ (960 ≤ i ∧ i < 976) ∨ (976 ≤ i ∧ i < 992) ∨ (992 ≤ i ∧ i < 1008) ∨ 1008 ≤ i by omega) with h | h | h | h | h | h | h
  · exact .inl h
  · exact .inr (.inl ⟨i - 320, by omega, by omega⟩)
  · exact .inr (.inr (.inl ⟨i - 640, by omega, by omega⟩))
  · exact .inr (.inr (.inr (.inl ⟨i - 960, by omega, by omega⟩)))
  · exact .inr (.inr (.inr (.inr (.inl ⟨i - 976, by omega, by omega⟩))))
  · exact .inr (.inr (.inr (.inr (.inr (.inl ⟨i - 992, by omega, by omega⟩)))))
  · exact .inr (.inr (.inr (.inr (.inr (.inr h)))))
theorem at_other {f f' : TF} (i : Nat) (h1 : i < 320 → f'.len i = f.len i) (h2 : ∀ k, k < 320 → i = 320 + k → f'.code k = f.code k) (h3 : ∀ k, k < 320 → i = 640 + k → f'.sym k = f.sym k)
    (h4 : ∀ k, k < 16 → i = 960 + k → f'.cnt k = f.cnt k) (h5 : ∀ k, k < 16 → i = 976 + k → f'.fst k = f.fst k) (h6 : ∀ k, k < 16 → i = 992 + k → f'.bef k = f.bef k) (h7 : 1008 ≤ i → f'.lng = f.lng) : f'.at i = f.at i := by
  rcases rng i with h | ⟨k, hk, rfl⟩ | ⟨k, hk, rfl⟩ | ⟨k, hk, rfl⟩ | ⟨k, hk, rfl⟩ | ⟨k, hk, rfl⟩ | h
  · rw [at_len _ h, at_len _ h, h1 h]
  · rw [at_code _ hk, at_code _ hk, h2 k hk rfl]
  · rw [at_sym _ hk, at_sym _ hk, h3 k hk rfl]
  · rw [at_cnt _ hk, at_cnt _ hk, h4 k hk rfl]
  · rw [at_fst _ hk, at_fst _ hk, h5 k hk rfl]
  · rw [at_bef _ hk, at_bef _ hk, h6 k hk rfl]
  · rw [at_end _ h, at_end _ h, h7 h]
theorem ext {f f' : TF} (h1 : ∀ i, i < 320 → f'.len i = f.len i) (h2 : ∀ k, k < 320 → f'.code k = f.code k) (h3 : ∀ k, k < 320 → f'.sym k = f.sym k)
    (h4 : ∀ k, k < 16 → f'.cnt k = f.cnt k) (h5 : ∀ k, k < 16 → f'.fst k = f.fst k) (h6 : ∀ k, k < 16 → f'.bef k = f.bef k) (h7 : f'.lng = f.lng) : f'.cells = f.cells := by
  unfold cells
  congr 2
  funext i
  exact at_other i (h1 i) (fun k hk _ => h2 k hk) (fun k hk _ => h3 k hk) (fun k hk _ => h4 k hk) (fun k hk _ => h5 k hk) (fun k hk _ => h6 k hk) (fun _ => h7)
theorem cells_set {f f' : TF} {p : Nat} {v : Value} (hp : p < 1009) (h1 : f'.at p = v) (h2 : ∀ i, i < 1009 → i ≠ p → f'.at i = f.at i) : f.cells.setIfInBounds p v = f'.cells := by
  apply Array.ext_getElem?
  intro i
  rw [Array.getElem?_setIfInBounds, cells_size]
  by_cases hi : i < 1009
  · rw [cells_get f hi, cells_get f' hi]
    by_cases h : p = i
    · subst h; rw [if_pos rfl, if_pos hp, h1]
    · rw [if_neg h, h2 i hi (fun e => h e.symm)]
  · rw [Array.getElem?_eq_none (by rw [cells_size]; omega), Array.getElem?_eq_none (by rw [cells_size]; omega)]
    rw [if_neg (by omega)]
theorem upd_ne (g : Nat → Nat) {n x i : Nat} (h : i ≠ n) : upd g n x i = g i := if_neg h
theorem upd_eq (g : Nat → Nat) (n x : Nat) : upd g n x n = x := if_pos rfl
theorem set_len {n : Nat} (hn : n < 320) (x : Nat) : f.cells.setIfInBounds n (.int .u8 (x : Int)) = { f with len := upd f.len n x }.cells :=
  cells_set (by omega) (by rw [at_len _ hn]; exact congrArg (fun y : Nat => Value.int .u8 (y : Int)) (upd_eq _ _ _)) (fun i _ hne => at_other i (fun _ => upd_ne _ hne) (fun _ _ _ => rfl) (fun _ _ _ => rfl) (fun _ _ _ => rfl) (fun _ _ _ => rfl) (fun _ _ _ => rfl) (fun _ => rfl))
theorem set_code {n : Nat} (hn : n < 320) (x : Nat) : f.cells.setIfInBounds (320 + n) (.int .u16 (x : Int)) = { f with code := upd f.code n x }.cells :=
  cells_set (by omega) (by rw [at_code _ hn]; exact congrArg (fun y : Nat => Value.int .u16 (y : Int)) (upd_eq _ _ _)) (fun i _ hne => at_other i (fun _ => rfl) (fun k _ hk => upd_ne _ (by omega)) (fun _ _ _ => rfl) (fun _ _ _ => rfl) (fun _ _ _ => rfl) (fun _ _ _ => rfl) (fun _ => rfl))
theorem set_sym {n : Nat} (hn : n < 320) (x : Nat) : f.cells.setIfInBounds (640 + n) (.int .i16 (x : Int)) = { f with sym := upd f.sym n x }.cells :=
  cells_set (by omega) (by rw [at_sym _ hn]; exact congrArg (fun y : Nat => Value.int .i16 (y : Int)) (upd_eq _ _ _)) (fun i _ hne => at_other i (fun _ => rfl) (fun _ _ _ => rfl) (fun k _ hk => upd_ne _ (by omega)) (fun _ _ _ => rfl) (fun _ _ _ => rfl) (fun _ _ _ => rfl) (fun _ => rfl))
theorem set_fst {n : Nat} (hn : n < 16) (x : Nat) : f.cells.setIfInBounds (976 + n) (.int .i64 (x : Int)) = { f with fst := upd f.fst n x }.cells :=
  cells_set (by omega) (by rw [at_fst _ hn]; exact congrArg (fun y : Nat => Value.int .i64 (y : Int)) (upd_eq _ _ _)) (fun i _ hne => at_other i (fun _ => rfl) (fun _ _ _ => rfl) (fun _ _ _ => rfl) (fun _ _ _ => rfl) (fun k _ hk => upd_ne _ (by omega)) (fun _ _ _ => rfl) (fun _ => rfl))
theorem set_bef {n : Nat} (hn : n < 16) (x : Nat) : f.cells.setIfInBounds (992 + n) (.int .i64 (x : Int)) = { f with bef := upd f.bef n x }.cells :=
  cells_set (by omega) (by rw [at_bef _ hn]; exact congrArg (fun y : Nat => Value.int .i64 (y : Int)) (upd_eq _ _ _)) (fun i _ hne => at_other i (fun _ => rfl) (fun _ _ _ => rfl) (fun _ _ _ => rfl) (fun _ _ _ => rfl) (fun _ _ _ => rfl) (fun k _ hk => upd_ne _ (by omega)) (fun _ => rfl))
theorem set_lng (x : Nat) : f.cells.setIfInBounds 1008 (.int .i64 (x : Int)) = { f with lng := x }.cells :=
  cells_set (by omega) (at_lng _) (fun i hi hne => at_other i (fun _ => rfl) (fun _ _ _ => rfl) (fun _ _ _ => rfl) (fun _ _ _ => rfl) (fun _ _ _ => rfl) (fun _ _ _ => rfl) (fun _ => by omega))
end TF

/-- A table of which nothing is known but how many codes there are. -/
def TF.new (c : Nat → Nat) : TF := ⟨fun _ => 0, fun _ => 0, fun _ => 0, c, fun _ => 0, fun _ => 0, 0⟩
set_option maxRecDepth 100000 in
theorem built_table (c : Nat → Nat) : Tryd.prog.built 101 [(3, .agg (tcells c))] = some (TF.new c).cells := by kernel_rfl
end Go.Proofs.YtglkfgpefpebmaaDoor
