/-
  Lines as lists of cells: plain facts.
-/
import Derived.Test.YtilpegmjkbmldaaDoorMem
namespace Go.Proofs.YtilpegmjkbmldaaDoor
open Go Go.RowKit

/-- How a cell looks. -/
structure Lk where
  fg : Int
  bg : Int
  fl : Int
def Lk.eqB (a b : Lk) : Bool := (a.fg == b.fg) && ((a.bg == b.bg) && (a.fl == b.fl))
theorem Lk.eqB_iff {a b : Lk} : a.eqB b = true ↔ a = b := by
  cases a; cases b
  simp [Lk.eqB]
def Lk.cells (a : Lk) : Array Value := #[.int .i64 a.fg, .int .i64 a.bg, .int .i64 a.fl]
def Lk.val (a : Lk) : Value := .agg a.cells
def Lk.zero : Lk := ⟨0, 0, 0⟩
/-- A cell. -/
structure Ce where
  r : Int
  k : Int
  a : Lk
def Ce.eqB (c d : Ce) : Bool := (c.r == d.r) && ((c.k == d.k) && c.a.eqB d.a)
theorem Ce.eqB_iff {c d : Ce} : c.eqB d = true ↔ c = d := by
  cases c; cases d
  simp [Ce.eqB, Lk.eqB_iff]
instance : DecidableEq Ce := fun _ _ => decidable_of_iff _ Ce.eqB_iff
def Ce.cells (c : Ce) : List Value := [.int .i32 c.r, .int .i64 c.k, .int .i64 c.a.fg, .int .i64 c.a.bg, .int .i64 c.a.fl]
def Ce.val (c : Ce) : Value := .agg #[.int .i32 c.r, .int .i64 c.k, .int .i64 c.a.fg, .int .i64 c.a.bg, .int .i64 c.a.fl]
def cvals (L : List Ce) : List Value := L.flatMap Ce.cells
theorem cvals_cons (c : Ce) (L : List Ce) : cvals (c :: L) = c.cells ++ cvals L := rfl
theorem cvals_len (L : List Ce) : (cvals L).length = L.length * 5 := by
  induction L with
  | nil => rfl
  | cons c L ih => rw [cvals_cons, List.length_append, ih, List.length_cons]; simp [Ce.cells]; omega
theorem cvals_app (L M : List Ce) : cvals (L ++ M) = cvals L ++ cvals M := by simp [cvals]
theorem cvals_take (L : List Ce) (i : Nat) : (cvals L).take (i * 5) = cvals (L.take i) := by
  by_cases h : i ≤ L.length
  · have e : cvals L = cvals (L.take i) ++ cvals (L.drop i) := by rw [← cvals_app, List.take_append_drop]
    rw [e, List.take_append_of_le_length (by rw [cvals_len, List.length_take]; omega)]
    exact List.take_of_length_le (by rw [cvals_len, List.length_take]; omega)
  · rw [List.take_of_length_le (l := L) (by omega), List.take_of_length_le (by rw [cvals_len]; omega)]
theorem cvals_drop (L : List Ce) (i : Nat) : (cvals L).drop (i * 5) = cvals (L.drop i) := by
  by_cases h : i ≤ L.length
  · have e : cvals L = cvals (L.take i) ++ cvals (L.drop i) := by rw [← cvals_app, List.take_append_drop]
    have h2 : (cvals (L.take i)).length = i * 5 := by rw [cvals_len, List.length_take]; omega
    rw [e, ← h2, List.drop_left]
  · rw [List.drop_eq_nil_of_le (as := L) (by omega), List.drop_eq_nil_of_le (by rw [cvals_len]; omega)]; rfl
theorem cvals_at (L : List Ce) (i : Nat) (h : i < L.length) (j : Nat) (hj : j < 5) : (cvals L)[i * 5 + j]? = (L[i]).cells[j]? := by
  induction L generalizing i with
  | nil => simp at h
  | cons c L ih =>
    rw [cvals_cons]
    cases i with
    | zero => rw [List.getElem?_append_left (by simp [Ce.cells]; omega)]; simp
    | succ i =>
      rw [List.getElem?_append_right (by simp [Ce.cells]; omega)]
      have := ih i (by simpa using h)
      rw [show (i + 1) * 5 + j - c.cells.length = i * 5 + j by simp [Ce.cells]; omega]
      simpa using this
theorem cvals_one (L : List Ce) : ∀ u ∈ cvals L, u.oneCell' = true := by
  intro u hu
  simp only [cvals, List.mem_flatMap] at hu
  obtain ⟨c, _, hc⟩ := hu
  simp only [Ce.cells, List.mem_cons, List.not_mem_nil, or_false] at hc
  rcases hc with rfl | rfl | rfl | rfl | rfl <;> rfl
/-- Cell i stored anew. -/
theorem cvals_set (L : List Ce) (i : Nat) (h : i < L.length) (c : Ce) :
    (((((cvals L).set (i * 5) (.int .i32 c.r)).set (i * 5 + 1) (.int .i64 c.k)).set (i * 5 + 2) (.int .i64 c.a.fg)).set (i * 5 + 3) (.int .i64 c.a.bg)).set (i * 5 + 4) (.int .i64 c.a.fl) = cvals (L.set i c) := by
  induction L generalizing i with
  | nil => simp at h
  | cons d L ih =>
    cases i with
    | zero => rfl
    | succ i =>
      have := ih i (by simpa using h)
      rw [List.set_cons_succ, cvals_cons, cvals_cons]
      have e : ∀ (X : List Value) (j : Nat) (v : Value), (d.cells ++ X).set ((i + 1) * 5 + j) v = d.cells ++ X.set (i * 5 + j) v := fun X j v => by
        rw [List.set_append_right _ _ (by simp [Ce.cells]; omega)]
        rw [show (i + 1) * 5 + j - d.cells.length = i * 5 + j by simp [Ce.cells]; omega]
      have e0 : ∀ (X : List Value) (v : Value), (d.cells ++ X).set ((i + 1) * 5) v = d.cells ++ X.set (i * 5) v := fun X v => e X 0 v
      rw [e0, e, e, e, e]
      exact congrArg (d.cells ++ ·) this

def blankC (a : Lk) : Ce := ⟨0, 0, a⟩
def noCe : Ce := ⟨0, 0, Lk.zero⟩
/-- What c has to be between cells of these kinds. -/
def mendC (p : Int) (c : Ce) (q : Int) : Ce :=
  if c.k = 1 ∧ q = 2 then c else if c.k = 2 ∧ p = 1 then ⟨0, 2, c.a⟩ else if c.k = 1 ∨ c.k = 2 then blankC c.a else ⟨c.r, 0, c.a⟩
def kindN (L : List Ce) (i : Nat) : Int := (L.getD i noCe).k
def aheadN (L : List Ce) (i : Nat) : Int := if i = 0 then 0 else kindN L (i - 1)
def kindL (L : List Ce) (i : Int) : Int := if i < 0 then 0 else kindN L i.toNat
def mendAt (L : List Ce) (i : Nat) : Ce := mendC (aheadN L i) (L.getD i noCe) (kindN L (i + 1))
def mendL (L : List Ce) : List Ce := (List.range L.length).map (mendAt L)
def rightL (L : List Ce) : Bool := decide (mendL L = L)
@[simp] theorem mendL_len (L : List Ce) : (mendL L).length = L.length := by simp [mendL]
theorem mendL_get (L : List Ce) (i : Nat) (h : i < L.length) : (mendL L)[i]? = some (mendAt L i) := by simp [mendL, h]
theorem mendL_getD (L : List Ce) (i : Nat) (h : i < L.length) : (mendL L).getD i noCe = mendAt L i := by rw [List.getD_eq_getElem?_getD, mendL_get L i h]; rfl
theorem kindN_out {L : List Ce} {i : Nat} (h : L.length ≤ i) : kindN L i = 0 := by
  unfold kindN
  rw [List.getD_eq_getElem?_getD, List.getElem?_eq_none h]; rfl
theorem kindL_out {L : List Ce} {i : Int} (h : i < 0 ∨ (L.length : Int) ≤ i) : kindL L i = 0 := by
  unfold kindL
  split
  · rfl
  · exact kindN_out (by omega)
theorem kindL_nat (L : List Ce) (i : Nat) : kindL L (i : Int) = kindN L i := by
  unfold kindL
  rw [if_neg (by omega)]; rfl
theorem kindL_ahead (L : List Ce) (i : Nat) : kindL L ((i : Int) - 1) = aheadN L i := by
  unfold kindL aheadN
  by_cases h : i = 0
  · subst h; rfl
  · rw [if_neg (by omega), if_neg h, show ((i : Int) - 1).toNat = i - 1 by omega]
theorem mendC_k (p : Int) (c : Ce) (q : Int) : (mendC p c q).k = if c.k = 1 ∧ q = 2 then 1 else if c.k = 2 ∧ p = 1 then 2 else 0 := by
  unfold mendC
  split
  · rename_i h; exact h.1
  · split
    · rfl
    · split <;> rfl
theorem kindN_mend (L : List Ce) (i : Nat) : kindN (mendL L) i = if kindN L i = 1 ∧ kindN L (i + 1) = 2 then 1 else if kindN L i = 2 ∧ aheadN L i = 1 then 2 else 0 := by
  by_cases h : i < L.length
  · unfold kindN
    rw [mendL_getD L i h]
    unfold mendAt
    rw [mendC_k]; rfl
  · rw [kindN_out (by rw [mendL_len]; omega), kindN_out (L := L) (by omega)]; rfl
theorem mendL_mend (L : List Ce) : mendL (mendL L) = mendL L := by
  refine List.ext_getElem? fun i => ?_
  by_cases h : i < L.length
  · rw [mendL_get _ i (by rw [mendL_len]; exact h), mendL_get L i h]
    congr 1
    have h1 : aheadN (mendL L) i = if i = 0 then 0 else kindN (mendL L) (i - 1) := rfl
    unfold mendAt
    rw [mendL_getD L i h, h1, kindN_mend L (i + 1)]
    have h2 : i ≠ 0 → kindN (mendL L) (i - 1) = if kindN L (i - 1) = 1 ∧ kindN L i = 2 then 1 else if kindN L (i - 1) = 2 ∧ aheadN L (i - 1) = 1 then 2 else 0 := fun h0 => by
      rw [kindN_mend, show i - 1 + 1 = i by omega]
    have h3 : aheadN L (i + 1) = kindN L i := rfl
    rw [h3]
    have h4 : aheadN L i = if i = 0 then 0 else kindN L (i - 1) := rfl
    have h5 : kindN L i = (L.getD i noCe).k := rfl
    unfold mendAt
    obtain ⟨c, hc⟩ : ∃ c, c = L.getD i noCe := ⟨_, rfl⟩
    rw [← hc] at h5 ⊢
    rw [h5] at h2 ⊢
    by_cases i0 : i = 0
    · rw [if_pos i0] at h4
      rw [h4, if_pos i0]
      generalize kindN L (i + 1) = q
      unfold mendC blankC
      by_cases a1 : c.k = 1 <;> by_cases a2 : c.k = 2 <;> by_cases a3 : q = 2 <;> simp [a1, a2, a3] <;> (try omega)
    · rw [if_neg i0] at h4
      rw [if_neg i0, h2 i0, h4]
      generalize kindN L (i + 1) = q
      generalize kindN L (i - 1) = p
      unfold mendC blankC
      by_cases a1 : c.k = 1 <;> by_cases a2 : c.k = 2 <;> by_cases a3 : q = 2 <;> by_cases a4 : p = 1 <;> simp [a1, a2, a3, a4] <;> (try omega)
  · rw [List.getElem?_eq_none (by simp; omega), List.getElem?_eq_none (by simp; omega)]
theorem rightL_mend (L : List Ce) : rightL (mendL L) = true := by simp [rightL, mendL_mend]
/-- Of narrow cells alone nothing is mended. -/
theorem mendL_narrow (L : List Ce) (h : ∀ c ∈ L, c.k = 0) : mendL L = L := by
  refine List.ext_getElem? fun i => ?_
  by_cases hi : i < L.length
  · rw [mendL_get L i hi, List.getElem?_eq_getElem hi]
    congr 1
    have hk := h _ (List.getElem_mem hi)
    unfold mendAt
    rw [List.getD_eq_getElem?_getD, List.getElem?_eq_getElem hi]
    simp only [Option.getD_some]
    unfold mendC
    rw [hk, if_neg (by omega), if_neg (by omega), if_neg (by omega), ← hk]
  · rw [List.getElem?_eq_none (by simp; omega), List.getElem?_eq_none (by omega)]
theorem rightL_narrow (L : List Ce) (h : ∀ c ∈ L, c.k = 0) : rightL L = true := by simp [rightL, mendL_narrow L h]
theorem narrow_rep (n : Nat) (a : Lk) : ∀ c ∈ List.replicate n (blankC a), c.k = 0 := by
  intro c hc
  rw [(List.mem_replicate.1 hc).2]; rfl
/-- A new line. -/
def newL (cols : Int) (a : Lk) : List Ce := if 0 ≤ cols ∧ cols ≤ 1000 then List.replicate cols.toNat (blankC a) else []
theorem newL_narrow (cols : Int) (a : Lk) : ∀ c ∈ newL cols a, c.k = 0 := by
  unfold newL
  split
  · exact narrow_rep _ _
  · simp
/-- Cells p up to ahead of p + m are blanks. -/
def fillL (L : List Ce) (p m : Nat) (a : Lk) : List Ce := L.take p ++ List.replicate m (blankC a) ++ L.drop (p + m)
theorem fillL_len (L : List Ce) (p m : Nat) (a : Lk) (h : p + m ≤ L.length) : (fillL L p m a).length = L.length := by
  unfold fillL
  simp only [List.length_append, List.length_take, List.length_replicate, List.length_drop]; omega
theorem fillL_zero (L : List Ce) (p : Nat) (a : Lk) : fillL L p 0 a = L := by simp [fillL]
theorem fillL_succ (L : List Ce) (p m : Nat) (a : Lk) (h : p + m < L.length) : (fillL L p m a).set (p + m) (blankC a) = fillL L p (m + 1) a := by
  unfold fillL
  have hl : (L.take p ++ List.replicate m (blankC a)).length = p + m := by simp; omega
  rw [List.set_append_right _ _ (by omega), hl, Nat.sub_self, List.drop_eq_getElem_cons h, List.set_cons_zero, List.replicate_succ']
  simp [Nat.add_assoc]
/-- While it is mended: the first i cells are. -/
def partM (L : List Ce) (i : Nat) : List Ce := (mendL L).take i ++ L.drop i
theorem partM_len (L : List Ce) (i : Nat) (h : i ≤ L.length) : (partM L i).length = L.length := by
  unfold partM; simp; omega
theorem partM_zero (L : List Ce) : partM L 0 = L := by simp [partM]
theorem partM_all (L : List Ce) : partM L L.length = mendL L := by
  unfold partM
  rw [List.take_of_length_le (by simp), List.drop_length, List.append_nil]
theorem partM_set (L : List Ce) (i : Nat) (h : i < L.length) : (partM L i).set i (mendAt L i) = partM L (i + 1) := by
  unfold partM
  have hl : ((mendL L).take i).length = i := by simp; omega
  rw [List.set_append_right _ _ (by omega), hl, Nat.sub_self, List.drop_eq_getElem_cons h, List.set_cons_zero]
  rw [List.take_add_one, mendL_get L i h]
  simp
theorem partM_get (L : List Ce) (i j : Nat) (h : i ≤ j) : (partM L i)[j]? = L[j]? := by
  unfold partM
  by_cases hi : i ≤ L.length
  · rw [List.getElem?_append_right (by simp; omega)]
    simp only [List.length_take, mendL_len, List.getElem?_drop]
    congr 1; omega
  · rw [List.getElem?_eq_none (by simp; omega), List.getElem?_eq_none (by omega)]
end Go.Proofs.YtilpegmjkbmldaaDoor
