/-
  Arrays of integers compared.
-/
import Derived.Test.YtjfmebjjdiodbaaDoorMem
import Derived.ChangeKeysEq
import Derived.BigFrame
namespace Go.Proofs.YtjfmebjjdiodbaaDoor
open Go Go.RowKit

def allEq (a b : Nat → Int) (L : List Nat) : Bool := L.all fun i => a i == b i

theorem run_equalIn_ints {P : Program} (w : World) (d : Nat) (t e : TypeId) (len : Nat) (k k' : IntKind) (xs ys : Array Value) (a b : Nat → Int) (ht : P.underlying t = some (.array len e)) (he : P.underlying e = some (.int k')) (hp : P.plainKey e = true)
    (hi : (P.info? e).map (·.size) = some 1)
    (hx : ∀ i, i < len → xs[i]? = some (.int k (a i))) (hy : ∀ i, i < len → ys[i]? = some (.int k (b i))) :
    (Op.equalIn (d + 2) t (.agg xs) (.agg ys)).run P w = .ok (allEq a b (List.range' 0 len)) w := by
  obtain ⟨ie, hie, hsz⟩ : ∃ ie, P.info? e = some ie ∧ ie.size = 1 := by
    cases h : P.info? e with
    | none => rw [h] at hi; simp at hi
    | some ie => rw [h] at hi; simp at hi; exact ⟨ie, rfl, hi⟩
  have hso : ∀ w, (sizeOf e).run P w = .ok 1 w := fun w => by simp [sizeOf, typeInfo, hie, hsz]
  rw [Op.equalIn]
  simp only [Sem.run_bind, run_underlying ht, Result.andThen_ok, hso]
  rw [Std.Legacy.Range.forIn_eq_forIn_range']
  have hL : ∀ i ∈ List.range' 0 len, i < len := by intro i hi; simp at hi; omega
  simp only [Std.Legacy.Range.size, Nat.sub_zero, Nat.add_sub_cancel, Nat.div_one]
  generalize List.range' 0 len = L at *
  clear ht
  induction L generalizing w with
  | nil => simp [allEq]
  | cons i L ih =>
    have h1 := hx i (hL i (by simp))
    have h2 := hy i (hL i (by simp))
    have p1 : (part e xs (i * 1)).run P w = .ok (.int k (a i)) w := run_part_plain w hp (by rw [Nat.mul_one]; exact h1)
    have p2 : (part e ys (i * 1)).run P w = .ok (.int k (b i)) w := run_part_plain w hp (by rw [Nat.mul_one]; exact h2)
    have p3 : (Op.equalIn (d + 1) e (.int k (a i)) (.int k (b i))).run P w = .ok (a i == b i) w := run_equalIn_int w d e k k' _ _ he
    simp only [List.forIn_cons, Sem.run_bind, p1, p2, p3, Result.andThen_ok, Sem.run_ite]
    by_cases h : (a i == b i) = true
    · rw [h]
      simp only [Bool.not_true, Bool.false_eq_true, if_false, Sem.run_pure, Result.andThen_ok]
      rw [ih w (fun j hj => hL j (by simp [hj]))]
      simp [allEq, h]
    · have h' : (a i == b i) = false := by simpa using h
      rw [h']
      simp [allEq, h']
end Go.Proofs.YtjfmebjjdiodbaaDoor
