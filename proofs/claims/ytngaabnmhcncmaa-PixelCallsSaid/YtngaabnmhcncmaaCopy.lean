/-
  copy into a row.
-/
import Derived.Test.YtngaabnmhcncmaaMem
import Derived.Laws.CopyRow
import Derived.Laws.IdiomCopy
namespace Go.Proofs.Ytngaabnmhcncmaa
open Go Go.RowKit

/-- copy where the operation stands: into a row known whole. -/
theorem op_copy {P : Program} (w : World) {o : Oper} {a : Act} {K : Act → World → Prop} {Q : Exit → Act → World → Prop} (d s : Operand) (t : TypeId) (hop : o.op = .call { callee := .builtin .copy, args := #[d, s], argTypes := #[t, t] })
    (elem : TypeId) (g p dLen dCap : Nat) (ad : Addr) (sLen sCap : Nat) (cur : Array Value) (ty : TypeId) (cs : List Value) (hu : P.underlying t = some (.slice elem)) (hs : (P.info? elem).map (·.size) = some 1)
    (hg : Has w g ty cur) (hn : cs.length = Nat.min sLen dLen) (hsrc : ∀ j v, cs[j]? = some v → w.cell? (ad.add j) = some v) (hfit : p + cs.length ≤ cur.size) (h1 : ∀ v ∈ cs, v.oneCell' = true)
    (hd : a.eval d = .slice (some ⟨g, p, none⟩) dLen dCap) (hse : a.eval s = .slice (some ad) sLen sCap)
    (h : ∀ w', Has w' g ty (cur.toList.take p ++ cs ++ cur.toList.drop (p + cs.length)).toArray → Only [g] w w' → K (a.put o.dst (.int .i64 (cs.length : Int))) w') : o.wp P a w K Q := by
  have hrun := run_copy_row (P := P) w t t o.type elem g p dLen dCap ad sLen sCap cur ty cs hu hs hg hn hsrc hfit h1
  unfold Oper.wp execOp
  simp only [hop, resolve, invoke, builtin, Sem.run_bind, Sem.run_pure, Result.andThen_ok, List.map_toArray, List.map_cons, List.map_nil, hd, hse, hrun]
  exact h _ (hg.setRow _) ((Only.refl _ w).setRow (by simp) _)
theorem list_copy {P : Program} (w : World) {ops : Array Oper} {rest : List Oper} {o : Oper} {a : Act} {Q : Exit → Act → World → Prop} (hgd : o.guard = none) (d s : Operand) (t : TypeId) (hop : o.op = .call { callee := .builtin .copy, args := #[d, s], argTypes := #[t, t] })
    (elem : TypeId) (g p dLen dCap : Nat) (ad : Addr) (sLen sCap : Nat) (cur : Array Value) (ty : TypeId) (cs : List Value) (hu : P.underlying t = some (.slice elem)) (hs : (P.info? elem).map (·.size) = some 1)
    (hg : Has w g ty cur) (hn : cs.length = Nat.min sLen dLen) (hsrc : ∀ j v, cs[j]? = some v → w.cell? (ad.add j) = some v) (hfit : p + cs.length ≤ cur.size) (h1 : ∀ v ∈ cs, v.oneCell' = true)
    (hd : a.eval d = .slice (some ⟨g, p, none⟩) dLen dCap) (hse : a.eval s = .slice (some ad) sLen sCap)
    (h : ∀ w', Has w' g ty (cur.toList.take p ++ cs ++ cur.toList.drop (p + cs.length)).toArray → Only [g] w w' → wpList P ops Q rest (a.put o.dst (.int .i64 (cs.length : Int))) w') : wpList P ops Q (o :: rest) a w :=
  wpList_plain hgd fun _ hK => op_copy w d s t hop elem g p dLen dCap ad sLen sCap cur ty cs hu hs hg hn hsrc hfit h1 hd hse fun w' q1 q2 => hK _ _ (h w' q1 q2)
theorem step_copy {P : Program} (w : World) {ops : Array Oper} {o : Oper} {a : Act} {K : Act → World → Prop} {Q : Exit → Act → World → Prop} {E : Prop} (hgd : o.guard = none) (d s : Operand) (t : TypeId) (hop : o.op = .call { callee := .builtin .copy, args := #[d, s], argTypes := #[t, t] })
    (elem : TypeId) (g p dLen dCap : Nat) (ad : Addr) (sLen sCap : Nat) (cur : Array Value) (ty : TypeId) (cs : List Value) (hu : P.underlying t = some (.slice elem)) (hs : (P.info? elem).map (·.size) = some 1)
    (hg : Has w g ty cur) (hn : cs.length = Nat.min sLen dLen) (hsrc : ∀ j v, cs[j]? = some v → w.cell? (ad.add j) = some v) (hfit : p + cs.length ≤ cur.size) (h1 : ∀ v ∈ cs, v.oneCell' = true)
    (hd : a.eval d = .slice (some ⟨g, p, none⟩) dLen dCap) (hse : a.eval s = .slice (some ad) sLen sCap)
    (h : ∀ w', Has w' g ty (cur.toList.take p ++ cs ++ cur.toList.drop (p + cs.length)).toArray → Only [g] w w' → K (a.put o.dst (.int .i64 (cs.length : Int))) w') :
    if Region.wanted o (yielded ops a.tmps) = true then Oper.wp P o a w K Q else E := by
  rw [if_pos (by simp [Region.wanted, hgd])]
  exact op_copy w d s t hop elem g p dLen dCap ad sLen sCap cur ty cs hu hs hg hn hsrc hfit h1 hd hse h

/-- An owned row that is known whole, and a part of it copied over. -/
theorem own_copy {w : World} {B e n c g p : Nat} {xs cs : List Value} (h : w.ownsRow B e 1 (.slice (some ⟨g, 0, none⟩) n c) n xs) (hp : p + cs.length ≤ n) :
    ∃ cur, Has w g e cur ∧ p + cs.length ≤ cur.size ∧ ∀ w', Has w' g e (cur.toList.take p ++ cs ++ cur.toList.drop (p + cs.length)).toArray → w'.ownsRow B e 1 (.slice (some ⟨g, 0, none⟩) n c) n (xs.take p ++ cs ++ xs.drop (p + cs.length)) := by
  have hlen := h.1
  rcases h.2 with ⟨hv, _⟩ | ⟨gb, cap, cur, hv, hb, hg, h1, h2, h3, h4⟩
  · cases hv
  · injection hv with hA _ hc
    injection hA with hA
    injection hA with hA
    subst hA
    have hsz : cur.toList.length = cap := by simpa using h3
    have hx : xs = cur.toList.take n := by rw [← h4]; simp
    refine ⟨cur, hg, by have : cur.size = cap := by simpa using h3
                        omega, fun w' hw' => ⟨?_, .inr ⟨g, cap, _, by rw [hc], hb, hw', h1, h2, ?_, ?_⟩⟩⟩
    · rw [hx]; simp only [List.length_append, List.length_take, List.length_drop, hsz]; omega
    · simp only [List.size_toArray, List.length_append, List.length_take, List.length_drop, hsz]; omega
    · rw [hx]
      show ((cur.toList.take p ++ cs ++ cur.toList.drop (p + cs.length)).toArray.toList).take (n * 1) = _
      rw [Nat.mul_one, List.take_append, List.take_of_length_le (by simp only [List.length_append, List.length_take]; omega), List.take_take, Nat.min_eq_left (by omega)]
      congr 1
      rw [List.drop_take]
      congr 1
      simp only [List.length_append, List.length_take, hsz]
      omega
end Go.Proofs.Ytngaabnmhcncmaa
