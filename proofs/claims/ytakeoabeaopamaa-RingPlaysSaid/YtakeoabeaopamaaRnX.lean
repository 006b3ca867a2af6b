/-
  Package ring: what All tells: a function that calls yield with all numbers and things, in order.
-/
import Derived.Test.YtakeoabeaopamaaRnV
namespace Go.Proofs.Ytakeoabeaopamaa
open Go Go.RowKit Go.Shelf
attribute [local go_sem] Oper.semAt_some

/-- What it reads. -/
structure AlS (p : Nat → Prop) (gt gg n c k : Nat) (A : Option Addr) (l : List Value) (wr : World) : Prop where
  there : Has wr gt 37 #[.slice A n c]
  gone : Has wr gg 2 #[.int .i64 k]
  row : 0 < n → ∃ b cur, A = some ⟨b, 0, none⟩ ∧ p b ∧ Has wr b 3 cur ∧ ∀ (j : Nat) (u : Value), l[j]? = some u → cur[j]? = some u
theorem AlS.keep {p : Nat → Prop} {gt gg n c k : Nat} {A : Option Addr} {l : List Value} {wr w' : World} (S : AlS p gt gg n c k A l wr) (h1 : p gt) (h2 : p gg) (h : KeepP p wr w') : AlS p gt gg n c k A l w' :=
  ⟨h _ _ _ h1 S.there, h _ _ _ h2 S.gone, fun hn => by obtain ⟨b, cur, h1, h2, h3, h4⟩ := S.row hn; exact ⟨b, cur, h1, h2, h _ _ _ h2 h3, h4⟩⟩

set_option maxRecDepth 100000 in
set_option maxHeartbeats 8000000 in
theorem all1_ps {w : World} {B gt gg n c k : Nat} {A : Option Addr} {l : List Value} (p : Nat → Prop) (h1 : Has w gt 37 #[.slice A n c]) (h2 : Has w gg 2 #[.int .i64 k]) (h3 : w.ownsRow B 3 1 (.slice A n c) n l) (hn6 : n ≤ 65536) (hk : k ≤ 1000000)
    (p1 : p gt) (p2 : p gg) (p3 : ∀ b, (Value.slice A n c).ownBlock = some b → p b) :
    SeqPs Try.prog 30 #[] #[.pointer (some ⟨gt, 0, none⟩), .pointer (some ⟨gg, 0, none⟩)] (List.range n) (fun i => #[.int .i64 (k + i : Nat), l.getD i undef]) (KeepP p) w := fun la J Jx W1 hW hJ hJx hY h0 => by
  have hl : l.length = n := by have := h3.1; omega
  have S0 : AlS p gt gg n c k A l W1 := by
    refine ⟨(hW.block gt h1.lt).trans h1, (hW.block gg h2.lt).trans h2, fun hn => ?_⟩
    obtain ⟨b, cur, rfl, _, hb, hc⟩ := own_has h3 hn
    exact ⟨b, cur, rfl, p3 b rfl, (hW.block b hb.lt).trans hb, hc⟩
  have q1 : W1.cell? ⟨gt, 0, none⟩ = some (.slice A n c) := S0.there.cell 0
  have HH := hide (And.intro S0 h0)
  have HJ := hide (And.intro hJ (And.intro hJx hY))
  have HL := hide hl
  clear hJ hJx hY h0 h1 h2 h3 hW S0 hl p3
  refine callsIn_of_wp Try.func30 rfl trivial ?_ rfl
  simp only [Try.ntmps30, List.size_toArray, List.length_cons, List.length_nil, Nat.reduceAdd, Nat.reduceSub, Array.replicate_succ, Array.replicate_zero, List.push_toArray, List.append_toArray, List.nil_append, List.cons_append]
  gi_wp2
  gi_loopw [8] (fun i wr => ∃ j : Nat, j ≤ n ∧ i = .int .i64 (j : Int) ∧ J (List.range j) wr ∧ AlS p gt gg n c k A l wr) (fun i _ => n - (intOf i).toNat)
  case atStart => exact ⟨0, Nat.zero_le _, rfl, HH.out.2, HH.out.1⟩
  case round =>
    obtain ⟨j, hj, rfl, hJk, S⟩ := hrel
    by_cases hlt : j < n
    · have hlt' : (j : Int) < (n : Int) := by omega
      obtain ⟨b, cur, rfl, hpb, hB, hget⟩ := S.row (by omega)
      obtain ⟨u, hu⟩ : ∃ u, l[j]? = some u := ⟨_, List.getElem?_eq_getElem (by rw [HL.out]; exact hlt)⟩
      have c1 : wr.cell? ⟨b, j, none⟩ = some u := (hB.cell j).trans (hget _ _ hu)
      have c2 : wr.cell? ⟨gg, 0, none⟩ = some (.int .i64 k) := S.gone.cell 0
      have hpre : List.range j ++ [j] <+: List.range n := by
        rw [← List.range_succ]
        exact ⟨(List.range n).drop (j + 1), by rw [show List.range (j + 1) = (List.range n).take (j + 1) by rw [List.take_range]; congr 1; omega, List.take_append_drop]⟩
      obtain ⟨fn, tmps, assign, body, hy, hRd⟩ := HJ.out.2.2 _ j wr hJk hpre
      have hgd : l.getD j undef = u := by rw [List.getD_eq_getElem?_getD, hu]; rfl
      have kw : IntKind.i64.wrap ((k : Int) + (j : Int)) = ((k + j : Nat) : Int) := by rw [IntWalk.i64_in _ ⟨by omega, by omega⟩]; omega
      have kk : (k : Int) + (j : Int) = ((k + j : Nat) : Int) := by omega
      rw [hgd] at hy
      generalize k + j = s at *
      have HR := hide hRd
      have HS := hide S
      have HPre := hide hpre
      clear hRd S hpre hJk hB hget hu hgd
      gi_wp2
      clear hy kw kk c1 c2
      refine (HR.out).mono ?_
      rintro e w4 (⟨rfl, hJ4, hK4⟩ | ⟨rfl, hJ4⟩)
      · have H4 := hide (And.intro hJ4 (HS.out.keep p1 p2 hK4))
        clear hJ4 hK4
        gi_wp2
        go_roundw
        case rel => exact ⟨j + 1, hlt, by go_num, by rw [List.range_succ]; exact H4.out.1, H4.out.2⟩
        case measure => simp [intOf]; omega
      · have H4 := hide hJ4
        clear hJ4
        gi_wp2
        refine bodyPost_ret (results_none rfl _ _ _) rfl ?_
        exact ⟨⟨_, rfl⟩, .inr ⟨_, HPre.out, H4.out⟩⟩
    · obtain rfl : j = n := by omega
      have hlt' : ¬ (j : Int) < (j : Int) := by omega
      have H4 := hide hJk
      clear hJk S
      gi_wp2
      go_end0
      exact ⟨⟨_, rfl⟩, .inl H4.out⟩
end Go.Proofs.Ytakeoabeaopamaa
