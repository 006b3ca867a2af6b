/-
  Package ring: each: a function that calls yield with all that is there, in order.
-/
import Derived.Test.YtakeoabeaopamaaTailIn
import Derived.Test.YtakeoabeaopamaaRnT
import Derived.Sort.BigQuietIn
namespace Go.Proofs.Ytakeoabeaopamaa
open Go Go.RowKit Go.Shelf
attribute [local go_sem] Oper.semAt_some

/-- What a round keeps: the blocks that p names. -/
def KeepP (p : Nat → Prop) (W W' : World) : Prop := ∀ g cs t, p g → Has W g t cs → Has W' g t cs
theorem KeepP.trans {p : Nat → Prop} {A B C : World} (h : KeepP p A B) (k : KeepP p B C) : KeepP p A C := fun g cs t ht hh => k g cs t ht (h g cs t ht hh)
theorem KeepP.put {p : Nat → Prop} (W : World) (l : Nat) (o o' : Obj) (h : W.heap[l]? = some o) (ho : o.isCells = false) : KeepP p W (W.putObj l o') := fun g cs t _ hh => by
  unfold Has at hh ⊢
  rw [World.putObj_heap_other (fun e => ?_)]
  · exact hh
  · subst e
    rw [hh] at h
    injection h with h
    subst h
    cases ho
theorem KeepP.only {p : Nat → Prop} {S : List Nat} {W W' : World} (h : Only S W W') (hS : ∀ g, g ∈ S → ¬ p g) : KeepP p W W' := fun g _ _ ht hh => hh.only h fun hm => hS g hm ht

theorem Only.grow {W W' : World} (h : Only [] W W') : W.grownBy W' none := ⟨h.os, h.tape, h.output, h.size, fun k hk _ => h.block k hk (by simp)⟩
theorem abides_only {α : Type} {B : Nat} {J : List α → World → Prop} (hJ : AbidesFrom B J) {s : List α} {W W' : World} (h : J s W) (ho : Only [] W W') : J s W' := hJ s W W' none h ho.grow (fun r e => by cases e)
theorem own_has {w : World} {base e size n c : Nat} {A : Option Addr} {xs : List Value} (h : w.ownsRow base e size (.slice A n c) n xs) (hn : 0 < n) :
    ∃ g cur, A = some ⟨g, 0, none⟩ ∧ base ≤ g ∧ Has w g e cur ∧ ∀ (j : Nat) (u : Value), xs[j]? = some u → cur[j]? = some u := by
  rcases h.2 with ⟨_, h0⟩ | ⟨g, cap, cur, hv, hb, hg, _, _, _, h4⟩
  · omega
  · injection hv with hA
    subst hA
    refine ⟨g, cur, rfl, hb, hg, fun j u hu => ?_⟩
    rw [← h4, List.getElem?_take] at hu
    split at hu
    · rwa [Array.getElem?_toList] at hu
    · cases hu

/-- What each reads. -/
structure EaS (p : Nat → Prop) (g M n c f k : Nat) (A : Option Addr) (xs l : List Value) (wr : World) : Prop where
  box : Has wr g 48 #[.int .i64 M, .slice A n c, .int .i64 f, .int .i64 l.length, .int .i64 k]
  row : 0 < n → ∃ b cur, A = some ⟨b, 0, none⟩ ∧ p b ∧ Has wr b 3 cur ∧ ∀ (j : Nat) (u : Value), xs[j]? = some u → cur[j]? = some u
theorem EaS.keep {p : Nat → Prop} {g M n c f k : Nat} {A : Option Addr} {xs l : List Value} {wr w' : World} (S : EaS p g M n c f k A xs l wr) (hp : p g) (h : KeepP p wr w') : EaS p g M n c f k A xs l w' :=
  ⟨h _ _ _ hp S.box, fun hn => by obtain ⟨b, cur, h1, h2, h3, h4⟩ := S.row hn; exact ⟨b, cur, h1, h2, h _ _ _ h2 h3, h4⟩⟩
theorem EaS.only {p : Nat → Prop} {g M n c f k : Nat} {A : Option Addr} {xs l : List Value} {wr w' : World} (S : EaS p g M n c f k A xs l wr) (h : Only [] wr w') : EaS p g M n c f k A xs l w' :=
  ⟨S.box.only h (by simp), fun hn => by obtain ⟨b, cur, h1, h2, h3, h4⟩ := S.row hn; exact ⟨b, cur, h1, h2, h3.only h (by simp), h4⟩⟩

set_option maxRecDepth 100000 in
set_option maxHeartbeats 8000000 in
theorem each_ps {w : World} {B g M k : Nat} {v : Value} {l : List Value} (p : Nat → Prop) (hR : RgV_ri w B g M v l k) (hp : p g) (hpv : ∀ b, v.ownBlock = some b → p b) :
    SeqPs Try.prog 29 #[.pointer (some ⟨g, 0, none⟩)] #[] l (fun x => #[x]) (KeepP p) w := fun la J Jx W1 hW hJ hJx hY h0 => by
  obtain ⟨n, c, A, f, xs, rfl, h⟩ := hR
  have S0 : EaS p g M n c f k A xs l W1 := by
    refine ⟨(hW.block g h.box.lt).trans h.box, fun hn => ?_⟩
    obtain ⟨b, cur, rfl, _, hb, hc⟩ := own_has h.own hn
    exact ⟨b, cur, rfl, hpv b rfl, (hW.block b hb.lt).trans hb, hc⟩
  have hf : f < n ∨ f = 0 := h.first
  have hcnt := h.cnt
  have hn6 : n ≤ 65536 := by have := h.most; have := h.top; omega
  have q3 : W1.cell? ⟨g, 3, none⟩ = some (.int .i64 (l.length : Nat)) := S0.box.cell 3
  have HSP := hide h.spot
  have HH := hide (And.intro S0 h0)
  have HJ := hide (And.intro hJ (And.intro hJx hY))
  clear hJ hJx hY h0 h hW S0
  refine callsIn_of_wp Try.func29 rfl trivial ?_ rfl
  simp only [Try.ntmps29, List.size_toArray, List.length_cons, List.length_nil, Nat.reduceAdd, Nat.reduceSub, Array.replicate_succ, Array.replicate_zero, List.push_toArray, List.append_toArray, List.nil_append, List.cons_append]
  gi_wp2
  gi_loopw [9] (fun i wr => ∃ j : Nat, j ≤ l.length ∧ i = .int .i64 (j : Int) ∧ J (l.take j) wr ∧ EaS p g M n c f k A xs l wr) (fun i _ => l.length - (intOf i).toNat)
  case atStart => exact ⟨0, Nat.zero_le _, rfl, HH.out.2, HH.out.1⟩
  case round =>
    obtain ⟨j, hj, rfl, hJk, S⟩ := hrel
    by_cases hlt : j < l.length
    · have hlt' : (j : Int) < ((l.length : Nat) : Int) := by omega
      obtain ⟨b, cur, rfl, hpb, hB, hget⟩ := S.row (by omega)
      obtain ⟨u, hu⟩ : ∃ u, l[j]? = some u := ⟨_, List.getElem?_eq_getElem hlt⟩
      have hcu := hget _ _ (HSP.out j u hu)
      have hs : (f + j) % n < n := Nat.mod_lt _ (by omega)
      have hru : ∀ X : Later wr, X.val.cell? ⟨b, (f + j) % n, none⟩ = some u := later_cell ((hB.cell _).trans hcu)
      have c1 : wr.cell? ⟨g, 1, none⟩ = some (.slice (some ⟨b, 0, none⟩) n c) := S.box.cell 1
      have c2 : wr.cell? ⟨g, 2, none⟩ = some (.int .i64 f) := S.box.cell 2
      have HSl := hide (fun (X : Later wr) => slot_ri (later_cell c1 X) (later_cell c2 X) (by omega) hn6 j (by omega) (by omega))
      have hpre : l.take j ++ [u] <+: l := by
        have e : l.take j ++ [u] = l.take (j + 1) := by rw [List.take_add_one, hu]; rfl
        rw [e]
        exact List.take_prefix _ _
      have HC := hide hru
      generalize (f + j) % n = s at *
      have ks : (s : Int) < (n : Int) := by omega
      have d1 := later_cell c1
      have HS := hide (And.intro S hJk)
      have HPre := hide hpre
      clear S hJk hpre hB hget hcu hs c1 c2
      gi_wp2
      refine region_later_tail_in 10 (by kernel_rfl) (by kernel_rfl) ?_
      simp only [List.take_succ_cons, List.take_zero, List.drop_succ_cons, List.drop_zero]
      iterate 7 (go_big_quiet_step (fail))
      go_big_quiet_step ((go_at_call 25; refine later_of (HSl.out _)))
      iterate 2 (go_big_quiet_step (fail))
      refine wpQuiet_nil ?_
      rintro _ ⟨X, rfl⟩
      have hJX := abides_only HJ.out.1 HS.out.2 X.only
      have SX := HS.out.1.only X.only
      obtain ⟨fn, tmps, assign, body, hy, hRd⟩ := HJ.out.2.2 _ u X.val hJX HPre.out
      have HR := hide hRd
      have HX := hide SX
      clear hRd hJX SX
      gi_wp2
      have e : l.take j ++ [u] = l.take (j + 1) := by rw [List.take_add_one, hu]; rfl
      have HE := hide e
      clear hy hu e d1 hru
      refine (HR.out).mono ?_
      rintro e w4 (⟨rfl, hJ4, hK4⟩ | ⟨rfl, hJ4⟩)
      · have H4 := hide (And.intro hJ4 (HX.out.keep hp hK4))
        clear hJ4 hK4
        gi_wp2
        go_roundw
        case rel => exact ⟨j + 1, hlt, by go_num, by rw [← HE.out]; exact H4.out.1, H4.out.2⟩
        case measure => simp [intOf]; omega
      · have H4 := hide hJ4
        clear hJ4
        gi_wp2
        refine bodyPost_ret (results_none rfl _ _ _) rfl ?_
        exact ⟨⟨_, rfl⟩, .inr ⟨_, HPre.out, H4.out⟩⟩
    · obtain rfl : j = l.length := by omega
      have hlt' : ¬ ((l.length : Nat) : Int) < ((l.length : Nat) : Int) := by omega
      rw [List.take_length] at hJk
      have H4 := hide hJk
      clear hJk S
      gi_wp2
      go_end0
      exact ⟨⟨_, rfl⟩, .inl H4.out⟩
end Go.Proofs.Ytakeoabeaopamaa
