/-
  Package zlib, in pieces: what holds between two Writes of a whole stream that is cut.
-/
import Derived.Test.YtlknhiihdejpeaaGreatDoorMZpD
import Derived.Test.YtlknhiihdejpeaaGreatDoorMGrow
namespace Go.Proofs.YtlknhiihdejpeaaGreatDoor
open Go Go.RowKit

/-- Blocks that are none of a decoder's. -/
def Aside (w : World) (g gw gt : Nat) (S : List Nat) : Prop := ∀ k ∈ S, k < w.heap.size → k ≠ g ∧ k ≠ gw ∧ k ≠ gt ∧ k ∉ Gs ∧ ∃ cs fr, w.heap[k]? = some (.cells cs 5 fr)
theorem Aside.other {w : World} {g gw gt : Nat} {S : List Nat} (h : Aside w g gw gt S) : Other w S := fun k hk hlt => by
  obtain ⟨_, _, _, h4, cs, fr, h5⟩ := h k hk hlt
  exact ⟨⟨_, cs, fr, h5, by decide, by decide⟩, h4⟩
theorem Aside.adl {w w' : World} {g gw gt ga : Nat} {S : List Nat} {l : List UInt8} (h : Aside w g gw gt S) (ho : Only S w w') (ha : Adl w ga l) : Adl w' ga l := ha.only ho fun hm => by
  obtain ⟨cs, hA⟩ := adl_has ha
  obtain ⟨_, _, _, _, cs', fr, h5⟩ := h ga hm hA.lt
  unfold Has at hA
  rw [hA] at h5
  injection h5 with h5
  injection h5 with _ h5
  exact absurd h5 (by decide)
theorem ZS.aside {b : List UInt8} {most W0 g gw gt a : Nat} {w w' : World} {o : List UInt8} {S : List Nat} (h : ZS b most W0 g gw gt w a o) (ho : Only S w w') (hS : Aside w g gw gt S) : ZS b most W0 g gw gt w' a o := by
  have hg : ∀ f, Dc w g f → g ∉ S := fun f hd hm => (hS g hm (Has.lt hd)).1 rfl
  have hw : ∀ x, Rg w gw x → gw ∉ S := fun x hr hm => by
    obtain ⟨ws, hws, _⟩ := hr
    exact (hS gw hm (Has.lt hws)).2.1 rfl
  rcases h with ⟨wb, h, h0⟩ | ⟨f, s, ga, wb, oo, h, h0⟩ | ⟨f, t, ga, wb, k, h, h0⟩ | ⟨f, t, sm, wb, k, h, h0⟩
  · exact .inl ⟨wb, ⟨h.lt, h.le, h.wl, h.wt, h.mh, Has.only h.dec ho (hg _ h.dec), h.ring.only ho (hw _ h.ring), own_keep h.wts ho (fun k hk hm => by
      injection hk with hk
      have hk : gt = k := hk
      subst hk
      exact (hS _ hm (own_block' h.wts)).2.2.1 rfl), h.tab.only ho (fun k hk hlt => (hS k hk hlt).2.2.2.1)⟩, h0⟩
  · exact .inr (.inl ⟨f, s, ga, wb, oo, ⟨h.ge, h.le, h.head, h.rest.still ho (hg _ h.rest.dec) (hw _ h.rest.ring) (fun hm => (hS _ hm (own_block' h.rest.wts)).2.2.1 rfl) hS.other, h.z, h.mo, h.tail, h.wl, hS.adl ho h.ad, h.gge, h.ends, h.used, h.total⟩, h0⟩)
  · exact .inr (.inr (.inl ⟨f, t, ga, wb, k, ⟨h.head, h.ends, h.k4, h.at_, h.le, h.wl, h.wt, Has.only h.dec ho (hg _ h.dec), h.tail, hS.adl ho h.ad, h.gge, h.room⟩, h0⟩))
  · exact .inr (.inr (.inr ⟨f, t, sm, wb, k, ⟨h.head, h.ends, h.ge, h.le, h.sum, h.wl, Has.only h.dec ho (hg _ h.dec), h.tail, h.room⟩, h0⟩))
theorem ZE.aside {W0 g gw gt c : Nat} {w w' : World} {S : List Nat} (h : ZE W0 g gw gt w c) (ho : Only S w w') (hS : Aside w g gw gt S) : ZE W0 g gw gt w' c := by
  have hg : ∀ f, Dc w g f → g ∉ S := fun f hd hm => (hS g hm (Has.lt hd)).1 rfl
  rcases h with ⟨h, f, wb, k, hd, r⟩ | ⟨h, f, sm, wb, hd, r⟩ | ⟨h, f, ga, wb, l, hd, ht, hwl, had, r⟩
  · exact .inl ⟨h, f, wb, k, Has.only hd ho (hg _ hd), r⟩
  · exact .inr (.inl ⟨h, f, sm, wb, Has.only hd ho (hg _ hd), r⟩)
  · exact .inr (.inr ⟨h, f, ga, wb, l, Has.only hd ho (hg _ hd), ht, hwl, hS.adl ho had, r⟩)
theorem ZS.ol {b : List UInt8} {most W0 g gw gt a : Nat} {w : World} {o : List UInt8} (h : ZS b most W0 g gw gt w a o) : o.length ≤ most := by
  rcases h with ⟨wb, h, rfl⟩ | ⟨f, s, ga, wb, oo, h, rfl⟩ | ⟨f, t, ga, wb, k, h, rfl⟩ | ⟨f, t, sm, wb, k, h, rfl⟩
  · exact Nat.zero_le _
  · exact h.ends.steps.1.most (Nat.zero_le _)
  · exact (uend_facts h.ends).1
  · exact (uend_facts h.ends).1
theorem own_frm {w w' : World} {W0 B n g gw gt : Nat} {v : Value} {xs : List Value} (h : w.ownsRow B 5 1 v n xs) (hf : Frm W0 g gw gt w w') (hB : g < B ∧ gw < B ∧ gt < B) : w'.ownsRow B 5 1 v n xs := by
  obtain ⟨ga, _, ho, hga⟩ := hf
  refine own_keep h ho (fun k hk hm => ?_)
  have h1 := h.lt k hk
  simp only [List.mem_cons, List.not_mem_nil, or_false] at hm
  rcases hm with rfl | rfl | rfl | rfl
  · omega
  · omega
  · omega
  · rcases hga with h2 | ⟨cs, h2⟩
    · omega
    · exact own_ne h h2 (by decide) hk.symm

/-- What stays while a stream comes in pieces. -/
structure PFx (b wl : List UInt8) (zs : List Int) (most W0 B1 B2 g gw gt n3 : Nat) (A3 : Option Addr) (vw : Value) (w : World) (ec nn : Nat) : Prop where
  fx : Fx W0 g gw gt
  w0 : w.heap.size ≤ W0
  b2 : W0 ≤ B2 ∧ g < B2 ∧ gw < B2 ∧ gt < B2
  b1 : B2 ≤ B1
  vw : ∀ k, vw.ownBlock = some k → k < B1
  cb : 0 < n3 → ∀ ad, A3 = some ad → ad.block < W0
  bl : b.length ≤ 4096
  mo : most ≤ 65536
  zl : zs.length = n3
  zf : ZF b most wl nn ec
structure PSt (b wl : List UInt8) (zs : List Int) (most W0 B1 B2 g gw gt n3 : Nat) (A3 : Option Addr) (vw : Value) (w wr : World) (a i bad : Nat) (o : List UInt8) (vo : Value) (A13 : Option Addr) (c13 : Nat) : Prop where
  only : Only [] w wr
  le : a ≤ b.length
  sl : SL b W0 wr A13 (b.length - a) c13 a
  out : wr.ownsRow B1 5 1 vo o.length (bvals o)
  want : wr.ownsRow B2 5 1 vw wl.length (bvals wl)
  cuts : Holds wr 1 A3 n3 (ivals zs)
  size : B1 ≤ wr.heap.size
  fro : Fro b most o
  ol : o.length ≤ most
  st : (bad = 0 ∧ ZS b most W0 g gw gt wr a o) ∨ (ZE W0 g gw gt wr bad ∧ Bad b most bad)
  i1 : a < b.length → i ≤ n3
  i2 : i ≤ n3 + 1
/-- Behind a Write of m bytes. -/
structure PW (b wl : List UInt8) (zs : List Int) (most W0 B1 B2 g gw gt n3 : Nat) (A3 : Option Addr) (vw : Value) (w w5 : World) (a m bad : Nat) (o : List UInt8) (vo : Value) (A13 : Option Addr) (c13 : Nat) (v : Value) (y : List UInt8) (c : Nat) : Prop where
  only : Only [] w w5
  sl : SL b W0 w5 A13 (b.length - a) c13 a
  out : w5.ownsRow B1 5 1 vo o.length (bvals o)
  want : w5.ownsRow B2 5 1 vw wl.length (bvals wl)
  cuts : Holds w5 1 A3 n3 (ivals zs)
  size : B1 ≤ w5.heap.size
  own : w5.ownsRow 0 5 1 v y.length (bvals y)
  fro : Fro b most (o ++ y)
  ol : (o ++ y).length ≤ most
  same : bad ≠ 0 → c = bad
  nul : c ≠ 0 → v = .slice none 0 0 ∧ y = []
  st : (c = 0 ∧ ZS b most W0 g gw gt w5 (a + m) (o ++ y)) ∨ (ZE W0 g gw gt w5 c ∧ Bad b most c)

section
variable {b wl : List UInt8} {zs : List Int} {most W0 B1 B2 g gw gt n3 : Nat} {A3 : Option Addr} {vw : Value} {w wr : World} {a i bad ec nn : Nat} {o : List UInt8} {vo : Value} {A13 : Option Addr} {c13 : Nat}

theorem PSt.write (F : PFx b wl zs most W0 B1 B2 g gw gt n3 A3 vw w ec nn) (S : PSt b wl zs most W0 B1 B2 g gw gt n3 A3 vw w wr a i bad o vo A13 c13) (m : Nat) (hm : m ≤ b.length - a) :
    Calls Tryz.prog 12 #[.pointer (some ⟨g, 0, none⟩), .slice A13 m c13] wr fun e w5 => ∃ (v : Value) (y : List UInt8) (c : Nat), e = .returned (.tuple #[v, .int .i64 (c : Int)]) ∧ PW b wl zs most W0 B1 B2 g gw gt n3 A3 vw w w5 a m bad o vo A13 c13 v y c := by
  have hB := F.b2
  have hB1 := F.b1
  have hsz := S.size
  have hsl : SL b W0 wr A13 m c13 a := by
    refine ⟨?_, Nat.le_trans hm S.sl.cap, by have := S.le; omega, S.sl.nil, fun h0 => S.sl.blk (by omega)⟩
    have h := S.sl.holds.upto m hm
    rw [List.take_take, Nat.min_eq_left hm] at h
    exact h
  have keep : ∀ w5, Frm W0 g gw gt wr w5 → Only [] w w5 ∧ SL b W0 w5 A13 (b.length - a) c13 a ∧ w5.ownsRow B1 5 1 vo o.length (bvals o) ∧ w5.ownsRow B2 5 1 vw wl.length (bvals wl) ∧ Holds w5 1 A3 n3 (ivals zs) ∧ B1 ≤ w5.heap.size := fun w5 hf => by
    have hf' := hf
    obtain ⟨ga, hga, ho, _⟩ := hf
    have hW : ∀ k ∈ [g, gw, gt, ga], W0 ≤ k := fun k hk => by
      have h1 := F.fx.lg
      have h2 := F.fx.lw
      have h3 := F.fx.lt
      simp only [List.mem_cons, List.not_mem_nil, or_false] at hk
      omega
    refine ⟨S.only.trans ho (fun k hk hlt => by have := hW k hk; have := F.w0; omega), S.sl.keep ho hW, own_frm S.out hf' (by omega), own_frm S.want hf' ⟨hB.2.1, hB.2.2.1, hB.2.2.2⟩, S.cuts.keepPos ho (fun h0 ad had _ hk => by have := hW _ hk; have := F.cb h0 ad had; omega), Nat.le_trans hsz ho.size⟩
  rcases S.st with ⟨hb0, hz⟩ | ⟨hz, hbad⟩
  · refine (write_step F.fx hz hsl (by omega) (by have := F.bl; omega) F.mo).mono ?_
    rintro e w5 ⟨v, y, c, rfl, hf, hx⟩
    obtain ⟨k1, k2, k3, k4, k5, k6⟩ := keep w5 hf
    rcases hx with ⟨rfl, how, _, hzs⟩ | ⟨hc, rfl, hze, hbd⟩
    · exact ⟨v, y, 0, rfl, k1, k2, k3, k4, k5, k6, how, hzs.fro, hzs.ol, fun h => absurd hb0 h, fun h => absurd rfl h, .inl ⟨rfl, hzs⟩⟩
    · exact ⟨_, [], c, rfl, k1, k2, k3, k4, k5, k6, ⟨rfl, .inl ⟨rfl, rfl⟩⟩, by rw [List.append_nil]; exact S.fro, by rw [List.append_nil]; exact S.ol, fun h => absurd hb0 h, fun _ => ⟨rfl, rfl⟩, .inr ⟨hze, hbd⟩⟩
  · refine (write_err F.fx hz hsl (by have := F.bl; omega)).mono ?_
    rintro e w5 ⟨rfl, ho, hz5⟩
    have hf : Frm W0 g gw gt wr w5 := ⟨wr.heap.size, by omega, ho.weak (by intro k hk _; simp at hk; simp [hk]), .inl (Nat.le_refl _)⟩
    obtain ⟨k1, k2, k3, k4, k5, k6⟩ := keep w5 hf
    exact ⟨_, [], bad, rfl, k1, k2, k3, k4, k5, k6, ⟨rfl, .inl ⟨rfl, rfl⟩⟩, by rw [List.append_nil]; exact S.fro, by rw [List.append_nil]; exact S.ol, fun _ => rfl, fun _ => ⟨rfl, rfl⟩, .inr ⟨hz5, hbad⟩⟩

/-- What is told goes behind what was told. -/
theorem PW.append {m c : Nat} {v : Value} {y : List UInt8} {w5 w6 : World} (F : PFx b wl zs most W0 B1 B2 g gw gt n3 A3 vw w ec nn) (P : PW b wl zs most W0 B1 B2 g gw gt n3 A3 vw w w5 a m bad o vo A13 c13 v y c)
    (hm : m ≤ b.length - a) (hle : a ≤ b.length) (hi : i ≤ n3) (hmi : i < n3 ∨ a + m = b.length) {A6 : Option Addr} {c6 : Nat} (how : w6.ownsRow B1 5 1 (.slice A6 (o.length + y.length) c6) (o.length + y.length) (bvals o ++ bvals y)) (ho : Only vo.ownBlock.toList w5 w6)
    {A' : Option Addr} {c' : Nat} (hh : Holds w5 1 A' (b.length - a - m) (bvals (((b.drop a).take (b.length - a)).drop m))) (hc' : b.length - a - m ≤ c') (hblk : ∀ ad', A' = some ad' → ∃ ad, A13 = some ad ∧ ad'.block = ad.block) (hnil : (A13 = none → c13 = 0) → A' = none → c' = 0) :
    PSt b wl zs most W0 B1 B2 g gw gt n3 A3 vw w w6 (a + m) (i + 1) c (o ++ y) (.slice A6 (o.length + y.length) c6) A' c' := by
  have hB := F.b2
  have hB1 := F.b1
  have hv : ∀ k ∈ vo.ownBlock.toList, B1 ≤ k ∧ ∃ cs fr, w5.heap[k]? = some (.cells cs 5 fr) := fun k hk => by
    have hk := own_to hk
    refine ⟨(P.out.lt k hk).1, ?_⟩
    rcases P.out.2 with ⟨h0, _⟩ | ⟨gb, cap, cur, h0, _, hg, _⟩
    · rw [h0] at hk; cases hk
    · rw [h0] at hk
      injection hk with hk
      have hk : gb = k := hk
      subst hk
      exact ⟨cur, _, hg⟩
  have hA : Aside w5 g gw gt vo.ownBlock.toList := fun k hk _ => by
    obtain ⟨h1, h2⟩ := hv k hk
    have := F.fx.lg
    refine ⟨by omega, by omega, by omega, F.fx.nG (by omega), h2⟩
  have hs : SL b W0 w5 A' (b.length - (a + m)) c' (a + m) := by
    rw [show b.length - a - m = b.length - (a + m) by omega] at hh hc'
    refine ⟨?_, hc', by omega, hnil P.sl.nil, fun h0 ad had => ?_⟩
    · rw [List.drop_take, List.drop_drop, show b.length - a - m = b.length - (a + m) by omega] at hh
      exact hh
    · obtain ⟨ad0, q1, q2⟩ := hblk ad had
      rw [q2]
      exact P.sl.blk (by omega) ad0 q1
  refine ⟨P.only.trans ho (fun k hk hlt => by have := (hv k hk).1; have := F.w0; omega), by omega, hs.keep ho (fun k hk => by have := (hv k hk).1; omega), by rw [List.length_append, bvals_append]; exact how, own_keep P.want ho (fun k hk hm => by have := (hv k hm).1; have := F.vw k hk; omega), P.cuts.keepPos ho (fun h0 ad had _ hk => by have := (hv _ hk).1; have := F.cb h0 ad had; omega), Nat.le_trans P.size ho.size, P.fro, P.ol, ?_, by omega, by omega⟩
  rcases P.st with ⟨h0, hz⟩ | ⟨hz, hbd⟩
  · exact .inl ⟨h0, hz.aside ho hA⟩
  · exact .inr ⟨hz.aside ho hA, hbd⟩
end

theorem PSt.idle {b wl : List UInt8} {zs : List Int} {most W0 B1 B2 g gw gt n3 : Nat} {A3 : Option Addr} {vw : Value} {w wr wx : World} {a i bad : Nat} {o : List UInt8} {vo : Value} {A13 : Option Addr} {c13 : Nat}
    (S : PSt b wl zs most W0 B1 B2 g gw gt n3 A3 vw w wr a i bad o vo A13 c13) (ho : Only [] wr wx) : PSt b wl zs most W0 B1 B2 g gw gt n3 A3 vw w wx a i bad o vo A13 c13 := by
  have hA : Aside wr g gw gt [] := fun k hk => by cases hk
  refine ⟨S.only.trans ho (by simp), S.le, S.sl.keep ho (by simp), own_keep S.out ho (by simp), own_keep S.want ho (by simp), S.cuts.keep ho (by simp), Nat.le_trans S.size ho.size, S.fro, S.ol, ?_, S.i1, S.i2⟩
  rcases S.st with ⟨h0, hz⟩ | ⟨hz, hbd⟩
  · exact .inl ⟨h0, hz.aside ho hA⟩
  · exact .inr ⟨hz.aside ho hA, hbd⟩
theorem PSt.roomy {b wl : List UInt8} {zs : List Int} {most W0 B1 B2 g gw gt n3 : Nat} {A3 : Option Addr} {vw : Value} {w wr : World} {a i bad : Nat} {o : List UInt8} {vo : Value} {A13 : Option Addr} {c13 : Nat}
    (S : PSt b wl zs most W0 B1 B2 g gw gt n3 A3 vw w wr a i bad o vo A13 c13) : ∃ f, Dc wr g f ∧ Roomy gw gt f := by
  rcases S.st with ⟨_, hz⟩ | ⟨hz, _⟩
  · exact hz.roomy
  · exact hz.roomy

/-- 'append' onto a row of one's own. -/
theorem list_onto {ops : Array Oper} {rest : List Oper} {o : Oper} {a : Act} {Q : Exit → Act → World → Prop} (hgd : o.guard = none) (s x : Operand)
    (ho : o.op = .call { callee := .builtin .append, args := #[s, x], argTypes := #[22, 22] }) (w : World) {B : Nat} {A A1 : Option Addr} {n c n1 c1 : Nat} {l l1 : List UInt8} (hb : Holds w 1 A n (bvals l)) (hn : n1 + n ≤ 140737488355328)
    (hown : w.ownsRow B 5 1 (.slice A1 n1 c1) n1 (bvals l1)) (hB : B ≤ w.heap.size) (hs : a.eval s = .slice A1 n1 c1) (hx : a.eval x = .slice A n c)
    (h : ∀ A' c' w', w'.ownsRow B 5 1 (.slice A' (n1 + n) c') (n1 + n) (bvals l1 ++ bvals l) → Only (Value.slice A1 n1 c1).ownBlock.toList w w' → wpList Tryz.prog ops Q rest (a.put o.dst (.slice A' (n1 + n) c')) w') :
    wpList Tryz.prog ops Q (o :: rest) a w := by
  obtain ⟨i0, hi0, hz0, hz1, hz2⟩ := info_of u8_info
  refine list_append _ hgd s x 22 ho B 1 1 Tryz.underlying22 hi0 hz0 hz1 hz2 rfl (Nat.zero_lt_one) hown hs hb hx (bvals_one l) (by omega) (Nat.zero_lt_one) hB fun A' c' w' h1 h2 _ => ?_
  exact h A' c' w' h1 ((Only.refl _ w).grown h2 (fun k hk _ => by rw [hk]; simp))
end Go.Proofs.YtlknhiihdejpeaaGreatDoor

