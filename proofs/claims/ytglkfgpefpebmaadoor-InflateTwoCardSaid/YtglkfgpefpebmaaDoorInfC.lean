/-
  Package inflate: a block's begin, a stored block's size.
-/
import Derived.Test.YtglkfgpefpebmaaDoorInfB
import Derived.Test.YtglkfgpefpebmaaDoorHBits
namespace Go.Proofs.YtglkfgpefpebmaaDoor
open Go Go.RowKit

/-- A decoder that goes through the bytes l, at bit q. -/
structure Rn (w : World) (g gf gw gr : Nat) (K : List Nat) (f : DF) (v vo : Value) (l : List UInt8) (q : Nat) (all x : List UInt8) : Prop where
  on : On w g gf gw K f (.pointer (some ⟨gr, 0, none⟩)) vo all x
  rd : Rd w gr v l q
  vK : ∀ b, v.ownBlock = some b → b ∈ K
  gwK : gw ∉ K
  fx : f.fx = .pointer none ∨ CdV w f.fx
  co : f.k = 7 → CdV w f.co
namespace Rn
variable {w : World} {g gf gw gr : Nat} {K : List Nat} {f : DF} {v vo : Value} {l : List UInt8} {q : Nat} {all x : List UInt8}
theorem g_gr (h : Rn w g gf gw gr K f v vo l q all x) : g ≠ gr := Has.ne h.on.dec h.rd.1 (by decide)
theorem gf_gr (h : Rn w g gf gw gr K f v vo l q all x) : gf ≠ gr := Has.ne h.on.flow h.rd.1 (by decide)
theorem gw_gr (h : Rn w g gf gw gr K f v vo l q all x) : gw ≠ gr := by obtain ⟨ws, hw, _⟩ := h.on.ring; exact Has.ne hw h.rd.1 (by decide)
theorem vo_gr (h : Rn w g gf gw gr K f v vo l q all x) : some gr ≠ vo.ownBlock := own_ne h.on.out h.rd.1 (by decide)
theorem v_g (h : Rn w g gf gw gr K f v vo l q all x) : some g ≠ v.ownBlock := own_ne h.rd.2.1 h.on.dec (by decide)
theorem v_gf (h : Rn w g gf gw gr K f v vo l q all x) : some gf ≠ v.ownBlock := own_ne h.rd.2.1 h.on.flow (by decide)
theorem v_gr (h : Rn w g gf gw gr K f v vo l q all x) : some gr ≠ v.ownBlock := own_ne h.rd.2.1 h.rd.1 (by decide)
theorem other (h : Rn w g gf gw gr K f v vo l q all x) : Other w ([g, gf, gw, gr] ++ vo.ownBlock.toList) := by
  intro k hk _
  obtain ⟨ws, hw, _⟩ := h.on.ring
  rcases List.mem_append.1 hk with hk | hk
  · simp only [List.mem_cons, List.not_mem_nil, or_false] at hk
    rcases hk with rfl | rfl | rfl | rfl
    · exact ⟨_, _, _, h.on.dec, by decide, by decide⟩
    · exact ⟨_, _, _, h.on.flow, by decide, by decide⟩
    · exact ⟨_, _, _, hw, by decide, by decide⟩
    · exact ⟨_, _, _, h.rd.1, by decide, by decide⟩
  · have hk := mem_own.1 hk
    rcases h.on.out.2 with ⟨rfl, _⟩ | ⟨gb, cap, cur, rfl, _, hh, _⟩
    · cases hk
    · have : gb = k := by simpa [Value.ownBlock] using hk
      subst this
      exact ⟨_, _, _, hh, by decide, by decide⟩
/-- The reader alone has gone on. -/
theorem read {w' : World} {q' : Nat} (h : Rn w g gf gw gr K f v vo l q all x) (ho : Only [gr] w w') (hr : Rd w' gr v l q') : Rn w' g gf gw gr K f v vo l q' all x := by
  have hO : Other w [gr] := fun k hk hlt => h.other k (by simp at hk; simp [hk]) hlt
  refine ⟨h.on.only ho (by simpa using h.g_gr) (by simpa using h.gf_gr) (by simpa using h.gw_gr) (fun b hb hm => ?_), hr, h.vK, h.gwK, ?_, fun hk => (h.co hk).keep ho hO⟩
  · simp at hm; subst hm; exact h.vo_gr hb.symm
  · rcases h.fx with hx | hx
    · exact .inl hx
    · exact .inr (hx.keep ho hO)
/-- The decoder's own cells alone have changed. -/
theorem cells {w' : World} {f' : DF} (h : Rn w g gf gw gr K f v vo l q all x) (ho : Only [g] w w') (hd : Dc w' g f') (h1 : f'.wb = f.wb) (h2 : f'.wn = f.wn) (hx : f'.fx = .pointer none ∨ CdV w' f'.fx) (hc : f'.k = 7 → CdV w' f'.co) : Rn w' g gf gw gr K f' v vo l q all x := by
  obtain ⟨ws, hw, hws⟩ := h.on.ring
  have hv : ∀ b, v.ownBlock = some b → b ∉ [g] := fun b hb hm => by simp at hm; subst hm; exact h.v_g hb.symm
  refine ⟨⟨hd, ⟨ws, hw.only ho (by simpa using fun e => h.on.g_gw e.symm), hws⟩, by rw [h1]; exact h.on.wb, by rw [h2]; exact h.on.wn, Has.only h.on.flow ho (by simpa using fun e => h.on.g_gf e.symm), own_keep h.on.out ho (fun b hb hm => ?_), h.on.gw_, fun k hk => ⟨(h.on.apart k hk).1, Nat.lt_of_lt_of_le (h.on.apart k hk).2 ho.size⟩⟩,
    h.rd.only ho (by simpa using fun e => h.g_gr e.symm) hv, h.vK, h.gwK, hx, hc⟩
  simp at hm; subst hm; exact h.on.g_vo hb.symm
/-- Codes that were there are there. -/
theorem keepV {w' : World} {u : Value} (h : Rn w g gf gw gr K f v vo l q all x) (ho : Only [g] w w') (hc : CdV w u) : CdV w' u :=
  hc.keep ho (fun k hk hlt => h.other k (by simp at hk; simp [hk]) hlt)
end Rn

set_option maxRecDepth 100000 in
set_option maxHeartbeats 2000000 in
theorem begin_short (g gf gw gr : Nat) (K : List Nat) (f : DF) (v vo : Value) (l : List UInt8) (q : Nat) (all x : List UInt8) (w : World) (h : Rn w g gf gw gr K f v vo l q all x) (hq : 8 * l.length < q + 3) :
    Calls Tryd.prog 78 #[.pointer (some ⟨g, 0, none⟩), .pointer (some ⟨gf, 0, none⟩)] w fun e w' =>
      e = .returned (.tuple #[.int .i64 0, .int .i64 2]) ∧ Rn w' g gf gw gr K f v vo l q all x ∧ Only [gr] w w' := by
  have hB := bits_any gr v l q 3 w h.rd
  have ok : okBits l.length q 3 = false := by unfold okBits; simp; omega
  rw [ok] at hB
  generalize gotBits l q 3 = y at *
  have c0 : w.cell? ⟨gf, 0, none⟩ = some (.pointer (some ⟨gr, 0, none⟩)) := Has.cell h.on.flow 0
  have HB := hide hB
  have H := hide h
  clear hB h ok hq
  go_enter Tryd.func78, Tryd.ntmps78
  go_wp2_with fail
  refine (HB.out).mono ?_
  rintro e w1 ⟨rfl, ho1, hr1⟩
  have H1 := hide (And.intro ho1 hr1)
  clear ho1 hr1
  go_wp2_with fail
  go_ret2
  exact ⟨rfl, H.out.read H1.out.1 H1.out.2, H1.out.1⟩

set_option maxRecDepth 100000 in
set_option maxHeartbeats 2000000 in
theorem begin_stored (g gf gw gr : Nat) (K : List Nat) (f : DF) (v vo : Value) (l : List UInt8) (q : Nat) (all x : List UInt8) (w : World) (h : Rn w g gf gw gr K f v vo l q all x) (hq : q + 3 ≤ 8 * l.length) (hk : f.k = 0) (last : Bool) (hv : bitsOf (num l) q 3 = last.toNat) :
    Calls Tryd.prog 78 #[.pointer (some ⟨g, 0, none⟩), .pointer (some ⟨gf, 0, none⟩)] w fun e w' =>
      e = .returned (.tuple #[.int .i64 1, .int .i64 0]) ∧ Rn w' g gf gw gr K { f with last := last } v vo l (q + 3) all x ∧ Only [g, gr] w w' := by
  have hB := bits_any gr v l q 3 w h.rd
  have ok : okBits l.length q 3 = true := by unfold okBits; simp; omega
  unfold gotBits at hB
  rw [ok] at hB
  simp only [if_true] at hB
  rw [show (3 : Int).toNat = 3 from rfl, hv] at hB
  have c0 : w.cell? ⟨gf, 0, none⟩ = some (.pointer (some ⟨gr, 0, none⟩)) := Has.cell h.on.flow 0
  have HB := hide hB
  have H := hide (And.intro h hk)
  clear hB h ok hq hv hk
  have b0 : bits .and .u32 0 1 = 0 := by decide
  have b1 : bits .and .u32 1 1 = 1 := by decide
  cases last <;>
  · go_enter Tryd.func78, Tryd.ntmps78
    go_wp2_with fail
    refine (HB.out).mono ?_
    rintro e w1 ⟨rfl, ho1, hr1⟩
    have h1 := H.out.1.read ho1 hr1
    have k9 := h1.on.dec.last
    have f9 : w1.frozen? ⟨g, 9, none⟩ = false := Has.free h1.on.dec 9
    have H1 := hide (And.intro ho1 h1)
    clear ho1 hr1 h1
    go_wp2_with fail
    go_ret2
    refine ⟨rfl, H1.out.2.cells ((Only.refl [g] _).setCell (by simp) _) (Dc.set_last H1.out.2.on.dec _) rfl rfl ?_ (fun h7 => by have := H.out.2; change f.k = 7 at h7; omega), ((H1.out.1.weak (by simp)).setCell (by simp) _)⟩
    exact H1.out.2.fx.imp id (H1.out.2.keepV ((Only.refl [g] _).setCell (by simp) _))

set_option maxRecDepth 100000 in
set_option maxHeartbeats 2000000 in
theorem begin_fixed (g gf gw gr : Nat) (K : List Nat) (f : DF) (v vo : Value) (l : List UInt8) (q : Nat) (all x : List UInt8) (w : World) (h : Rn w g gf gw gr K f v vo l q all x) (hq : q + 3 ≤ 8 * l.length) (hk : f.k = 0) (last : Bool) (hv : bitsOf (num l) q 3 = last.toNat + 2) :
    Calls Tryd.prog 78 #[.pointer (some ⟨g, 0, none⟩), .pointer (some ⟨gf, 0, none⟩)] w fun e w' =>
      e = .returned (.tuple #[.int .i64 7, .int .i64 0]) ∧ (∃ gc, Cd w' gc ∧ Rn w' g gf gw gr K { f with last := last, fx := .pointer (some ⟨gc, 0, none⟩), co := .pointer (some ⟨gc, 0, none⟩) } v vo l (q + 3) all x) ∧ Only [g, gr] w w' := by
  have hB := bits_any gr v l q 3 w h.rd
  have ok : okBits l.length q 3 = true := by unfold okBits; simp; omega
  unfold gotBits at hB
  rw [ok] at hB
  simp only [if_true] at hB
  rw [show (3 : Int).toNat = 3 from rfl, hv] at hB
  have c0 : w.cell? ⟨gf, 0, none⟩ = some (.pointer (some ⟨gr, 0, none⟩)) := Has.cell h.on.flow 0
  have HB := hide hB
  have H := hide (And.intro h hk)
  clear hB h ok hq hv hk
  have b0 : bits .and .u32 2 1 = 0 := by decide
  have b1 : bits .and .u32 3 1 = 1 := by decide
  cases last <;>
  · go_enter Tryd.func78, Tryd.ntmps78
    go_wp2_with fail
    refine (HB.out).mono ?_
    rintro e w1 ⟨rfl, ho1, hr1⟩
    have h1 := H.out.1.read ho1 hr1
    have k9 := h1.on.dec.last
    have f9 : w1.frozen? ⟨g, 9, none⟩ = false := Has.free h1.on.dec 9
    have H1 := hide (And.intro ho1 h1)
    clear ho1 hr1 h1
    go_wp2_with fail
    have HF := fun b => fixedCodes_any g _ _ (Dc.set_last H1.out.2.on.dec b) (H1.out.2.fx.imp id (H1.out.2.keepV ((Only.refl [g] _).setCell (by simp) _)))
    first | refine (HF false).mono ?_ | refine (HF true).mono ?_
    rintro e w2 ⟨gc, rfl, hc2, hd2, ho2⟩
    have k2 := hd2.co
    have q2 : w2.frozen? ⟨g, 353, none⟩ = false := Has.free hd2 353
    have H2 := hide (And.intro hc2 (And.intro hd2 ho2))
    clear hc2 hd2 ho2 HF
    go_wp2_with fail
    go_ret2
    have o2 : Only [g] w1 (w2.setCell ⟨g, 353, none⟩ (.pointer (some ⟨gc, 0, none⟩))) := (((Only.refl [g] _).setCell (by simp) _).trans H2.out.2.2 (by simp)).setCell (by simp) _
    have hc3 : Cd (w2.setCell ⟨g, 353, none⟩ (.pointer (some ⟨gc, 0, none⟩))) gc := H2.out.1.keep (S := [g]) ((Only.refl [g] _).setCell (by simp) _) (fun k hk _ => by
      obtain rfl : k = g := by simpa using hk
      exact ⟨_, _, _, H2.out.2.1, by decide, by decide⟩)
    refine ⟨rfl, ⟨gc, hc3, H1.out.2.cells o2 (Dc.set_co H2.out.2.1 _) rfl rfl (.inr ⟨gc, rfl, hc3⟩) (fun _ => ⟨gc, rfl, hc3⟩)⟩, (H1.out.1.weak (by simp)).trans o2 (by simp)⟩
end Go.Proofs.YtglkfgpefpebmaaDoor
