/-
  Package inflate, all streams: a stored block's size and bytes. | The codes said a second time: Complete. | The codes said a second time: New.
-/
import Derived.Test.YtlknhiihdejpeaaGreatDoorMHufFx
import Derived.Deep.RegionLaw
import Derived.Laws.MakeOwn
import Derived.Deep.OwnRows
import Derived.Test.YtlknhiihdejpeaaGreatDoorMHufG
namespace Go.Proofs.YtlknhiihdejpeaaGreatDoor
open Go Go.RowKit

theorem flip32 (n : Nat) (h : n < 4294967296) : bits .xor .u32 IntKind.u32.max (n : Int) = ((4294967295 - n : Nat) : Int) := by
  have h1 : (BitVec.allOnes 32 ^^^ BitVec.ofNat 32 n) = ~~~ BitVec.ofNat 32 n := BitVec.allOnes_xor
  have h2 := congrArg BitVec.toNat h1
  rw [BitVec.toNat_xor, BitVec.toNat_not, BitVec.toNat_allOnes, BitVec.toNat_ofNat, Nat.mod_eq_of_lt (by omega)] at h2
  have := u32_xor_nat 4294967295 n (by omega) h
  rw [show 4294967295 ^^^ n = 4294967295 - n from h2] at this
  exact this
theorem low16 (n : Nat) (h : n < 4294967296) : bits .and .u32 (n : Int) 65535 = ((n % 65536 : Nat) : Int) := by
  have := u32_and_nat n 65535 h (by omega)
  rw [show (65535 : Nat) = 2 ^ 16 - 1 from rfl, Nat.and_two_pow_sub_one_eq_mod] at this
  exact this

set_option maxRecDepth 100000 in
set_option maxHeartbeats 2000000 in
theorem size_short (g gf gw gr : Nat) (K : List Nat) (f : DF) (v vo : Value) (l : List UInt8) (q : Nat) (all x : List UInt8) (w : World) (h : Rn w g gf gw gr K f v vo l q all x) (hq : 8 * l.length < q + toByte q + 32) :
    Calls Tryz.prog 96 #[.pointer (some ⟨g, 0, none⟩), .pointer (some ⟨gf, 0, none⟩)] w fun e w' =>
      e = .returned (.int .i64 2) ∧ Rn w' g gf gw gr K f v vo l (q + toByte q) all x ∧ Only [gr] w w' := by
  have c0 : w.cell? ⟨gf, 0, none⟩ = some (.pointer (some ⟨gr, 0, none⟩)) := Has.cell h.on.flow 0
  have HA := hide (align_any gr v l q w h.rd)
  have H := hide h
  have HQ := hide hq
  clear h hq
  generalize toByte q = t at *
  go_enter Tryz.func96, Tryz.ntmps96
  go_wp2_with fail
  refine (HA.out).mono ?_
  rintro e w1 ⟨rfl, ho1, hr1⟩
  have h1 := H.out.read ho1 hr1
  have c1 : w1.cell? ⟨gf, 0, none⟩ = some (.pointer (some ⟨gr, 0, none⟩)) := Has.cell h1.on.flow 0
  have hB := bits_any gr v l (q + t) 32 w1 hr1
  have ok : okBits l.length (q + t) 32 = false := by have := HQ.out; unfold okBits; simp; omega
  rw [ok] at hB
  generalize gotBits l (q + t) 32 = y at *
  have H1 := hide (And.intro ho1 (And.intro h1 hB))
  clear ho1 hr1 h1 ok hB
  go_wp2_with fail
  refine (H1.out.2.2).mono ?_
  rintro e w2 ⟨rfl, ho2, hr2⟩
  have H2 := hide (And.intro ho2 hr2)
  clear ho2 hr2
  go_wp2_with fail
  go_ret
  exact ⟨rfl, H1.out.2.1.read H2.out.1 H2.out.2, H1.out.1.trans H2.out.1 (by simp)⟩

set_option maxRecDepth 100000 in
set_option maxHeartbeats 2000000 in
theorem size_ok (g gf gw gr : Nat) (K : List Nat) (f : DF) (v vo : Value) (l : List UInt8) (q : Nat) (all x : List UInt8) (w : World) (h : Rn w g gf gw gr K f v vo l q all x) (hq : q + toByte q + 32 ≤ 8 * l.length)
    (n : Nat) (hn : n < 65536) (hv : bitsOf (num l) (q + toByte q) 32 = n + (65535 - n) * 65536) :
    Calls Tryz.prog 96 #[.pointer (some ⟨g, 0, none⟩), .pointer (some ⟨gf, 0, none⟩)] w fun e w' =>
      e = .returned (.int .i64 0) ∧ Rn w' g gf gw gr K { f with left := n } v vo l (q + toByte q + 32) all x ∧ Only [g, gr] w w' := by
  have c0 : w.cell? ⟨gf, 0, none⟩ = some (.pointer (some ⟨gr, 0, none⟩)) := Has.cell h.on.flow 0
  have HA := hide (align_any gr v l q w h.rd)
  have H := hide h
  have HQ := hide (And.intro hq hv)
  clear h hq hv
  generalize toByte q = t at *
  obtain ⟨z, hz⟩ : ∃ z, z = n + (65535 - n) * 65536 := ⟨_, rfl⟩
  have e1 : bits .and .u32 (z : Int) 65535 = (n : Int) := by rw [low16 z (by omega)]; omega
  have e2 := flip32 z (by omega)
  have e3 : ((4294967295 - z : Nat) : Int) / 65536 = (n : Int) := by omega
  have e4 : ((n : Int) != (n : Int)) = false := by simp
  have e5 : (if IntKind.u32.signed = true then -1 else IntKind.u32.max) = IntKind.u32.max := by decide
  generalize (4294967295 - z : Nat) = y at *
  have HZ := hide hz
  go_enter Tryz.func96, Tryz.ntmps96
  go_wp2_with fail
  refine (HA.out).mono ?_
  rintro e w1 ⟨rfl, ho1, hr1⟩
  have h1 := H.out.read ho1 hr1
  have c1 : w1.cell? ⟨gf, 0, none⟩ = some (.pointer (some ⟨gr, 0, none⟩)) := Has.cell h1.on.flow 0
  have hB := bits_any gr v l (q + t) 32 w1 hr1
  have ok : okBits l.length (q + t) 32 = true := by have := HQ.out; unfold okBits; simp; omega
  unfold gotBits at hB
  rw [ok] at hB
  simp only [if_true] at hB
  rw [show (32 : Int).toNat = 32 from rfl, HQ.out.2, ← HZ.out] at hB
  have H1 := hide (And.intro ho1 (And.intro h1 hB))
  clear ho1 hr1 h1 ok hB hz
  go_wp2_with fail
  refine (H1.out.2.2).mono ?_
  rintro e w2 ⟨rfl, ho2, hr2⟩
  have h2 := H1.out.2.1.read ho2 hr2
  have k2 := h2.on.dec.left
  have q2 : w2.frozen? ⟨g, 10, none⟩ = false := Has.free h2.on.dec 10
  have H2 := hide (And.intro ho2 h2)
  clear ho2 hr2 h2
  go_wp2_with fail
  go_ret
  refine ⟨rfl, H2.out.2.cells ((Only.refl [g] _).setCell (by simp) _) (Dc.set_left H2.out.2.on.dec _) rfl rfl ?_, (((H1.out.1.trans H2.out.1 (by simp)).weak (by simp)).setCell (by simp) _)⟩
  exact H2.out.2.keepX ((Only.refl [g] _).setCell (by simp) _)

set_option maxRecDepth 100000 in
set_option maxHeartbeats 2000000 in
theorem size_bad (g gf gw gr : Nat) (K : List Nat) (f : DF) (v vo : Value) (l : List UInt8) (q : Nat) (all x : List UInt8) (w : World) (h : Rn w g gf gw gr K f v vo l q all x) (hq : q + toByte q + 32 ≤ 8 * l.length)
    (z : Nat) (hz : z < 4294967296) (hv : bitsOf (num l) (q + toByte q) 32 = z) (hb : z / 65536 ≠ 65535 - z % 65536) :
    Calls Tryz.prog 96 #[.pointer (some ⟨g, 0, none⟩), .pointer (some ⟨gf, 0, none⟩)] w fun e w' =>
      e = .returned (.int .i64 3) ∧ Rn w' g gf gw gr K f v vo l (q + toByte q + 32) all x ∧ Only [gr] w w' := by
  have c0 : w.cell? ⟨gf, 0, none⟩ = some (.pointer (some ⟨gr, 0, none⟩)) := Has.cell h.on.flow 0
  have HA := hide (align_any gr v l q w h.rd)
  have H := hide h
  have HQ := hide (And.intro hq hv)
  clear h hq hv
  generalize toByte q = t at *
  have e1 : bits .and .u32 (z : Int) 65535 = ((z % 65536 : Nat) : Int) := low16 z (by omega)
  have e2 := flip32 z (by omega)
  have e3 : ((4294967295 - z : Nat) : Int) / 65536 = ((65535 - z / 65536 : Nat) : Int) := by omega
  have e4 : ¬ ((z % 65536 : Nat) : Int) = ((65535 - z / 65536 : Nat) : Int) := by omega
  have e5 : (if IntKind.u32.signed = true then -1 else IntKind.u32.max) = IntKind.u32.max := by decide
  clear hb hz
  generalize (4294967295 - z : Nat) = y at *
  generalize (65535 - z / 65536 : Nat) = y2 at *
  generalize (z % 65536 : Nat) = z2 at *
  go_enter Tryz.func96, Tryz.ntmps96
  go_wp2_with fail
  refine (HA.out).mono ?_
  rintro e w1 ⟨rfl, ho1, hr1⟩
  have h1 := H.out.read ho1 hr1
  have c1 : w1.cell? ⟨gf, 0, none⟩ = some (.pointer (some ⟨gr, 0, none⟩)) := Has.cell h1.on.flow 0
  have hB := bits_any gr v l (q + t) 32 w1 hr1
  have ok : okBits l.length (q + t) 32 = true := by have := HQ.out; unfold okBits; simp; omega
  unfold gotBits at hB
  rw [ok] at hB
  simp only [if_true] at hB
  rw [show (32 : Int).toNat = 32 from rfl, HQ.out.2] at hB
  have H1 := hide (And.intro ho1 (And.intro h1 hB))
  clear ho1 hr1 h1 ok hB
  go_wp2_with fail
  refine (H1.out.2.2).mono ?_
  rintro e w2 ⟨rfl, ho2, hr2⟩
  have h2 := H1.out.2.1.read ho2 hr2
  have H2 := hide (And.intro ho2 h2)
  clear ho2 hr2 h2
  go_wp2_with fail
  go_ret
  exact ⟨rfl, H2.out.2, H1.out.1.trans H2.out.1 (by simp)⟩

theorem left_in (g : Nat) (v : Value) (l : List UInt8) (k : Nat) (w : World) (hR : Rd w g v l k) :
    Calls Tryz.prog 94 #[.pointer (some ⟨g, 0, none⟩)] w fun e w' => e = .returned (.int .i64 ((8 * l.length - k : Nat) : Int)) ∧ ∃ m, w' = w.drewN m := by
  obtain ⟨A, c, rfl, hc, hA⟩ := own_shape hR.2.1
  exact left_any g l.length c A k w hR.1 hR.2.2.1 hR.2.2.2
theorem Rn.drewN {w : World} {g gf gw gr : Nat} {K : List Nat} {f : DF} {v vo : Value} {l : List UInt8} {q : Nat} {all x : List UInt8} (h : Rn w g gf gw gr K f v vo l q all x) (m : Nat) : Rn (w.drewN m) g gf gw gr K f v vo l q all x :=
  h.read ((Only.refl [gr] w).drewN m) (h.rd.drewN m)

set_option maxRecDepth 100000 in
set_option maxHeartbeats 4000000 in
theorem stored_long (g gf gw gr : Nat) (K : List Nat) (f : DF) (v vo : Value) (l : List UInt8) (q : Nat) (all x : List UInt8) (w : World) (h : Rn w g gf gw gr K f v vo l q all x) (n : Nat) (hn : n = min f.left ((8 * l.length - q) / 8)) (hm : all.length ≤ f.most) (hl : f.most < all.length + n) (hmost : f.most ≤ 1073741824) :
    Calls Tryz.prog 97 #[.pointer (some ⟨g, 0, none⟩), .pointer (some ⟨gf, 0, none⟩)] w fun e w' =>
      e = .returned (.int .i64 5) ∧ ∃ m, w' = w.drewN m := by
  have c0 : w.cell? ⟨gf, 0, none⟩ = some (.pointer (some ⟨gr, 0, none⟩)) := Has.cell h.on.flow 0
  have c1 := h.on.dec.left
  have c2 := h.on.dec.most
  have c3 := h.on.dec.wn
  rw [h.on.wn] at c3
  have HL := hide (fun k => left_in gr v l q (w.drewN k) (h.rd.drewN k))
  have hlen := h.rd.2.2.1
  have H := hide h
  have HN := hide hn
  clear h hn
  generalize f.left = c at *
  generalize f.most = M at *
  generalize all.length = n0 at *
  have hrb : 8 * l.length - q ≤ 1125899906842624 := by omega
  generalize 8 * l.length - q = r at *
  have hw : RowKit.wrap64 ((r : Int) / 8) = (r : Int) / 8 := IntWalk.wrap64_in _ ⟨by omega, by omega⟩
  have hmin : (if (r : Int) / 8 < (c : Int) then (r : Int) / 8 else (c : Int)) = (n : Int) := by have := HN.out; split <;> omega
  have hlt : (M : Int) - (n0 : Int) < (n : Int) := by omega
  go_enter Tryz.func97, Tryz.ntmps97
  go_wp2_with fail
  go_quiet ((go_at_call 94; exact Calls.quiet_of (HL.out _)))
  go_wp2_with fail
  go_region
  all_goals
    go_wp2_with fail
    go_ret
    exact ⟨rfl, _, rfl⟩

namespace Rn
variable {w : World} {g gf gw gr : Nat} {K : List Nat} {f : DF} {v vo : Value} {l : List UInt8} {q : Nat} {all x : List UInt8}
/-- One byte more was told. -/
theorem lay {w' : World} {f' : DF} {vo' : Value} {all' x' : List UInt8} (h : Rn w g gf gw gr K f v vo l q all x) (ho : On w' g gf gw K f' (.pointer (some ⟨gr, 0, none⟩)) vo' all' x') (hs : Since [g, gf, gw] w vo w' vo') (h2 : f'.fx = f.fx) : Rn w' g gf gw gr K f' v vo' l q all' x' := by
  have hO : Other w ([g, gf, gw] ++ vo.ownBlock.toList) := fun k hk hlt => h.other k (List.mem_append.2 ((List.mem_append.1 hk).imp (fun hk => by simp only [List.mem_cons, List.not_mem_nil, or_false] at hk ⊢; omega) id)) hlt
  refine ⟨ho, h.rd.only hs.only (fun hm => ?_) (fun b hb hm => ?_), h.vK, h.gwK, h.gK, h.gg, ?_⟩
  · simp only [List.mem_append, List.mem_cons, List.not_mem_nil, or_false] at hm
    rcases hm with (rfl | rfl | rfl) | hm
    · exact h.g_gr rfl
    · exact h.gf_gr rfl
    · exact h.gw_gr rfl
    · exact h.vo_gr (mem_own.1 hm).symm
  · simp only [List.mem_append, List.mem_cons, List.not_mem_nil, or_false] at hm
    rcases hm with (rfl | rfl | rfl) | hm
    · exact h.v_g hb.symm
    · exact h.v_gf hb.symm
    · exact h.gwK (h.vK _ hb)
    · exact (h.on.apart b (h.vK b hb)).1 (mem_own.1 hm)
  · rw [h2]; exact h.fx.imp id (fun hx => hx.keep hs.only hO)
/-- Other rows to stay clear of. -/
theorem more {K' : List Nat} (h : Rn w g gf gw gr K f v vo l q all x) (h1 : ∀ k ∈ K', vo.ownBlock ≠ some k ∧ k < w.heap.size) (h2 : ∀ k ∈ K, k ∈ K') (h3 : gw ∉ K') : Rn w g gf gw gr K' f v vo l q all x :=
  ⟨⟨h.on.dec, h.on.ring, h.on.wb, h.on.wn, h.on.flow, h.on.out, h.on.gw_, h1⟩, h.rd, fun b hb => h2 b (h.vK b hb), h3, fun k hk => h2 k (h.gK k hk), h.gg, h.fx⟩
theorem less {K' : List Nat} (h : Rn w g gf gw gr K' f v vo l q all x) (h2 : ∀ k ∈ K, k ∈ K') (h3 : ∀ b, v.ownBlock = some b → b ∈ K) (h4 : ∀ k ∈ Gs, k ∈ K) : Rn w g gf gw gr K f v vo l q all x :=
  ⟨⟨h.on.dec, h.on.ring, h.on.wb, h.on.wn, h.on.flow, h.on.out, h.on.gw_, fun k hk => h.on.apart k (h2 k hk)⟩, h.rd, h3, fun hm => h.gwK (h2 _ hm), h4, h.gg, h.fx⟩
theorem vo_lt (h : Rn w g gf gw gr K f v vo l q all x) : ∀ b, vo.ownBlock = some b → b < w.heap.size := fun b hb => (h.on.out.lt b hb).2
theorem gw_lt (h : Rn w g gf gw gr K f v vo l q all x) : gw < w.heap.size := by obtain ⟨ws, hw, _⟩ := h.on.ring; exact hw.lt
end Rn

set_option maxRecDepth 100000 in
set_option maxHeartbeats 4000000 in
theorem stored_ok (g gf gw gr : Nat) (K : List Nat) (f : DF) (v vo : Value) (l : List UInt8) (q : Nat) (all x : List UInt8) (w : World) (h : Rn w g gf gw gr K f v vo l q all x) (n : Nat) (hn : n = min f.left ((8 * l.length - q) / 8)) (hq : q % 8 = 0) (hl : all.length + n ≤ f.most) (hmost : f.most ≤ 1073741824) (hx : x.length ≤ all.length) (hlf : f.left < 65536)
    (bs : List UInt8) (hbs : bs = (l.drop (q / 8)).take n) :
    Calls Tryz.prog 97 #[.pointer (some ⟨g, 0, none⟩), .pointer (some ⟨gf, 0, none⟩)] w fun e w' =>
      e = .returned (.int .i64 (if 0 < f.left - n then 2 else 0)) ∧ ∃ vo', Rn w' g gf gw gr K { f with wn := f.wn + n, left := f.left - n } v vo' l (q + 8 * n) (all ++ bs) (x ++ bs) ∧ Since [g, gf, gw, gr] w vo w' vo' := by
  have c0 : w.cell? ⟨gf, 0, none⟩ = some (.pointer (some ⟨gr, 0, none⟩)) := Has.cell h.on.flow 0
  have c1 := h.on.dec.left
  have c2 := h.on.dec.most
  have c3 := h.on.dec.wn
  rw [h.on.wn] at c3
  have HL := hide (fun k => left_in gr v l q (w.drewN k) (h.rd.drewN k))
  have hlen := h.rd.2.2.1
  have hqq := h.rd.2.2.2
  have H := hide h
  have HN := hide (And.intro hn (And.intro hq (And.intro hbs (And.intro hx (And.intro hl hmost)))))
  have hbl : bs.length = n := by rw [hbs, List.length_take, List.length_drop]; omega
  have hrb : 8 * l.length - q ≤ 1125899906842624 := by omega
  have hnl : n ≤ f.left := by omega
  clear h hn hbs hx
  obtain ⟨r, hr⟩ : ∃ r, r = 8 * l.length - q := ⟨_, rfl⟩
  have HR := hide hr
  rw [← hr] at HL hrb
  have hw : RowKit.wrap64 ((r : Int) / 8) = (r : Int) / 8 := IntWalk.wrap64_in _ ⟨by omega, by omega⟩
  have hmin : (if (r : Int) / 8 < (f.left : Int) then (r : Int) / 8 else (f.left : Int)) = (n : Int) := by have := HN.out.1; split <;> omega
  have hlt : ¬ (f.most : Int) - (all.length : Int) < (n : Int) := by omega
  have HBL := hide hbl
  clear hr hbl hqq
  go_enter Tryz.func97, Tryz.ntmps97
  go_wp2_with fail
  go_quiet ((go_at_call 94; exact Calls.quiet_of (HL.out _)))
  go_wp2_with fail
  go_region
  all_goals
    go_wp2_with fail
    have hD := H.out.drewN (nq + 1)
    have hgot : gotBytes l q (n : Int) = bs := by
      have h1 := HN.out
      unfold gotBytes
      rw [if_pos (by unfold okBytes; simp; omega), Int.toNat_natCast, ← h1.2.2.1]
    have hY := bytes_any gr v l q (n : Int) (w.drewN (nq + 1)) hD.rd
    rw [hgot, HBL.out] at hY
    refine hY.mono ?_
    rintro e w1 ⟨rv, rfl, hrv, ho1, hr1⟩
    obtain ⟨A, cc, rfl, hcc, _⟩ := own_shape hrv
    have hR1 := hD.read ho1 hr1
    have hlt1 : ∀ b, (Value.slice A n cc).ownBlock = some b → w.heap.size ≤ b ∧ b < w1.heap.size := fun b hb => hrv.lt b hb
    have hR2 : Rn w1 g gf gw gr ((Value.slice A n cc).ownBlock.toList ++ K) f v vo l (q + 8 * n) all x := by
      refine hR1.more (fun k hk => ?_) (fun k hk => List.mem_append.2 (.inr hk)) (fun hm => ?_)
      · rcases List.mem_append.1 hk with hk | hk
        · have h1 := hlt1 k (mem_own.1 hk)
          refine ⟨fun he => ?_, h1.2⟩
          have := H.out.vo_lt k he
          omega
        · exact hR1.on.apart k hk
      · rcases List.mem_append.1 hm with hm | hm
        · have h1 := hlt1 gw (mem_own.1 hm)
          have := H.out.gw_lt
          omega
        · exact H.out.gwK hm
    have hS1 : Since [g, gf, gw, gr] w vo w1 vo := (Since.refl _ _ _).step ((((Only.refl [gr] w).drewN (nq + 1)).trans ho1 (by simp)).weak (by simp))
    have H1 := hide (And.intro hR2 (And.intro hS1 (And.intro hrv hlt1)))
    clear hD hgot hY hR1 hR2 hS1 hrv hlt1 ho1 hr1
    go_wp2_with fail
    go_loopw [44] (fun i wr => ∃ (j : Nat) (vo' : Value), j ≤ n ∧ i = .int .i64 j ∧ Rn wr g gf gw gr ((Value.slice A n cc).ownBlock.toList ++ K) { f with wn := f.wn + j } v vo' l (q + 8 * n) (all ++ bs.take j) (x ++ bs.take j) ∧ Since [g, gf, gw, gr] w vo wr vo' ∧ wr.ownsRow 0 5 1 (.slice A n cc) n (bvals bs)) (fun i _ => n - (intOf i).toNat)
    case atStart => exact ⟨0, vo, Nat.zero_le _, rfl, by simpa using H1.out.1, H1.out.2.1, own_mono H1.out.2.2.1 (Nat.zero_le _)⟩
    case round =>
      obtain ⟨j, vo', hj, rfl, hR, hS, hV⟩ := hrel
      by_cases hjn : j < n
      · have hjb : j < bs.length := by rw [HBL.out]; exact hjn
        obtain ⟨gb, hgb, _, _, _, hcell⟩ := own_open hV (by omega)
        have hcj := hcell j _ (bvals_get bs j hjb)
        have hLay := lay_any g gf gw ((Value.slice A n cc).ownBlock.toList ++ K) _ _ vo' _ _ bs[j] wr hR.on (by have := HN.out; rw [List.length_append, List.length_take]; omega) (by have := HN.out; rw [List.length_append, List.length_take]; omega)
        have htk : bs.take j ++ [bs[j]] = bs.take (j + 1) := (take_snoc hjb).symm
        have HJ := hide (And.intro hR (And.intro hS (And.intro hV (And.intro hgb (And.intro hLay htk)))))
        subst hgb
        generalize bs[j] = b at *
        clear hR hS hV hLay hcell htk
        go_wp2_with fail
        refine (HJ.out.2.2.2.2.1).mono ?_
        rintro e w2 ⟨rfl, vo2, hon2, hs2⟩
        have hR2 := HJ.out.1.lay hon2 hs2 rfl
        rw [List.append_assoc, List.append_assoc, HJ.out.2.2.2.2.2] at hR2
        have hS2 := HJ.out.2.1.trans hs2 (fun i hi _ => by simp only [List.mem_cons, List.not_mem_nil, or_false] at hi ⊢; omega)
        have hV2 : w2.ownsRow 0 5 1 (.slice (some ⟨gb, 0, none⟩) n cc) n (bvals bs) := own_keep HJ.out.2.2.1 hs2.only (fun b hb hm => by
          have hbK : b ∈ (Value.slice (some ⟨gb, 0, none⟩) n cc).ownBlock.toList ++ K := List.mem_append.2 (.inl (mem_own.2 hb))
          simp only [List.mem_append, List.mem_cons, List.not_mem_nil, or_false] at hm
          rcases hm with (rfl | rfl | rfl) | hm
          · exact own_ne HJ.out.2.2.1 HJ.out.1.on.dec (DF.ty_ne _ (by decide) (by decide)) hb.symm
          · exact own_ne HJ.out.2.2.1 HJ.out.1.on.flow (by decide) hb.symm
          · exact HJ.out.1.gwK hbK
          · exact (HJ.out.1.on.apart b hbK).1 (mem_own.1 hm))
        have HJ2 := hide (And.intro hR2 (And.intro hS2 hV2))
        clear hR2 hS2 hV2 hon2 hs2
        go_wp2_with fail
        go_roundw
        case rel => exact ⟨j + 1, vo2, hjn, by go_num, HJ2.out.1, HJ2.out.2.1, HJ2.out.2.2⟩
        case measure => simp [intOf]; omega
      · obtain rfl : j = n := by omega
        rw [List.take_of_length_le (by rw [HBL.out]; exact Nat.le_refl _)] at hR
        have k10 := hR.on.dec.left
        have f10 : wr.frozen? ⟨g, 10, none⟩ = false := Has.free hR.on.dec 10
        have HJ := hide (And.intro hR hS)
        have hz : (f.left : Int) - (j : Int) = ((f.left - j : Nat) : Int) := by omega
        clear hR hS hV hl hnl hmin
        have hfin : ∀ W, W = wr.setCell ⟨g, 10, none⟩ (.int .i64 ((f.left - j : Nat) : Int)) → ∃ vo', Rn W g gf gw gr K { f with wn := f.wn + j, left := f.left - j } v vo' l (q + 8 * j) (all ++ bs) (x ++ bs) ∧ Since [g, gf, gw, gr] w vo W vo' := fun W hW => by
          subst hW
          have oW : Only [g] wr (wr.setCell ⟨g, 10, none⟩ (.int .i64 ((f.left - j : Nat) : Int))) := (Only.refl [g] _).setCell (by simp) _
          have hR' := HJ.out.1.less (K := K) (fun k hk => List.mem_append.2 (.inr hk)) H.out.vK H.out.gK
          exact ⟨vo', hR'.cells oW (Dc.set_left hR'.on.dec _) rfl rfl (hR'.keepX oW), HJ.out.2.step (oW.weak (by simp))⟩
        have HF := hide hfin
        clear hfin
        obtain ⟨z, hzz⟩ : ∃ z, z = f.left - j := ⟨_, rfl⟩
        rw [← hzz] at hz HF
        have HZ := hide hzz
        clear hzz
        by_cases h0 : 0 < z
        · go_wp2_with fail
          go_ret
          all_goals rw [← HZ.out]
          all_goals first | exact ⟨rfl, HF.out _ rfl⟩ | (exfalso; have := HZ.out; omega)
        · go_wp2_with fail
          go_ret
          all_goals rw [← HZ.out]
          all_goals first | exact ⟨rfl, HF.out _ rfl⟩ | (exfalso; have := HZ.out; omega)
end Go.Proofs.YtlknhiihdejpeaaGreatDoor


namespace Go.Proofs.YtlknhiihdejpeaaGreatDoor
open Go Go.RowKit

/-- What one symbol takes of 1 << 15. -/
def takes (x : Nat) : Nat := if 1 ≤ x ∧ x ≤ 15 then 2 ^ (15 - x) else 0
theorem Sm_snoc (l : List UInt8) (b : UInt8) (n : Nat) (hn : n ≤ 16) : Sm (cn (l ++ [b])) n = Sm (cn l) n + if 1 ≤ b.toNat ∧ b.toNat < n then 2 ^ (15 - b.toNat) else 0 := by
  induction n with
  | zero => simp [Sm]
  | succ n ih =>
    show Sm (cn (l ++ [b])) n + cn (l ++ [b]) n * 2 ^ (15 - n) = Sm (cn l) n + cn l n * 2 ^ (15 - n) + _
    rw [ih (by omega), cn_snoc]
    by_cases h1 : b.toNat = n ∧ n ≠ 0
    · rw [if_pos h1, if_neg (by omega), if_pos (by omega), h1.1, Nat.add_mul]; omega
    · rw [if_neg h1]
      by_cases h2 : 1 ≤ b.toNat ∧ b.toNat < n
      · rw [if_pos h2, if_pos (by omega)]; simp only [Nat.add_zero]; omega
      · rw [if_neg h2, if_neg (by omega)]; simp only [Nat.add_zero]
theorem Sm_take {l : List UInt8} {j : Nat} (h : j < l.length) : Sm (cn (l.take (j + 1))) 16 = Sm (cn (l.take j)) 16 + takes (ln l j) := by
  rw [take_snoc h, Sm_snoc _ _ _ (Nat.le_refl _), ln_get h]
  unfold takes
  by_cases h2 : 1 ≤ l[j].toNat ∧ l[j].toNat ≤ 15
  · rw [if_pos h2, if_pos (by omega)]
  · rw [if_neg h2, if_neg (by omega)]
/-- The sum ahead of a symbol. -/
def sumTo (l : List UInt8) (j : Nat) : Nat := Sm (cn (l.take j)) 16
theorem sumTo_zero (l : List UInt8) : sumTo l 0 = 0 := by unfold sumTo; rw [List.take_zero]; decide +kernel
theorem sumTo_succ {l : List UInt8} {j : Nat} (h : j < l.length) : sumTo l (j + 1) = sumTo l j + takes (ln l j) := Sm_take h
theorem sumTo_all (l : List UInt8) : sumTo l l.length = Sm (cn l) 16 := by unfold sumTo; rw [List.take_length]
theorem takes_le (x : Nat) : takes x ≤ 16384 := by
  unfold takes
  split
  · exact Nat.pow_le_pow_right (n := 2) (j := 14) (by decide) (by omega)
  · omega
theorem sumTo_le (l : List UInt8) (j : Nat) (h : j ≤ l.length) : sumTo l j ≤ 16384 * j := by
  induction j with
  | zero => rw [sumTo_zero]; omega
  | succ j ih =>
    rw [sumTo_succ h]
    have := ih (by omega)
    have := takes_le (ln l j)
    omega

set_option maxRecDepth 100000 in
set_option maxHeartbeats 2000000 in
theorem tComplete_any (A : Option Addr) (n c : Nat) (l : List UInt8) (w : World) (hb : Holds w 1 A n (bvals l)) (hl : l.length = n) (hn : n ≤ 1000000) :
    Calls Tryz.prog 55 #[.slice A n c] w fun e w' => e = .returned (.int .i64 (cmpI (Sm (cn l) 16 : Nat) 32768)) ∧ w = w' := by
  subst hl
  have HB := hide hb
  clear hb
  go_enter Tryz.func55, Tryz.ntmps55
  go_wp2_with fail
  go_loop [3, 4] (fun v i => ∃ j : Nat, j ≤ l.length ∧ i = .int .i64 j ∧ v = .int .i64 (sumTo l j : Nat)) (fun _ i => l.length - (intOf i).toNat)
  case atStart => exact ⟨0, Nat.zero_le _, rfl, by rw [sumTo_zero]; rfl⟩
  case round =>
    obtain ⟨j, hj, rfl, rfl⟩ := hrel
    by_cases hlt : j < l.length
    · obtain ⟨b, o, rfl, hc2⟩ := HB.out.addr (by simpa using (show 0 < l.length by omega))
      have hcell : w.cell? ⟨b, o + j, none⟩ = some (.int .u8 (l[j].toNat : Int)) := hc2 j _ (bvals_get l j hlt)
      have hs := sumTo_succ hlt
      have hsl := sumTo_le l j hj
      rw [ln_get hlt] at hs
      have hx := l[j].toNat_lt
      clear hc2
      generalize l[j].toNat = x at *
      generalize sumTo l j = s at *
      by_cases h1 : 1 ≤ x ∧ x ≤ 15
      · have ht : takes x = 2 ^ (15 - x) := by unfold takes; rw [if_pos h1]
        have htl := takes_le x
        rw [ht] at hs htl
        obtain ⟨q, hq⟩ : ∃ q, q = 15 - x := ⟨_, rfl⟩
        rw [← hq] at hs htl
        have eq : (15 : Int) - (x : Int) = (q : Int) := by omega
        have ep : (2 : Int) ^ q = ((2 ^ q : Nat) : Int) := (two_pow_cast q).symm
        have HS := hide hs
        obtain ⟨h1, h2⟩ := h1
        have hq15 : q < 64 := by omega
        clear hs hq ht
        generalize 2 ^ q = p at *
        go_wp2_with fail
        go_round
        case rel => exact ⟨j + 1, hlt, by go_num, by rw [HS.out, Int.natCast_add]⟩
        case measure => simp [intOf]; omega
      · have ht : takes x = 0 := by unfold takes; rw [if_neg h1]
        rw [ht] at hs
        have HS := hide hs
        have h2 : x = 0 ∨ 15 < x := by omega
        clear hs ht h1
        rcases h2 with rfl | h2
        · go_wp2_with fail
          go_round
          case rel => exact ⟨j + 1, hlt, by go_num, by rw [HS.out]; rfl⟩
          case measure => simp [intOf]; omega
        · have h3 : 1 ≤ x := by omega
          go_wp2_with fail
          go_round
          case rel => exact ⟨j + 1, hlt, by go_num, by rw [HS.out]; rfl⟩
          case measure => simp [intOf]; omega
    · obtain rfl : j = l.length := by omega
      rw [sumTo_all]
      obtain ⟨s, hs⟩ : ∃ s, s = Sm (cn l) 16 := ⟨_, rfl⟩
      rw [← hs]
      have HS := hide hs
      clear hs
      rcases Nat.lt_trichotomy s 32768 with h | h | h
      · have hz : cmpI (s : Int) 32768 = -1 := by unfold cmpI; rw [if_pos (by omega)]
        rw [HS.out] at hz
        have HZ := hide hz
        have h' : (s : Int) < 32768 := by omega
        clear hz h
        go_wp2_with fail
        go_ret
        exact ⟨ret_int HZ.out.symm, rfl⟩
      · have hz : cmpI (s : Int) 32768 = 0 := by subst h; rfl
        rw [HS.out] at hz
        have HZ := hide hz
        clear hz
        subst h
        go_wp2_with fail
        go_ret
        exact ⟨ret_int HZ.out.symm, rfl⟩
      · have hz : cmpI (s : Int) 32768 = 1 := by unfold cmpI; rw [if_neg (by omega), if_pos (by omega)]
        rw [HS.out] at hz
        have HZ := hide hz
        have h' : (32768 : Int) < (s : Int) := by omega
        have h'' : ¬ (s : Int) < 32768 := by omega
        clear hz h
        go_wp2_with fail
        go_ret
        exact ⟨ret_int HZ.out.symm, rfl⟩
end Go.Proofs.YtlknhiihdejpeaaGreatDoor


namespace Go.Proofs.YtlknhiihdejpeaaGreatDoor
open Go Go.RowKit

def nzc (l : List UInt8) : Nat := l.countP (fun b => b.toNat != 0)
def oneOf (l : List UInt8) : Nat := l.foldl (fun a b => if b.toNat ≠ 0 then b.toNat else a) 0
theorem nzc_snoc (l : List UInt8) (b : UInt8) : nzc (l ++ [b]) = nzc l + (if b.toNat ≠ 0 then 1 else 0) := by
  unfold nzc
  by_cases h : b.toNat = 0 <;> simp [h, List.countP_append]
theorem oneOf_snoc (l : List UInt8) (b : UInt8) : oneOf (l ++ [b]) = if b.toNat ≠ 0 then b.toNat else oneOf l := by
  unfold oneOf; rw [List.foldl_append]; rfl
theorem snoc_ind {P : List UInt8 → Prop} (h0 : P []) (h1 : ∀ l b, P l → P (l ++ [b])) (l : List UInt8) : P l := by
  have key : ∀ n, n ≤ l.length → P (l.take n) := by
    intro n
    induction n with
    | zero => intro _; simpa using h0
    | succ n ih =>
      intro hn
      rw [take_snoc (by omega)]
      exact h1 _ _ (ih (by omega))
  have := key l.length (Nat.le_refl _)
  rwa [List.take_length] at this
theorem nzc_zero {l : List UInt8} (h : nzc l = 0) (n : Nat) : cn l n = 0 := by
  induction l using snoc_ind with
  | h0 => exact cn_nil n
  | h1 l b ih =>
    rw [nzc_snoc] at h
    rw [cn_snoc, ih (by omega)]
    by_cases hb : b.toNat ≠ 0
    · rw [if_pos hb] at h; omega
    · rw [if_neg (by omega)]
theorem nzc_one {l : List UInt8} (h : nzc l = 1) (n : Nat) : cn l n = if n = oneOf l ∧ n ≠ 0 then 1 else 0 := by
  induction l using snoc_ind with
  | h0 => simp [nzc] at h
  | h1 l b ih =>
    rw [nzc_snoc] at h
    rw [cn_snoc, oneOf_snoc]
    by_cases hb : b.toNat ≠ 0
    · rw [if_pos hb] at h ⊢
      rw [nzc_zero (by omega), Nat.zero_add]
      by_cases h2 : b.toNat = n ∧ n ≠ 0
      · rw [if_pos h2, if_pos (by omega)]
      · rw [if_neg h2, if_neg (by omega)]
    · rw [if_neg hb] at h ⊢
      have e : (if b.toNat = n ∧ n ≠ 0 then 1 else 0) = 0 := if_neg (by omega)
      rw [ih (by omega), e, Nat.add_zero]
theorem oneOf_pos {l : List UInt8} (h : nzc l ≠ 0) : oneOf l ≠ 0 := by
  induction l using snoc_ind with
  | h0 => simp [nzc] at h
  | h1 l b ih =>
    rw [nzc_snoc] at h
    rw [oneOf_snoc]
    by_cases hb : b.toNat ≠ 0
    · rw [if_pos hb]; exact hb
    · rw [if_neg hb] at h ⊢; exact ih (by omega)
theorem nzc_Bf {l : List UInt8} (h : ∀ i, ln l i ≤ 15) : nzc l = Bf (cn l) 16 := by
  have key : ∀ j, j ≤ l.length → nzc (l.take j) = Bf (cn (l.take j)) 16 := by
    intro j
    induction j with
    | zero => intro _; rw [List.take_zero]; decide +kernel
    | succ j ih =>
      intro hj
      rw [take_snoc (by omega), nzc_snoc, ih (by omega)]
      have hb := h j
      rw [ln_get (by omega)] at hb
      have step : ∀ (m : List UInt8) (b : UInt8) (n : Nat), Bf (cn (m ++ [b])) n = Bf (cn m) n + if b.toNat ≠ 0 ∧ b.toNat < n then 1 else 0 := by
        intro m b n
        induction n with
        | zero => simp [Bf]
        | succ n ih2 =>
          rw [Bf_succ, Bf_succ, ih2, cn_snoc]
          by_cases h1 : b.toNat = n ∧ n ≠ 0
          · rw [if_pos h1, if_neg (by omega), if_pos (by omega)]; omega
          · rw [if_neg h1]
            by_cases h2 : b.toNat ≠ 0 ∧ b.toNat < n
            · rw [if_pos h2, if_pos (by omega)]; omega
            · rw [if_neg h2, if_neg (by omega)]; rfl
      rw [step]
      by_cases h1 : l[j].toNat ≠ 0
      · rw [if_pos h1, if_pos (by omega)]
      · rw [if_neg h1, if_neg (by omega)]
  have := key l.length (Nat.le_refl _)
  rwa [List.take_length] at this

/-- Both say the same of which tables may be. -/
theorem may_iff {l : List UInt8} (h : ∀ i, ln l i ≤ 15) : mayBe (cn l) = true ↔ ¬ (32768 < Sm (cn l) 16 ∨ (Sm (cn l) 16 < 32768 ∧ 0 < nzc l ∧ ¬ (nzc l = 1 ∧ oneOf l = 1))) := by
  have hB := nzc_Bf h
  constructor
  · intro hm hc
    have hle := mayBe_le hm
    unfold mayBe at hm
    rcases hc with hc | ⟨h1, h2, h3⟩
    · omega
    · rcases Bool.or_eq_true _ _ ▸ hm with hm | hm
      · rcases Bool.or_eq_true _ _ ▸ hm with hm | hm
        · have := of_decide_eq_true hm; omega
        · have h0 := (tEq_iff _ _).1 hm
          have : ∀ n, n ≤ 16 → Bf (cn l) n = 0 := by
            intro n hn
            induction n with
            | zero => rfl
            | succ n ih => rw [Bf_succ, ih (by omega), h0 n (by omega)]
          rw [this 16 (Nat.le_refl _)] at hB; omega
      · have h0 := (tEq_iff _ _).1 hm
        have : ∀ n, n ≤ 16 → Bf (cn l) n = if n ≤ 1 then 0 else 1 := by
          intro n hn
          induction n with
          | zero => rfl
          | succ n ih =>
            rw [Bf_succ, ih (by omega), h0 n (by omega)]
            by_cases h1 : n = 0
            · subst h1; rfl
            · by_cases h2 : n = 1
              · subst h2; rfl
              · rw [if_neg (by omega), if_neg h2, if_neg (by omega)]
        rw [this 16 (Nat.le_refl _), if_neg (by omega)] at hB
        refine h3 ⟨hB, ?_⟩
        have ho := oneOf_pos (l := l) (by omega)
        have h1' := nzc_one hB 1
        have := h0 1 (by omega)
        rw [if_pos rfl] at this
        rw [this] at h1'
        by_cases hc : (1 = oneOf l ∧ (1 : Nat) ≠ 0)
        · exact hc.1.symm
        · rw [if_neg hc] at h1'; omega
  · intro hc
    unfold mayBe
    by_cases h1 : Sm (cn l) 16 = 32768
    · rw [decide_eq_true h1]; rfl
    · have h2 : ¬ 0 < nzc l ∨ (nzc l = 1 ∧ oneOf l = 1) := by
        by_cases h3 : 0 < nzc l
        · right
          exact Decidable.byContradiction fun h4 => hc (.inr ⟨by omega, h3, h4⟩)
        · exact .inl h3
      rcases h2 with h2 | ⟨h2, h3⟩
      · have : tEq (cn l) (fun _ => 0) = true := (tEq_iff _ _).2 fun i _ => nzc_zero (by omega) i
        rw [this]; simp
      · have : tEq (cn l) (fun i => if i = 1 then 1 else 0) = true := (tEq_iff _ _).2 fun i _ => by
          rw [nzc_one h2, h3]
          by_cases hi : i = 1
          · rw [if_pos (by omega), if_pos hi]
          · rw [if_neg (by omega), if_neg hi]
        rw [this]; simp
end Go.Proofs.YtlknhiihdejpeaaGreatDoor

