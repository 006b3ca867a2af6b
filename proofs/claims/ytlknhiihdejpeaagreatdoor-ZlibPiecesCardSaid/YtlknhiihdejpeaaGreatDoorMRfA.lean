/-
  The document's inflate: its state, bits that are read, a byte that is put out. | The document's inflate: stored bytes. | The document's inflate: what a length's symbol says, a distance's.
-/
import Derived.Test.YtlknhiihdejpeaaGreatDoorMHBits
import Derived.Test.YtlknhiihdejpeaaGreatDoorMGrow
import Derived.Test.YtlknhiihdejpeaaGreatDoorMInfN
import Derived.Test.YtlknhiihdejpeaaGreatDoorMHufV
import Derived.Test.YtlknhiihdejpeaaGreatDoorMHufFx
import Derived.Deep.QuietTactic
import Derived.BigQuiet
namespace Go.Proofs.YtlknhiihdejpeaaGreatDoor
open Go Go.RowKit

set_option maxHeartbeats 400000 in
theorem tAlign (g c k : Nat) (A : Option Addr) (l : List UInt8) (w : World) (hR : TRd w g A c l k) (hA : 0 < l.length → ∀ ad, A = some ad → ad.block ≠ g) :
    Calls Tryz.prog 70 #[.pointer (some ⟨g, 0, none⟩)] w fun e w' =>
      e = .returned (.int .i64 (toByte k : Nat)) ∧ Only [g] w w' ∧ TRd w' g A c l (k + toByte k) := by
  have hk := hR.le
  have hl := hR.small
  have h7 : toByte k ≤ 7 := by unfold toByte; omega
  have ht : k + toByte k ≤ 8 * l.length ∧ (k + toByte k) % 8 = 0 ∧ ∀ j, j < toByte k → ¬ (k + j) % 8 = 0 := by
    unfold toByte; exact ⟨by omega, by omega, by omega⟩
  go_enter Tryz.func70, Tryz.ntmps70
  go_wp2
  go_loopw [3] (fun i wr => ∃ j : Nat, j ≤ toByte k ∧ i = .int .i64 j ∧ Only [g] w wr ∧ TRd wr g A c l (k + j)) (fun i _ => toByte k - (intOf i).toNat)
  case atStart => exact ⟨0, Nat.zero_le _, rfl, Only.refl _ _, hR⟩
  case round =>
    obtain ⟨j, hj, rfl, ho, hT⟩ := hrel
    have c1 : wr.cell? ⟨g, 1, none⟩ = some (.int .i64 ((k + j : Nat) : Int)) := hT.has.cell 1
    have f1 : wr.frozen? ⟨g, 1, none⟩ = false := hT.has.free 1
    by_cases hlt : j < toByte k
    · have h8 := ht.2.2 j hlt
      have e8 : (((k : Int) + j) % 8 == 0) = false := by simp; omega
      have e9 : (((k : Int) + j) % 8 != 0) = true := by simp; omega
      have hset := hT.set (j := k + (j + 1)) (by omega) hA
      have hgo := ho.setCell (p := ⟨g, 1, none⟩) (by simp) (.int .i64 ((k + (j + 1) : Nat) : Int))
      have ec : ((k + (j + 1) : Nat) : Int) = (k : Int) + j + 1 := by omega
      rw [ec] at hset hgo
      clear ht ec
      go_wp2
      go_roundw
      case rel => exact ⟨j + 1, hlt, by go_num, hgo, hset⟩
      case measure => simp [intOf]; omega
    · obtain rfl : j = toByte k := by omega
      have h8 := ht.2.1
      have e9 : (((k : Int) + (toByte k : Nat)) % 8 != 0) = false := by simp; omega
      clear ht h8
      go_wp2
      go_ret
      exact ⟨rfl, ho, hT⟩


/-- The state of the document's inflate in block gs, its reader in gr: p bits of B passed, out is out. All lie in blocks from b0 on, B ahead of them. -/
structure Rs (w : World) (b0 gs gr : Nat) (A : Option Addr) (c : Nat) (B : List UInt8) (p : Nat) (v : Value) (out : List UInt8) (most : Nat) : Prop where
  has : Has w gs 106 #[.pointer (some ⟨gr, 0, none⟩), v, .int .i64 (most : Int)]
  rd : TRd w gr A c B p
  own : w.ownsRow b0 5 1 v out.length (bvals out)
  inp : 0 < B.length → ∀ ad, A = some ad → ad.block < b0
  ggr : b0 ≤ gr
  ggs : b0 ≤ gs
  sml : out.length ≤ most ∧ most ≤ 1073741824

namespace Rs
variable {w w' : World} {b0 gs gr c p most : Nat} {A : Option Addr} {B : List UInt8} {v : Value} {out : List UInt8}
theorem ne (h : Rs w b0 gs gr A c B p v out most) : gr ≠ gs := fun e => by
  have h1 := h.has
  rw [← e] at h1
  exact absurd (show 106 = 104 by
    have h2 := h.rd.has
    unfold Has at h1 h2
    rw [h1] at h2
    injection h2 with h2
    injection h2) (by decide)
theorem vs (h : Rs w b0 gs gr A c B p v out most) : ∀ b, v.ownBlock = some b → b ≠ gs ∧ b ≠ gr := fun b hb => ⟨fun e => own_ne h.own h.has (by decide) (by rw [← e]; exact hb.symm), fun e => own_ne h.own h.rd.has (by decide) (by rw [← e]; exact hb.symm)⟩
theorem hA (h : Rs w b0 gs gr A c B p v out most) : 0 < B.length → ∀ ad, A = some ad → ad.block ≠ gr := fun h0 ad ha => by have := h.inp h0 ad ha; have := h.ggr; omega
/-- The reader's block alone is changed. -/
theorem read (h : Rs w b0 gs gr A c B p v out most) {q : Nat} (ho : Only [gr] w w') (hr : TRd w' gr A c B q) : Rs w' b0 gs gr A c B q v out most :=
  ⟨h.has.only ho (by simp; exact fun e => h.ne e.symm), hr, own_keep h.own ho (fun b hb => by simp; exact (h.vs b hb).2), h.inp, h.ggr, h.ggs, h.sml⟩
theorem since_read (_ : Rs w b0 gs gr A c B p v out most) (ho : Only [gr] w w') : Since [gs, gr] w v w' v :=
  ⟨ho.weak (fun k hk _ => by simp at hk; simp [hk]), fun _ h => .inl h⟩
theorem idle (h : Rs w b0 gs gr A c B p v out most) (ho : Only [] w w') : Rs w' b0 gs gr A c B p v out most :=
  ⟨h.has.only ho (by simp), h.rd.only ho (by simp) (by simp), own_keep h.own ho (by simp), h.inp, h.ggr, h.ggs, h.sml⟩
theorem since_idle (ho : Only [] w w') : Since [gs, gr] w v w' v :=
  ⟨ho.of_nil, fun _ h => .inl h⟩
/-- A byte is put out. -/
theorem push (h : Rs w b0 gs gr A c B p v out most) {x : UInt8} {v' : Value} (hp : Pushed w b0 v out x w' v') (hm : out.length < most) : Rs (w'.setCell ⟨gs, 1, none⟩ v') b0 gs gr A c B p v' (out ++ [x]) most := by
  have h1 := hp.has h.has (fun e => (h.vs gs e.symm).1 rfl)
  have h2 : TRd w' gr A c B p := h.rd.only hp.only (fun hm => by
    cases hv : v.ownBlock with
    | none => rw [hv] at hm; simp at hm
    | some k => rw [hv] at hm; simp at hm; exact (h.vs k hv).2 hm.symm) (fun h0 ad ha hlt hm => by
    cases hv : v.ownBlock with
    | none => rw [hv] at hm; simp at hm
    | some k =>
      rw [hv] at hm
      simp at hm
      have h3 := h.inp h0 ad ha
      rcases h.own.2 with ⟨rfl, _⟩ | ⟨g, cap, cur, rfl, hb, _⟩
      · simp [Value.ownBlock] at hv
      · have : g = k := by simpa [Value.ownBlock] using hv
        omega)
  have o1 : Only [gs] w' (w'.setCell ⟨gs, 1, none⟩ v') := (Only.refl [gs] w').setCell (by simp) _
  have hvs' : ∀ b, v'.ownBlock = some b → b ∉ [gs] := fun b hb hm => by
    have : b = gs := by simpa using hm
    subst this
    exact own_ne hp.own h1 (by decide) hb.symm
  refine ⟨h1.set 1 v', h2.only o1 (by simp; exact h.ne) (fun h0 ad ha hlt hm => by have := h.inp h0 ad ha; have := h.ggs; simp at hm; omega), ?_, h.inp, h.ggr, h.ggs, by rw [List.length_append, List.length_singleton]; exact ⟨by omega, h.sml.2⟩⟩
  rw [List.length_append, List.length_singleton]
  exact own_keep hp.own o1 hvs'
theorem since_push {x : UInt8} {v' : Value} (hp : Pushed w b0 v out x w' v') : Since [gs, gr] w v (w'.setCell ⟨gs, 1, none⟩ v') v' :=
  (hp.since [gs, gr] w v (Since.refl _ _ _)).step ((Only.refl [gs, gr] w').setCell (by simp) _)
end Rs

theorem okBits_yes {len p n : Nat} (hn : n ≤ 32) (h : p + n ≤ 8 * len) : okBits len p (n : Int) = true := decide_eq_true (by omega)
theorem okBits_no {len p n : Nat} (h : 8 * len < p + n) (hp : p ≤ 8 * len) : okBits len p (n : Int) = false := decide_eq_false (by omega)

/-- Bits that are there. -/
theorem rBits_yes {w : World} {b0 gs gr c p most : Nat} {A : Option Addr} {B : List UInt8} {v : Value} {out : List UInt8} (h : Rs w b0 gs gr A c B p v out most) (n : Nat) (hn : n ≤ 32) (hp : p + n ≤ 8 * B.length) :
    Calls Tryz.prog 57 #[.pointer (some ⟨gr, 0, none⟩), .int .i64 (n : Int)] w fun e w' => e = .returned (.tuple #[.int .u32 ((num B / 2 ^ p % 2 ^ n : Nat) : Int), .bool true]) ∧ Rs w' b0 gs gr A c B (p + n) v out most ∧ Since [gs, gr] w v w' v := by
  refine (tBits gr c p A B (n : Int) w h.rd h.hA).mono ?_
  rintro e w' ⟨rfl, ho, hr⟩
  rw [okBits_yes hn hp] at hr
  refine ⟨?_, h.read ho hr, h.since_read ho⟩
  unfold gotBits
  rw [okBits_yes hn hp]
  rfl
/-- Bits that are not there. -/
theorem rBits_no {w : World} {b0 gs gr c p most : Nat} {A : Option Addr} {B : List UInt8} {v : Value} {out : List UInt8} (h : Rs w b0 gs gr A c B p v out most) (n : Nat) (hp : 8 * B.length < p + n) :
    Calls Tryz.prog 57 #[.pointer (some ⟨gr, 0, none⟩), .int .i64 (n : Int)] w fun e w' => e = .returned (.tuple #[.int .u32 0, .bool false]) ∧ Rs w' b0 gs gr A c B p v out most ∧ Since [gs, gr] w v w' v := by
  refine (tBits gr c p A B (n : Int) w h.rd h.hA).mono ?_
  rintro e w' ⟨rfl, ho, hr⟩
  rw [okBits_no hp h.rd.le] at hr
  refine ⟨?_, h.read ho hr, h.since_read ho⟩
  unfold gotBits
  rw [okBits_no hp h.rd.le]
  rfl

/-- A part of the document's ends with an error. -/
def RE (N a most : Nat) (s : GSt) (e : Nat) (out : List UInt8) : Prop := e ≠ 0 ∧ ∃ u x, Ends fixedL fixedD2 N a most s e u ∧ out = u.out ++ x
theorem RE.from {N a most : Nat} {s t : GSt} {e : Nat} {out : List UInt8} (h : RE N a most t e out) (hs : Steps fixedL fixedD2 N a most s t) : RE N a most s e out := by
  obtain ⟨he, u, x, h1, h2⟩ := h
  exact ⟨he, u, x, hs.ends h1, h2⟩
theorem RE.bad {N a most : Nat} {s t : GSt} {e q : Nat} {out : List UInt8} (hs : Steps fixedL fixedD2 N a most s t) (hk : t.k ≠ 11) (hn : t.nx fixedL fixedD2 N most = (q, .error e)) (hq : q ≤ 8 * a) (he : e ≠ 0) (ho : ∃ x, out = t.out ++ x) : RE N a most s e out := by
  obtain ⟨x, hx⟩ := ho
  exact ⟨he, t, x, hs.bad hk hn hq, hx⟩
theorem RE.short {N a most : Nat} {s t : GSt} {out : List UInt8} (hs : Steps fixedL fixedD2 N a most s t) (hk : t.k ≠ 11) (hq : 8 * a < (t.nx fixedL fixedD2 N most).1) (ho : out = t.out) : RE N a most s 2 out :=
  ⟨by decide, t, [], hs.short hk hq, by simp [ho]⟩
/-- What comes of a block: it is done, or it ends. -/
def RO (N a most : Nat) (s : GSt) (e p : Nat) (out : List UInt8) : Prop :=
  (e = 0 ∧ ∃ t, Steps fixedL fixedD2 N a most s t ∧ t.k = behindK s.last ∧ t.last = s.last ∧ t.p = p ∧ t.out = out) ∨ RE N a most s e out
theorem RO.from {N a most : Nat} {s t : GSt} {e p : Nat} {out : List UInt8} (h : RO N a most t e p out) (hs : Steps fixedL fixedD2 N a most s t) (hl : t.last = s.last) : RO N a most s e p out := by
  rcases h with ⟨he, u, h1, h2, h3, h4, h5⟩ | h
  · exact .inl ⟨he, u, hs.trans h1, by rw [h2, hl], by rw [h3, hl], h4, h5⟩
  · exact .inr (h.from hs)
theorem RO.bad {N a most : Nat} {s t : GSt} {e p q : Nat} {out : List UInt8} (hs : Steps fixedL fixedD2 N a most s t) (hk : t.k ≠ 11) (hn : t.nx fixedL fixedD2 N most = (q, .error e)) (hq : q ≤ 8 * a) (he : e ≠ 0) (ho : ∃ x, out = t.out ++ x) : RO N a most s e p out := .inr (RE.bad hs hk hn hq he ho)
theorem RO.short {N a most : Nat} {s t : GSt} {p : Nat} {out : List UInt8} (hs : Steps fixedL fixedD2 N a most s t) (hk : t.k ≠ 11) (hq : 8 * a < (t.nx fixedL fixedD2 N most).1) (ho : out = t.out) : RO N a most s 2 p out := .inr (RE.short hs hk hq ho)
/-- What comes of a length and a distance. -/
def RK (N a most : Nat) (s : GSt) (e p : Nat) (out : List UInt8) : Prop :=
  (e = 0 ∧ ∃ t, Steps fixedL fixedD2 N a most s t ∧ t.k = 7 ∧ t.T = s.T ∧ t.D = s.D ∧ t.last = s.last ∧ t.p = p ∧ t.out = out) ∨ RE N a most s e out

/-- A symbol that is read of a table. -/
theorem rRead_yes {w : World} {b0 gs gr c p most base g : Nat} {A : Option Addr} {B T : List UInt8} {v : Value} {out : List UInt8} (h : Rs w b0 gs gr A c B p v out most) (hT : RT w base g T) (hn : T.length ≤ 320) (h15 : ∀ i, ln T i ≤ 15) (hm : mayBe (cn T) = true) (hp : p + needN T (num B) p ≤ 8 * B.length) :
    Calls Tryz.prog 71 #[.pointer (some ⟨g, 0, none⟩), .pointer (some ⟨gr, 0, none⟩)] w fun e w' => e = .returned (.tuple #[.int .i64 ((huffN T (num B) p).1 : Nat), .int .i64 ((huffN T (num B) p).2.1 : Nat)]) ∧ Rs w' b0 gs gr A c B (p + (huffN T (num B) p).2.2) v out most ∧ Since [gs, gr] w v w' v := by
  have hl := readM_left T (num B) p (8 * B.length - p)
  rw [if_neg (by omega)] at hl
  refine (tRead_any g base gr A c T B p w hT h.rd h.hA hn h15 hm _ _ _ hl).mono ?_
  rintro e w' ⟨rfl, ho, hr⟩
  exact ⟨rfl, h.read ho hr, h.since_read ho⟩
theorem rRead_no {w : World} {b0 gs gr c p most base g : Nat} {A : Option Addr} {B T : List UInt8} {v : Value} {out : List UInt8} (h : Rs w b0 gs gr A c B p v out most) (hT : RT w base g T) (hn : T.length ≤ 320) (h15 : ∀ i, ln T i ≤ 15) (hm : mayBe (cn T) = true) (hp : 8 * B.length < p + needN T (num B) p) :
    Calls Tryz.prog 71 #[.pointer (some ⟨g, 0, none⟩), .pointer (some ⟨gr, 0, none⟩)] w fun e w' => e = .returned (.tuple #[.int .i64 0, .int .i64 2]) ∧ Rs w' b0 gs gr A c B p v out most ∧ Since [gs, gr] w v w' v := by
  have hle := h.rd.le
  have hl := readM_left T (num B) p (8 * B.length - p)
  rw [if_pos (by omega)] at hl
  refine (tRead_any g base gr A c T B p w hT h.rd h.hA hn h15 hm _ _ _ hl).mono ?_
  rintro e w' ⟨rfl, ho, hr⟩
  exact ⟨rfl, h.read ho hr, h.since_read ho⟩
end Go.Proofs.YtlknhiihdejpeaaGreatDoor


namespace Go.Proofs.YtlknhiihdejpeaaGreatDoor
open Go Go.RowKit

/-- Where the loop of stored bytes stands. -/
structure StoSt (w : World) (b0 gs gr c : Nat) (A : Option Addr) (B : List UInt8) (v : Value) (most : Nat) (s : GSt) (q x j : Nat) (wr : World) (v' : Value) (out' : List UInt8) (t : GSt) : Prop where
  since : Since [gs, gr] w v wr v'
  rs : Rs wr b0 gs gr A c B (q + 32 + 8 * j) v' out' most
  steps : Steps fixedL fixedD2 (num B) B.length most s t
  k : t.k = stK s.last (x - j)
  left : t.left = x - j
  p : t.p = q + 32 + 8 * j
  out : t.out = out'
  last : t.last = s.last

theorem rs_cells {w : World} {b0 gs gr c p most : Nat} {A : Option Addr} {B : List UInt8} {v : Value} {out : List UInt8} (h : Rs w b0 gs gr A c B p v out most) :
    w.cell? ⟨gs, 0, none⟩ = some (.pointer (some ⟨gr, 0, none⟩)) ∧ w.cell? ⟨gs, 1, none⟩ = some v ∧ w.cell? ⟨gs, 2, none⟩ = some (.int .i64 (most : Int)) :=
  ⟨h.has.cell 0, h.has.cell 1, h.has.cell 2⟩

set_option maxRecDepth 100000 in
set_option maxHeartbeats 16000000 in
theorem rStored {w : World} {b0 gs gr c p most : Nat} {A : Option Addr} {B : List UInt8} {v : Value} {out : List UInt8} (h : Rs w b0 gs gr A c B p v out most) (hb0 : b0 ≤ w.heap.size) (hB : B.length ≤ 90000) (s : GSt) (hk : s.k = 1) (hsp : s.p = p + toByte p) (hso : s.out = out) :
    Calls Tryz.prog 58 #[.pointer (some ⟨gs, 0, none⟩)] w fun e w' => ∃ ec p' v' out', e = .returned (.int .i64 (ec : Nat)) ∧ Since [gs, gr] w v w' v' ∧ Rs w' b0 gs gr A c B p' v' out' most ∧ RO (num B) B.length most s ec p' out' := by
  have HA := hide (fun w' (hr : Rs w' b0 gs gr A c B p v out most) => (tAlign gr c p A B w' hr.rd hr.hA).mono fun e w'' (hx : _ ∧ _ ∧ _) => (⟨hx.1, hr.read hx.2.1 hx.2.2, hr.since_read hx.2.1⟩ : e = .returned (.int .i64 (toByte p : Nat)) ∧ Rs w'' b0 gs gr A c B (p + toByte p) v out most ∧ Since [gs, gr] w' v w'' v))
  obtain ⟨q, hq⟩ : ∃ q, q = p + toByte p := ⟨_, rfl⟩
  rw [← hq] at HA hsp
  have hn1 := GSt.nx_1 (L0 := fixedL) (D0 := fixedD2) (N := num B) (most := most) hk
  obtain ⟨k0, k1, k2⟩ := rs_cells h
  have H0 := hide h
  have HS := hide (And.intro hk (And.intro hsp (And.intro hso (And.intro hn1 (And.intro hb0 hB)))))
  clear hk hsp hso hn1 hq h hb0 hB
  go_enter Tryz.func58, Tryz.ntmps58
  go_wp2_with fail
  refine (HA.out w H0.out).mono ?_
  rintro e w1 ⟨rfl, hr1, hs1⟩
  have H1 := hide (And.intro hr1 hs1)
  clear hr1 hs1 k0 k1 k2 HA
  obtain ⟨k0, k1, k2⟩ := rs_cells H1.out.1
  by_cases h16 : q + 16 ≤ 8 * B.length
  · have HX := hide (rBits_yes H1.out.1 16 (by omega) h16)
    obtain ⟨x, hx⟩ : ∃ x, x = num B / 2 ^ q % 2 ^ 16 := ⟨_, rfl⟩
    have hx16 : x < 65536 := by rw [hx]; exact Nat.mod_lt _ (by decide)
    rw [← hx] at HX
    go_wp2_with fail
    refine (HX.out).mono ?_
    rintro e w2 ⟨rfl, hr2, hs2⟩
    have H2 := hide (And.intro hr2 (H1.out.2.trans hs2 (by simp)))
    clear hr2 hs2 k0 k1 k2 HX
    obtain ⟨k0, k1, k2⟩ := rs_cells H2.out.1
    by_cases h32 : q + 32 ≤ 8 * B.length
    · have HY := hide (rBits_yes H2.out.1 16 (by omega) (by omega))
      obtain ⟨y, hy⟩ : ∃ y, y = num B / 2 ^ (q + 16) % 2 ^ 16 := ⟨_, rfl⟩
      have hy16 : y < 65536 := by rw [hy]; exact Nat.mod_lt _ (by decide)
      rw [← hy, show q + 16 + 16 = q + 32 by omega] at HY
      have hxor := u32_xor_nat x y (by omega) (by omega)
      have hxy := xor16 x y hx16 hy16
      obtain ⟨z, hz⟩ : ∃ z, z = x ^^^ y := ⟨_, rfl⟩
      rw [← hz] at hxor hxy
      by_cases hz1 : z = 65535
      · have hyx := hxy.1 hz1
        rw [hz1] at hxor
        have hxor : bits .xor .u32 (x : Int) (y : Int) = 65535 := hxor
        have hwx : IntKind.i64.wrap (x : Int) = (x : Int) := by rw [IntKind.wrap_i64]; omega
        have hn1 := HS.out.2.2.2.1
        rw [HS.out.2.1] at hn1
        have e1 : num B / 2 ^ q % 65536 = x := hx.symm
        have e2 : num B / 2 ^ (q + 16) % 65536 = 65535 - x := hy.symm.trans hyx
        simp only [e1, e2, if_true] at hn1
        have HT0 := hide (Steps.one (a := B.length) (by rw [HS.out.1]; decide) hn1 h32)
        have hx9 : x ≤ 65535 := by omega
        clear hz hz1 hxy hyx hx hy e1 e2 hn1 hx16 hy16
        go_wp2_with fail
        refine (HY.out).mono ?_
        rintro e w3 ⟨rfl, hr3, hs3⟩
        have H3 := hide (And.intro hr3 (H2.out.2.trans hs3 (by simp)))
        clear hr3 hs3 k0 k1 k2 HY
        go_wp2_with fail
        go_loopw [6] (fun i wr => ∃ j v' out' t, j ≤ x ∧ i = .int .i64 (j : Nat) ∧ StoSt w b0 gs gr c A B v most s q x j wr v' out' t) (fun i _ => x - (intOf i).toNat)
        case atStart => exact ⟨0, v, out, _, Nat.zero_le _, rfl, H3.out.2, H3.out.1, HT0.out, by simp, by simp, by simp, HS.out.2.2.1, rfl⟩
        case round =>
          obtain ⟨j, v', out', t, hj, rfl, S⟩ := hrel
          have hjx : ¬ (x : Int) < (j : Int) := by omega
          obtain ⟨k0, k1, k2⟩ := rs_cells S.rs
          by_cases hlt : j < x
          · have htk : t.k = 2 := by rw [S.k]; exact stK_pos _ (by omega)
            have hn2 := GSt.nx_2 (L0 := fixedL) (D0 := fixedD2) (N := num B) (most := most) htk
            by_cases h8 : q + 32 + 8 * j + 8 ≤ 8 * B.length
            · have HV := hide (rBits_yes S.rs 8 (by omega) h8)
              obtain ⟨b, hb⟩ : ∃ b : UInt8, b = UInt8.ofNat (num B / 2 ^ (q + 32 + 8 * j)) := ⟨_, rfl⟩
              have hbv : num B / 2 ^ (q + 32 + 8 * j) % 2 ^ 8 = b.toNat := by rw [hb, UInt8.toNat_ofNat']
              rw [hbv] at HV
              have hb8 := b.toNat_lt
              have hwb : IntKind.u8.wrap ((b.toNat : Nat) : Int) = ((b.toNat : Nat) : Int) := by rw [IntKind.wrap_u8]; omega
              have HJ := hide (And.intro S (And.intro hlt (And.intro hn2 (And.intro htk hb))))
              clear S hn2 htk hb hbv h8 hb8
              go_wp2_with fail
              refine (HV.out).mono ?_
              rintro e w4 ⟨rfl, hr4, hs4⟩
              have hlen := hr4.sml
              obtain ⟨A4, c4, rfl, _, _⟩ := own_shape hr4.own
              obtain ⟨n, hn⟩ : ∃ n, n = out'.length := ⟨_, rfl⟩
              have H4 := hide (And.intro hr4 (And.intro (HJ.out.1.since.trans hs4 (by simp)) hn))
              clear k0 k1 k2
              obtain ⟨k0, k1, k2⟩ := rs_cells hr4
              rw [← hn] at k1 hlen
              clear hr4 hs4 HV hn
              by_cases hm : n < most
              · have dm : decide (most ≤ n) = false := decide_eq_false (by omega)
                have hmI : ¬ (most : Int) ≤ (n : Int) := by omega
                go_wp2_with fail
                go_quiet (fail)
                have HD := hide (Rs.idle H4.out.1 ((Only.refl [] w4).drewN nq))
                have HD2 : Hid (Since [gs, gr] w v (w4.drewN nq) (.slice A4 out'.length c4)) := hide (H4.out.2.1.trans (Rs.since_idle (gs := gs) (gr := gr) ((Only.refl [] w4).drewN nq)) (by simp))
                rw [← H4.out.2.2] at HD HD2
                have HN := hide (And.intro (show (w4.drewN nq).ownsRow b0 5 1 (.slice A4 n c4) n (bvals out') by rw [H4.out.2.2]; rw [H4.out.2.2] at HD; exact HD.out.own) (And.intro (Nat.le_trans HS.out.2.2.2.2.1 HD2.out.only.size) (And.intro (H4.out.2.2.symm) (show n + 1 ≤ 140737488355328 by omega))))
                clear k0 k1 k2
                generalize w4.drewN nq = w5 at *
                obtain ⟨k0, k1, k2⟩ := rs_cells HD.out
                go_wp2_with (at_builtin; refine list_push rfl (.tmp 68) (.tmp 71) rfl w5 HN.out.2.1 b HN.out.2.2.1 HN.out.1 HN.out.2.2.2 _ rfl rfl rfl ?_; intro A6 c6 w6 hp; have f0 := (hp.has HD.out.has (fun e => (HD.out.vs gs e.symm).1 rfl)).cell 1; simp only [List.getElem?_toArray, List.getElem?_cons_zero, List.getElem?_cons_succ] at f0; have f1 := (hp.has HD.out.has (fun e => (HD.out.vs gs e.symm).1 rfl)).free 1; have HP := hide hp; clear hp)
                go_roundw
                case rel =>
                  obtain ⟨S, hlt, hn2, htk, hb⟩ := HJ.out
                  have hpush := HD.out.push HP.out (by rw [HN.out.2.2.1]; exact hm)
                  have hsin := HD2.out.trans (Rs.since_push (gs := gs) (gr := gr) HP.out) (by simp)
                  have e3 : t.out.length < most := by rw [S.out, HN.out.2.2.1]; exact hm
                  rw [if_pos e3] at hn2
                  refine ⟨j + 1, _, out' ++ [b], _, hlt, by go_num, hsin, ?_, S.steps.snoc (by rw [htk]; decide) hn2 (by rw [S.p]; have := H4.out.1.rd.le; omega), ?_, ?_, ?_, ?_, ?_⟩
                  · rw [show q + 32 + 8 * (j + 1) = q + 32 + 8 * j + 8 by omega]; exact hpush
                  · show stK t.last (t.left - 1) = _
                    rw [S.last, S.left, show x - j - 1 = x - (j + 1) by omega]
                  · show t.left - 1 = _
                    rw [S.left]; omega
                  · show t.p + 8 = _
                    rw [S.p]; omega
                  · show t.out ++ [UInt8.ofNat (num B / 2 ^ t.p)] = _
                    rw [S.out, S.p, hb]
                  · exact S.last
                case measure => simp [intOf]; omega
              · have dm : decide (most ≤ n) = true := decide_eq_true (by omega)
                have hmI : (most : Int) ≤ (n : Int) := by omega
                go_wp2_with fail
                go_quiet (fail)
                go_wp2_with fail
                go_ret
                obtain ⟨S, hlt, hn2, htk, hb⟩ := HJ.out
                have e3 : ¬ t.out.length < most := by rw [S.out, ← H4.out.2.2]; exact hm
                rw [if_neg e3] at hn2
                exact ⟨5, _, _, _, rfl, H4.out.2.1.trans (Rs.since_idle (gs := gs) (gr := gr) ((Only.refl [] w4).drewN nq)) (by simp), H4.out.1.idle ((Only.refl [] w4).drewN nq), RO.bad S.steps (by rw [htk]; decide) hn2 (by rw [S.p]; have := H4.out.1.rd.le; omega) (by decide) ⟨[], by rw [S.out]; simp⟩⟩
            · have HV := hide (rBits_no S.rs 8 (by omega))
              have HJ := hide (And.intro S (And.intro hn2 htk))
              clear S hn2 htk
              go_wp2_with fail
              refine (HV.out).mono ?_
              rintro e w4 ⟨rfl, hr4, hs4⟩
              have H4 := hide (And.intro hr4 (HJ.out.1.since.trans hs4 (by simp)))
              clear hr4 hs4 HV k0 k1 k2
              go_wp2_with fail
              go_ret
              obtain ⟨S, hn2, htk⟩ := HJ.out
              exact ⟨2, _, _, _, rfl, H4.out.2, H4.out.1, RO.short S.steps (by rw [htk]; decide) (by rw [hn2]; show 8 * B.length < t.p + 8; rw [S.p]; omega) S.out.symm⟩
          · obtain rfl : j = x := by omega
            go_wp2_with fail
            go_ret
            exact ⟨0, rfl, _, _, S.since, _, S.rs, .inl ⟨rfl, t, S.steps, by rw [S.k, Nat.sub_self]; rfl, S.last, S.p, S.out⟩⟩
      · have hyx : ¬ y = 65535 - x := fun e => hz1 (hxy.2 e)
        have hz2 : ¬ (z : Int) = 65535 := by omega
        have hz3 : ((z : Int) == 65535) = false := beq_eq_false_iff_ne.2 hz2
        have hn1 := HS.out.2.2.2.1
        rw [HS.out.2.1] at hn1
        have e1 : num B / 2 ^ q % 65536 = x := hx.symm
        have e2 : ¬ num B / 2 ^ (q + 16) % 65536 = 65535 - x := fun e => hyx (hy.trans e)
        simp only [e1, if_neg e2] at hn1
        have HN1 := hide hn1
        clear hz hz1 hxy hyx hx hy e1 e2 hn1 hx16 hy16
        go_wp2_with fail
        refine (HY.out).mono ?_
        rintro e w3 ⟨rfl, hr3, hs3⟩
        have H3 := hide (And.intro hr3 (H2.out.2.trans hs3 (by simp)))
        clear hr3 hs3 k0 k1 k2 HY
        go_wp2_with fail
        go_ret
        exact ⟨3, _, _, _, rfl, H3.out.2, H3.out.1, RO.bad (.refl s) (by rw [HS.out.1]; decide) HN1.out h32 (by decide) ⟨[], by rw [HS.out.2.2.1]; simp⟩⟩
    · have HV := hide (rBits_no H2.out.1 16 (by omega))
      clear hx
      go_wp2_with fail
      refine (HV.out).mono ?_
      rintro e w3 ⟨rfl, hr3, hs3⟩
      have H3 := hide (And.intro hr3 (H2.out.2.trans hs3 (by simp)))
      clear hr3 hs3 k0 k1 k2 HV
      go_wp2_with fail
      go_ret
      exact ⟨2, _, _, _, rfl, H3.out.2, H3.out.1, RO.short (.refl s) (by rw [HS.out.1]; decide) (by rw [HS.out.2.2.2.1]; show 8 * B.length < s.p + 32; rw [HS.out.2.1]; omega) HS.out.2.2.1.symm⟩
  · have HV := hide (rBits_no H1.out.1 16 (by omega))
    go_wp2_with fail
    refine (HV.out).mono ?_
    rintro e w3 ⟨rfl, hr3, hs3⟩
    have H3 := hide (And.intro hr3 (H1.out.2.trans hs3 (by simp)))
    clear hr3 hs3 k0 k1 k2 HV
    go_wp2_with fail
    go_ret
    exact ⟨2, _, _, _, rfl, H3.out.2, H3.out.1, RO.short (.refl s) (by rw [HS.out.1]; decide) (by rw [HS.out.2.2.2.1]; show 8 * B.length < s.p + 32; rw [HS.out.2.1]; omega) HS.out.2.2.1.symm⟩
end Go.Proofs.YtlknhiihdejpeaaGreatDoor


namespace Go.Proofs.YtlknhiihdejpeaaGreatDoor
open Go Go.RowKit

theorem wr6 {z : Int} {n : Nat} (h : z = (n : Int)) (hn : n ≤ 4611686018427387904) : Go.RowKit.wrap64 z = (n : Int) ∧ IntKind.i64.wrap z = (n : Int) := by
  subst h
  exact ⟨IntWalk.wrap64_in _ ⟨by omega, by omega⟩, by rw [IntKind.wrap_i64]; omega⟩

set_option maxRecDepth 100000 in
set_option maxHeartbeats 4000000 in
theorem rLength (s : Nat) (w : World) (h1 : 257 ≤ s) (h2 : s ≤ 285) : Calls Tryz.prog 82 #[.int .i64 (s : Int)] w fun e w' => e = .returned (.tuple #[.int .i64 (lenM s : Nat), .int .i64 (lenB s : Nat)]) ∧ w' = w := by
  by_cases h3 : s = 285
  · subst h3
    go_enter Tryz.func82, Tryz.ntmps82
    go_wp2_with fail
    go_ret2
    exact ⟨rfl, rfl⟩
  · have h3' : ¬ (s : Int) = 285 := by omega
    have h3b : ((s : Int) == 285) = false := beq_eq_false_iff_ne.2 h3'
    by_cases h4 : s < 265
    · have e1 : lenM s = s - 254 := by unfold lenM; rw [if_neg h3, if_pos h4]
      have e2 : lenB s = 0 := by unfold lenB; rw [if_pos (.inr h4)]
      rw [e1, e2]
      obtain ⟨k, hk⟩ : ∃ k, k = s - 257 := ⟨_, rfl⟩
      have W1 := hide (wr6 (z := (s : Int) - 257) (n := k) (by omega) (by omega))
      have W2 := hide (wr6 (z := 3 + (k : Int)) (n := s - 254) (by omega) (by omega))
      have hk8 : (k : Int) < 8 := by omega
      clear hk e1 e2
      obtain ⟨v1, u1⟩ := W1.out
      obtain ⟨v2, u2⟩ := W2.out
      clear W1 W2
      go_enter Tryz.func82, Tryz.ntmps82
      go_wp2_with fail
      go_ret2
      exact ⟨rfl, rfl⟩
    · have e1 : lenM s = 3 + (4 + (s - 257) % 4) * 2 ^ ((s - 257) / 4 - 1) := by unfold lenM; rw [if_neg h3, if_neg h4]
      have e2 : lenB s = (s - 257) / 4 - 1 := by unfold lenB; rw [if_neg (by omega)]
      rw [e1, e2]
      obtain ⟨k, hk⟩ : ∃ k, k = s - 257 := ⟨_, rfl⟩
      rw [← hk]
      obtain ⟨d, hd⟩ : ∃ d, d = k / 4 := ⟨_, rfl⟩
      obtain ⟨n, hn⟩ : ∃ n, n = d - 1 := ⟨_, rfl⟩
      obtain ⟨r, hr⟩ : ∃ r, r = k % 4 := ⟨_, rfl⟩
      rw [← hd, ← hn, ← hr]
      obtain ⟨b, hb⟩ : ∃ b, b = 4 + r := ⟨_, rfl⟩
      rw [← hb]
      have hp : 2 ^ n ≤ 2 ^ 5 := Nat.pow_le_pow_right (by omega) (by omega)
      have hbp : b * 2 ^ n ≤ 7 * 32 := Nat.mul_le_mul (by omega) hp
      obtain ⟨m, hm⟩ : ∃ m, m = b * 2 ^ n := ⟨_, rfl⟩
      rw [← hm] at hbp ⊢
      have W1 := hide (wr6 (z := (s : Int) - 257) (n := k) (by omega) (by omega))
      have W2 : Hid ((k : Int).tdiv 4 = (d : Int)) := hide (by rw [hd]; exact (Int.ofNat_tdiv k 4).symm)
      have W3 := hide (wr6 (z := (d : Int) - 1) (n := n) (by omega) (by omega))
      have W4 : Hid ((k : Int).tmod 4 = (r : Int)) := hide (by rw [hr]; exact (Int.ofNat_tmod k 4).symm)
      have W5 := hide (wr6 (z := 4 + (r : Int)) (n := b) (by omega) (by omega))
      have W6 := hide (wr6 (z := (b : Int) * 2 ^ n) (n := m) (by rw [hm, Int.natCast_mul, two_pow_cast]) (by omega))
      have W7 := hide (wr6 (z := 3 + (m : Int)) (n := 3 + m) (by omega) (by omega))
      have W8 : Hid (IntKind.u64.wrap (n : Int) = (n : Int)) := hide (IntWalk.u64_in _ ⟨by omega, by omega⟩)
      have W9 := hide (wr6 (z := (d : Int)) (n := d) rfl (by omega))
      have m1 : min n 64 = n := by omega
      have hk8 : ¬ (k : Int) < 8 := by omega
      have hn0 : ¬ (n : Int) < 0 := by omega
      clear hk hd hn hr hb hp hbp hm e1 e2
      obtain ⟨v1, u1⟩ := W1.out
      have v2 := W2.out
      obtain ⟨v3, u3⟩ := W3.out
      have v4 := W4.out
      obtain ⟨v5, u5⟩ := W5.out
      obtain ⟨v6, u6⟩ := W6.out
      obtain ⟨v7, u7⟩ := W7.out
      have v8 := W8.out
      obtain ⟨v9, u9⟩ := W9.out
      clear W1 W2 W3 W4 W5 W6 W7 W8 W9
      go_enter Tryz.func82, Tryz.ntmps82
      go_wp2_with fail
      go_ret2
      exact ⟨rfl, rfl⟩

set_option maxRecDepth 100000 in
set_option maxHeartbeats 4000000 in
theorem rDistance (s : Nat) (w : World) (h2 : s ≤ 29) : Calls Tryz.prog 83 #[.int .i64 (s : Int)] w fun e w' => e = .returned (.tuple #[.int .i64 (dstM s : Nat), .int .i64 (dstB s : Nat)]) ∧ w' = w := by
  by_cases h4 : s < 4
  · have e1 : dstM s = 1 + s := if_pos h4
    have e2 : dstB s = 0 := if_pos h4
    rw [e1, e2]
    have W2 := hide (wr6 (z := 1 + (s : Int)) (n := 1 + s) (by omega) (by omega))
    have hk8 : (s : Int) < 4 := by omega
    clear e1 e2
    obtain ⟨v2, u2⟩ := W2.out
    clear W2
    go_enter Tryz.func83, Tryz.ntmps83
    go_wp2_with fail
    go_ret2
    exact ⟨rfl, rfl⟩
  · have e1 : dstM s = 1 + (2 + s % 2) * 2 ^ (s / 2 - 1) := if_neg h4
    have e2 : dstB s = s / 2 - 1 := if_neg h4
    rw [e1, e2]
    obtain ⟨d, hd⟩ : ∃ d, d = s / 2 := ⟨_, rfl⟩
    obtain ⟨n, hn⟩ : ∃ n, n = d - 1 := ⟨_, rfl⟩
    obtain ⟨r, hr⟩ : ∃ r, r = s % 2 := ⟨_, rfl⟩
    rw [← hd, ← hn, ← hr]
    obtain ⟨b, hb⟩ : ∃ b, b = 2 + r := ⟨_, rfl⟩
    rw [← hb]
    have hp : 2 ^ n ≤ 2 ^ 13 := Nat.pow_le_pow_right (by omega) (by omega)
    have hbp : b * 2 ^ n ≤ 3 * 8192 := Nat.mul_le_mul (by omega) hp
    obtain ⟨m, hm⟩ : ∃ m, m = b * 2 ^ n := ⟨_, rfl⟩
    rw [← hm] at hbp ⊢
    have W2 : Hid ((s : Int).tdiv 2 = (d : Int)) := hide (by rw [hd]; exact (Int.ofNat_tdiv s 2).symm)
    have W3 := hide (wr6 (z := (d : Int) - 1) (n := n) (by omega) (by omega))
    have W4 : Hid ((s : Int).tmod 2 = (r : Int)) := hide (by rw [hr]; exact (Int.ofNat_tmod s 2).symm)
    have W5 := hide (wr6 (z := 2 + (r : Int)) (n := b) (by omega) (by omega))
    have W6 := hide (wr6 (z := (b : Int) * 2 ^ n) (n := m) (by rw [hm, Int.natCast_mul, two_pow_cast]) (by omega))
    have W7 := hide (wr6 (z := 1 + (m : Int)) (n := 1 + m) (by omega) (by omega))
    have W8 : Hid (IntKind.u64.wrap (n : Int) = (n : Int)) := hide (IntWalk.u64_in _ ⟨by omega, by omega⟩)
    have W9 := hide (wr6 (z := (d : Int)) (n := d) rfl (by omega))
    have m1 : min n 64 = n := by omega
    have hk8 : ¬ (s : Int) < 4 := by omega
    have hn0 : ¬ (n : Int) < 0 := by omega
    clear hd hn hr hb hp hbp hm e1 e2
    have v2 := W2.out
    obtain ⟨v3, u3⟩ := W3.out
    have v4 := W4.out
    obtain ⟨v5, u5⟩ := W5.out
    obtain ⟨v6, u6⟩ := W6.out
    obtain ⟨v7, u7⟩ := W7.out
    have v8 := W8.out
    obtain ⟨v9, u9⟩ := W9.out
    clear W2 W3 W4 W5 W6 W7 W8 W9
    go_enter Tryz.func83, Tryz.ntmps83
    go_wp2_with fail
    go_ret2
    exact ⟨rfl, rfl⟩
end Go.Proofs.YtlknhiihdejpeaaGreatDoor

