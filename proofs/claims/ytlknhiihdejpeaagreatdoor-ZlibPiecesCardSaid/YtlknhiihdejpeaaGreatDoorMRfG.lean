/-
  The document's inflate: Front, from whatever contract block has. | The document's inflate: a block, from whatever contract dynamic has.
-/
import Derived.Test.YtlknhiihdejpeaaGreatDoorMRfF
import Derived.Test.YtlknhiihdejpeaaGreatDoorMHufX
namespace Go.Proofs.YtlknhiihdejpeaaGreatDoor
open Go Go.RowKit

/-- What a block comes to. -/
def BlkR (w : World) (b0 gs gr c : Nat) (A : Option Addr) (B : List UInt8) (p : Nat) (v : Value) (most : Nat) (s : GSt) (e : Ending) (w' : World) : Prop :=
  ∃ (last : Bool) (ec p' : Nat) (v' : Value) (out' : List UInt8), e = .returned (.tuple #[.bool last, .int .i64 (ec : Nat)]) ∧ Since [gs, gr] w v w' v' ∧ Rs w' b0 gs gr A c B p' v' out' most ∧
    ((ec = 0 ∧ p < p' ∧ ∃ t, Steps fixedL fixedD2 (num B) B.length most s t ∧ t.k = behindK last ∧ t.p = p' ∧ t.out = out') ∨ RE (num B) B.length most s ec out')
/-- The contract of block. -/
def BlkK (b0 gs gr c : Nat) (A : Option Addr) (B : List UInt8) (most : Nat) : Prop :=
  ∀ (w : World) (p : Nat) (v : Value) (out : List UInt8) (s : GSt), Rs w b0 gs gr A c B p v out most → b0 ≤ w.heap.size → (∀ b, v.ownBlock = some b → b < w.heap.size) → s.k = 0 → s.p = p → s.out = out →
    Calls Tryz.prog 44 #[.pointer (some ⟨gs, 0, none⟩)] w (BlkR w b0 gs gr c A B p v most s)

/-- Where the loop of blocks stands. -/
structure FrSt (w : World) (b0 gs gr c : Nat) (A : Option Addr) (B : List UInt8) (most : Nat) (s : GSt) (wr : World) (p : Nat) (v : Value) (out : List UInt8) (t : GSt) : Prop where
  only : Only [] w wr
  size : b0 ≤ wr.heap.size
  rs : Rs wr b0 gs gr A c B p v out most
  steps : Steps fixedL fixedD2 (num B) B.length most s t
  k : t.k = 0
  p : t.p = p
  out : t.out = out
/-- What Front tells. -/
def FrR (w : World) (B : List UInt8) (most : Nat) (s : GSt) (e : Ending) (w' : World) : Prop :=
  ∃ (v : Value) (out : List UInt8) (n ec : Nat), e = .returned (.tuple #[v, .int .i64 (n : Int), .int .i64 (ec : Int)]) ∧ Only [] w w' ∧ w'.ownsRow w.heap.size 5 1 v out.length (bvals out) ∧
    ((ec = 0 ∧ ∃ u, Ends fixedL fixedD2 (num B) B.length most s 0 u ∧ out = u.out ∧ n = (u.p + 7) / 8) ∨ (ec ≠ 0 ∧ n = 0 ∧ ∃ u x, Ends fixedL fixedD2 (num B) B.length most s ec u ∧ out = u.out ++ x))

set_option maxRecDepth 100000 in
set_option maxHeartbeats 16000000 in
theorem rFront_gen (A : Option Addr) (n c most : Nat) (B : List UInt8) (w : World) (hb : Holds w 1 A n (bvals B)) (hl : B.length = n) (hA : A = none → c = 0 ∧ n = 0) (hc : n ≤ c) (hn : n ≤ 90000) (hm : most ≤ 1073741824)
    (s : GSt) (hk : s.k = 0) (hsp : s.p = 0) (hso : s.out = []) (hblk : ∀ gs gr, BlkK w.heap.size gs gr c A B most) :
    Calls Tryz.prog 26 #[.slice A n c, .int .i64 (most : Int)] w (FrR w B most s) := by
  subst hl
  have hrd : Has ((w.alloc (.cells #[.slice A B.length c, .int .i64 0] 104)).alloc (.cells #[.pointer (some ⟨w.heap.size, 0, none⟩), .slice none 0 0, .int .i64 (most : Int)] 106)) w.heap.size 104 #[.slice A B.length c, .int .i64 0] := (Has.new w _ _).alloc _
  have hst : Has ((w.alloc (.cells #[.slice A B.length c, .int .i64 0] 104)).alloc (.cells #[.pointer (some ⟨w.heap.size, 0, none⟩), .slice none 0 0, .int .i64 (most : Int)] 106)) (w.heap.size + 1) 106 #[.pointer (some ⟨w.heap.size, 0, none⟩), .slice none 0 0, .int .i64 (most : Int)] := by
    have := Has.new (w.alloc (.cells #[.slice A B.length c, .int .i64 0] 104)) 106 #[.pointer (some ⟨w.heap.size, 0, none⟩), .slice none 0 0, .int .i64 (most : Int)]
    rw [World.size_alloc] at this
    exact this
  have o2 : Only [] w ((w.alloc (.cells #[.slice A B.length c, .int .i64 0] 104)).alloc (.cells #[.pointer (some ⟨w.heap.size, 0, none⟩), .slice none 0 0, .int .i64 (most : Int)] 106)) := ((Only.refl [] w).alloc _).alloc _
  have H0 := hide (show FrSt w w.heap.size (w.heap.size + 1) w.heap.size c A B most s _ 0 (.slice none 0 0) [] s from
    ⟨o2, o2.size, ⟨hst, ⟨hrd, hb.keep o2 (by simp), hA, hc, by omega, by omega⟩, ⟨rfl, .inl ⟨rfl, rfl⟩⟩, fun h0 ad ha => hb.blk h0 ad ha, Nat.le_refl _, by omega, by simpa using hm⟩, .refl s, hk, hsp, hso⟩)
  have HB := hide (hblk (w.heap.size + 1) w.heap.size)
  clear hrd hst o2 hblk hb hA hc hk hsp hso hm
  go_enter Tryz.func26, Tryz.ntmps26
  go_wp2_with fail
  go_loopw [8] (fun _ wr => ∃ p v out t, FrSt w w.heap.size (w.heap.size + 1) w.heap.size c A B most s wr p v out t) (fun _ wr => 8 * B.length - rPos wr w.heap.size)
  case atStart => exact ⟨_, _, _, _, H0.out⟩
  case round =>
    obtain ⟨p, v, out, t, S⟩ := hrel
    rw [rPos_eq S.rs]
    have HC := hide (HB.out wr p v out t S.rs S.size (fun b hb => by
      rcases S.rs.own.2 with ⟨rfl, _⟩ | ⟨g, cap, cur, rfl, _, hg, _⟩
      · simp [Value.ownBlock] at hb
      · have : g = b := by simpa [Value.ownBlock] using hb
        subst this
        exact Has.lt (cs := cur) hg) S.k S.p S.out)
    have HJ := hide S
    clear S
    go_wp2_with fail
    refine (HC.out).mono ?_
    rintro e w1 ⟨last, ec, p', v', out', rfl, hs1, hr1, hcase⟩
    have o1 : Only [] w w1 := HJ.out.only.trans hs1.only (fun i hi hlt => by
      rcases List.mem_append.1 hi with h | h
      · simp at h; omega
      · have := (HJ.out.rs.own.lt i (own_to h)).1; omega)
    have H1 := hide (And.intro o1 hr1)
    obtain ⟨k0, k1, k2⟩ := rs_cells hr1
    have k3 : w1.cell? ⟨w.heap.size, 1, none⟩ = some (.int .i64 (p' : Int)) := hr1.rd.has.cell 1
    have hple := hr1.rd.le
    clear hs1 hr1 o1 HC
    rcases hcase with ⟨rfl, hpp, u, q1, q2, q3, q4⟩ | hre
    · cases last with
      | true =>
        have HQ := hide (And.intro q1 (And.intro q2 (And.intro q3 q4)))
        obtain ⟨z, hz⟩ : ∃ z, z = (p' + 7) / 8 := ⟨_, rfl⟩
        obtain ⟨z7, hz7⟩ : ∃ z, z = p' + 7 := ⟨_, rfl⟩
        have W1 := hide (wr6 (z := (p' : Int) + 7) (n := z7) (by omega) (by omega))
        have W2 : Hid ((z7 : Int).tdiv 8 = (z : Int)) := hide (by rw [hz, ← hz7]; exact (Int.ofNat_tdiv z7 8).symm)
        have W3 := hide (wr6 (z := (z : Int)) (n := z) rfl (by omega))
        have HZ := hide hz
        clear q1 q2 q3 q4 hz hz7 hpp hple
        obtain ⟨v1, u1⟩ := W1.out
        have v2 := W2.out
        obtain ⟨v3, u3⟩ := W3.out
        clear W1 W2 W3
        go_wp2_with fail
        go_quiet (fail)
        go_wp2_with fail
        go_ret3
        have HE := hide ((HJ.out.steps.trans HQ.out.1).done HQ.out.2.1)
        exact ⟨_, _, _, 0, rfl, H1.out.1.drewN nq, H1.out.2.own, .inl ⟨rfl, u, HE.out, HQ.out.2.2.2.symm, by rw [HZ.out, HQ.out.2.2.1]⟩⟩
      | false =>
        have HQ := hide (And.intro q1 (And.intro q2 (And.intro q3 (And.intro q4 hpp))))
        clear q1 q2 q3 q4 hpp
        go_wp2_with fail
        go_roundw
        case rel => exact ⟨_, _, _, _, H1.out.1, H1.out.1.size, H1.out.2, HJ.out.steps.trans HQ.out.1, HQ.out.2.1, HQ.out.2.2.1, HQ.out.2.2.2.1⟩
        case measure =>
          rw [rPos_eq H1.out.2]
          have := HQ.out.2.2.2.2
          omega
    · have he := hre.1
      have heI : ¬ (ec : Int) = 0 := by omega
      have heb : ((ec : Int) == 0) = false := beq_eq_false_iff_ne.2 heI
      have HR := hide hre
      clear hre he
      go_wp2_with fail
      go_ret3
      obtain ⟨he, u, x, q1, q2⟩ := HR.out
      exact ⟨_, _, 0, ec, rfl, H1.out.1, H1.out.2.own, .inr ⟨he, rfl, u, x, HJ.out.steps.ends q1, q2⟩⟩
end Go.Proofs.YtlknhiihdejpeaaGreatDoor


namespace Go.Proofs.YtlknhiihdejpeaaGreatDoor
open Go Go.RowKit

/-- A table made since w0 is kept while bytes are read and put out. -/
theorem RT2.since {w0 w1 w' : World} {g : Nat} {l : List UInt8} {v v' : Value} {S : List Nat} (h : RT2 w1 w0.heap.size g l) (hs : Since S w1 v w' v') (hS : ∀ k, k ∈ S → k < w0.heap.size) (hv : ∀ b, v.ownBlock = some b → b < w0.heap.size) : RT w' w0.heap.size g l := by
  obtain ⟨A, gB, c, c', h1, h2, h3, h4⟩ := h
  have hno : ∀ k, w0.heap.size ≤ k → k ∉ S ++ v.ownBlock.toList := fun k hk hm => by
    rcases List.mem_append.1 hm with hm | hm
    · have := hS k hm; omega
    · have := hv k (own_to hm); omega
  refine ⟨A, gB, c, c', h2, h4.only hs.only (hno _ h1) (fun b hb => hno b (h3 b hb)) (fun b hb => ?_)⟩
  have : gB = b := by simpa [Value.ownBlock] using hb
  subst this
  exact hno _ h2

/-- The contract of dynamic. -/
def DynK (b0 gs gr c : Nat) (A : Option Addr) (B : List UInt8) (most : Nat) : Prop :=
  ∀ (w : World) (p : Nat) (v : Value) (out : List UInt8) (s : GSt), Rs w b0 gs gr A c B p v out most → b0 ≤ w.heap.size → (∀ b, v.ownBlock = some b → b < w.heap.size) → s.k = 3 → s.p = p → s.out = out →
    Calls Tryz.prog 60 #[.pointer (some ⟨gs, 0, none⟩)] w fun e w' => ∃ ec p' v' out', e = .returned (.int .i64 (ec : Nat)) ∧ Since [gs, gr] w v w' v' ∧ Rs w' b0 gs gr A c B p' v' out' most ∧ RO (num B) B.length most s ec p' out'

theorem RO.blk {N a most p p' ec : Nat} {s t : GSt} {out : List UInt8} (h : RO N a most t ec p' out) (hs : Steps fixedL fixedD2 N a most s t) (hp : t.p ≤ 8 * a) (hlt : p < t.p) : (ec = 0 ∧ p < p' ∧ ∃ u, Steps fixedL fixedD2 N a most s u ∧ u.k = behindK t.last ∧ u.p = p' ∧ u.out = out) ∨ RE N a most s ec out := by
  rcases h with ⟨he, u, h1, h2, h3, h4, h5⟩ | h
  · exact .inl ⟨he, by have := (h1.on hp).1; omega, u, hs.trans h1, h2, h4, h5⟩
  · exact .inr (h.from hs)

theorem fixedD2_all : ((List.range 32).all fun i => (fixedD2[i]?).map (·.toNat) == some 5) = true := by decide +kernel
theorem fixedD2_get {i : Nat} (h : i < 32) (h' : i < fixedD2.length) : fixedD2[i].toNat = 5 := by
  have := List.all_eq_true.1 fixedD2_all i (List.mem_range.2 h)
  rw [beq_iff_eq, List.getElem?_eq_getElem h'] at this
  simpa using this
theorem fives_make (W : World) : (Instr.makeSlice 22 (.int .i64 32) (.int .i64 32)).run Tryz.prog W = .ok (.slice (some ⟨W.heap.size, 0, none⟩) 32 32) (W.alloc (.cells (bvals (upTo fixedD2 0)).toArray 5)) := by
  have h := run_make_row' (P := Tryz.prog) 22 5 (.int .u8 0) 1 Tryz.underlying22 u8_info rfl .i64 .i64 32 (by omega) (by omega) W
  rw [zeros_eq] at h
  rw [upTo_zero, fixD2_len]
  exact h

set_option maxRecDepth 100000 in
set_option maxHeartbeats 16000000 in
theorem rBlock_gen (b0 gs gr c most : Nat) (A : Option Addr) (B : List UInt8) (hB : B.length ≤ 90000) (hdyn : DynK b0 gs gr c A B most) : BlkK b0 gs gr c A B most := by
  intro w p v out s h hb0 hv hk hsp hso
  have hn0 := GSt.nx_0 (L0 := fixedL) (D0 := fixedD2) (N := num B) (most := most) hk
  rw [hsp] at hn0
  dsimp only at hn0
  obtain ⟨b1, b2⟩ := bits3 (num B) p
  rw [b1, b2] at hn0
  obtain ⟨k0, k1, k2⟩ := rs_cells h
  have H0 := hide h
  have HS := hide (And.intro hk (And.intro hsp (And.intro hso (And.intro hb0 (And.intro hv (And.intro hdyn hB))))))
  have HN0 := hide hn0
  clear hk hsp hso hb0 hv hdyn h hn0 b1 b2
  by_cases hp1 : p + 1 ≤ 8 * B.length
  · have HX := hide (rBits_yes H0.out 1 (by omega) hp1)
    obtain ⟨x, hx⟩ : ∃ x, x = num B / 2 ^ p % 2 ^ 1 := ⟨_, rfl⟩
    rw [← hx] at HX
    have hx2 : x = 0 ∨ x = 1 := by have : x < 2 ^ 1 := by rw [hx]; exact Nat.mod_lt _ (by decide)
                                   omega
    by_cases hp3 : p + 3 ≤ 8 * B.length
    · have HYK : Hid (∀ w1, Rs w1 b0 gs gr A c B (p + 1) v out most → Calls Tryz.prog 57 #[.pointer (some ⟨gr, 0, none⟩), .int .i64 2] w1 fun e w' => e = .returned (.tuple #[.int .u32 ((num B / 2 ^ (p + 1) % 2 ^ 2 : Nat) : Int), .bool true]) ∧ Rs w' b0 gs gr A c B (p + 3) v out most ∧ Since [gs, gr] w1 v w' v) := hide (fun w1 hr => rBits_yes hr 2 (by omega) (by omega))
      obtain ⟨y, hy⟩ : ∃ y, y = num B / 2 ^ (p + 1) % 2 ^ 2 := ⟨_, rfl⟩
      rw [← hy] at HYK
      have hy4 : y = 0 ∨ y = 1 ∨ y = 2 ∨ y = 3 := by have : y < 2 ^ 2 := by rw [hy]; exact Nat.mod_lt _ (by decide)
                                                     omega
      have e1 : num B / 2 ^ p % 2 = x := hx.symm
      have e2 : num B / 2 ^ (p + 1) % 4 = y := hy.symm
      have hn0 := HN0.out
      rw [e1, e2] at hn0
      have HN1 := hide hn0
      clear hn0 e1 e2 hx hy
      rcases hy4 with rfl | rfl | rfl | rfl
      · have hn0 := HN1.out
        rw [if_pos rfl] at hn0
        have HT0 := hide (Steps.one (a := B.length) (by rw [HS.out.1]; decide) hn0 hp3)
        obtain ⟨t1, ht1⟩ : ∃ t1, t1 = ({ s with k := 1, last := x == 1, p := (p + 10) / 8 * 8 } : GSt) := ⟨_, rfl⟩
        have HT1 : Hid (Steps fixedL fixedD2 (num B) B.length most s t1) := by rw [ht1]; exact HT0
        have HQ1 : Hid (t1.k = 1 ∧ t1.p = (p + 10) / 8 * 8 ∧ t1.out = out ∧ t1.last = (x == 1)) := hide (by rw [ht1]; exact ⟨rfl, rfl, HS.out.2.2.1, rfl⟩)
        clear hn0 ht1 HT0
        rcases hx2 with rfl | rfl
        all_goals
          go_enter Tryz.func44, Tryz.ntmps44
          go_wp2_with fail
          refine (HX.out).mono ?_
          rintro e w1 ⟨rfl, hr1, hs1⟩
          have H1 := hide (And.intro hr1 hs1)
          clear hr1 hs1 k0 k1 k2 HX
          obtain ⟨k0, k1, k2⟩ := rs_cells H1.out.1
          go_wp2_with fail
          refine (HYK.out _ H1.out.1).mono ?_
          rintro e w2 ⟨rfl, hr2, hs2⟩
          have H2 := hide (And.intro hr2 (H1.out.2.trans hs2 (by simp)))
          clear hr2 hs2 k0 k1 k2
          obtain ⟨k0, k1, k2⟩ := rs_cells H2.out.1
          have HC := hide (rStored H2.out.1 (Nat.le_trans HS.out.2.2.2.1 H2.out.2.only.size) HS.out.2.2.2.2.2.2 t1 HQ1.out.1 (by rw [HQ1.out.2.1]; unfold toByte; omega) HQ1.out.2.2.1)
          go_wp2_with fail
          refine (HC.out).mono ?_
          rintro e w3 ⟨ec, p3, v3, out3, rfl, hs3, hr3, hro⟩
          have H3 := hide (And.intro hr3 (And.intro (H2.out.2.trans hs3 (by simp)) hro))
          clear hr3 hs3 hro HC k0 k1 k2
          go_wp2_with fail
          go_ret2
          have HF := H3.out.2.2.blk (p := p) HT1.out (by rw [HQ1.out.2.1]; omega) (by rw [HQ1.out.2.1]; omega)
          rw [HQ1.out.2.2.2] at HF
          exact ⟨_, ec, _, _, _, rfl, H3.out.2.1, H3.out.1, HF⟩
      · have hn0 := HN1.out
        rw [if_neg (by decide), if_pos rfl] at hn0
        have HT0 := hide (Steps.one (a := B.length) (by rw [HS.out.1]; decide) hn0 hp3)
        obtain ⟨t1, ht1⟩ : ∃ t1, t1 = ({ s with k := 7, last := x == 1, p := p + 3, T := fixedL, D := fixedD2 } : GSt) := ⟨_, rfl⟩
        have HT1 : Hid (Steps fixedL fixedD2 (num B) B.length most s t1) := by rw [ht1]; exact HT0
        have HQ1 : Hid (t1.k = 7 ∧ t1.p = p + 3 ∧ t1.out = out ∧ t1.last = (x == 1) ∧ t1.T = fixedL ∧ t1.D = fixedD2) := hide (by rw [ht1]; exact ⟨rfl, rfl, HS.out.2.2.1, rfl, rfl, rfl⟩)
        have hgs := H0.out.has.lt
        have hgr := H0.out.rd.has.lt
        have HG := hide (And.intro hgs hgr)
        clear hn0 ht1 HT0 hgs hgr
        rcases hx2 with rfl | rfl
        all_goals
          have hmk := fives_make
          go_enter Tryz.func44, Tryz.ntmps44
          go_wp2_with fail
          refine (HX.out).mono ?_
          rintro e w1 ⟨rfl, hr1, hs1⟩
          have H1 := hide (And.intro hr1 hs1)
          clear hr1 hs1 k0 k1 k2 HX
          obtain ⟨k0, k1, k2⟩ := rs_cells H1.out.1
          go_wp2_with fail
          refine (HYK.out _ H1.out.1).mono ?_
          rintro e w2 ⟨rfl, hr2, hs2⟩
          have H2 := hide (And.intro hr2 (H1.out.2.trans hs2 (by simp)))
          clear hr2 hs2 k0 k1 k2
          go_wp2_with fail
          refine (tFixed_any w2).mono ?_
          rintro e w3 ⟨gl, gd5, rfl, hl3, _, ho3⟩
          have H3 := hide (And.intro hl3 ho3)
          clear hl3 ho3
          go_wp2_with fail
          refine (tNewT2 (some ⟨gl, 0, none⟩) 288 288 fixedL w3 H3.out.1 fixL_len (by omega) fixL_far fixL_may).mono ?_
          rintro e w4 ⟨gT, rfl, hgT, hR4, ho4⟩
          have H4 := hide (And.intro hR4 (And.intro ho4 hgT))
          clear hR4 ho4 hgT
          go_wp2_with fail
          go_loopw [12] (fun v wr => ∃ i : Nat, i ≤ 32 ∧ v = .int .i64 i ∧ Has wr w4.heap.size 5 (bvals (upTo fixedD2 i)).toArray ∧ Only [] w4 wr) (fun v _ => 32 - (intOf v).toNat)
          case atStart => exact ⟨0, by omega, rfl, Has.new w4 _ _, (Only.refl [] w4).alloc _⟩
          case round =>
            obtain ⟨i, hi, rfl, hH, ho⟩ := hrel
            by_cases hlt : i < 32
            · have hset := upTo_set fixedD2 i 5 (by rw [fixD2_len]; exact hlt) (fixedD2_get hlt (by rw [fixD2_len]; exact hlt))
              have hlt' : (i : Int) < 32 := by omega
              have hi0 : (0 : Int) ≤ (i : Int) := by omega
              have cu := hH.cell i
              rw [List.getElem?_toArray, bvals_get _ _ (by rw [upTo_length _ _ (by rw [fixD2_len]; omega), fixD2_len]; exact hlt)] at cu
              have fu := hH.free i
              generalize ((upTo fixedD2 i)[i]'(by rw [upTo_length _ _ (by rw [fixD2_len]; omega), fixD2_len]; exact hlt)).toNat = old at cu
              have h5 := hH.set i (.int .u8 ((5 : Nat) : Int))
              rw [hset] at h5
              have H5 := hide (And.intro h5 (ho.setCell (p := ⟨w4.heap.size, i, none⟩) (by simp) (.int .u8 ((5 : Nat) : Int))))
              clear hset hH ho h5 hmk
              go_wp2_with fail
              go_roundw
              case rel => exact ⟨i + 1, hlt, by go_num, H5.out.1, H5.out.2⟩
              case measure => simp [intOf]; omega
            · obtain rfl : i = 32 := by omega
              have hfull := hH
              rw [show (32 : Nat) = fixedD2.length from fixD2_len.symm, upTo_all] at hfull
              have H5 := hide (And.intro (Has.holds hfull fixD2_len) ho)
              clear hH ho hfull hmk
              go_wp2_with fail
              refine (tNewT2 (some ⟨w4.heap.size, 0, none⟩) 32 32 fixedD2 wr H5.out.1 fixD2_len (by omega) fixD2_far fixD2_may).mono ?_
              rintro e w6 ⟨gD, rfl, hgD, hR6, ho6⟩
              have o46 : Only [] w4 w6 := H5.out.2.trans ho6 (S := []) (by simp)
              have o26 : Only [] w2 w6 := (H3.out.2.trans H4.out.2.1 (S := []) (by simp)).trans o46 (S := []) (by simp)
              have hr6 := H2.out.1.idle o26
              have hs6 : Since [gs, gr] w v w6 v := H2.out.2.trans (Rs.since_idle (gs := gs) (gr := gr) (v := v) o26) (by simp)
              have hTD : ∀ w' v', Since [gs, gr] w6 v w' v' → RT w' w3.heap.size gT fixedL ∧ RT w' wr.heap.size gD fixedD2 := fun w' v' hs => by
                have z1 := H2.out.2.only.size
                have z2 := H3.out.2.size
                have z3 := H4.out.2.1.size
                have z4 := H5.out.2.size
                have g1 := HG.out.1
                have g2 := HG.out.2
                refine ⟨RT2.since H4.out.1 ((Rs.since_idle (gs := gs) (gr := gr) (v := v) o46).trans hs (by simp)) ?_ ?_, RT2.since hR6 hs ?_ ?_⟩
                · intro k hk; simp only [List.mem_cons, List.not_mem_nil, or_false] at hk; omega
                · intro b hb; have := HS.out.2.2.2.2.1 b hb; omega
                · intro k hk; simp only [List.mem_cons, List.not_mem_nil, or_false] at hk; omega
                · intro b hb; have := HS.out.2.2.2.2.1 b hb; omega
              have HC := hide (rCodes hr6 (Nat.le_trans HS.out.2.2.2.1 hs6.only.size) hTD ⟨by rw [fixL_len]; omega, fixL_far', fixL_may⟩ ⟨by rw [fixD2_len]; omega, ln_far fixD2_far, fixD2_may⟩ t1 HQ1.out.1 HQ1.out.2.1 HQ1.out.2.2.1 HQ1.out.2.2.2.2.1 HQ1.out.2.2.2.2.2)
              have H6 := hide (And.intro hr6 hs6)
              clear hgD hR6 ho6 o46 o26 hr6 hs6 hTD
              go_wp2_with fail
              refine (HC.out).mono ?_
              rintro e w7 ⟨ec, p7, v7, out7, rfl, hs7, hr7, hro⟩
              have H7 := hide (And.intro hr7 (And.intro (H6.out.2.trans hs7 (by simp)) hro))
              clear hr7 hs7 hro HC
              go_wp2_with fail
              go_ret2
              have HF := H7.out.2.2.blk (p := p) HT1.out (by rw [HQ1.out.2.1]; exact hp3) (by rw [HQ1.out.2.1]; omega)
              rw [HQ1.out.2.2.2.1] at HF
              exact ⟨_, ec, _, _, _, rfl, H7.out.2.1, H7.out.1, HF⟩
      · have hn0 := HN1.out
        rw [if_neg (by decide), if_neg (by decide), if_pos rfl] at hn0
        have HT0 := hide (Steps.one (a := B.length) (by rw [HS.out.1]; decide) hn0 hp3)
        obtain ⟨t1, ht1⟩ : ∃ t1, t1 = ({ s with k := 3, last := x == 1, p := p + 3 } : GSt) := ⟨_, rfl⟩
        have HT1 : Hid (Steps fixedL fixedD2 (num B) B.length most s t1) := by rw [ht1]; exact HT0
        have HQ1 : Hid (t1.k = 3 ∧ t1.p = p + 3 ∧ t1.out = out ∧ t1.last = (x == 1)) := hide (by rw [ht1]; exact ⟨rfl, rfl, HS.out.2.2.1, rfl⟩)
        clear hn0 ht1 HT0
        rcases hx2 with rfl | rfl
        all_goals
          go_enter Tryz.func44, Tryz.ntmps44
          go_wp2_with fail
          refine (HX.out).mono ?_
          rintro e w1 ⟨rfl, hr1, hs1⟩
          have H1 := hide (And.intro hr1 hs1)
          clear hr1 hs1 k0 k1 k2 HX
          obtain ⟨k0, k1, k2⟩ := rs_cells H1.out.1
          go_wp2_with fail
          refine (HYK.out _ H1.out.1).mono ?_
          rintro e w2 ⟨rfl, hr2, hs2⟩
          have H2 := hide (And.intro hr2 (H1.out.2.trans hs2 (by simp)))
          clear hr2 hs2 k0 k1 k2
          obtain ⟨k0, k1, k2⟩ := rs_cells H2.out.1
          have HC := hide (HS.out.2.2.2.2.2.1 w2 (p + 3) v out t1 H2.out.1 (Nat.le_trans HS.out.2.2.2.1 H2.out.2.only.size) (fun b hb => Nat.lt_of_lt_of_le (HS.out.2.2.2.2.1 b hb) H2.out.2.only.size) HQ1.out.1 HQ1.out.2.1 HQ1.out.2.2.1)
          go_wp2_with fail
          refine (HC.out).mono ?_
          rintro e w3 ⟨ec, p3, v3, out3, rfl, hs3, hr3, hro⟩
          have H3 := hide (And.intro hr3 (And.intro (H2.out.2.trans hs3 (by simp)) hro))
          clear hr3 hs3 hro HC k0 k1 k2
          go_wp2_with fail
          go_ret2
          have HF := H3.out.2.2.blk (p := p) HT1.out (by rw [HQ1.out.2.1]; exact hp3) (by rw [HQ1.out.2.1]; omega)
          rw [HQ1.out.2.2.2] at HF
          exact ⟨_, ec, _, _, _, rfl, H3.out.2.1, H3.out.1, HF⟩
      · have hn0 := HN1.out
        rw [if_neg (by decide), if_neg (by decide), if_neg (by decide)] at hn0
        have HN2 := hide hn0
        clear hn0 hx2
        go_enter Tryz.func44, Tryz.ntmps44
        go_wp2_with fail
        refine (HX.out).mono ?_
        rintro e w1 ⟨rfl, hr1, hs1⟩
        have H1 := hide (And.intro hr1 hs1)
        clear hr1 hs1 k0 k1 k2 HX
        obtain ⟨k0, k1, k2⟩ := rs_cells H1.out.1
        go_wp2_with fail
        refine (HYK.out _ H1.out.1).mono ?_
        rintro e w2 ⟨rfl, hr2, hs2⟩
        have H2 := hide (And.intro hr2 (H1.out.2.trans hs2 (by simp)))
        clear hr2 hs2 k0 k1 k2
        go_wp2_with fail
        go_ret2
        exact ⟨false, 3, _, _, _, rfl, H2.out.2, H2.out.1, .inr (RE.bad (.refl s) (by rw [HS.out.1]; decide) HN2.out hp3 (by decide) ⟨[], by rw [HS.out.2.2.1]; simp⟩)⟩
    · have HV : Hid (∀ w1, Rs w1 b0 gs gr A c B (p + 1) v out most → Calls Tryz.prog 57 #[.pointer (some ⟨gr, 0, none⟩), .int .i64 2] w1 fun e w' => e = .returned (.tuple #[.int .u32 0, .bool false]) ∧ Rs w' b0 gs gr A c B (p + 1) v out most ∧ Since [gs, gr] w1 v w' v) := hide (fun w1 hr => rBits_no hr 2 (by omega))
      clear hx hx2
      go_enter Tryz.func44, Tryz.ntmps44
      go_wp2_with fail
      refine (HX.out).mono ?_
      rintro e w1 ⟨rfl, hr1, hs1⟩
      have H1 := hide (And.intro hr1 hs1)
      clear hr1 hs1 k0 k1 k2 HX
      obtain ⟨k0, k1, k2⟩ := rs_cells H1.out.1
      go_wp2_with fail
      refine (HV.out _ H1.out.1).mono ?_
      rintro e w2 ⟨rfl, hr2, hs2⟩
      have H2 := hide (And.intro hr2 (H1.out.2.trans hs2 (by simp)))
      clear hr2 hs2 k0 k1 k2
      go_wp2_with fail
      go_ret2
      exact ⟨false, 2, _, _, _, rfl, H2.out.2, H2.out.1, .inr (RE.short (.refl s) (by rw [HS.out.1]; decide) (by rw [HN0.out]; show 8 * B.length < p + 3; omega) HS.out.2.2.1.symm)⟩
  · have HX := hide (rBits_no H0.out 1 (by omega))
    go_enter Tryz.func44, Tryz.ntmps44
    go_wp2_with fail
    refine (HX.out).mono ?_
    rintro e w1 ⟨rfl, hr1, hs1⟩
    have H1 := hide (And.intro hr1 hs1)
    clear hr1 hs1 k0 k1 k2 HX
    go_wp2_with fail
    go_ret2
    exact ⟨false, 2, _, _, _, rfl, H1.out.2, H1.out.1, .inr (RE.short (.refl s) (by rw [HS.out.1]; decide) (by rw [HN0.out]; show 8 * B.length < p + 3; omega) HS.out.2.2.1.symm)⟩
end Go.Proofs.YtlknhiihdejpeaaGreatDoor

