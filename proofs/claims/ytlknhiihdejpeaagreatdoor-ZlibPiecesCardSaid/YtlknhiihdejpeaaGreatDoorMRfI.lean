/-
  The document's inflate: a dynamic block.
-/
import Derived.Test.YtlknhiihdejpeaaGreatDoorMRfG
import Derived.Test.YtlknhiihdejpeaaGreatDoorMHufV
import Derived.Test.YtlknhiihdejpeaaGreatDoorMFlP
import Derived.Test.YtlknhiihdejpeaaGreatDoorMCut
namespace Go.Proofs.YtlknhiihdejpeaaGreatDoor
open Go Go.RowKit

/-- The order's cells. -/
def ordCs : Array Value := (rankN.map fun (n : Nat) => Value.int .i64 (n : Int)).toArray
theorem ordCs_eq : (#[.int .i64 16, .int .i64 17, .int .i64 18, .int .i64 0, .int .i64 8, .int .i64 7, .int .i64 9, .int .i64 6, .int .i64 10, .int .i64 5, .int .i64 11, .int .i64 4, .int .i64 12, .int .i64 3, .int .i64 13, .int .i64 2, .int .i64 14, .int .i64 1, .int .i64 15] : Array Value) = ordCs := rfl
theorem rank_lt : ∀ i, i < 19 → rankN.getD i 0 < 19 := by decide
theorem ord_cell {w : World} {g i : Nat} (h : Has w g 3 ordCs) (hi : i < 19) : w.cell? ⟨g, i, none⟩ = some (.int .i64 ((rankN.getD i 0 : Nat) : Int)) := by
  rw [h.cell]
  unfold ordCs
  rw [List.getElem?_toArray, List.getElem?_map, List.getD_eq_getElem?_getD, List.getElem?_eq_getElem (show i < rankN.length from hi)]
  rfl
/-- Nineteen zeros. -/
def zer19 : List UInt8 := List.replicate 19 0
theorem make19 (W : World) : (Instr.makeSlice 22 (.int .i64 19) (.int .i64 19)).run Tryz.prog W = .ok (.slice (some ⟨W.heap.size, 0, none⟩) 19 19) (W.alloc (.cells (bvals zer19).toArray 5)) := by
  have h := run_make_row' (P := Tryz.prog) 22 5 (.int .u8 0) 1 Tryz.underlying22 u8_info rfl .i64 .i64 19 (by omega) (by omega) W
  rw [zeros_eq] at h
  exact h

/-- Where the order stands: some more are wanted; or the last is read. -/
def OrdRP (B : List UInt8) (p no i : Nat) (own : List UInt8) (t : GSt) : Prop :=
  (i < no ∧ t.nOwn = i ∧ t.own = own ∧ t.p = p) ∨
    (i = no ∧ t.nOwn + 1 = no ∧ t.p + 3 = p ∧ own = t.own.set (rankN.getD t.nOwn 0) (UInt8.ofNat (num B / 2 ^ t.p % 8)))
structure OrdRS (w : World) (b0 gs gr c gO gC : Nat) (A : Option Addr) (B : List UInt8) (v : Value) (out : List UInt8) (most nl nd no : Nat) (s : GSt) (wr : World) (i p : Nat) (own : List UInt8) (t : GSt) : Prop where
  since : Since [gs, gr] w v wr v
  rs : Rs wr b0 gs gr A c B p v out most
  ord : Has wr gO 3 ordCs
  row : Has wr gC 5 (bvals own).toArray
  len : own.length = 19
  le7 : ∀ b ∈ own, b.toNat ≤ 7
  steps : Steps fixedL fixedD2 (num B) B.length most s t
  k : t.k = 4
  pend : OrdRP B p no i own t
  out : t.out = out
  no : t.no = no
  nl : t.nl = nl
  nd : t.nd = nd
  lens : t.lens = []
  last : t.last = s.last

theorem zer19_len : zer19.length = 19 := rfl
theorem zer19_le : ∀ b ∈ zer19, b.toNat ≤ 7 := fun b hb => by rw [(List.mem_replicate.1 hb).2]; decide
theorem newE_3 {l : List UInt8} (hl : l.length ≤ 320) (hf : far l = false) (hm : ¬ mayBe (cn l) = true) : newE l = 3 := by
  unfold newE
  rw [if_neg (by rw [hf]; rintro (h | h) <;> first | omega | cases h), if_neg hm]
theorem wf3 {s : GSt} (h : s.k = 3) : s.Wf := by
  constructor
  all_goals intros
  all_goals omega

set_option maxRecDepth 100000 in
set_option maxHeartbeats 32000000 in
theorem rDynamic (b0 gs gr c most : Nat) (A : Option Addr) (B : List UInt8) (hB : B.length ≤ 90000) : DynK b0 gs gr c A B most := by
  intro w p v out s h hb0 hv hk hsp hso
  have hn3 := GSt.nx_3 (L0 := fixedL) (D0 := fixedD2) (N := num B) (most := most) hk
  rw [hsp] at hn3
  dsimp only at hn3
  obtain ⟨b1, b2, b3⟩ := bits14 (num B) p
  rw [b1, b2, b3] at hn3
  obtain ⟨k0, k1, k2⟩ := rs_cells h
  have H0 := hide h
  have HS := hide (And.intro hk (And.intro hsp (And.intro hso (And.intro hb0 (And.intro hv hB)))))
  have HG := hide (And.intro h.has.lt h.rd.has.lt)
  have HN3 := hide hn3
  clear hk hsp hso hb0 hv h hn3 b1 b2 b3 hB
  by_cases hp1 : p + 5 ≤ 8 * B.length
  · have HX := hide (rBits_yes H0.out 5 (by omega) hp1)
    obtain ⟨x, hx⟩ : ∃ x, x = num B / 2 ^ p % 2 ^ 5 := ⟨_, rfl⟩
    rw [← hx] at HX
    have hx32 : x < 32 := by rw [hx]; exact Nat.mod_lt _ (by decide)
    by_cases hp2 : p + 10 ≤ 8 * B.length
    · have HY : Hid (∀ w1, Rs w1 b0 gs gr A c B (p + 5) v out most → Calls Tryz.prog 57 #[.pointer (some ⟨gr, 0, none⟩), .int .i64 5] w1 fun e w' => e = .returned (.tuple #[.int .u32 ((num B / 2 ^ (p + 5) % 2 ^ 5 : Nat) : Int), .bool true]) ∧ Rs w' b0 gs gr A c B (p + 10) v out most ∧ Since [gs, gr] w1 v w' v) := hide (fun w1 hr => rBits_yes hr 5 (by omega) (by omega))
      obtain ⟨y, hy⟩ : ∃ y, y = num B / 2 ^ (p + 5) % 2 ^ 5 := ⟨_, rfl⟩
      rw [← hy] at HY
      have hy32 : y < 32 := by rw [hy]; exact Nat.mod_lt _ (by decide)
      by_cases hp3 : p + 14 ≤ 8 * B.length
      · have HZ : Hid (∀ w1, Rs w1 b0 gs gr A c B (p + 10) v out most → Calls Tryz.prog 57 #[.pointer (some ⟨gr, 0, none⟩), .int .i64 4] w1 fun e w' => e = .returned (.tuple #[.int .u32 ((num B / 2 ^ (p + 10) % 2 ^ 4 : Nat) : Int), .bool true]) ∧ Rs w' b0 gs gr A c B (p + 14) v out most ∧ Since [gs, gr] w1 v w' v) := hide (fun w1 hr => rBits_yes hr 4 (by omega) (by omega))
        obtain ⟨z, hz⟩ : ∃ z, z = num B / 2 ^ (p + 10) % 2 ^ 4 := ⟨_, rfl⟩
        rw [← hz] at HZ
        have hz16 : z < 16 := by rw [hz]; exact Nat.mod_lt _ (by decide)
        have hn3 := HN3.out
        have e1 : num B / 2 ^ p % 32 = x := hx.symm
        have e2 : num B / 2 ^ (p + 5) % 32 = y := hy.symm
        have e3 : num B / 2 ^ (p + 10) % 16 = z := hz.symm
        rw [e1, e2, e3] at hn3
        have HN4 := hide hn3
        clear hn3 e1 e2 e3 hx hy hz HN3
        by_cases hbad : x ≤ 29 ∧ y ≤ 29
        · have hn3 := HN4.out
          rw [if_pos hbad] at hn3
          have HT0 := hide (Steps.one (a := B.length) (by rw [HS.out.1]; decide) hn3 hp3)
          obtain ⟨t1, ht1⟩ : ∃ t1, t1 = ({ s with k := 4, p := p + 14, nl := 257 + x, nd := 1 + y, no := 4 + z, own := zer19, nOwn := 0, lens := [] } : GSt) := ⟨_, rfl⟩
          have HT1 : Hid (Steps fixedL fixedD2 (num B) B.length most s t1) := by rw [ht1]; exact HT0
          have HQ1 : Hid (t1.k = 4 ∧ t1.p = p + 14 ∧ t1.out = out ∧ t1.last = s.last ∧ t1.nl = 257 + x ∧ t1.nd = 1 + y ∧ t1.no = 4 + z ∧ t1.own = zer19 ∧ t1.nOwn = 0 ∧ t1.lens = []) := hide (by rw [ht1]; exact ⟨rfl, rfl, HS.out.2.2.1, rfl, rfl, rfl, rfl, rfl, rfl, rfl⟩)
          clear hn3 ht1 HT0 HN4
          have hxI : ¬ (29 : Int) < (x : Int) := by omega
          have hyI : ¬ (29 : Int) < (y : Int) := by omega
          obtain ⟨no, hno⟩ : ∃ no, no = 4 + z := ⟨_, rfl⟩
          rw [← hno] at HQ1
          have W1 := hide (wr6 (z := (z : Int)) (n := z) rfl (by omega))
          have W2 := hide (wr6 (z := (z : Int) + 4) (n := no) (by omega) (by omega))
          have hno19 : no ≤ 19 ∧ 4 ≤ no := by omega
          have HNO := hide (And.intro hno (And.intro hno19 (And.intro hbad (And.intro hx32 (And.intro hy32 (And.intro hp3 (And.intro hp1 hp2)))))))
          clear hno hno19 hbad hx32 hy32 hz16 hp3 hp1 hp2
          have hm19 := make19
          go_enter Tryz.func60, Tryz.ntmps60
          go_wp2_with fail
          refine (HX.out).mono ?_
          rintro e w1 ⟨rfl, hr1, hs1⟩
          have H1 := hide (And.intro hr1 hs1)
          clear hr1 hs1 k0 k1 k2 HX
          obtain ⟨k0, k1, k2⟩ := rs_cells H1.out.1
          go_wp2_with fail
          refine (HY.out _ H1.out.1).mono ?_
          rintro e w2 ⟨rfl, hr2, hs2⟩
          have H2 := hide (And.intro hr2 (H1.out.2.trans hs2 (by simp)))
          clear hr2 hs2 k0 k1 k2 HY H1
          obtain ⟨k0, k1, k2⟩ := rs_cells H2.out.1
          go_wp2_with fail
          refine (HZ.out _ H2.out.1).mono ?_
          rintro e w3 ⟨rfl, hr3, hs3⟩
          have H3 := hide (And.intro hr3 (H2.out.2.trans hs3 (by simp)))
          clear hr3 hs3 k0 k1 k2 HZ H2
          go_wp2_with fail
          have o34 : Only [] w3 ((w3.alloc (.cells ordCs 3)).alloc (.cells (bvals zer19).toArray 5)) := ((Only.refl [] w3).alloc _).alloc _
          have hO4 : Has ((w3.alloc (.cells ordCs 3)).alloc (.cells (bvals zer19).toArray 5)) w3.heap.size 3 ordCs := (Has.new w3 _ _).alloc _
          have hC4 : Has ((w3.alloc (.cells ordCs 3)).alloc (.cells (bvals zer19).toArray 5)) (w3.heap.size + 1) 5 (bvals zer19).toArray := by
            have := Has.new (w3.alloc (.cells ordCs 3)) 5 (bvals zer19).toArray
            rw [World.size_alloc] at this
            exact this
          have H4 := hide (show OrdRS w b0 gs gr c w3.heap.size (w3.heap.size + 1) A B v out most (257 + x) (1 + y) no s _ 0 (p + 14) zer19 t1 from
            ⟨H3.out.2.trans (Rs.since_idle (gs := gs) (gr := gr) (v := v) o34) (by simp), H3.out.1.idle o34, hO4, hC4, zer19_len, zer19_le, HT1.out, HQ1.out.1, .inl ⟨by have := HNO.out.2.1; omega, HQ1.out.2.2.2.2.2.2.2.2.1, HQ1.out.2.2.2.2.2.2.2.1, HQ1.out.2.1⟩, HQ1.out.2.2.1, HQ1.out.2.2.2.2.2.2.1, HQ1.out.2.2.2.2.1, HQ1.out.2.2.2.2.2.1, HQ1.out.2.2.2.2.2.2.2.2.2, HQ1.out.2.2.2.1⟩)
          have hgO : w.heap.size ≤ w3.heap.size := H3.out.2.only.size
          obtain ⟨gO, hgO'⟩ : ∃ gO, gO = w3.heap.size := ⟨_, rfl⟩
          obtain ⟨gC, hgC'⟩ : ∃ gC, gC = gO + 1 := ⟨_, rfl⟩
          rw [← hgO', ← hgC'] at H4
          rw [show (#[.int .i64 16, .int .i64 17, .int .i64 18, .int .i64 0, .int .i64 8, .int .i64 7, .int .i64 9, .int .i64 6, .int .i64 10, .int .i64 5, .int .i64 11, .int .i64 4, .int .i64 12, .int .i64 3, .int .i64 13, .int .i64 2, .int .i64 14, .int .i64 1, .int .i64 15] : Array Value) = ordCs from ordCs_eq]
          clear o34 hO4 hC4 hm19
          generalize (w3.alloc (.cells ordCs 3)).alloc (.cells (bvals zer19).toArray 5) = w4 at *
          rw [← hgO', ← hgC']
          have HGO := hide (And.intro (show w.heap.size ≤ gO by rw [hgO']; exact hgO) hgC')
          clear hgO hgO' hgC' H3
          go_loopw [9] (fun v9 wr => ∃ (i P : Nat) (own : List UInt8) (t : GSt), OrdRS w b0 gs gr c gO gC A B v out most (257 + x) (1 + y) no s wr i P own t ∧ v9 = .int .i64 (i : Int)) (fun v9 _ => no - (intOf v9).toNat)
          case atStart => exact ⟨0, _, _, _, H4.out, rfl⟩
          case round =>
            obtain ⟨i, P, own, t, S, rfl⟩ := hrel
            clear H4
            by_cases hlt : i < no
            · have hp' : t.nOwn = i ∧ t.own = own ∧ t.p = P := by
                rcases S.pend with h | h
                · exact h.2
                · exact absurd h.1 (by omega)
              have hltI : (i : Int) < (no : Int) := by omega
              have hi19 : i < 19 := by have := HNO.out.2.1; omega
              obtain ⟨k0, k1, k2⟩ := rs_cells S.rs
              have hn4 := GSt.nx_4 (L0 := fixedL) (D0 := fixedD2) (N := num B) (most := most) S.k
              rw [hp'.1, hp'.2.1, hp'.2.2, S.no] at hn4
              dsimp only at hn4
              obtain ⟨r, hr⟩ : ∃ r, r = rankN.getD i 0 := ⟨_, rfl⟩
              have hr19 : r < 19 := by rw [hr]; exact rank_lt i hi19
              rw [← hr] at hn4
              obtain ⟨v1, u1⟩ := W1.out
              obtain ⟨v2, u2⟩ := W2.out
              by_cases hb3 : P + 3 ≤ 8 * B.length
              · have HV := hide (rBits_yes S.rs 3 (by omega) hb3)
                obtain ⟨y3, hy3⟩ : ∃ y3, y3 = num B / 2 ^ P % 2 ^ 3 := ⟨_, rfl⟩
                have e8 : num B / 2 ^ P % 8 = y3 := hy3.symm
                rw [← hy3] at HV
                rw [e8] at hn4
                have hy8 : y3 < 8 := by rw [hy3]; exact Nat.mod_lt _ (by decide)
                have HJ := hide (And.intro S (And.intro hn4 (And.intro hp' (And.intro hr (And.intro e8 (And.intro hb3 (And.intro hi19 hlt)))))))
                have hwu : IntKind.u8.wrap (y3 : Int) = (y3 : Int) := by rw [IntKind.wrap_u8]; omega
                have HY8 := hide hy8
                have HR19 := hide hr19
                clear S hn4 hp' hr hy3 e8 hb3 hi19 hlt hy8 hr19
                go_wp2_with fail
                refine (HV.out).mono ?_
                rintro e w5 ⟨rfl, hr5, hs5⟩
                have hnin : ∀ k, w.heap.size ≤ k → k ∉ [gs, gr] ++ v.ownBlock.toList := fun k hk hm => by
                  rcases List.mem_append.1 hm with hm | hm
                  · have h1 := HG.out.1
                    have h2 := HG.out.2
                    simp only [List.mem_cons, List.not_mem_nil, or_false] at hm
                    omega
                  · have := HS.out.2.2.2.2.1 k (own_to hm); omega
                have hO5 := HJ.out.1.ord.only hs5.only (hnin _ HGO.out.1)
                have hC5 := HJ.out.1.row.only hs5.only (hnin _ (by have := HGO.out.1; have := HGO.out.2; omega))
                have co := ord_cell hO5 HJ.out.2.2.2.2.2.2.1
                rw [← HJ.out.2.2.2.1] at co
                have hrl : r < own.length := by rw [HJ.out.1.len]; exact HR19.out
                have cc := hC5.cell r
                rw [List.getElem?_toArray, bvals_get own r hrl] at cc
                have fc := hC5.free r
                generalize (own[r]'hrl).toNat = old at cc
                have hset := hC5.set r (.int .u8 (y3 : Int))
                rw [List.setIfInBounds_toArray, bvals_set _ _ _ (by have := HY8.out; omega)] at hset
                have o6 : Only [gC] w5 (w5.setCell ⟨gC, r, none⟩ (.int .u8 (y3 : Int))) := (Only.refl [gC] w5).setCell (by simp) _
                have hno6 : gO ≠ gC := by have := HGO.out.2; omega
                have H5 := hide (And.intro (HJ.out.1.since.trans hs5 (by simp)) (And.intro hr5 (And.intro (hO5.other (p := ⟨gC, r, none⟩) hno6 (.int .u8 (y3 : Int))) (And.intro hset o6))))
                have hiI : (i : Int) < 19 := by have := HJ.out.2.2.2.2.2.2.1; omega
                have hrI : (r : Int) < 19 := by have := HR19.out; omega
                have hi0 : (0 : Int) ≤ (i : Int) := by omega
                have hr0 : (0 : Int) ≤ (r : Int) := by omega
                clear hr5 hs5 hnin hO5 hC5 hset o6 hno6 HV k0 k1 k2 hrl
                go_wp2_with fail
                go_roundw
                case rel =>
                  obtain ⟨S, hn4, hp', hr, e8, hb3, hi19, hlt⟩ := HJ.out
                  obtain ⟨hs5, hr5, hO6, hC6, o6⟩ := H5.out
                  have hC1 : ∀ k ∈ [gC], w.heap.size ≤ k := by
                    intro k hk
                    have := HGO.out.1
                    have := HGO.out.2
                    simp only [List.mem_cons, List.not_mem_nil, or_false] at hk
                    omega
                  have hs6 := since_newer hs5 o6 hC1
                  have hr6 := hr5.newer o6 hC1 HG.out.1 HG.out.2 HS.out.2.2.2.2.1 HS.out.2.2.2.1
                  have hle : ∀ b ∈ own.set r (UInt8.ofNat y3), b.toNat ≤ 7 := fun b hb => by
                    rcases List.mem_or_eq_of_mem_set hb with h | h
                    · exact S.le7 b h
                    · rw [h, UInt8.toNat_ofNat']; have := HY8.out; omega
                  have hlen : (own.set r (UInt8.ofNat y3)).length = 19 := by rw [List.length_set]; exact S.len
                  by_cases hmore : i + 1 < no
                  · rw [if_pos hmore] at hn4
                    exact ⟨i + 1, P + 3, _, _, ⟨hs6, hr6, hO6, hC6, hlen, hle, S.steps.snoc (by rw [S.k]; decide) hn4 hb3, S.k, .inl ⟨hmore, rfl, rfl, rfl⟩, S.out, rfl, S.nl, S.nd, S.lens, S.last⟩, by go_num⟩
                  · refine ⟨i + 1, P + 3, _, t, ⟨hs6, hr6, hO6, hC6, hlen, hle, S.steps, S.k, .inr ⟨by omega, by rw [hp'.1]; omega, by rw [hp'.2.2], ?_⟩, S.out, S.no, S.nl, S.nd, S.lens, S.last⟩, by go_num⟩
                    rw [hp'.1, hp'.2.1, hp'.2.2, ← hr, e8]
                case measure => have := HJ.out.2.2.2.2.2.2.2; simp [intOf]; omega
              · have HV := hide (rBits_no S.rs 3 (by omega))
                have HJ := hide (And.intro S (And.intro hn4 (And.intro hp' hb3)))
                clear S hn4 hp' hb3 hr hr19 hlt
                go_wp2_with fail
                refine (HV.out).mono ?_
                rintro e w5 ⟨rfl, hr5, hs5⟩
                have H5 := hide (And.intro hr5 (HJ.out.1.since.trans hs5 (by simp)))
                clear hr5 hs5 HV k0 k1 k2
                go_wp2_with fail
                go_ret
                exact ⟨2, _, _, _, rfl, H5.out.2, H5.out.1, RO.short HJ.out.1.steps (by rw [HJ.out.1.k]; decide) (by rw [HJ.out.2.1]; show 8 * B.length < P + 3; have := HJ.out.2.2.2; omega) HJ.out.1.out.symm⟩
            · have hp' : i = no ∧ t.nOwn + 1 = no ∧ t.p + 3 = P ∧ own = t.own.set (rankN.getD t.nOwn 0) (UInt8.ofNat (num B / 2 ^ t.p % 8)) := by
                rcases S.pend with h | h
                · exact absurd h.1 hlt
                · exact h
              obtain ⟨q0, q1, q2, q3⟩ := hp'
              have hltI : ¬ (i : Int) < (no : Int) := by omega
              have hn4 := GSt.nx_4 (L0 := fixedL) (D0 := fixedD2) (N := num B) (most := most) S.k
              dsimp only at hn4
              rw [← q3, S.no, q1, q2, if_neg (Nat.lt_irrefl _)] at hn4
              have hP := S.rs.rd.le
              have hfar : far own = false := far_of fun b hb => by have := S.le7 b hb; omega
              obtain ⟨v1, u1⟩ := W1.out
              obtain ⟨v2, u2⟩ := W2.out
              clear q0 q1 q2 q3 hlt
              by_cases hm : mayBe (cn own) = true
              · rw [if_pos hm] at hn4
                have HT5 := hide (S.steps.snoc (by rw [S.k]; decide) hn4 hP)
                obtain ⟨t5, ht5⟩ : ∃ t5, t5 = ({ t with k := 5, p := P, own := own, no := no, nOwn := no } : GSt) := ⟨_, rfl⟩
                have HT5 : Hid (Steps fixedL fixedD2 (num B) B.length most s t5) := by rw [ht5]; exact HT5
                have HQ5 : Hid (t5.k = 5 ∧ t5.p = P ∧ t5.out = out ∧ t5.own = own ∧ t5.nl = 257 + x ∧ t5.nd = 1 + y ∧ t5.lens = [] ∧ t5.last = s.last) := hide (by rw [ht5]; exact ⟨rfl, rfl, S.out, rfl, S.nl, S.nd, S.lens, S.last⟩)
                have HJ := hide (And.intro S (And.intro hfar (And.intro hm hP)))
                have hNT := hide (tNewT2 (some ⟨gC, 0, none⟩) 19 19 own wr (Has.holds S.row S.len) S.len (by omega) hfar hm)
                clear hn4 ht5 S hfar hm hP
                go_wp2_with fail
                refine (hNT.out).mono ?_
                rintro e w6 ⟨gT, rfl, hgT, hR6, ho6⟩
                clear v1 u1 v2 u2 hltI hNT
                have hr6 := HJ.out.1.rs.idle ho6
                have hs6 : Since [gs, gr] w v w6 v := HJ.out.1.since.trans (Rs.since_idle (gs := gs) (gr := gr) (v := v) ho6) (by simp)
                have hsz1 := HJ.out.1.since.only.size
                have hsz2 := ho6.size
                have hSl : ∀ k ∈ [gs, gr], k < wr.heap.size := fun k hk => by
                  have h1 := HG.out.1
                  have h2 := HG.out.2
                  simp only [List.mem_cons, List.not_mem_nil, or_false] at hk
                  omega
                have hvl : ∀ b, v.ownBlock = some b → b < wr.heap.size := fun b hb => by have := HS.out.2.2.2.2.1 b hb; omega
                have hxy := HNO.out.2.2.1
                have hnn : 0 < t5.nl + t5.nd ∧ t5.nl + t5.nd ≤ 400 := by rw [HQ5.out.2.2.2.2.1, HQ5.out.2.2.2.2.2.1]; omega
                have HL := hide (rLengths hr6 (by have := HS.out.2.2.2.1; omega) (fun b hb => by have := hvl b hb; omega) t5 (bt := wr.heap.size) (gt := gT) (fun w' hs => by rw [HQ5.out.2.2.2.1]; exact RT2.since hR6 hs hSl hvl) (by rw [HQ5.out.2.2.2.1]; exact ⟨HJ.out.1.len, ln_far HJ.out.2.1, HJ.out.2.2.1⟩) HQ5.out.1 HQ5.out.2.1 HQ5.out.2.2.1 HQ5.out.2.2.2.2.2.2.1 hnn)
                obtain ⟨nl, hnl⟩ : ∃ nl, nl = 257 + x := ⟨_, rfl⟩
                obtain ⟨q, hq⟩ : ∃ q, q = nl + y := ⟨_, rfl⟩
                obtain ⟨n, hn⟩ : ∃ n, n = t5.nl + t5.nd := ⟨_, rfl⟩
                have hqn : n = q + 1 := by rw [hn, HQ5.out.2.2.2.2.1, HQ5.out.2.2.2.2.2.1]; omega
                rw [← hn] at HL
                have W3 := hide (wr6 (z := (x : Int)) (n := x) rfl (by omega))
                have W4 := hide (wr6 (z := (x : Int) + 257) (n := nl) (by omega) (by omega))
                have W5 := hide (wr6 (z := (y : Int)) (n := y) rfl (by omega))
                have W6 := hide (wr6 (z := (nl : Int) + (y : Int)) (n := q) (by omega) (by omega))
                have W7 := hide (wr6 (z := (q : Int) + 1) (n := n) (by omega) (by omega))
                have H6 := hide (And.intro hr6 (And.intro hs6 (And.intro hsz1 (And.intro hsz2 (And.intro hSl (And.intro hvl ho6))))))
                have HNL := hide (And.intro hnl (And.intro hq (And.intro hn (And.intro hqn hxy))))
                clear hr6 hs6 hsz1 hsz2 hSl hvl hxy hnn hnl hq hn hqn hgT hR6 ho6
                obtain ⟨v3, u3⟩ := W3.out
                obtain ⟨v4, u4⟩ := W4.out
                obtain ⟨v5, u5⟩ := W5.out
                obtain ⟨v6, u6⟩ := W6.out
                obtain ⟨v7, u7⟩ := W7.out
                clear W3 W4 W5 W6 W7
                go_wp2_with fail
                refine (HL.out).mono ?_
                rintro e w7 ⟨ec, p7, vl, rfl, hs7, hr7, hcase⟩
                clear v3 u3 v4 u4 v5 u5 v6 u6 v7 u7 HL
                have H7 := hide (And.intro hr7 (H6.out.2.1.trans hs7 (by simp)))
                clear hs7 hr7
                rcases hcase with ⟨rfl, l, t7, hL, hlen⟩ | hre
                · have hpd : t7.k = 6 ∧ t7.p + repB t7.sym = p7 ∧ l = t7.lens ++ List.replicate (repM t7.sym + num B / 2 ^ t7.p % 2 ^ repB t7.sym) (repV t7.sym t7.lens) := by
                    rcases hL.pend with h | h
                    · exact absurd h.1 (by omega)
                    · exact h.2
                  have hst7 := HT5.out.trans hL.steps
                  have hwf := Steps.wf okL okD hst7 (wf3 HS.out.1)
                  have hl15 : ∀ b ∈ l, b.toNat ≤ 15 := fun b hb => by
                    have h1 := hwf.said (by omega) (by omega)
                    have h2 := hwf.sym6 hpd.1
                    rw [hpd.2.2] at hb
                    rcases List.mem_append.1 hb with hb | hb
                    · exact h1.2.2 b hb
                    · rw [(List.mem_replicate.1 hb).2]; exact repV_le h2.1 h1.2.2
                  have hn6 := GSt.nx_6 (L0 := fixedL) (D0 := fixedD2) (N := num B) (most := most) hpd.1
                  dsimp only at hn6
                  rw [← hpd.2.2, hL.nl, hL.nd, if_neg (by omega), if_neg (by omega), hpd.2.1, HQ5.out.2.2.2.2.1, ← HNL.out.1] at hn6
                  obtain ⟨m, hm⟩ : ∃ m, m = l.length := ⟨_, rfl⟩
                  have hmn : m = n := by rw [hm, hlen, HNL.out.2.2.1]
                  have hnl2 : nl = 257 + x := HNL.out.1
                  have hxy := HNL.out.2.2.2.2
                  have hnq : n = nl + y + 1 := by rw [HNL.out.2.2.2.1, HNL.out.2.1]
                  have hrow := hL.row
                  obtain ⟨A1, c1, rfl, hc1, _⟩ := own_shape hrow
                  obtain ⟨ga, rfl, _, hgalt, _, hcell⟩ := own_open hrow (by omega)
                  rw [← hm] at hrow hc1 ⊢
                  have h256 : 256 < l.length := by omega
                  have c7 := hcell 256 _ (bvals_get l 256 h256)
                  obtain ⟨u, hu⟩ : ∃ u, u = ln l 256 := ⟨_, rfl⟩
                  rw [← ln_get h256, ← hu] at c7
                  have hup := fun W => run_upto (some ⟨ga, 0, none⟩) m c1 nl (by omega) W
                  have hho := Holds.of_own hrow
                  obtain ⟨A2, c2, hfrom, hh2, hc2, _⟩ := run_from hho hm.symm hc1 nl (by omega)
                  have htl : (l.take nl).length = nl := by rw [List.length_take]; omega
                  have hdl : (l.drop nl).length = m - nl := by rw [List.length_drop, hm]
                  have hf1 : far (l.take nl) = false := far_of fun b hb => hl15 b (List.mem_of_mem_take hb)
                  have hf2 : far (l.drop nl) = false := far_of fun b hb => hl15 b (List.mem_of_mem_drop hb)
                  have hp7 := H7.out.1.rd.le
                  have hmI : (256 : Int) < (m : Int) := by omega
                  have HM := hide (And.intro hst7 (And.intro hn6 (And.intro hpd.1 (And.intro hp7 (And.intro hL.out (And.intro hL.last hgalt))))))
                  have HH := hide (And.intro (hho.upto nl (by omega)) (And.intro hh2 (And.intro htl (And.intro hdl (And.intro hf1 (And.intro hf2 (And.intro (show nl ≤ 286 by omega) (show m - nl ≤ 30 by omega))))))))
                  have HU := hide (And.intro hu (And.intro (show m - nl ≤ c2 from hc2) (And.intro c7 (And.intro hfrom hmI))))
                  clear hst7 hwf hl15 hn6 hpd hL hlen hmn hnl2 hxy hnq hrow hc1 hcell h256 hho hh2 htl hdl hf1 hf2 hp7 hgalt hm hu hc2 c7
                  by_cases hm1 : mayBe (cn (l.take nl)) = true
                  · have hN1 := hide (tNewT2 (some ⟨ga, 0, none⟩) nl c1 (l.take nl) w7 HH.out.1 HH.out.2.2.1 (by have := HH.out.2.2.2.2.2.2.1; omega) HH.out.2.2.2.2.1 hm1)
                    have HM1 := hide hm1
                    clear hm1 hfrom hmI
                    go_wp2_with fail
                    refine (hN1.out).mono ?_
                    rintro e w8 ⟨g8, rfl, hg8, hR8, ho8⟩
                    have H8 := hide (And.intro hR8 ho8)
                    clear hN1 hR8 ho8 hg8 hup
                    have hfrom := HU.out.2.2.2.1
                    by_cases hm2 : mayBe (cn (l.drop nl)) = true
                    · have hN2 := hide (tNewT2 A2 (m - nl) c2 (l.drop nl) w8 (HH.out.2.1.keep H8.out.2 (by simp)) HH.out.2.2.2.1 (by have := HH.out.2.2.2.2.2.2.2; omega) HH.out.2.2.2.2.2.1 hm2)
                      have HM2 := hide hm2
                      clear hm2
                      go_wp2_with fail
                      refine (hN2.out).mono ?_
                      rintro e w9 ⟨g9, rfl, hg9, hR9, ho9⟩
                      have o79 : Only [] w7 w9 := H8.out.2.trans ho9 (S := []) (by simp)
                      have c9 := HU.out.2.2.1
                      rw [← o79.cell (p := ⟨ga, 256, none⟩) HM.out.2.2.2.2.2.2 (by simp)] at c9
                      have hmI := HU.out.2.2.2.2
                      have H9 := hide (And.intro hR9 (And.intro ho9 o79))
                      clear hN2 hR9 ho9 hg9 o79 hfrom
                      by_cases hz : u = 0
                      · have hbad : ¬ (mayBe (cn (l.take nl)) = true ∧ mayBe (cn (l.drop nl)) = true ∧ ln l 256 ≠ 0) := fun h => h.2.2 (by rw [← HU.out.1]; exact hz)
                        have c9' : w9.cell? ⟨ga, 256, none⟩ = some (.int .u8 0) := by rw [hz] at c9; exact c9
                        clear c9 hz
                        go_wp2_with fail
                        go_ret
                        obtain ⟨z1, z2, z3, z4, z5, z6, _⟩ := HM.out
                        rw [if_neg hbad] at z2
                        exact ⟨3, _, _, _, rfl, H7.out.2.trans (Rs.since_idle (gs := gs) (gr := gr) (v := v) H9.out.2.2) (by simp), H7.out.1.idle H9.out.2.2, RO.bad z1 (by rw [z3]; decide) z2 z4 (by decide) ⟨[], by rw [z5]; simp⟩⟩
                      · have huI : ¬ (u : Int) = 0 := by omega
                        have hub : ((u : Int) == 0) = false := beq_eq_false_iff_ne.2 huI
                        obtain ⟨t8, ht8⟩ : ∃ t8, t8 = ({ t7 with k := 7, p := p7, lens := l, T := l.take nl, D := l.drop nl, nl := nl, nd := t5.nd } : GSt) := ⟨_, rfl⟩
                        have HT8 : Hid (Steps fixedL fixedD2 (num B) B.length most s t8) := hide (by
                          obtain ⟨z1, z2, z3, z4, z5, z6, _⟩ := HM.out
                          rw [if_pos ⟨HM1.out, HM2.out, by rw [← HU.out.1]; exact hz⟩] at z2
                          rw [ht8]
                          have := z1.snoc (by rw [z3]; decide) z2 z4
                          exact this)
                        have HQ8 : Hid (t8.k = 7 ∧ t8.p = p7 ∧ t8.out = out ∧ t8.T = l.take nl ∧ t8.D = l.drop nl ∧ t8.last = s.last) := hide (by rw [ht8]; exact ⟨rfl, rfl, HM.out.2.2.2.2.1, rfl, rfl, HM.out.2.2.2.2.2.1.trans HQ5.out.2.2.2.2.2.2.2⟩)
                        have z0 := H7.out.2.only.size
                        have z1 := H8.out.2.size
                        have z2 := H9.out.2.1.size
                        have hTD : ∀ w' v', Since [gs, gr] w9 v w' v' → RT w' w7.heap.size g8 (l.take nl) ∧ RT w' w8.heap.size g9 (l.drop nl) := fun w' v' hs => by
                          have g1 := HG.out.1
                          have g2 := HG.out.2
                          refine ⟨RT2.since H8.out.1 ((Rs.since_idle (gs := gs) (gr := gr) (v := v) H9.out.2.1).trans hs (by simp)) ?_ ?_, RT2.since H9.out.1 hs ?_ ?_⟩
                          · intro k hk; simp only [List.mem_cons, List.not_mem_nil, or_false] at hk; omega
                          · intro b hb; have := HS.out.2.2.2.2.1 b hb; omega
                          · intro k hk; simp only [List.mem_cons, List.not_mem_nil, or_false] at hk; omega
                          · intro b hb; have := HS.out.2.2.2.2.1 b hb; omega
                        have hC := hide (rCodes (H7.out.1.idle H9.out.2.2) (by have := HS.out.2.2.2.1; omega) hTD ⟨by rw [HH.out.2.2.1]; have := HH.out.2.2.2.2.2.2.1; omega, ln_far HH.out.2.2.2.2.1, HM1.out⟩ ⟨by rw [HH.out.2.2.2.1]; have := HH.out.2.2.2.2.2.2.2; omega, ln_far HH.out.2.2.2.2.2.1, HM2.out⟩ t8 HQ8.out.1 HQ8.out.2.1 HQ8.out.2.2.1 HQ8.out.2.2.2.1 HQ8.out.2.2.2.2.1)
                        have HS9 := hide (H7.out.2.trans (Rs.since_idle (gs := gs) (gr := gr) (v := v) H9.out.2.2) (by simp))
                        clear hz ht8 z0 z1 z2 hTD
                        go_wp2_with fail
                        refine (hC.out).mono ?_
                        rintro e wz ⟨ec, pz, vz, outz, rfl, hsz, hrz, hro⟩
                        have HZZ := hide (And.intro hrz (And.intro (HS9.out.trans hsz (by simp)) hro))
                        clear hsz hrz hro hC
                        go_wp2_with fail
                        go_ret
                        exact ⟨ec, _, _, _, rfl, HZZ.out.2.1, HZZ.out.1, HZZ.out.2.2.from HT8.out HQ8.out.2.2.2.2.2⟩
                    · have hN2 := hide (tNewF A2 (m - nl) c2 (l.drop nl) w8 (HH.out.2.1.keep H8.out.2 (by simp)) HH.out.2.2.2.1 (by have := HH.out.2.2.2.2.2.2.2; omega) (by rw [newE_3 (by rw [HH.out.2.2.2.1]; have := HH.out.2.2.2.2.2.2.2; omega) HH.out.2.2.2.2.2.1 hm2]; decide))
                      rw [newE_3 (by rw [HH.out.2.2.2.1]; have := HH.out.2.2.2.2.2.2.2; omega) HH.out.2.2.2.2.2.1 hm2] at hN2
                      have hbad : ¬ (mayBe (cn (l.take nl)) = true ∧ mayBe (cn (l.drop nl)) = true ∧ ln l 256 ≠ 0) := fun h => hm2 h.2.1
                      clear hm2
                      go_wp2_with fail
                      refine (hN2.out).mono ?_
                      rintro e w9 ⟨rfl, rfl⟩
                      go_wp2_with fail
                      go_ret
                      obtain ⟨z1, z2, z3, z4, z5, z6, _⟩ := HM.out
                      rw [if_neg hbad] at z2
                      exact ⟨3, _, _, _, rfl, H7.out.2.trans (Rs.since_idle (gs := gs) (gr := gr) (v := v) H8.out.2) (by simp), H7.out.1.idle H8.out.2, RO.bad z1 (by rw [z3]; decide) z2 z4 (by decide) ⟨[], by rw [z5]; simp⟩⟩
                  · have hN1 := hide (tNewF (some ⟨ga, 0, none⟩) nl c1 (l.take nl) w7 HH.out.1 HH.out.2.2.1 (by have := HH.out.2.2.2.2.2.2.1; omega) (by rw [newE_3 (by rw [HH.out.2.2.1]; have := HH.out.2.2.2.2.2.2.1; omega) HH.out.2.2.2.2.1 hm1]; decide))
                    rw [newE_3 (by rw [HH.out.2.2.1]; have := HH.out.2.2.2.2.2.2.1; omega) HH.out.2.2.2.2.1 hm1] at hN1
                    have hbad : ¬ (mayBe (cn (l.take nl)) = true ∧ mayBe (cn (l.drop nl)) = true ∧ ln l 256 ≠ 0) := fun h => hm1 h.1
                    clear hm1 hfrom hmI
                    go_wp2_with fail
                    refine (hN1.out).mono ?_
                    rintro e w8 ⟨rfl, rfl⟩
                    go_wp2_with fail
                    go_ret
                    obtain ⟨z1, z2, z3, z4, z5, z6, _⟩ := HM.out
                    rw [if_neg hbad] at z2
                    exact ⟨3, _, _, _, rfl, H7.out.2, H7.out.1, RO.bad z1 (by rw [z3]; decide) z2 z4 (by decide) ⟨[], by rw [z5]; simp⟩⟩
                · have he := hre.1
                  have heI : ¬ (ec : Int) = 0 := by omega
                  have heb : ((ec : Int) == 0) = false := beq_eq_false_iff_ne.2 heI
                  have HR := hide hre
                  clear hre he
                  go_wp2_with fail
                  go_ret
                  exact ⟨ec, _, _, _, rfl, H7.out.2, H7.out.1, .inr (HR.out.from HT5.out)⟩
              · rw [if_neg hm] at hn4
                have hNT := hide (tNewF (some ⟨gC, 0, none⟩) 19 19 own wr (Has.holds S.row S.len) S.len (by omega) (by rw [newE_3 (by rw [S.len]; omega) hfar hm]; decide))
                rw [newE_3 (by rw [S.len]; omega) hfar hm] at hNT
                have HJ := hide (And.intro S (And.intro hn4 hP))
                clear hn4 S hfar hm hP
                go_wp2_with fail
                refine (hNT.out).mono ?_
                rintro e w6 ⟨rfl, rfl⟩
                go_wp2_with fail
                go_ret
                exact ⟨3, _, _, _, rfl, HJ.out.1.since, HJ.out.1.rs, RO.bad HJ.out.1.steps (by rw [HJ.out.1.k]; decide) HJ.out.2.1 HJ.out.2.2 (by decide) ⟨[], by rw [HJ.out.1.out]; simp⟩⟩
        · have hn3 := HN4.out
          rw [if_neg hbad] at hn3
          have HN5 := hide (And.intro hn3 hp3)
          clear hn3 HN4 hp1 hp2 hp3
          rcases (show 29 < x ∨ (x ≤ 29 ∧ 29 < y) by omega) with hx29 | ⟨hx29, hy29⟩
          · have hxI : (29 : Int) < (x : Int) := by omega
            clear hbad hx32 hy32 hz16 hx29
            go_enter Tryz.func60, Tryz.ntmps60
            go_wp2_with fail
            refine (HX.out).mono ?_
            rintro e w1 ⟨rfl, hr1, hs1⟩
            have H1 := hide (And.intro hr1 hs1)
            clear hr1 hs1 k0 k1 k2 HX
            obtain ⟨k0, k1, k2⟩ := rs_cells H1.out.1
            go_wp2_with fail
            refine (HY.out _ H1.out.1).mono ?_
            rintro e w2 ⟨rfl, hr2, hs2⟩
            have H2 := hide (And.intro hr2 (H1.out.2.trans hs2 (by simp)))
            clear hr2 hs2 k0 k1 k2 HY H1
            obtain ⟨k0, k1, k2⟩ := rs_cells H2.out.1
            go_wp2_with fail
            refine (HZ.out _ H2.out.1).mono ?_
            rintro e w3 ⟨rfl, hr3, hs3⟩
            have H3 := hide (And.intro hr3 (H2.out.2.trans hs3 (by simp)))
            clear hr3 hs3 k0 k1 k2 HZ H2
            go_wp2_with fail
            go_ret
            exact ⟨3, _, _, _, rfl, H3.out.2, H3.out.1, RO.bad (.refl s) (by rw [HS.out.1]; decide) HN5.out.1 HN5.out.2 (by decide) ⟨[], by rw [HS.out.2.2.1]; simp⟩⟩
          · have hxI : ¬ (29 : Int) < (x : Int) := by omega
            have hyI : (29 : Int) < (y : Int) := by omega
            clear hbad hx32 hy32 hz16 hx29 hy29
            go_enter Tryz.func60, Tryz.ntmps60
            go_wp2_with fail
            refine (HX.out).mono ?_
            rintro e w1 ⟨rfl, hr1, hs1⟩
            have H1 := hide (And.intro hr1 hs1)
            clear hr1 hs1 k0 k1 k2 HX
            obtain ⟨k0, k1, k2⟩ := rs_cells H1.out.1
            go_wp2_with fail
            refine (HY.out _ H1.out.1).mono ?_
            rintro e w2 ⟨rfl, hr2, hs2⟩
            have H2 := hide (And.intro hr2 (H1.out.2.trans hs2 (by simp)))
            clear hr2 hs2 k0 k1 k2 HY H1
            obtain ⟨k0, k1, k2⟩ := rs_cells H2.out.1
            go_wp2_with fail
            refine (HZ.out _ H2.out.1).mono ?_
            rintro e w3 ⟨rfl, hr3, hs3⟩
            have H3 := hide (And.intro hr3 (H2.out.2.trans hs3 (by simp)))
            clear hr3 hs3 k0 k1 k2 HZ H2
            go_wp2_with fail
            go_ret
            exact ⟨3, _, _, _, rfl, H3.out.2, H3.out.1, RO.bad (.refl s) (by rw [HS.out.1]; decide) HN5.out.1 HN5.out.2 (by decide) ⟨[], by rw [HS.out.2.2.1]; simp⟩⟩
      · have HV : Hid (∀ w1, Rs w1 b0 gs gr A c B (p + 10) v out most → Calls Tryz.prog 57 #[.pointer (some ⟨gr, 0, none⟩), .int .i64 4] w1 fun e w' => e = .returned (.tuple #[.int .u32 0, .bool false]) ∧ Rs w' b0 gs gr A c B (p + 10) v out most ∧ Since [gs, gr] w1 v w' v) := hide (fun w1 hr => rBits_no hr 4 (by omega))
        clear hx hy hx32 hy32
        go_enter Tryz.func60, Tryz.ntmps60
        go_wp2_with fail
        refine (HX.out).mono ?_
        rintro e w1 ⟨rfl, hr1, hs1⟩
        have H1 := hide (And.intro hr1 hs1)
        clear hr1 hs1 k0 k1 k2 HX
        obtain ⟨k0, k1, k2⟩ := rs_cells H1.out.1
        go_wp2_with fail
        refine (HY.out _ H1.out.1).mono ?_
        rintro e w2 ⟨rfl, hr2, hs2⟩
        have H2 := hide (And.intro hr2 (H1.out.2.trans hs2 (by simp)))
        clear hr2 hs2 k0 k1 k2 HY H1
        obtain ⟨k0, k1, k2⟩ := rs_cells H2.out.1
        go_wp2_with fail
        refine (HV.out _ H2.out.1).mono ?_
        rintro e w3 ⟨rfl, hr3, hs3⟩
        have H3 := hide (And.intro hr3 (H2.out.2.trans hs3 (by simp)))
        clear hr3 hs3 k0 k1 k2 HV H2
        go_wp2_with fail
        go_ret
        exact ⟨2, _, _, _, rfl, H3.out.2, H3.out.1, RO.short (.refl s) (by rw [HS.out.1]; decide) (by rw [HN3.out]; show 8 * B.length < p + 14; omega) HS.out.2.2.1.symm⟩
    · have HV : Hid (∀ w1, Rs w1 b0 gs gr A c B (p + 5) v out most → Calls Tryz.prog 57 #[.pointer (some ⟨gr, 0, none⟩), .int .i64 5] w1 fun e w' => e = .returned (.tuple #[.int .u32 0, .bool false]) ∧ Rs w' b0 gs gr A c B (p + 5) v out most ∧ Since [gs, gr] w1 v w' v) := hide (fun w1 hr => rBits_no hr 5 (by omega))
      clear hx hx32
      go_enter Tryz.func60, Tryz.ntmps60
      go_wp2_with fail
      refine (HX.out).mono ?_
      rintro e w1 ⟨rfl, hr1, hs1⟩
      have H1 := hide (And.intro hr1 hs1)
      clear hr1 hs1 k0 k1 k2 HX
      obtain ⟨k0, k1, k2⟩ := rs_cells H1.out.1
      go_wp2_with fail
      refine (HV.out _ H1.out.1).mono ?_
      rintro e w2 ⟨rfl, hr2, hs2⟩
      have H2 := hide (And.intro hr2 (H1.out.2.trans hs2 (by simp)))
      clear hr2 hs2 k0 k1 k2 HV H1
      go_wp2_with fail
      go_ret
      exact ⟨2, _, _, _, rfl, H2.out.2, H2.out.1, RO.short (.refl s) (by rw [HS.out.1]; decide) (by rw [HN3.out]; show 8 * B.length < p + 14; omega) HS.out.2.2.1.symm⟩
  · have HX := hide (rBits_no H0.out 5 (by omega))
    go_enter Tryz.func60, Tryz.ntmps60
    go_wp2_with fail
    refine (HX.out).mono ?_
    rintro e w1 ⟨rfl, hr1, hs1⟩
    have H1 := hide (And.intro hr1 hs1)
    clear hr1 hs1 k0 k1 k2 HX
    go_wp2_with fail
    go_ret
    exact ⟨2, _, _, _, rfl, H1.out.2, H1.out.1, RO.short (.refl s) (by rw [HS.out.1]; decide) (by rw [HN3.out]; show 8 * B.length < p + 14; omega) HS.out.2.2.1.symm⟩
end Go.Proofs.YtlknhiihdejpeaaGreatDoor

