/-
  The document's inflate: the lengths that a dynamic block says.
-/
import Derived.Test.YtlknhiihdejpeaaGreatDoorMRfE
import Derived.Test.YtlknhiihdejpeaaGreatDoorMFlP
namespace Go.Proofs.YtlknhiihdejpeaaGreatDoor
open Go Go.RowKit

theorem Rs.newer {w w' : World} {b0 gs gr c p most W : Nat} {A : Option Addr} {B : List UInt8} {v : Value} {out : List UInt8} {S : List Nat} (h : Rs w b0 gs gr A c B p v out most) (ho : Only S w w') (hS : ∀ k, k ∈ S → W ≤ k) (h1 : gs < W) (h2 : gr < W) (h3 : ∀ b, v.ownBlock = some b → b < W) (h4 : b0 ≤ W) : Rs w' b0 gs gr A c B p v out most :=
  ⟨h.has.only ho (fun hm => by have := hS _ hm; omega), h.rd.only ho (fun hm => by have := hS _ hm; omega) (fun h0 ad ha _ hm => by have := hS _ hm; have := h.inp h0 ad ha; omega), own_keep h.own ho (fun b hb hm => by have := hS _ hm; have := h3 b hb; omega), h.inp, h.ggr, h.ggs, h.sml⟩
theorem since_newer {w w1 w' : World} {S T : List Nat} {v v' : Value} (h : Since S w v w1 v') (ho : Only T w1 w') (hT : ∀ k, k ∈ T → w.heap.size ≤ k) : Since S w v w' v' :=
  h.trans (T := T) ⟨ho.weak (fun k hk _ => List.mem_append.2 (.inl hk)), fun _ hb => .inl hb⟩ (fun i hi hlt => absurd (hT i hi) (by omega))
def slen : Value → Nat
  | .slice _ n _ => n
  | _ => 0
theorem own_to {v : Value} {k : Nat} (h : k ∈ v.ownBlock.toList) : v.ownBlock = some k := by
  cases hv : v.ownBlock with
  | none => rw [hv] at h; simp at h
  | some j => rw [hv] at h; simp at h; rw [h]

/-- Where the lengths stand: some more are wanted; or the last are said. -/
def LenP (B : List UInt8) (s : GSt) (p : Nat) (l : List UInt8) (t : GSt) : Prop :=
  (l.length < s.nl + s.nd ∧ t.k = 5 ∧ t.p = p ∧ t.lens = l) ∨
    (l.length = s.nl + s.nd ∧ t.k = 6 ∧ t.p + repB t.sym = p ∧ l = t.lens ++ List.replicate (repM t.sym + num B / 2 ^ t.p % 2 ^ repB t.sym) (repV t.sym t.lens))
structure LenSt (w : World) (b0 gs gr c : Nat) (A : Option Addr) (B : List UInt8) (v : Value) (out : List UInt8) (most : Nat) (s : GSt) (wr : World) (p : Nat) (vl : Value) (l : List UInt8) (t : GSt) : Prop where
  since : Since [gs, gr] w v wr v
  rs : Rs wr b0 gs gr A c B p v out most
  row : wr.ownsRow w.heap.size 5 1 vl l.length (bvals l)
  steps : Steps fixedL fixedD2 (num B) B.length most s t
  pend : LenP B s p l t
  out : t.out = out
  own : t.own = s.own
  nl : t.nl = s.nl
  nd : t.nd = s.nd
  last : t.last = s.last
/-- Where the loop that lays one length often stands. -/
structure RepSt (w : World) (b0 gs gr c : Nat) (A : Option Addr) (B : List UInt8) (v : Value) (out : List UInt8) (most p : Nat) (l : List UInt8) (x : UInt8) (j : Nat) (wr : World) (vl : Value) : Prop where
  since : Since [gs, gr] w v wr v
  rs : Rs wr b0 gs gr A c B p v out most
  row : wr.ownsRow w.heap.size 5 1 vl (l.length + j) (bvals (l ++ List.replicate j x))

/-- What comes of the lengths. -/
def LenR (w : World) (b0 gs gr c : Nat) (A : Option Addr) (B : List UInt8) (v : Value) (out : List UInt8) (most : Nat) (s : GSt) (e : Ending) (w' : World) : Prop :=
  ∃ (ec p' : Nat) (vl : Value), e = .returned (.tuple #[vl, .int .i64 (ec : Nat)]) ∧ Since [gs, gr] w v w' v ∧ Rs w' b0 gs gr A c B p' v out most ∧
    ((ec = 0 ∧ ∃ l t, LenSt w b0 gs gr c A B v out most s w' p' vl l t ∧ l.length = s.nl + s.nd) ∨ RE (num B) B.length most s ec out)

set_option maxRecDepth 100000 in
set_option maxHeartbeats 16000000 in
theorem rLengths {w : World} {b0 gs gr c p most bt gt : Nat} {A : Option Addr} {B : List UInt8} {v : Value} {out : List UInt8} (h : Rs w b0 gs gr A c B p v out most) (hb0 : b0 ≤ w.heap.size) (hv : ∀ b, v.ownBlock = some b → b < w.heap.size)
    (s : GSt) (hT : ∀ w', Since [gs, gr] w v w' v → RT w' bt gt s.own) (hTp : s.own.length = 19 ∧ (∀ i, ln s.own i ≤ 15) ∧ mayBe (cn s.own) = true)
    (hk : s.k = 5) (hsp : s.p = p) (hso : s.out = out) (hsl : s.lens = []) (hN : 0 < s.nl + s.nd ∧ s.nl + s.nd ≤ 400) :
    Calls Tryz.prog 73 #[.pointer (some ⟨gs, 0, none⟩), .pointer (some ⟨gt, 0, none⟩), .int .i64 ((s.nl + s.nd : Nat) : Int)] w (LenR w b0 gs gr c A B v out most s) := by
  have hg1 := h.has.lt
  have hg2 := h.rd.has.lt
  have HS := hide (And.intro hT (And.intro hTp (And.intro hb0 (And.intro hv (And.intro hg1 hg2)))))
  have H0 := hide (show LenSt w b0 gs gr c A B v out most s w p (.slice none 0 0) [] s from ⟨Since.refl _ _ _, h, ⟨rfl, .inl ⟨rfl, rfl⟩⟩, .refl s, .inl ⟨hN.1, hk, hsp, hsl⟩, hso, rfl, rfl, rfl, rfl⟩)
  clear hT hTp hb0 hv hg1 hg2 h hk hsp hso hsl
  obtain ⟨n, hn⟩ : ∃ n, n = s.nl + s.nd := ⟨_, rfl⟩
  have HN := hide hn
  rw [← hn] at hN ⊢
  clear hn
  go_enter Tryz.func73, Tryz.ntmps73
  go_wp2_with fail
  go_loopw [8] (fun vl wr => ∃ p' l t, LenSt w b0 gs gr c A B v out most s wr p' vl l t) (fun vl _ => n - slen vl)
  case atStart => exact ⟨_, _, _, H0.out⟩
  case round =>
    obtain ⟨p', l, t, S⟩ := hrel
    obtain ⟨Al, cl, rfl, _, _⟩ := own_shape S.row
    obtain ⟨k, hkl⟩ : ∃ k, k = l.length := ⟨_, rfl⟩
    rw [← hkl]
    by_cases hlt : k < n
    · have hpend : t.k = 5 ∧ t.p = p' ∧ t.lens = l := by
        rcases S.pend with h | h
        · exact h.2
        · exact absurd h.1 (by rw [← HN.out, ← hkl]; omega)
      have hn5 := GSt.nx_5 (L0 := fixedL) (D0 := fixedD2) (N := num B) (most := most) hpend.1
      rw [S.own, hpend.2.1, hpend.2.2] at hn5
      dsimp only at hn5
      obtain ⟨k0, k1, k2⟩ := rs_cells S.rs
      by_cases hp1 : p' + needN s.own (num B) p' ≤ 8 * B.length
      · have HX := hide (rRead_yes S.rs (HS.out.1 _ S.since) (by rw [HS.out.2.1.1]; omega) HS.out.2.1.2.1 HS.out.2.1.2.2 hp1)
        have hneed : (huffN s.own (num B) p').2.1 = 0 → needN s.own (num B) p' = (huffN s.own (num B) p').2.2 := fun h => by unfold needN; rw [if_pos h]
        have hsy := @huffN_lt s.own (num B) p'
        rw [HS.out.2.1.1] at hsy
        obtain ⟨R, hR⟩ : ∃ R, R = huffN s.own (num B) p' := ⟨_, rfl⟩
        have hRe := huffN_err s.own (num B) p'
        rw [← hR] at hRe hneed HX hn5 hsy
        clear hR
        by_cases he0 : R.2.1 = 0
        · replace hsy := hsy he0
          rw [hneed he0] at hp1 hn5
          rw [he0] at HX hn5
          clear hRe hneed he0
          generalize R.1 = x at *
          generalize R.2.2 = nb at *
          clear R
          by_cases h16 : x < 16
          · rw [if_neg (by omega)] at hn5
            have HT1 := hide (S.steps.snoc (by rw [hpend.1]; decide) hn5 hp1)
            obtain ⟨t1, ht1⟩ : ∃ t1, t1 = ({ t with k := 6, sym := x, p := p' + nb, own := s.own, lens := l } : GSt) := ⟨_, rfl⟩
            have HT1 : Hid (Steps fixedL fixedD2 (num B) B.length most s t1) := by rw [ht1]; exact HT1
            have HQ1 : Hid (t1.k = 6 ∧ t1.p = p' + nb ∧ t1.out = out ∧ t1.sym = x ∧ t1.lens = l ∧ t1.own = s.own ∧ t1.nl = s.nl ∧ t1.nd = s.nd ∧ t1.last = s.last) := hide (by rw [ht1]; exact ⟨rfl, rfl, S.out, rfl, rfl, rfl, S.nl, S.nd, S.last⟩)
            have hn6 := GSt.nx_6 (L0 := fixedL) (D0 := fixedD2) (N := num B) (most := most) HQ1.out.1
            have hb0 : repB x = 0 := by unfold repB; rw [if_neg (by omega), if_neg (by omega), if_neg (by omega)]
            have hm1 : repM x = 1 := by unfold repM; rw [if_neg (by omega), if_neg (by omega)]
            have hv1 : repV x l = UInt8.ofNat x := if_pos h16
            rw [HQ1.out.2.2.2.1, HQ1.out.2.1, HQ1.out.2.2.2.2.1, HQ1.out.2.2.2.2.2.2.1, HQ1.out.2.2.2.2.2.2.2.1, hb0, hm1, hv1] at hn6
            dsimp only at hn6
            simp only [Nat.pow_zero, Nat.mod_one, Nat.add_zero, List.replicate_one] at hn6
            obtain ⟨b, hb⟩ : ∃ b : UInt8, b = UInt8.ofNat x := ⟨_, rfl⟩
            rw [← hb] at hn6 hv1
            have hbx : b.toNat = x := by rw [hb, UInt8.toNat_ofNat']; omega
            have hwb : IntKind.u8.wrap (x : Int) = ((b.toNat : Nat) : Int) := by rw [hbx, IntKind.wrap_u8]; omega
            have hx16 : (x : Int) < 16 := by omega
            have HJ := hide (And.intro S (And.intro hn6 (And.intro hb0 (And.intro hm1 (And.intro hv1 (And.intro hkl hp1))))))
            clear S hpend hn5 hn6 ht1 hb0 hm1 hv1 hb hbx hsy h16 hkl
            go_wp2_with fail
            refine (HX.out).mono ?_
            rintro e w4 ⟨rfl, hr4, hs4⟩
            have hrow4 : w4.ownsRow w.heap.size 5 1 (.slice Al k cl) k (bvals l) := by
              have h1 := HJ.out.1.row
              rw [HJ.out.2.2.2.2.2.1]
              refine own_keep h1 hs4.only (fun b hb hm => ?_)
              have h2 := (h1.lt b hb).1
              have := HS.out.2.2.2.2.1
              have := HS.out.2.2.2.2.2
              rcases List.mem_append.1 hm with hm | hm
              · simp at hm; omega
              · have := HS.out.2.2.2.1 b (own_to hm); omega
            have H4 := hide (And.intro hr4 (And.intro (HJ.out.1.since.trans hs4 (by simp)) (And.intro hrow4 (And.intro HJ.out.2.2.2.2.2.1.symm (show k + 1 ≤ 140737488355328 by omega)))))
            clear hr4 hs4 hrow4 HX k0 k1 k2
            go_wp2_with (at_builtin; refine list_push rfl (.tmp 36) (.tmp 39) rfl w4 H4.out.2.1.only.size b H4.out.2.2.2.1 H4.out.2.2.1 H4.out.2.2.2.2 _ rfl rfl rfl ?_; intro A6 c6 w6 hp; have HP := hide hp; clear hp)
            go_roundw
            case rel =>
              obtain ⟨S, hn6, hb0, hm1, hv1, hkl, hp1⟩ := HJ.out
              have hS6 : ∀ i, i ∈ (Value.slice Al k cl).ownBlock.toList → w.heap.size ≤ i := fun i hi => (H4.out.2.2.1.lt i (own_to hi)).1
              have hrow : w6.ownsRow w.heap.size 5 1 (.slice A6 (k + 1) c6) (l ++ [b]).length (bvals (l ++ [b])) := by
                rw [List.length_append, List.length_singleton]
                exact HP.out.own
              have hsin := since_newer H4.out.2.1 HP.out.only hS6
              have hrs := H4.out.1.newer HP.out.only hS6 HS.out.2.2.2.2.1 HS.out.2.2.2.2.2 HS.out.2.2.2.1 HS.out.2.2.1
              have hlen : (l ++ [b]).length = k + 1 := by rw [List.length_append, List.length_singleton, hkl]
              rw [if_neg (by rw [hlen, ← HN.out]; omega)] at hn6
              by_cases hmore : k + 1 < n
              · rw [if_pos (by rw [hlen, ← HN.out]; exact hmore)] at hn6
                exact ⟨_, l ++ [b], _, hsin, hrs, hrow, HT1.out.snoc (by rw [HQ1.out.1]; decide) hn6 hp1, .inl ⟨by rw [hlen, ← HN.out]; exact hmore, rfl, rfl, rfl⟩, HQ1.out.2.2.1, HQ1.out.2.2.2.2.2.1, rfl, rfl, HQ1.out.2.2.2.2.2.2.2.2⟩
              · refine ⟨_, l ++ [b], _, hsin, hrs, hrow, HT1.out, .inr ⟨by rw [hlen, ← HN.out]; omega, HQ1.out.1, ?_, ?_⟩, HQ1.out.2.2.1, HQ1.out.2.2.2.2.2.1, HQ1.out.2.2.2.2.2.2.1, HQ1.out.2.2.2.2.2.2.2.1, HQ1.out.2.2.2.2.2.2.2.2⟩
                · rw [HQ1.out.2.2.2.1, hb0, HQ1.out.2.1, Nat.add_zero]
                · rw [HQ1.out.2.2.2.1, hb0, hm1, HQ1.out.2.2.2.2.1, hv1]
                  simp [Nat.mod_one]
            case measure => simp [slen]; omega
          · rcases (show x = 16 ∨ x = 17 ∨ x = 18 by omega) with rfl | rfl | rfl
            · by_cases hl0 : k = 0
              · obtain rfl : l = [] := List.eq_nil_of_length_eq_zero (by rw [← hkl]; exact hl0)
                rw [if_pos (.inr ⟨rfl, rfl⟩)] at hn5
                subst hl0
                have HJ := hide (And.intro S (And.intro hn5 hpend))
                clear S hn5 hpend hkl hsy h16
                go_wp2_with fail
                refine (HX.out).mono ?_
                rintro e w4 ⟨rfl, hr4, hs4⟩
                have H4 := hide (And.intro hr4 (HJ.out.1.since.trans hs4 (by simp)))
                clear hr4 hs4 HX k0 k1 k2
                go_wp2_with fail
                go_ret2
                exact ⟨3, _, _, rfl, H4.out.2, H4.out.1, .inr (RE.bad HJ.out.1.steps (by rw [HJ.out.2.2.1]; decide) HJ.out.2.1 hp1 (by decide) ⟨[], by rw [HJ.out.1.out]; simp⟩)⟩
              · have hX : ¬ ((0 : Nat) ≠ 0 ∨ 16 = 16 ∧ l = []) := by (rintro (h | ⟨_, h⟩); exact h rfl; rw [h] at hkl; exact hl0 hkl)
                rw [if_neg hX] at hn5
                have HT1 := hide (S.steps.snoc (by rw [hpend.1]; decide) hn5 hp1)
                obtain ⟨t1, ht1⟩ : ∃ t1, t1 = ({ t with k := 6, sym := 16, p := p' + nb, own := s.own, lens := l } : GSt) := ⟨_, rfl⟩
                have HT1 : Hid (Steps fixedL fixedD2 (num B) B.length most s t1) := by rw [ht1]; exact HT1
                have HQ1 : Hid (t1.k = 6 ∧ t1.p = p' + nb ∧ t1.out = out ∧ t1.sym = 16 ∧ t1.lens = l ∧ t1.own = s.own ∧ t1.nl = s.nl ∧ t1.nd = s.nd ∧ t1.last = s.last) := hide (by rw [ht1]; exact ⟨rfl, rfl, S.out, rfl, rfl, rfl, S.nl, S.nd, S.last⟩)
                have hn6 := GSt.nx_6 (L0 := fixedL) (D0 := fixedD2) (N := num B) (most := most) HQ1.out.1
                obtain ⟨b, hb⟩ : ∃ b, b = repV 16 l := ⟨_, rfl⟩
                rw [HQ1.out.2.2.2.1, HQ1.out.2.1, HQ1.out.2.2.2.2.1, HQ1.out.2.2.2.2.2.2.1, HQ1.out.2.2.2.2.2.2.2.1, show repB 16 = 2 from rfl, show repM 16 = 3 from rfl, ← hb, ← HN.out] at hn6
                dsimp only at hn6
                obtain ⟨q, hq⟩ : ∃ q, q = p' + nb := ⟨_, rfl⟩
                rw [← hq] at hn6 HX hp1 HQ1
                have hl1 : ¬ (k : Int) = 0 := by omega
                have hl2 : ((k : Int) == 0) = false := beq_eq_false_iff_ne.2 hl1
                have HJ := hide (And.intro S (And.intro hn6 (And.intro hb (And.intro hkl (And.intro hp1 hq)))))
                clear S hpend hn5 hn6 ht1 hsy h16 hX hq hb hkl
                go_wp2_with fail
                refine (HX.out).mono ?_
                rintro e w4 ⟨rfl, hr4, hs4⟩
                have hrow4 : w4.ownsRow w.heap.size 5 1 (.slice Al k cl) k (bvals l) := by
                  have h1 := HJ.out.1.row
                  rw [HJ.out.2.2.2.1]
                  refine own_keep h1 hs4.only (fun b hb hm => ?_)
                  have h2 := (h1.lt b hb).1
                  have := HS.out.2.2.2.2.1
                  have := HS.out.2.2.2.2.2
                  rcases List.mem_append.1 hm with hm | hm
                  · simp at hm; omega
                  · have := HS.out.2.2.2.1 b (own_to hm); omega
                have H4 := hide (And.intro hr4 (And.intro (HJ.out.1.since.trans hs4 (by simp)) hrow4))
                clear hr4 hs4 hrow4 HX k0 k1 k2
                obtain ⟨k0, k1, k2⟩ := rs_cells H4.out.1
                obtain ⟨g9, hg9, _, _, _, hc9⟩ := own_open H4.out.2.2 (by omega)
                subst hg9
                have hkk : k - 1 < l.length := by rw [← HJ.out.2.2.2.1]; omega
                have c9 : w4.cell? ⟨g9, k - 1, none⟩ = some (.int .u8 (b.toNat : Int)) := hc9 (k - 1) _ (by
                  rw [bvals_get l (k - 1) hkk, HJ.out.2.2.1, show repV 16 l = l.getLastD 0 from rfl, List.getLastD_eq_getLast?, List.getLast?_eq_getElem?, ← HJ.out.2.2.2.1, List.getElem?_eq_getElem hkk]
                  rfl)
                obtain ⟨ix, hix⟩ : ∃ ix, ix = k - 1 := ⟨_, rfl⟩
                rw [← hix] at c9
                have W9 := hide (wr6 (z := (k : Int) - 1) (n := ix) (by omega) (by omega))
                have hixI : (ix : Int) < (k : Int) := by omega
                have hixk : ix < k := by omega
                obtain ⟨v9, u9⟩ := W9.out
                clear W9 hix hkk hc9
                go_wp2_with fail
                clear v9 u9 c9 hixI hixk
                by_cases hp2 : q + 2 ≤ 8 * B.length
                · obtain ⟨y, hy⟩ : ∃ y, y = num B / 2 ^ q % 2 ^ 2 := ⟨_, rfl⟩
                  have hy7 : y < 128 := by
                    have h1 : y < 2 ^ 2 := by rw [hy]; exact Nat.mod_lt _ (by decide)
                    have h2 : 2 ^ 2 ≤ 128 := by decide
                    omega
                  have HV := hide (rBits_yes H4.out.1 2 (by omega) hp2)
                  rw [← hy] at HV
                  obtain ⟨m, hm⟩ : ∃ m, m = 3 + y := ⟨_, rfl⟩
                  have W1 := hide (wr6 (z := (y : Int)) (n := y) rfl (by omega))
                  have W2 := hide (wr6 (z := 3 + (y : Int)) (n := m) (by omega) (by omega))
                  obtain ⟨z, hz⟩ : ∃ z, z = k + m := ⟨_, rfl⟩
                  have W3 := hide (wr6 (z := (k : Int) + (m : Int)) (n := z) (by omega) (by omega))
                  have hm1 : 1 ≤ m := by omega
                  have hm200 : m ≤ 200 := by omega
                  have hn6 := HJ.out.2.1
                  rw [← hy, ← hm] at hn6
                  rw [List.length_append, List.length_replicate, ← HJ.out.2.2.2.1] at hn6
                  have HY := hide (And.intro hy (And.intro hm hn6))
                  clear hy hm hn6 hy7
                  by_cases hbig : n < k + m
                  · have hbI : (n : Int) < (z : Int) := by omega
                    clear hz
                    obtain ⟨v1, u1⟩ := W1.out
                    obtain ⟨v2, u2⟩ := W2.out
                    obtain ⟨v3, u3⟩ := W3.out
                    clear W1 W2 W3
                    go_wp2_with fail
                    refine (HV.out).mono ?_
                    rintro e w5 ⟨rfl, hr5, hs5⟩
                    have H5 := hide (And.intro hr5 (H4.out.2.1.trans hs5 (by simp)))
                    clear hr5 hs5 HV k0 k1 k2
                    go_wp2_with fail
                    go_ret2
                    obtain ⟨hy, hm, hn6⟩ := HY.out
                    rw [if_pos hbig] at hn6
                    exact ⟨3, _, _, rfl, H5.out.2, H5.out.1, .inr (RE.bad HT1.out (by rw [HQ1.out.1]; decide) hn6 hp2 (by decide) ⟨[], by rw [HQ1.out.2.2.1]; simp⟩)⟩
                  · have hbI : ¬ (n : Int) < (z : Int) := by omega
                    have dz : decide (n < z) = false := decide_eq_false (by omega)
                    clear hz
                    obtain ⟨v1, u1⟩ := W1.out
                    obtain ⟨v2, u2⟩ := W2.out
                    obtain ⟨v3, u3⟩ := W3.out
                    clear W1 W2 W3
                    go_wp2_with fail
                    refine (HV.out).mono ?_
                    rintro e w5 ⟨rfl, hr5, hs5⟩
                    have hrow5 : w5.ownsRow w.heap.size 5 1 (.slice (some ⟨g9, 0, none⟩) k cl) (l.length + 0) (bvals (l ++ List.replicate 0 b)) := by
                      have h1 := H4.out.2.2
                      rw [List.replicate_zero, List.append_nil, Nat.add_zero, ← HJ.out.2.2.2.1]
                      refine own_keep h1 hs5.only (fun b hb hm => ?_)
                      have h2 := (h1.lt b hb).1
                      have h3 := HS.out.2.2.2.2.1
                      have h4 := HS.out.2.2.2.2.2
                      rcases List.mem_append.1 hm with hm | hm
                      · simp at hm
                        rcases hm with hm | hm
                        · exact absurd h3 (by rw [← hm]; exact Nat.not_lt.2 h2)
                        · exact absurd h4 (by rw [← hm]; exact Nat.not_lt.2 h2)
                      · exact absurd (HS.out.2.2.2.1 b (own_to hm)) (Nat.not_lt.2 h2)
                    have H5 := hide (show RepSt w b0 gs gr c A B v out most (q + 2) l b 0 w5 (.slice (some ⟨g9, 0, none⟩) k cl) from ⟨H4.out.2.1.trans hs5 (by simp), hr5, hrow5⟩)
                    clear hr5 hs5 HV k0 k1 k2 hrow5
                    go_wp2_with fail
                    clear v1 u1 v2 u2 v3 u3
                    go_loopw [8, 17] (fun vl i wq => ∃ j : Nat, j ≤ m ∧ i = .int .i64 (j : Nat) ∧ RepSt w b0 gs gr c A B v out most (q + 2) l b j wq vl) (fun _ i _ => m - (intOf i).toNat)
                    case atStart => exact ⟨0, Nat.zero_le _, rfl, H5.out⟩
                    case round =>
                      obtain ⟨j, hj, rfl, Q⟩ := hrel
                      obtain ⟨A6, c6, rfl, _, _⟩ := own_shape Q.row
                      obtain ⟨nn, hnn⟩ : ∃ nn, nn = l.length + j := ⟨_, rfl⟩
                      rw [← hnn]
                      by_cases hjm : j < m
                      · have hql : (l ++ List.replicate j b).length = nn := by rw [List.length_append, List.length_replicate, hnn]
                        have HQ := hide (And.intro (show wr.ownsRow w.heap.size 5 1 (.slice A6 nn c6) nn (bvals (l ++ List.replicate j b)) by rw [hnn]; exact Q.row) (And.intro Q (And.intro hql (And.intro hnn (And.intro hjm (show nn + 1 ≤ 140737488355328 by have := HJ.out.2.2.2.1; omega))))))
                        clear Q hql hnn
                        go_wp2_with (at_builtin; refine list_push rfl (.tmp 83) (.tmp 85) rfl wr HQ.out.2.1.since.only.size b HQ.out.2.2.1 HQ.out.1 HQ.out.2.2.2.2.2 _ rfl rfl rfl ?_; intro A7 c7 w7 hp; have HP := hide hp; clear hp)
                        have hS7 : ∀ i, i ∈ (Value.slice A6 nn c6).ownBlock.toList → w.heap.size ≤ i := fun i hi => (HQ.out.1.lt i (own_to hi)).1
                        have hQ7 := hide (show RepSt w b0 gs gr c A B v out most (q + 2) l b (j + 1) w7 (.slice A7 (nn + 1) c7) from ⟨since_newer HQ.out.2.1.since HP.out.only hS7, HQ.out.2.1.rs.newer HP.out.only hS7 HS.out.2.2.2.2.1 HS.out.2.2.2.2.2 HS.out.2.2.2.1 HS.out.2.2.1, by
                          have h1 := HP.out.own
                          rw [HQ.out.2.2.1] at h1
                          rw [← Nat.add_assoc, ← HQ.out.2.2.2.1, List.replicate_succ', ← List.append_assoc]
                          exact h1⟩)
                        clear hS7
                        go_roundw
                        case rel => exact ⟨j + 1, HQ.out.2.2.2.2.1, by go_num, hQ7.out⟩
                        case measure => simp [intOf]; omega
                      · obtain rfl : j = m := by omega
                        have HQ := hide (And.intro Q hnn)
                        clear Q hnn
                        go_wp2_with fail
                        go_roundw
                        case rel =>
                          obtain ⟨hy, hm, hn6⟩ := HY.out
                          obtain ⟨S, _, hb, hkl, hp1, hq⟩ := HJ.out
                          have hlen : (l ++ List.replicate j b).length = l.length + j := by rw [List.length_append, List.length_replicate]
                          rw [if_neg hbig] at hn6
                          have hrow : wr.ownsRow w.heap.size 5 1 (.slice A6 (l.length + j) c6) (l ++ List.replicate j b).length (bvals (l ++ List.replicate j b)) := by rw [hlen]; exact HQ.out.1.row
                          rw [HQ.out.2]
                          by_cases hmore : k + j < n
                          · rw [if_pos hmore] at hn6
                            exact ⟨_, l ++ List.replicate j b, _, HQ.out.1.since, HQ.out.1.rs, hrow, HT1.out.snoc (by rw [HQ1.out.1]; decide) hn6 hp2, .inl ⟨by rw [hlen, ← HN.out, ← hkl]; exact hmore, rfl, rfl, rfl⟩, HQ1.out.2.2.1, HQ1.out.2.2.2.2.2.1, rfl, rfl, HQ1.out.2.2.2.2.2.2.2.2⟩
                          · refine ⟨_, l ++ List.replicate j b, _, HQ.out.1.since, HQ.out.1.rs, hrow, HT1.out, .inr ⟨by rw [hlen, ← HN.out, ← hkl]; omega, HQ1.out.1, ?_, ?_⟩, HQ1.out.2.2.1, HQ1.out.2.2.2.2.2.1, HQ1.out.2.2.2.2.2.2.1, HQ1.out.2.2.2.2.2.2.2.1, HQ1.out.2.2.2.2.2.2.2.2⟩
                            · rw [HQ1.out.2.2.2.1, HQ1.out.2.1]; rfl
                            · rw [HQ1.out.2.2.2.1, HQ1.out.2.2.2.2.1, HQ1.out.2.1, ← hb, show repB 16 = 2 from rfl, show repM 16 = 3 from rfl, ← hy, ← hm]
                        case measure =>
                          have := HQ.out.2
                          have := HJ.out.2.2.2.1
                          simp [slen]; omega
                · have HV := hide (rBits_no H4.out.1 2 (by omega))
                  go_wp2_with fail
                  refine (HV.out).mono ?_
                  rintro e w5 ⟨rfl, hr5, hs5⟩
                  have H5 := hide (And.intro hr5 (H4.out.2.1.trans hs5 (by simp)))
                  clear hr5 hs5 HV k0 k1 k2
                  go_wp2_with fail
                  go_ret2
                  exact ⟨2, _, _, rfl, H5.out.2, H5.out.1, .inr (RE.short HT1.out (by rw [HQ1.out.1]; decide) (by rw [HJ.out.2.1]; show 8 * B.length < q + 2; omega) HQ1.out.2.2.1.symm)⟩
            · have hX : ¬ ((0 : Nat) ≠ 0 ∨ 17 = 16 ∧ l = []) := by omega
              rw [if_neg hX] at hn5
              have HT1 := hide (S.steps.snoc (by rw [hpend.1]; decide) hn5 hp1)
              obtain ⟨t1, ht1⟩ : ∃ t1, t1 = ({ t with k := 6, sym := 17, p := p' + nb, own := s.own, lens := l } : GSt) := ⟨_, rfl⟩
              have HT1 : Hid (Steps fixedL fixedD2 (num B) B.length most s t1) := by rw [ht1]; exact HT1
              have HQ1 : Hid (t1.k = 6 ∧ t1.p = p' + nb ∧ t1.out = out ∧ t1.sym = 17 ∧ t1.lens = l ∧ t1.own = s.own ∧ t1.nl = s.nl ∧ t1.nd = s.nd ∧ t1.last = s.last) := hide (by rw [ht1]; exact ⟨rfl, rfl, S.out, rfl, rfl, rfl, S.nl, S.nd, S.last⟩)
              have hn6 := GSt.nx_6 (L0 := fixedL) (D0 := fixedD2) (N := num B) (most := most) HQ1.out.1
              have hb : (0 : UInt8) = repV 17 l := rfl
              rw [HQ1.out.2.2.2.1, HQ1.out.2.1, HQ1.out.2.2.2.2.1, HQ1.out.2.2.2.2.2.2.1, HQ1.out.2.2.2.2.2.2.2.1, show repB 17 = 3 from rfl, show repM 17 = 3 from rfl, ← hb, ← HN.out] at hn6
              dsimp only at hn6
              obtain ⟨q, hq⟩ : ∃ q, q = p' + nb := ⟨_, rfl⟩
              rw [← hq] at hn6 HX hp1 HQ1
              have hvf := hp1
              have HJ := hide (And.intro S (And.intro hn6 (And.intro hb (And.intro hkl (And.intro hp1 hq)))))
              clear S hpend hn5 hn6 ht1 hsy h16 hX hq hb hkl
              go_wp2_with fail
              refine (HX.out).mono ?_
              rintro e w4 ⟨rfl, hr4, hs4⟩
              have hrow4 : w4.ownsRow w.heap.size 5 1 (.slice Al k cl) k (bvals l) := by
                have h1 := HJ.out.1.row
                rw [HJ.out.2.2.2.1]
                refine own_keep h1 hs4.only (fun b hb hm => ?_)
                have h2 := (h1.lt b hb).1
                have := HS.out.2.2.2.2.1
                have := HS.out.2.2.2.2.2
                rcases List.mem_append.1 hm with hm | hm
                · simp at hm; omega
                · have := HS.out.2.2.2.1 b (own_to hm); omega
              have H4 := hide (And.intro hr4 (And.intro (HJ.out.1.since.trans hs4 (by simp)) hrow4))
              clear hr4 hs4 hrow4 HX k0 k1 k2
              obtain ⟨k0, k1, k2⟩ := rs_cells H4.out.1
              have hpre := hp1
              by_cases hp2 : q + 3 ≤ 8 * B.length
              · obtain ⟨y, hy⟩ : ∃ y, y = num B / 2 ^ q % 2 ^ 3 := ⟨_, rfl⟩
                have hy7 : y < 128 := by
                  have h1 : y < 2 ^ 3 := by rw [hy]; exact Nat.mod_lt _ (by decide)
                  have h2 : 2 ^ 3 ≤ 128 := by decide
                  omega
                have HV := hide (rBits_yes H4.out.1 3 (by omega) hp2)
                rw [← hy] at HV
                obtain ⟨m, hm⟩ : ∃ m, m = 3 + y := ⟨_, rfl⟩
                have W1 := hide (wr6 (z := (y : Int)) (n := y) rfl (by omega))
                have W2 := hide (wr6 (z := 3 + (y : Int)) (n := m) (by omega) (by omega))
                obtain ⟨z, hz⟩ : ∃ z, z = k + m := ⟨_, rfl⟩
                have W3 := hide (wr6 (z := (k : Int) + (m : Int)) (n := z) (by omega) (by omega))
                have hm1 : 1 ≤ m := by omega
                have hm200 : m ≤ 200 := by omega
                have hn6 := HJ.out.2.1
                rw [← hy, ← hm] at hn6
                rw [List.length_append, List.length_replicate, ← HJ.out.2.2.2.1] at hn6
                have HY := hide (And.intro hy (And.intro hm hn6))
                clear hy hm hn6 hy7
                by_cases hbig : n < k + m
                · have hbI : (n : Int) < (z : Int) := by omega
                  clear hz
                  obtain ⟨v1, u1⟩ := W1.out
                  obtain ⟨v2, u2⟩ := W2.out
                  obtain ⟨v3, u3⟩ := W3.out
                  clear W1 W2 W3
                  go_wp2_with fail
                  refine (HV.out).mono ?_
                  rintro e w5 ⟨rfl, hr5, hs5⟩
                  have H5 := hide (And.intro hr5 (H4.out.2.1.trans hs5 (by simp)))
                  clear hr5 hs5 HV k0 k1 k2
                  go_wp2_with fail
                  go_ret2
                  obtain ⟨hy, hm, hn6⟩ := HY.out
                  rw [if_pos hbig] at hn6
                  exact ⟨3, _, _, rfl, H5.out.2, H5.out.1, .inr (RE.bad HT1.out (by rw [HQ1.out.1]; decide) hn6 hp2 (by decide) ⟨[], by rw [HQ1.out.2.2.1]; simp⟩)⟩
                · have hbI : ¬ (n : Int) < (z : Int) := by omega
                  have dz : decide (n < z) = false := decide_eq_false (by omega)
                  clear hz
                  obtain ⟨v1, u1⟩ := W1.out
                  obtain ⟨v2, u2⟩ := W2.out
                  obtain ⟨v3, u3⟩ := W3.out
                  clear W1 W2 W3
                  go_wp2_with fail
                  refine (HV.out).mono ?_
                  rintro e w5 ⟨rfl, hr5, hs5⟩
                  have hrow5 : w5.ownsRow w.heap.size 5 1 (.slice Al k cl) (l.length + 0) (bvals (l ++ List.replicate 0 (0 : UInt8))) := by
                    have h1 := H4.out.2.2
                    rw [List.replicate_zero, List.append_nil, Nat.add_zero, ← HJ.out.2.2.2.1]
                    refine own_keep h1 hs5.only (fun b hb hm => ?_)
                    have h2 := (h1.lt b hb).1
                    have h3 := HS.out.2.2.2.2.1
                    have h4 := HS.out.2.2.2.2.2
                    rcases List.mem_append.1 hm with hm | hm
                    · simp at hm
                      rcases hm with hm | hm
                      · exact absurd h3 (by rw [← hm]; exact Nat.not_lt.2 h2)
                      · exact absurd h4 (by rw [← hm]; exact Nat.not_lt.2 h2)
                    · exact absurd (HS.out.2.2.2.1 b (own_to hm)) (Nat.not_lt.2 h2)
                  have H5 := hide (show RepSt w b0 gs gr c A B v out most (q + 3) l (0 : UInt8) 0 w5 (.slice Al k cl) from ⟨H4.out.2.1.trans hs5 (by simp), hr5, hrow5⟩)
                  clear hr5 hs5 HV k0 k1 k2 hrow5
                  go_wp2_with fail
                  clear v1 u1 v2 u2 v3 u3
                  go_loopw [8, 17] (fun vl i wq => ∃ j : Nat, j ≤ m ∧ i = .int .i64 (j : Nat) ∧ RepSt w b0 gs gr c A B v out most (q + 3) l (0 : UInt8) j wq vl) (fun _ i _ => m - (intOf i).toNat)
                  case atStart => exact ⟨0, Nat.zero_le _, rfl, H5.out⟩
                  case round =>
                    obtain ⟨j, hj, rfl, Q⟩ := hrel
                    obtain ⟨A6, c6, rfl, _, _⟩ := own_shape Q.row
                    obtain ⟨nn, hnn⟩ : ∃ nn, nn = l.length + j := ⟨_, rfl⟩
                    rw [← hnn]
                    by_cases hjm : j < m
                    · have hql : (l ++ List.replicate j (0 : UInt8)).length = nn := by rw [List.length_append, List.length_replicate, hnn]
                      have HQ := hide (And.intro (show wr.ownsRow w.heap.size 5 1 (.slice A6 nn c6) nn (bvals (l ++ List.replicate j (0 : UInt8))) by rw [hnn]; exact Q.row) (And.intro Q (And.intro hql (And.intro hnn (And.intro hjm (show nn + 1 ≤ 140737488355328 by have := HJ.out.2.2.2.1; omega))))))
                      clear Q hql hnn
                      go_wp2_with (at_builtin; refine list_push rfl (.tmp 83) (.tmp 85) rfl wr HQ.out.2.1.since.only.size (0 : UInt8) HQ.out.2.2.1 HQ.out.1 HQ.out.2.2.2.2.2 _ rfl rfl rfl ?_; intro A7 c7 w7 hp; have HP := hide hp; clear hp)
                      have hS7 : ∀ i, i ∈ (Value.slice A6 nn c6).ownBlock.toList → w.heap.size ≤ i := fun i hi => (HQ.out.1.lt i (own_to hi)).1
                      have hQ7 := hide (show RepSt w b0 gs gr c A B v out most (q + 3) l (0 : UInt8) (j + 1) w7 (.slice A7 (nn + 1) c7) from ⟨since_newer HQ.out.2.1.since HP.out.only hS7, HQ.out.2.1.rs.newer HP.out.only hS7 HS.out.2.2.2.2.1 HS.out.2.2.2.2.2 HS.out.2.2.2.1 HS.out.2.2.1, by
                        have h1 := HP.out.own
                        rw [HQ.out.2.2.1] at h1
                        rw [← Nat.add_assoc, ← HQ.out.2.2.2.1, List.replicate_succ', ← List.append_assoc]
                        exact h1⟩)
                      clear hS7
                      go_roundw
                      case rel => exact ⟨j + 1, HQ.out.2.2.2.2.1, by go_num, hQ7.out⟩
                      case measure => simp [intOf]; omega
                    · obtain rfl : j = m := by omega
                      have HQ := hide (And.intro Q hnn)
                      clear Q hnn
                      go_wp2_with fail
                      go_roundw
                      case rel =>
                        obtain ⟨hy, hm, hn6⟩ := HY.out
                        obtain ⟨S, _, hb, hkl, hp1, hq⟩ := HJ.out
                        have hlen : (l ++ List.replicate j (0 : UInt8)).length = l.length + j := by rw [List.length_append, List.length_replicate]
                        rw [if_neg hbig] at hn6
                        have hrow : wr.ownsRow w.heap.size 5 1 (.slice A6 (l.length + j) c6) (l ++ List.replicate j (0 : UInt8)).length (bvals (l ++ List.replicate j (0 : UInt8))) := by rw [hlen]; exact HQ.out.1.row
                        rw [HQ.out.2]
                        by_cases hmore : k + j < n
                        · rw [if_pos hmore] at hn6
                          exact ⟨_, l ++ List.replicate j (0 : UInt8), _, HQ.out.1.since, HQ.out.1.rs, hrow, HT1.out.snoc (by rw [HQ1.out.1]; decide) hn6 hp2, .inl ⟨by rw [hlen, ← HN.out, ← hkl]; exact hmore, rfl, rfl, rfl⟩, HQ1.out.2.2.1, HQ1.out.2.2.2.2.2.1, rfl, rfl, HQ1.out.2.2.2.2.2.2.2.2⟩
                        · refine ⟨_, l ++ List.replicate j (0 : UInt8), _, HQ.out.1.since, HQ.out.1.rs, hrow, HT1.out, .inr ⟨by rw [hlen, ← HN.out, ← hkl]; omega, HQ1.out.1, ?_, ?_⟩, HQ1.out.2.2.1, HQ1.out.2.2.2.2.2.1, HQ1.out.2.2.2.2.2.2.1, HQ1.out.2.2.2.2.2.2.2.1, HQ1.out.2.2.2.2.2.2.2.2⟩
                          · rw [HQ1.out.2.2.2.1, HQ1.out.2.1]; rfl
                          · rw [HQ1.out.2.2.2.1, HQ1.out.2.2.2.2.1, HQ1.out.2.1, ← hb, show repB 17 = 3 from rfl, show repM 17 = 3 from rfl, ← hy, ← hm]
                      case measure =>
                        have := HQ.out.2
                        have := HJ.out.2.2.2.1
                        simp [slen]; omega
              · have HV := hide (rBits_no H4.out.1 3 (by omega))
                go_wp2_with fail
                refine (HV.out).mono ?_
                rintro e w5 ⟨rfl, hr5, hs5⟩
                have H5 := hide (And.intro hr5 (H4.out.2.1.trans hs5 (by simp)))
                clear hr5 hs5 HV k0 k1 k2
                go_wp2_with fail
                go_ret2
                exact ⟨2, _, _, rfl, H5.out.2, H5.out.1, .inr (RE.short HT1.out (by rw [HQ1.out.1]; decide) (by rw [HJ.out.2.1]; show 8 * B.length < q + 3; omega) HQ1.out.2.2.1.symm)⟩
            · have hX : ¬ ((0 : Nat) ≠ 0 ∨ 18 = 16 ∧ l = []) := by omega
              rw [if_neg hX] at hn5
              have HT1 := hide (S.steps.snoc (by rw [hpend.1]; decide) hn5 hp1)
              obtain ⟨t1, ht1⟩ : ∃ t1, t1 = ({ t with k := 6, sym := 18, p := p' + nb, own := s.own, lens := l } : GSt) := ⟨_, rfl⟩
              have HT1 : Hid (Steps fixedL fixedD2 (num B) B.length most s t1) := by rw [ht1]; exact HT1
              have HQ1 : Hid (t1.k = 6 ∧ t1.p = p' + nb ∧ t1.out = out ∧ t1.sym = 18 ∧ t1.lens = l ∧ t1.own = s.own ∧ t1.nl = s.nl ∧ t1.nd = s.nd ∧ t1.last = s.last) := hide (by rw [ht1]; exact ⟨rfl, rfl, S.out, rfl, rfl, rfl, S.nl, S.nd, S.last⟩)
              have hn6 := GSt.nx_6 (L0 := fixedL) (D0 := fixedD2) (N := num B) (most := most) HQ1.out.1
              have hb : (0 : UInt8) = repV 18 l := rfl
              rw [HQ1.out.2.2.2.1, HQ1.out.2.1, HQ1.out.2.2.2.2.1, HQ1.out.2.2.2.2.2.2.1, HQ1.out.2.2.2.2.2.2.2.1, show repB 18 = 7 from rfl, show repM 18 = 11 from rfl, ← hb, ← HN.out] at hn6
              dsimp only at hn6
              obtain ⟨q, hq⟩ : ∃ q, q = p' + nb := ⟨_, rfl⟩
              rw [← hq] at hn6 HX hp1 HQ1
              have hvf := hp1
              have HJ := hide (And.intro S (And.intro hn6 (And.intro hb (And.intro hkl (And.intro hp1 hq)))))
              clear S hpend hn5 hn6 ht1 hsy h16 hX hq hb hkl
              go_wp2_with fail
              refine (HX.out).mono ?_
              rintro e w4 ⟨rfl, hr4, hs4⟩
              have hrow4 : w4.ownsRow w.heap.size 5 1 (.slice Al k cl) k (bvals l) := by
                have h1 := HJ.out.1.row
                rw [HJ.out.2.2.2.1]
                refine own_keep h1 hs4.only (fun b hb hm => ?_)
                have h2 := (h1.lt b hb).1
                have := HS.out.2.2.2.2.1
                have := HS.out.2.2.2.2.2
                rcases List.mem_append.1 hm with hm | hm
                · simp at hm; omega
                · have := HS.out.2.2.2.1 b (own_to hm); omega
              have H4 := hide (And.intro hr4 (And.intro (HJ.out.1.since.trans hs4 (by simp)) hrow4))
              clear hr4 hs4 hrow4 HX k0 k1 k2
              obtain ⟨k0, k1, k2⟩ := rs_cells H4.out.1
              have hpre := hp1
              by_cases hp2 : q + 7 ≤ 8 * B.length
              · obtain ⟨y, hy⟩ : ∃ y, y = num B / 2 ^ q % 2 ^ 7 := ⟨_, rfl⟩
                have hy7 : y < 128 := by
                  have h1 : y < 2 ^ 7 := by rw [hy]; exact Nat.mod_lt _ (by decide)
                  have h2 : 2 ^ 7 ≤ 128 := by decide
                  omega
                have HV := hide (rBits_yes H4.out.1 7 (by omega) hp2)
                rw [← hy] at HV
                obtain ⟨m, hm⟩ : ∃ m, m = 11 + y := ⟨_, rfl⟩
                have W1 := hide (wr6 (z := (y : Int)) (n := y) rfl (by omega))
                have W2 := hide (wr6 (z := 11 + (y : Int)) (n := m) (by omega) (by omega))
                obtain ⟨z, hz⟩ : ∃ z, z = k + m := ⟨_, rfl⟩
                have W3 := hide (wr6 (z := (k : Int) + (m : Int)) (n := z) (by omega) (by omega))
                have hm1 : 1 ≤ m := by omega
                have hm200 : m ≤ 200 := by omega
                have hn6 := HJ.out.2.1
                rw [← hy, ← hm] at hn6
                rw [List.length_append, List.length_replicate, ← HJ.out.2.2.2.1] at hn6
                have HY := hide (And.intro hy (And.intro hm hn6))
                clear hy hm hn6 hy7
                by_cases hbig : n < k + m
                · have hbI : (n : Int) < (z : Int) := by omega
                  clear hz
                  obtain ⟨v1, u1⟩ := W1.out
                  obtain ⟨v2, u2⟩ := W2.out
                  obtain ⟨v3, u3⟩ := W3.out
                  clear W1 W2 W3
                  go_wp2_with fail
                  refine (HV.out).mono ?_
                  rintro e w5 ⟨rfl, hr5, hs5⟩
                  have H5 := hide (And.intro hr5 (H4.out.2.1.trans hs5 (by simp)))
                  clear hr5 hs5 HV k0 k1 k2
                  go_wp2_with fail
                  go_ret2
                  obtain ⟨hy, hm, hn6⟩ := HY.out
                  rw [if_pos hbig] at hn6
                  exact ⟨3, _, _, rfl, H5.out.2, H5.out.1, .inr (RE.bad HT1.out (by rw [HQ1.out.1]; decide) hn6 hp2 (by decide) ⟨[], by rw [HQ1.out.2.2.1]; simp⟩)⟩
                · have hbI : ¬ (n : Int) < (z : Int) := by omega
                  have dz : decide (n < z) = false := decide_eq_false (by omega)
                  clear hz
                  obtain ⟨v1, u1⟩ := W1.out
                  obtain ⟨v2, u2⟩ := W2.out
                  obtain ⟨v3, u3⟩ := W3.out
                  clear W1 W2 W3
                  go_wp2_with fail
                  refine (HV.out).mono ?_
                  rintro e w5 ⟨rfl, hr5, hs5⟩
                  have hrow5 : w5.ownsRow w.heap.size 5 1 (.slice Al k cl) (l.length + 0) (bvals (l ++ List.replicate 0 (0 : UInt8))) := by
                    have h1 := H4.out.2.2
                    rw [List.replicate_zero, List.append_nil, Nat.add_zero, ← HJ.out.2.2.2.1]
                    refine own_keep h1 hs5.only (fun b hb hm => ?_)
                    have h2 := (h1.lt b hb).1
                    have h3 := HS.out.2.2.2.2.1
                    have h4 := HS.out.2.2.2.2.2
                    rcases List.mem_append.1 hm with hm | hm
                    · simp at hm
                      rcases hm with hm | hm
                      · exact absurd h3 (by rw [← hm]; exact Nat.not_lt.2 h2)
                      · exact absurd h4 (by rw [← hm]; exact Nat.not_lt.2 h2)
                    · exact absurd (HS.out.2.2.2.1 b (own_to hm)) (Nat.not_lt.2 h2)
                  have H5 := hide (show RepSt w b0 gs gr c A B v out most (q + 7) l (0 : UInt8) 0 w5 (.slice Al k cl) from ⟨H4.out.2.1.trans hs5 (by simp), hr5, hrow5⟩)
                  clear hr5 hs5 HV k0 k1 k2 hrow5
                  go_wp2_with fail
                  clear v1 u1 v2 u2 v3 u3
                  go_loopw [8, 17] (fun vl i wq => ∃ j : Nat, j ≤ m ∧ i = .int .i64 (j : Nat) ∧ RepSt w b0 gs gr c A B v out most (q + 7) l (0 : UInt8) j wq vl) (fun _ i _ => m - (intOf i).toNat)
                  case atStart => exact ⟨0, Nat.zero_le _, rfl, H5.out⟩
                  case round =>
                    obtain ⟨j, hj, rfl, Q⟩ := hrel
                    obtain ⟨A6, c6, rfl, _, _⟩ := own_shape Q.row
                    obtain ⟨nn, hnn⟩ : ∃ nn, nn = l.length + j := ⟨_, rfl⟩
                    rw [← hnn]
                    by_cases hjm : j < m
                    · have hql : (l ++ List.replicate j (0 : UInt8)).length = nn := by rw [List.length_append, List.length_replicate, hnn]
                      have HQ := hide (And.intro (show wr.ownsRow w.heap.size 5 1 (.slice A6 nn c6) nn (bvals (l ++ List.replicate j (0 : UInt8))) by rw [hnn]; exact Q.row) (And.intro Q (And.intro hql (And.intro hnn (And.intro hjm (show nn + 1 ≤ 140737488355328 by have := HJ.out.2.2.2.1; omega))))))
                      clear Q hql hnn
                      go_wp2_with (at_builtin; refine list_push rfl (.tmp 83) (.tmp 85) rfl wr HQ.out.2.1.since.only.size (0 : UInt8) HQ.out.2.2.1 HQ.out.1 HQ.out.2.2.2.2.2 _ rfl rfl rfl ?_; intro A7 c7 w7 hp; have HP := hide hp; clear hp)
                      have hS7 : ∀ i, i ∈ (Value.slice A6 nn c6).ownBlock.toList → w.heap.size ≤ i := fun i hi => (HQ.out.1.lt i (own_to hi)).1
                      have hQ7 := hide (show RepSt w b0 gs gr c A B v out most (q + 7) l (0 : UInt8) (j + 1) w7 (.slice A7 (nn + 1) c7) from ⟨since_newer HQ.out.2.1.since HP.out.only hS7, HQ.out.2.1.rs.newer HP.out.only hS7 HS.out.2.2.2.2.1 HS.out.2.2.2.2.2 HS.out.2.2.2.1 HS.out.2.2.1, by
                        have h1 := HP.out.own
                        rw [HQ.out.2.2.1] at h1
                        rw [← Nat.add_assoc, ← HQ.out.2.2.2.1, List.replicate_succ', ← List.append_assoc]
                        exact h1⟩)
                      clear hS7
                      go_roundw
                      case rel => exact ⟨j + 1, HQ.out.2.2.2.2.1, by go_num, hQ7.out⟩
                      case measure => simp [intOf]; omega
                    · obtain rfl : j = m := by omega
                      have HQ := hide (And.intro Q hnn)
                      clear Q hnn
                      go_wp2_with fail
                      go_roundw
                      case rel =>
                        obtain ⟨hy, hm, hn6⟩ := HY.out
                        obtain ⟨S, _, hb, hkl, hp1, hq⟩ := HJ.out
                        have hlen : (l ++ List.replicate j (0 : UInt8)).length = l.length + j := by rw [List.length_append, List.length_replicate]
                        rw [if_neg hbig] at hn6
                        have hrow : wr.ownsRow w.heap.size 5 1 (.slice A6 (l.length + j) c6) (l ++ List.replicate j (0 : UInt8)).length (bvals (l ++ List.replicate j (0 : UInt8))) := by rw [hlen]; exact HQ.out.1.row
                        rw [HQ.out.2]
                        by_cases hmore : k + j < n
                        · rw [if_pos hmore] at hn6
                          exact ⟨_, l ++ List.replicate j (0 : UInt8), _, HQ.out.1.since, HQ.out.1.rs, hrow, HT1.out.snoc (by rw [HQ1.out.1]; decide) hn6 hp2, .inl ⟨by rw [hlen, ← HN.out, ← hkl]; exact hmore, rfl, rfl, rfl⟩, HQ1.out.2.2.1, HQ1.out.2.2.2.2.2.1, rfl, rfl, HQ1.out.2.2.2.2.2.2.2.2⟩
                        · refine ⟨_, l ++ List.replicate j (0 : UInt8), _, HQ.out.1.since, HQ.out.1.rs, hrow, HT1.out, .inr ⟨by rw [hlen, ← HN.out, ← hkl]; omega, HQ1.out.1, ?_, ?_⟩, HQ1.out.2.2.1, HQ1.out.2.2.2.2.2.1, HQ1.out.2.2.2.2.2.2.1, HQ1.out.2.2.2.2.2.2.2.1, HQ1.out.2.2.2.2.2.2.2.2⟩
                          · rw [HQ1.out.2.2.2.1, HQ1.out.2.1]; rfl
                          · rw [HQ1.out.2.2.2.1, HQ1.out.2.2.2.2.1, HQ1.out.2.1, ← hb, show repB 18 = 7 from rfl, show repM 18 = 11 from rfl, ← hy, ← hm]
                      case measure =>
                        have := HQ.out.2
                        have := HJ.out.2.2.2.1
                        simp [slen]; omega
              · have HV := hide (rBits_no H4.out.1 7 (by omega))
                go_wp2_with fail
                refine (HV.out).mono ?_
                rintro e w5 ⟨rfl, hr5, hs5⟩
                have H5 := hide (And.intro hr5 (H4.out.2.1.trans hs5 (by simp)))
                clear hr5 hs5 HV k0 k1 k2
                go_wp2_with fail
                go_ret2
                exact ⟨2, _, _, rfl, H5.out.2, H5.out.1, .inr (RE.short HT1.out (by rw [HQ1.out.1]; decide) (by rw [HJ.out.2.1]; show 8 * B.length < q + 7; omega) HQ1.out.2.2.1.symm)⟩
        · have hR3 : R.1 = 0 ∧ R.2.1 = 3 := by
            rcases hRe with h | h
            · exact absurd h he0
            · rw [h]; exact ⟨rfl, rfl⟩
          rw [if_pos (.inl he0)] at hn5
          rw [hR3.1, hR3.2] at HX
          have HJ := hide (And.intro S (And.intro hn5 hpend))
          clear S hn5 hpend hRe hneed hsy hR3 hkl he0
          go_wp2_with fail
          refine (HX.out).mono ?_
          rintro e w4 ⟨rfl, hr4, hs4⟩
          have H4 := hide (And.intro hr4 (HJ.out.1.since.trans hs4 (by simp)))
          clear hr4 hs4 HX k0 k1 k2
          go_wp2_with fail
          go_ret2
          exact ⟨3, _, _, rfl, H4.out.2, H4.out.1, .inr (RE.bad HJ.out.1.steps (by rw [HJ.out.2.2.1]; decide) HJ.out.2.1 hp1 (by decide) ⟨[], by rw [HJ.out.1.out]; simp⟩)⟩
      · have HX := hide (rRead_no S.rs (HS.out.1 _ S.since) (by rw [HS.out.2.1.1]; omega) HS.out.2.1.2.1 HS.out.2.1.2.2 (by omega))
        have HJ := hide (And.intro S (And.intro hn5 hpend))
        clear S hn5 hpend hkl
        go_wp2_with fail
        refine (HX.out).mono ?_
        rintro e w4 ⟨rfl, hr4, hs4⟩
        have H4 := hide (And.intro hr4 (HJ.out.1.since.trans hs4 (by simp)))
        clear hr4 hs4 HX k0 k1 k2
        go_wp2_with fail
        go_ret2
        exact ⟨2, _, _, rfl, H4.out.2, H4.out.1, .inr (RE.short HJ.out.1.steps (by rw [HJ.out.2.2.1]; decide) (by rw [HJ.out.2.1]; show 8 * B.length < p' + needN s.own (num B) p'; omega) HJ.out.1.out.symm)⟩
    · have hpend : l.length = s.nl + s.nd := by
        rcases S.pend with h | h
        · exact absurd h.1 (by rw [← HN.out, ← hkl]; exact hlt)
        · exact h.1
      have HJ := hide (And.intro S (And.intro hpend hkl))
      clear S hpend hkl
      go_wp2_with fail
      go_ret2
      obtain ⟨S, hpend, hkl⟩ := HJ.out
      rw [hkl]
      exact ⟨0, _, _, rfl, S.since, S.rs, .inl ⟨rfl, _, _, S, hpend⟩⟩
end Go.Proofs.YtlknhiihdejpeaaGreatDoor

