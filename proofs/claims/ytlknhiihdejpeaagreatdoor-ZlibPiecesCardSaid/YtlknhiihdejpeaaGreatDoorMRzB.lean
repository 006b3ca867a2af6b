/-
  The document's zlib: Front, Unpack.
-/
import Derived.Test.YtlknhiihdejpeaaGreatDoorMRzA
import Derived.Test.YtlknhiihdejpeaaGreatDoorMRfI
import Derived.Test.YtlknhiihdejpeaaGreatDoorMSumC
import Derived.Test.YtlknhiihdejpeaaGreatDoorMZlB
import Derived.Test.YtlknhiihdejpeaaGreatDoorMZlH
namespace Go.Proofs.YtlknhiihdejpeaaGreatDoor
open Go Go.RowKit

/-- The document's inflate, of any bytes. -/
theorem rFront_any (A : Option Addr) (n c most : Nat) (B : List UInt8) (w : World) (hb : Holds w 1 A n (bvals B)) (hl : B.length = n) (hA : A = none → c = 0 ∧ n = 0) (hc : n ≤ c) (hn : n ≤ 90000) (hm : most ≤ 1073741824) :
    Calls Tryz.prog 26 #[.slice A n c, .int .i64 (most : Int)] w (FrR w B most st0) :=
  rFront_gen A n c most B w hb hl hA hc hn hm st0 rfl rfl rfl (fun _ _ => rBlock_gen _ _ _ _ _ _ _ (by omega) (rDynamic _ _ _ _ _ _ _ (by omega)))

def ZFR (w : World) (b : List UInt8) (most : Nat) (e : Ending) (w' : World) : Prop :=
  ∃ (v : Value) (out : List UInt8) (n ec : Nat), e = .returned (.tuple #[v, .int .i64 (n : Int), .int .i64 (ec : Int)]) ∧ Only [] w w' ∧ w'.ownsRow w.heap.size 5 1 v out.length (bvals out) ∧ ZF b most out n ec

theorem four_eq {l : List UInt8} {s : Nat} (h : 4 ≤ l.length) : l.take 4 = bigN s ↔ (wz l 0 = s / 16777216 % 256 ∧ wz l 1 = s / 65536 % 256 ∧ wz l 2 = s / 256 % 256 ∧ wz l 3 = s % 256) := by
  match l, h with
  | a :: b :: c :: d :: l, _ =>
    have e : (a :: b :: c :: d :: l).take 4 = [a, b, c, d] := rfl
    rw [e]
    unfold bigN wz
    simp only [List.cons.injEq, and_true, List.getD_cons_zero, List.getD_cons_succ, ← UInt8.toNat_inj, UInt8.toNat_ofNat']
theorem wz_cell {w : World} {bk o n i : Nat} {b : List UInt8} (hc : ∀ j u, (bvals b)[j]? = some u → w.cell? ⟨bk, o + j, none⟩ = some u) (hbl : b.length = n) (hi : i < n) : w.cell? ⟨bk, o + i, none⟩ = some (.int .u8 (wz b i : Int)) := by
  rw [hc i _ (bvals_get b i (by omega))]
  unfold wz
  rw [List.getD_eq_getElem?_getD, List.getElem?_eq_getElem (by omega)]
  rfl

theorem GSt.nx_most {L0 D0 : List UInt8} {N most : Nat} {s t : GSt} (h : s.out.length ≤ most) (ht : (s.nx L0 D0 N most).2 = .ok t) : t.out.length ≤ most := by
  by_cases h0 : s.k = 0
  · rw [GSt.nx_0 h0] at ht
    dsimp only at ht
    repeat' split at ht
    all_goals cases ht
    all_goals exact h
  by_cases h1 : s.k = 1
  · rw [GSt.nx_1 h1] at ht
    dsimp only at ht
    repeat' split at ht
    all_goals cases ht
    all_goals exact h
  by_cases h2 : s.k = 2
  · rw [GSt.nx_2 h2] at ht
    dsimp only at ht
    repeat' split at ht
    all_goals cases ht
    all_goals (show (s.out ++ _).length ≤ most; rw [List.length_append, List.length_singleton]; omega)
  by_cases h3 : s.k = 3
  · rw [GSt.nx_3 h3] at ht
    dsimp only at ht
    repeat' split at ht
    all_goals cases ht
    all_goals exact h
  by_cases h4 : s.k = 4
  · rw [GSt.nx_4 h4] at ht
    dsimp only at ht
    repeat' split at ht
    all_goals cases ht
    all_goals exact h
  by_cases h5 : s.k = 5
  · rw [GSt.nx_5 h5] at ht
    dsimp only at ht
    repeat' split at ht
    all_goals cases ht
    all_goals exact h
  by_cases h6 : s.k = 6
  · rw [GSt.nx_6 h6] at ht
    dsimp only at ht
    repeat' split at ht
    all_goals cases ht
    all_goals exact h
  by_cases h7 : s.k = 7
  · rw [GSt.nx_7 h7] at ht
    dsimp only at ht
    repeat' split at ht
    all_goals cases ht
    all_goals first | exact h | (show (s.out ++ _).length ≤ most; rw [List.length_append, List.length_singleton]; omega)
  by_cases h8 : s.k = 8
  · rw [GSt.nx_8 h8] at ht
    dsimp only at ht
    cases ht
    exact h
  by_cases h9 : s.k = 9
  · rw [GSt.nx_9 h9] at ht
    dsimp only at ht
    repeat' split at ht
    all_goals cases ht
    all_goals exact h
  rw [GSt.nx_10 (by omega)] at ht
  dsimp only at ht
  repeat' split at ht
  all_goals cases ht
  all_goals (show (again _ _ _).length ≤ most; rw [again_length]; omega)
theorem Steps.most {L0 D0 : List UInt8} {N a most : Nat} {s t : GSt} (r : Steps L0 D0 N a most s t) (h : s.out.length ≤ most) : t.out.length ≤ most := by
  induction r with
  | refl => exact h
  | go s t u h11 hp ht r ih => exact ih (GSt.nx_most h ht)
theorem uend_facts {b : List UInt8} {most e : Nat} {t : GSt} (h : UEnd b most e t) : t.out.length ≤ most ∧ ub t ≤ b.length - 2 := by
  refine ⟨h.steps.1.most (Nat.zero_le _), ?_⟩
  have := (h.on (Nat.zero_le _)).2.1
  unfold ub
  omega

set_option maxRecDepth 100000 in
set_option maxHeartbeats 16000000 in
theorem rZFront (A : Option Addr) (n cb most : Nat) (b : List UInt8) (w : World) (hb : Holds w 1 A n (bvals b)) (hbl : b.length = n) (hcb : n ≤ cb) (hA0 : A = none → cb = 0) (hn : n ≤ 90000) (hm : most ≤ 1073741824) :
    Calls Tryz.prog 11 #[.slice A n cb, .int .i64 (most : Int)] w (ZFR w b most) := by
  rcases Nat.eq_zero_or_pos n with rfl | h1
  · obtain rfl : b = [] := List.eq_nil_of_length_eq_zero hbl
    clear hb hbl hcb hn hm
    go_enter Tryz.func11, Tryz.ntmps11
    go_wp2_with fail
    go_ret3
    exact ⟨_, [], 0, 2, rfl, Only.refl _ _, ⟨rfl, .inl ⟨rfl, rfl⟩⟩, .inr (.inl ⟨rfl, rfl, rfl, by decide, by decide⟩)⟩
  obtain ⟨bk, o, rfl, hc⟩ := hb.addr (by rw [bvals_length, hbl]; exact h1)
  have c0 := wz_cell hc hbl h1
  rw [Nat.add_zero] at c0
  have hx8 : wz b 0 < 256 := UInt8.toNat_lt _
  obtain ⟨x, hx⟩ : ∃ x, x = wz b 0 := ⟨_, rfl⟩
  rw [← hx] at c0 hx8
  have hn0 : ¬ (n : Int) = 0 := by omega
  have hn0b : ((n : Int) == 0) = false := beq_eq_false_iff_ne.2 hn0
  obtain ⟨m1, hm1⟩ : ∃ m, m = x % 16 := ⟨_, rfl⟩
  obtain ⟨d1, hd1⟩ : ∃ d, d = x / 16 := ⟨_, rfl⟩
  have e1 : (x : Int) % 16 = (m1 : Int) := by omega
  have e2 : (x : Int) / 16 = (d1 : Int) := by omega
  have hnI : (0 : Int) < (n : Int) := by omega
  by_cases hbad : m1 = 8 ∧ d1 ≤ 7
  · obtain ⟨h8, h7⟩ := hbad
    subst h8
    have h7i : ¬ (7 : Int) < (d1 : Int) := by omega
    by_cases h2 : n < 2
    · have hmh : mhB b.length (wz b 0) (wz b 1) = true := by
        unfold mhB
        rw [← hx, ← hm1, ← hd1, decide_eq_true h7, show b.length = 1 by omega]
        rfl
      have HM := hide (And.intro hmh hbl)
      have hn2 : (n : Int) < 2 := by omega
      have hn2' : n < 2 := h2
      clear hmh hm1 hd1 hx hc hb hbl
      go_enter Tryz.func11, Tryz.ntmps11
      go_wp2_with fail
      go_ret3
      exact ⟨_, [], 0, 2, rfl, Only.refl _ _, ⟨rfl, .inl ⟨rfl, rfl⟩⟩, .inr (.inl ⟨rfl, rfl, rfl, by rw [HM.out.2]; exact hn2', HM.out.1⟩)⟩
    have hn2 : ¬ (n : Int) < 2 := by omega
    have c1 := wz_cell hc hbl (show 1 < n by omega)
    have hy8 : wz b 1 < 256 := UInt8.toNat_lt _
    obtain ⟨y, hy⟩ : ∃ y, y = wz b 1 := ⟨_, rfl⟩
    rw [← hy] at c1 hy8
    obtain ⟨z1, hz1⟩ : ∃ z, z = x * 256 := ⟨_, rfl⟩
    obtain ⟨z, hz⟩ : ∃ z, z = z1 + y := ⟨_, rfl⟩
    obtain ⟨q, hq⟩ : ∃ q, q = z % 31 := ⟨_, rfl⟩
    obtain ⟨v, hv⟩ : ∃ v, v = (y &&& 32 : Nat) := ⟨_, rfl⟩
    have hv0 : v = 0 ↔ y / 32 % 2 = 0 := by rw [hv]; exact and32 y hy8
    have e4 : (z : Int).tmod 31 = (q : Int) := by rw [hq]; rfl
    have e5 : bits .and .u8 (y : Int) 32 = (v : Int) := by rw [hv]; exact u8_and_nat y 32 hy8 (by decide)
    have W1 := hide (wr6 (z := (x : Int)) (n := x) rfl (by omega))
    have W2 := hide (wr6 (z := (y : Int)) (n := y) rfl (by omega))
    have W3 := hide (wr6 (z := (x : Int) * 256) (n := z1) (by omega) (by omega))
    have W4 := hide (wr6 (z := (z1 : Int) + (y : Int)) (n := z) (by omega) (by omega))
    have hI1 : (1 : Int) < (n : Int) := by omega
    have hmq : mhB 2 (wz b 0) (wz b 1) = (decide (q = 0) && decide (v = 0)) := by
      unfold mhB
      rw [← hx, ← hy, ← hm1, ← hd1, decide_eq_true h7, ← hz1, ← hz, ← hq, show decide (y / 32 % 2 = 0) = decide (v = 0) by congr 1; exact propext hv0.symm]
      rfl
    by_cases hh : q = 0 ∧ v = 0
    · have hhead : UHead b := ⟨by omega, by rw [hmq, decide_eq_true hh.1, decide_eq_true hh.2]; rfl⟩
      obtain ⟨hq0, hv00⟩ := hh
      subst hq0
      subst hv00
      obtain ⟨k, hk⟩ : ∃ k, k = n - 2 := ⟨_, rfl⟩
      obtain ⟨A2, c2, hfrom, hh2, hc2, hblk2, hnil2⟩ := run_from0 hb hbl hcb 2 (by omega)
      rw [← hk] at hfrom hh2 hc2
      have hA2 : A2 = none → c2 = 0 ∧ k = 0 := fun h => by have := hnil2 (by simp) h; omega
      have hfrom2 : ∀ w', (Instr.slice 22 (.slice (some ⟨bk, o, none⟩) n cb) (some (.int .i64 2)) none none).run Tryz.prog w' = .ok (.slice A2 k c2) w' := hfrom
      have hB2 : (b.drop 2).length = k := by rw [List.length_drop, hbl, hk]
      have HB := hide (And.intro hb (And.intro hbl (And.intro hcb (And.intro hn (And.intro hm (And.intro hhead (And.intro hk (And.intro h2 hB2))))))))
      have HF : Hid (∀ w', Only [] w w' → Calls Tryz.prog 26 #[.slice A2 k c2, .int .i64 (most : Int)] w' (FrR w' (b.drop 2) most st0)) := hide (fun w' ho => rFront_any A2 k c2 most (b.drop 2) w' (hh2.keep ho (by simp)) hB2 hA2 hc2 (by omega) hm)
      clear hm1 hd1 hx hy hz1 hz hq hv hv0 hmq hhead hk hfrom hh2 hc2 hblk2 hnil2 hA2 hB2 hb hbl hcb hn hm h2 h7 hc
      obtain ⟨v1, u1⟩ := W1.out
      obtain ⟨v2, u2⟩ := W2.out
      obtain ⟨v3, u3⟩ := W3.out
      obtain ⟨v4, u4⟩ := W4.out
      clear W1 W2 W3 W4
      go_enter Tryz.func11, Tryz.ntmps11
      go_wp2_with fail
      go_quiet (fail)
      clear v1 u1 v2 u2 v3 u3 v4 u4 c0 c1 e1 e2 e4 e5
      go_wp2_with fail
      have ON : Only [] w (w.drewN nq) := (Only.refl [] w).drewN nq
      refine (HF.out _ ON).mono ?_
      rintro e w2 ⟨v, out, n1, ec, rfl, ho2, how, hcase⟩
      have H2 := hide (And.intro (ON.trans ho2 (S := []) (by simp)) how)
      clear ho2 how ON hfrom2
      rcases hcase with ⟨rfl, u, hE, hout, hn1⟩ | ⟨hec, rfl, u, xx, hE, hout⟩
      · have hub : n1 = ub u := hn1
        have hE' : UEnd b most 0 u := by
          have h := hE
          rw [HB.out.2.2.2.2.2.2.2.2, HB.out.2.2.2.2.2.2.1, ← HB.out.2.1] at h
          exact h
        obtain ⟨hmo, hub2⟩ := uend_facts hE'
        have hkn := HB.out.2.2.2.2.2.2.1
        have h2n := HB.out.2.2.2.2.2.2.2.1
        have hbl := HB.out.2.1
        have hn9 := HB.out.2.2.2.1
        have hm9 := HB.out.2.2.2.2.1
        have hn1k : n1 ≤ n - 2 := by rw [hub, ← hbl]; exact hub2
        obtain ⟨A3, c3, rfl, hc3, _⟩ := own_shape H2.out.2
        have hol : out.length ≤ most := by rw [hout]; exact hmo
        obtain ⟨z6, hz6⟩ : ∃ z, z = 6 + n1 := ⟨_, rfl⟩
        have W1 := hide (wr6 (z := 6 + (n1 : Int)) (n := z6) (by omega) (by omega))
        have HE := hide (And.intro hE' (And.intro hout hub))
        clear hE hout hn1 hub hE' hmo hub2
        by_cases hs : n < z6
        · have hsI : (n : Int) < (z6 : Int) := by omega
          have hlt : b.length < 2 + ub u + 4 := by rw [← HE.out.2.2]; omega
          have HL := hide hlt
          clear hlt hs hz6 hol hn1k hkn h2n hbl hn9 hm9 hc3
          obtain ⟨v1, u1⟩ := W1.out
          clear W1
          go_wp2_with fail
          go_ret3
          exact ⟨_, out, 0, 2, rfl, H2.out.1, own_mono H2.out.2 (by show w.heap.size ≤ (w.drewN nq).heap.size; exact Nat.le_refl _), .inr (.inr (.inr ⟨HB.out.2.2.2.2.2.1, u, HE.out.1, HE.out.2.1, .inl ⟨rfl, rfl, HL.out⟩⟩))⟩
        · have hsI : ¬ (n : Int) < (z6 : Int) := by omega
          have hl32 : adWord (adOf out) < 4294967296 := by have := adOf_lt out; unfold adWord; omega
          have HAd := hide (refAdler_any A3 out.length c3 out w2 (Holds.of_own H2.out.2) rfl (by omega))
          obtain ⟨s, hsum⟩ : ∃ s, s = adWord (adOf out) := ⟨_, rfl⟩
          rw [← hsum] at HAd hl32
          obtain ⟨z2, hz2⟩ : ∃ z, z = 2 + n1 := ⟨_, rfl⟩
          have W2 := hide (wr6 (z := 2 + (n1 : Int)) (n := z2) (by omega) (by omega))
          obtain ⟨A4, c4, hfrom, hh4, hc4, _, _⟩ := run_from0 (HB.out.1.keep H2.out.1 (by simp)) hbl HB.out.2.2.1 z2 (by omega)
          have hl4 : (b.drop z2).length = n - z2 := by rw [List.length_drop, hbl]
          obtain ⟨b4, o4, rfl, hcell⟩ := hh4.addr (by rw [bvals_length, hl4]; omega)
          have k0 := wz_cell hcell hl4 (show 0 < n - z2 by omega)
          have k1 := wz_cell hcell hl4 (show 1 < n - z2 by omega)
          have k2 := wz_cell hcell hl4 (show 2 < n - z2 by omega)
          have k3 := wz_cell hcell hl4 (show 3 < n - z2 by omega)
          rw [Nat.add_zero] at k0
          have h4 : 4 ≤ (b.drop z2).length := by omega
          have hfe := four_eq (s := s) h4
          obtain ⟨x0, hx0⟩ : ∃ x, x = wz (b.drop z2) 0 := ⟨_, rfl⟩
          obtain ⟨x1, hx1⟩ : ∃ x, x = wz (b.drop z2) 1 := ⟨_, rfl⟩
          obtain ⟨x2, hx2⟩ : ∃ x, x = wz (b.drop z2) 2 := ⟨_, rfl⟩
          obtain ⟨x3, hx3⟩ : ∃ x, x = wz (b.drop z2) 3 := ⟨_, rfl⟩
          rw [← hx0] at k0 hfe
          rw [← hx1] at k1 hfe
          rw [← hx2] at k2 hfe
          rw [← hx3] at k3 hfe
          obtain ⟨l, hl⟩ : ∃ l, l = n - z2 := ⟨_, rfl⟩
          rw [← hl] at hfrom
          have i0 : (0 : Int) < (l : Int) := by omega
          have i1 : (1 : Int) < (l : Int) := by omega
          have i2 : (2 : Int) < (l : Int) := by omega
          have i3 : (3 : Int) < (l : Int) := by omega
          obtain ⟨y0, hy0⟩ : ∃ a, a = s / 16777216 := ⟨_, rfl⟩
          obtain ⟨d1, hd1⟩ : ∃ a, a = s / 65536 := ⟨_, rfl⟩
          obtain ⟨d2, hd2⟩ : ∃ a, a = s / 256 := ⟨_, rfl⟩
          obtain ⟨y1, hy1⟩ : ∃ a, a = d1 % 256 := ⟨_, rfl⟩
          obtain ⟨y2, hy2⟩ : ∃ a, a = d2 % 256 := ⟨_, rfl⟩
          obtain ⟨y3, hy3⟩ : ∃ a, a = s % 256 := ⟨_, rfl⟩
          have e1 : (s : Int) / 16777216 = (y0 : Int) := by omega
          have e1' : (y0 : Int) % 256 = (y0 : Int) := by omega
          have e2 : (s : Int) / 65536 = (d1 : Int) := by omega
          have e2' : (d1 : Int) % 256 = (y1 : Int) := by omega
          have e3 : (s : Int) / 256 = (d2 : Int) := by omega
          have e3' : (d2 : Int) % 256 = (y2 : Int) := by omega
          have e4' : (s : Int) % 256 = (y3 : Int) := by omega
          have y0lt : y0 < 256 := by omega
          rw [← hy0, show y0 % 256 = y0 by omega, ← hd1, ← hy1, ← hd2, ← hy2, ← hy3] at hfe
          have hle : 2 + ub u + 4 ≤ b.length := by rw [← HE.out.2.2]; omega
          have hz2u : z2 = 2 + ub u := by rw [← HE.out.2.2]; exact hz2
          have hout := HE.out.2.1
          rw [hz2u, hsum, hout] at hfe
          have HL := hide (And.intro hle (And.intro hfe hz6))
          have HH := hide hfrom
          clear hle hz2u hout hfe hs hz6 hol hn1k hkn h2n hbl hn9 hm9 hc3 hz2 hh4 hc4 hl4 hcell h4 hx0 hx1 hx2 hx3 hl hy0 hd1 hd2 hy1 hy2 hy3 hsum hn0 hn2 hnI hn0b h7i hI1
          obtain ⟨v1, u1⟩ := W1.out
          obtain ⟨v2, u2⟩ := W2.out
          clear W1 W2
          go_wp2_with fail
          refine (HAd.out).mono ?_
          rintro e w3 ⟨rfl, rfl⟩
          clear HAd
          have fin0 : ∀ (hne : (List.drop (2 + ub u) b).take 4 ≠ bigN (adWord (adOf u.out))), ZF b most out 0 4 := fun hne => .inr (.inr (.inr ⟨HB.out.2.2.2.2.2.1, u, HE.out.1, HE.out.2.1, .inr (.inl ⟨rfl, rfl, HL.out.1, hne⟩)⟩))
          have FN := hide fin0
          clear fin0
          have hmz : w.heap.size ≤ (w.drewN nq).heap.size := Nat.le_refl _
          by_cases q0 : y0 = x0
          · subst q0
            by_cases q1 : y1 = x1
            · subst q1
              by_cases q2 : y2 = x2
              · subst q2
                by_cases q3 : y3 = x3
                · subst q3
                  go_wp2_with fail
                  go_ret3
                  have hn6 : z6 = 2 + ub u + 4 := by rw [HL.out.2.2, ← HE.out.2.2]; omega
                  exact ⟨_, out, z6, 0, rfl, H2.out.1, own_mono H2.out.2 hmz, .inr (.inr (.inr ⟨HB.out.2.2.2.2.2.1, u, HE.out.1, HE.out.2.1, .inr (.inr ⟨hn6, rfl, HL.out.1, HL.out.2.1.2 (by simp)⟩)⟩))⟩
                · have qI : ¬ (y3 : Int) = (x3 : Int) := by omega
                  have qb : ((y3 : Int) == (x3 : Int)) = false := beq_eq_false_iff_ne.2 qI
                  have Q := hide q3
                  clear q3
                  go_wp2_with fail
                  go_ret3
                  exact ⟨_, out, 0, 4, rfl, H2.out.1, own_mono H2.out.2 hmz, FN.out fun h => Q.out (HL.out.2.1.1 h).2.2.2.symm⟩
              · have qI : ¬ (y2 : Int) = (x2 : Int) := by omega
                have qb : ((y2 : Int) == (x2 : Int)) = false := beq_eq_false_iff_ne.2 qI
                have Q := hide q2
                clear q2
                go_wp2_with fail
                go_ret3
                exact ⟨_, out, 0, 4, rfl, H2.out.1, own_mono H2.out.2 hmz, FN.out fun h => Q.out (HL.out.2.1.1 h).2.2.1.symm⟩
            · have qI : ¬ (y1 : Int) = (x1 : Int) := by omega
              have qb : ((y1 : Int) == (x1 : Int)) = false := beq_eq_false_iff_ne.2 qI
              have Q := hide q1
              clear q1
              go_wp2_with fail
              go_ret3
              exact ⟨_, out, 0, 4, rfl, H2.out.1, own_mono H2.out.2 hmz, FN.out fun h => Q.out (HL.out.2.1.1 h).2.1.symm⟩
          · have qI : ¬ (y0 : Int) = (x0 : Int) := by omega
            have qb : ((y0 : Int) == (x0 : Int)) = false := beq_eq_false_iff_ne.2 qI
            have Q := hide q0
            clear q0
            go_wp2_with fail
            go_ret3
            exact ⟨_, out, 0, 4, rfl, H2.out.1, own_mono H2.out.2 hmz, FN.out fun h => Q.out (HL.out.2.1.1 h).1.symm⟩
      · have heI : ¬ (ec : Int) = 0 := by omega
        have heb : ((ec : Int) == 0) = false := beq_eq_false_iff_ne.2 heI
        have HE := hide (And.intro hE (And.intro hout hec))
        clear hE hout hec
        go_wp2_with fail
        go_ret3
        refine ⟨v, out, 0, ec, rfl, H2.out.1, own_mono H2.out.2 (by show w.heap.size ≤ (w.drewN nq).heap.size; exact Nat.le_refl _), .inr (.inr (.inl ⟨HB.out.2.2.2.2.2.1, rfl, HE.out.2.2, u, xx, ?_, HE.out.2.1⟩))⟩
        have h := HE.out.1
        rw [HB.out.2.2.2.2.2.2.2.2, HB.out.2.2.2.2.2.2.1, ← HB.out.2.1] at h
        exact h
    · have HM : Hid (mhB (min b.length 2) (wz b 0) (wz b 1) = false) := hide (by
        rw [show min b.length 2 = 2 by omega, hmq]
        by_cases hq0 : q = 0
        · rw [decide_eq_false (show ¬ v = 0 by omega)]; simp
        · rw [decide_eq_false hq0]; simp)
      clear hm1 hd1 hx hy hz1 hz hq hv hv0 hmq hb hbl hcb hn hm h2 h7 hc hn0
      obtain ⟨v1, u1⟩ := W1.out
      obtain ⟨v2, u2⟩ := W2.out
      obtain ⟨v3, u3⟩ := W3.out
      obtain ⟨v4, u4⟩ := W4.out
      clear W1 W2 W3 W4
      by_cases hq0 : q = 0
      · subst hq0
        have hvI : ¬ (v : Int) = 0 := by omega
        have hvb : ((v : Int) == 0) = false := beq_eq_false_iff_ne.2 hvI
        clear hh
        go_enter Tryz.func11, Tryz.ntmps11
        go_wp2_with fail
        go_quiet (fail)
        go_wp2_with fail
        go_ret3
        exact ⟨_, [], 0, 3, rfl, (Only.refl [] w).drewN nq, ⟨rfl, .inl ⟨rfl, rfl⟩⟩, .inl ⟨rfl, rfl, rfl, HM.out⟩⟩
      · have hqI : ¬ (q : Int) = 0 := by omega
        have hqb : ((q : Int) == 0) = false := beq_eq_false_iff_ne.2 hqI
        have hqn : ((q : Int) != 0) = true := bne_iff_ne.2 hqI
        clear hh hq0
        go_enter Tryz.func11, Tryz.ntmps11
        go_wp2_with fail
        go_quiet (fail)
        go_wp2_with fail
        go_ret3
        exact ⟨_, [], 0, 3, rfl, (Only.refl [] w).drewN nq, ⟨rfl, .inl ⟨rfl, rfl⟩⟩, .inl ⟨rfl, rfl, rfl, HM.out⟩⟩
  · have hmh : mhB (min b.length 2) (wz b 0) (wz b 1) = false := by
      unfold mhB
      rw [← hx, ← hm1, ← hd1]
      have h2 : ¬ (min b.length 2 = 0) := by omega
      rw [decide_eq_false h2]
      by_cases h8 : m1 = 8
      · rw [decide_eq_false (show ¬ d1 ≤ 7 by omega)]; simp
      · rw [decide_eq_false h8]; simp
    have HM := hide hmh
    have HB := hide hc
    clear hmh hm1 hd1 hx hc hb hbl
    by_cases h8 : m1 = 8
    · subst h8
      have h7 : (7 : Int) < (d1 : Int) := by omega
      clear hbad
      go_enter Tryz.func11, Tryz.ntmps11
      go_wp2_with fail
      go_ret3
      exact ⟨_, [], 0, 3, rfl, Only.refl _ _, ⟨rfl, .inl ⟨rfl, rfl⟩⟩, .inl ⟨rfl, rfl, rfl, HM.out⟩⟩
    · have h8i : ¬ (m1 : Int) = 8 := by omega
      have h8b : ((m1 : Int) == 8) = false := beq_eq_false_iff_ne.2 h8i
      clear hbad h8
      go_enter Tryz.func11, Tryz.ntmps11
      go_wp2_with fail
      go_ret3
      exact ⟨_, [], 0, 3, rfl, Only.refl _ _, ⟨rfl, .inl ⟨rfl, rfl⟩⟩, .inl ⟨rfl, rfl, rfl, HM.out⟩⟩

/-- The document's Unpack. -/
theorem rUnpack_bad (most : Int) (A : Option Addr) (n cb : Nat) (w : World) (hm : most < 0 ∨ 1073741824 < most) :
    Calls Tryz.prog 7 #[.slice A n cb, .int .i64 most] w fun e w' => e = .returned (.tuple #[.slice none 0 0, .int .i64 0, .int .i64 1]) ∧ w = w' := by
  rcases hm with hm | hm
  · go_enter Tryz.func7, Tryz.ntmps7
    go_wp2_with fail
    go_ret3
    exact ⟨rfl, rfl⟩
  · have h0 : ¬ most < 0 := by omega
    go_enter Tryz.func7, Tryz.ntmps7
    go_wp2_with fail
    go_ret3
    exact ⟨rfl, rfl⟩
def ZUR (w : World) (b : List UInt8) (most : Nat) (e : Ending) (w' : World) : Prop :=
  ∃ (v : Value) (out : List UInt8) (n c : Nat), e = .returned (.tuple #[v, .int .i64 (n : Int), .int .i64 (c : Int)]) ∧ Only [] w w' ∧ w'.ownsRow w.heap.size 5 1 v out.length (bvals out) ∧ UT b most out n c
theorem rUnpack_any (A : Option Addr) (n cb most : Nat) (b : List UInt8) (w : World) (hb : Holds w 1 A n (bvals b)) (hbl : b.length = n) (hcb : n ≤ cb) (hA0 : A = none → cb = 0) (hn : n ≤ 90000) (hm : most ≤ 1073741824) :
    Calls Tryz.prog 7 #[.slice A n cb, .int .i64 (most : Int)] w (ZUR w b most) := by
  have HF := hide (rZFront A n cb most b w hb hbl hcb hA0 hn hm)
  have hmI : ¬ (1073741824 : Int) < (most : Int) := by omega
  clear hb hbl hcb hA0 hn hm
  go_enter Tryz.func7, Tryz.ntmps7
  go_wp2_with fail
  refine (HF.out).mono ?_
  rintro e w1 ⟨v, out, n1, ec, rfl, ho, how, hz⟩
  have H1 := hide (And.intro ho (And.intro how hz))
  clear ho how hz HF
  by_cases h0 : ec = 0
  · subst h0
    go_wp2_with fail
    go_ret3
    exact ⟨v, out, n1, 0, rfl, H1.out.1, H1.out.2.1, H1.out.2.2.good⟩
  · have heI : ¬ (ec : Int) = 0 := by omega
    have heb : ((ec : Int) == 0) = false := beq_eq_false_iff_ne.2 heI
    have h00 := hide h0
    clear h0
    go_wp2_with fail
    go_ret3
    exact ⟨_, [], 0, ec, rfl, H1.out.1, ⟨rfl, .inl ⟨rfl, rfl⟩⟩, H1.out.2.2.bad h00.out⟩
end Go.Proofs.YtlknhiihdejpeaaGreatDoor

