/-
  Proves: for any bytes, any number and any numbers as cuts ZlibPieces tells true, and leaves all that was there as it was.
-/
import Derived.Test.YtlknhiihdejpeaaGreatDoorMZlX
import Derived.Test.YtlknhiihdejpeaaGreatDoorMZlV
import Derived.Test.YtlknhiihdejpeaaGreatDoorMZpF
import Derived.Test.YtlknhiihdejpeaaGreatDoorMZlN
namespace Go.Proofs.YtlknhiihdejpeaaGreatDoor.zpieces
open Go Go.RowKit Go.ChangeShapes Go.WideShapes Go.ChangeAt

theorem someZ (g : Nat) (w : World) : (binOp .eql 32 (.pointer (some ⟨g, 0, none⟩)) (.pointer none)).run Tryz.prog w = .ok (.bool false) w := by kernel_rfl

set_option maxRecDepth 100000 in
set_option maxHeartbeats 8000000 in
theorem out (A B : Option Addr) (n c m d : Nat) (most : Int) (w : World) (hT : Tab w) (h : 4096 < n ∨ (¬ 4096 < n ∧ most < 0) ∨ (¬ 4096 < n ∧ ¬ most < 0 ∧ 65536 < most) ∨ (¬ 4096 < n ∧ ¬ most < 0 ∧ ¬ 65536 < most ∧ 200 < m)) :
    Calls Tryz.prog 4 #[.slice A n c, .int .i64 most, .slice B m d] w fun e w' => e = .returned (.bool true) ∧ Only [] w w' := by
  have HK := hide (knownZ_any w hT)
  clear hT
  rcases h with h | ⟨h, h1⟩ | ⟨h, h1, h2⟩ | ⟨h, h1, h2, h3⟩
  · have hn : (4096 : Int) < (n : Int) := by omega
    go_enter Tryz.func4, Tryz.ntmps4
    go_wp2_with fail
    refine (HK.out).mono ?_
    rintro e w1 ⟨rfl, ho1⟩
    go_wp2_with fail
    go_ret
    exact ⟨rfl, ho1⟩
  · have hn : ¬ (4096 : Int) < (n : Int) := by omega
    go_enter Tryz.func4, Tryz.ntmps4
    go_wp2_with fail
    refine (HK.out).mono ?_
    rintro e w1 ⟨rfl, ho1⟩
    go_wp2_with fail
    go_ret
    exact ⟨rfl, ho1⟩
  · have hn : ¬ (4096 : Int) < (n : Int) := by omega
    go_enter Tryz.func4, Tryz.ntmps4
    go_wp2_with fail
    refine (HK.out).mono ?_
    rintro e w1 ⟨rfl, ho1⟩
    go_wp2_with fail
    go_ret
    exact ⟨rfl, ho1⟩
  · have hn : ¬ (4096 : Int) < (n : Int) := by omega
    have hm : (200 : Int) < (m : Int) := by omega
    go_enter Tryz.func4, Tryz.ntmps4
    go_wp2_with fail
    refine (HK.out).mono ?_
    rintro e w1 ⟨rfl, ho1⟩
    go_wp2_with fail
    go_ret
    exact ⟨rfl, ho1⟩

def slen : Value → Nat
  | .slice _ n _ => n
  | _ => 0

set_option maxRecDepth 100000 in
set_option maxHeartbeats 32000000 in
theorem core (A B : Option Addr) (n c m d : Nat) (l : List UInt8) (zs : List Int) (most : Int) (w : World) (hT : Tab w) (hb : Holds w 1 A n (bvals l)) (hl : l.length = n) (hc : n ≤ c) (hA0 : A = none → c = 0) (hz : Holds w 1 B m (ivals zs)) (hzl : zs.length = m)
    (hzr : ∀ z ∈ zs, -9223372036854775808 ≤ z ∧ z ≤ 9223372036854775807) :
    Calls Tryz.prog 4 #[.slice A n c, .int .i64 most, .slice B m d] w fun e w' => e = .returned (.bool true) ∧ Only [] w w' := by
  by_cases h0 : 4096 < n ∨ (¬ 4096 < n ∧ most < 0) ∨ (¬ 4096 < n ∧ ¬ most < 0 ∧ 65536 < most) ∨ (¬ 4096 < n ∧ ¬ most < 0 ∧ ¬ 65536 < most ∧ 200 < m)
  · exact out A B n c m d most w hT h0
  obtain ⟨mo, rfl⟩ := Int.eq_ofNat_of_zero_le (show 0 ≤ most by omega)
  have hn : ¬ (4096 : Int) < (n : Int) := by omega
  have hmo : ¬ (65536 : Int) < (mo : Int) := by omega
  have hm : ¬ (200 : Int) < (m : Int) := by omega
  have HK := hide (knownZ_any w hT)
  have HI := hide (And.intro hT (And.intro hb (And.intro hl (And.intro hc (And.intro hA0 (And.intro hz (And.intro hzl (And.intro hzr (And.intro (show n ≤ 4096 by omega) (And.intro (show mo ≤ 65536 by omega) (show m ≤ 200 by omega)))))))))))
  clear hT hb hl hc hA0 hz hzl hzr h0
  go_enter Tryz.func4, Tryz.ntmps4
  go_wp2_with fail
  refine (HK.out).mono ?_
  rintro e w1 ⟨rfl, ho1⟩
  have O1 := hide ho1
  clear ho1 HK
  go_wp2_with fail
  refine (newZ_any mo w1 (by have := HI.out.2.2.2.2.2.2.2.2.2.1; omega)).mono ?_
  rintro e w2 ⟨g, gw, gt, rfl, hN0⟩
  have hN : Newed mo w1 g gw gt w2 := hN0
  have hT1 : Tab w1 := HI.out.1.only O1.out (by simp)
  obtain ⟨hFx, hZ⟩ := zs_new (b := l) hN hT1
  have HF := hide (rZFront A n c mo l w2 ((HI.out.2.1.keep O1.out (by simp)).keep hN.2.2.2.2.2.2.2 (by simp)) HI.out.2.2.1 HI.out.2.2.2.1 HI.out.2.2.2.2.1 (by have := HI.out.2.2.2.2.2.2.2.2.1; omega) (by have := HI.out.2.2.2.2.2.2.2.2.2.1; omega))
  have hsg := someZ g
  have hlt : g < w2.heap.size ∧ gw < w2.heap.size ∧ gt < w2.heap.size := by
    obtain ⟨_, _, _, _, hd, ⟨ws, hws, _⟩, hwt, _⟩ := hN
    exact ⟨Has.lt hd, Has.lt hws, own_block' hwt⟩
  have H2 := hide (And.intro hFx (And.intro hZ (And.intro hN.2.2.2.2.2.2.2 hlt)))
  clear hN hN0 hT1 hFx hZ hlt hn hmo hm
  go_wp2_with fail
  refine (HF.out).mono ?_
  rintro e w3 ⟨vw, wl, nn, ec, rfl, ho3, hown3, hzf⟩
  obtain ⟨Aw, cw, rfl, hcw, _⟩ := own_shape hown3
  have HPF := hide (show PFx l wl zs mo w1.heap.size w3.heap.size w2.heap.size g gw gt m B (.slice Aw wl.length cw) w ec nn from
    ⟨H2.out.1, O1.out.size, ⟨H2.out.2.2.1.size, H2.out.2.2.2⟩, ho3.size, fun k hk => (hown3.lt k hk).2, fun h0 ad had => Nat.lt_of_lt_of_le (HI.out.2.2.2.2.2.1.blk h0 ad had) O1.out.size, by have := HI.out.2.2.2.2.2.2.2.2.1; have := HI.out.2.2.1; omega, HI.out.2.2.2.2.2.2.2.2.2.1, HI.out.2.2.2.2.2.2.1, hzf⟩)
  have o03 : Only [] w w3 := (O1.out.trans H2.out.2.2.1 (S := []) (by simp)).trans ho3 (S := []) (by simp)
  have H3 := hide (show PSt l wl zs mo w1.heap.size w3.heap.size w2.heap.size g gw gt m B (.slice Aw wl.length cw) w w3 0 0 0 [] (.slice none 0 0) A c from
    ⟨o03, Nat.zero_le _, ⟨by rw [List.drop_zero, Nat.sub_zero, List.take_length, HI.out.2.2.1]; exact HI.out.2.1.keep o03 (by simp), by rw [HI.out.2.2.1]; exact HI.out.2.2.2.1, by omega, HI.out.2.2.2.2.1, fun h0 ad had => by
        have := HI.out.2.1.blk (by rw [← HI.out.2.2.1]; omega) ad had
        have := O1.out.size
        omega⟩, ⟨rfl, .inl ⟨rfl, rfl⟩⟩, hown3, HI.out.2.2.2.2.2.1.keep o03 (by simp), Nat.le_refl _, fro_nil _ _, Nat.zero_le _, .inl ⟨rfl, H2.out.2.1.still ho3⟩, fun _ => Nat.zero_le _, Nat.zero_le _⟩)
  obtain ⟨q, hq⟩ : ∃ q, q = wl.length := ⟨_, rfl⟩
  have HQ := hide hq
  rw [← hq]
  clear HF hsg ho3 hown3 hzf hcw o03 hq
  go_wp2_with fail
  go_loopw [12, 13, 14, 15] (fun v12 v13 v14 v15 wr => ∃ (a i bad : Nat) (o : List UInt8) (A13 : Option Addr) (c13 : Nat), v13 = .slice A13 (l.length - a) c13 ∧ v14 = .int .i64 (bad : Int) ∧ v15 = .int .i64 (i : Int) ∧ PSt l wl zs mo w1.heap.size w3.heap.size w2.heap.size g gw gt m B (.slice Aw wl.length cw) w wr a i bad o v12 A13 c13) (fun _ v13 _ v15 _ => (m - (intOf v15).toNat) + slen v13)
  case atStart => exact ⟨0, 0, 0, [], A, c, by rw [Nat.sub_zero, HI.out.2.2.1], rfl, rfl, H3.out⟩
  case round =>
    obtain ⟨a, i, bad, o, A13, c13, rfl, rfl, rfl, S⟩ := hrel
    clear H3
    obtain ⟨Ao, co, rfl, _, _⟩ := own_shape S.out
    obtain ⟨r, hr⟩ : ∃ r, r = l.length - a := ⟨_, rfl⟩
    obtain ⟨ko, hko⟩ : ∃ ko, ko = o.length := ⟨_, rfl⟩
    have HKO := hide hko
    rw [← hr, ← hko]
    clear hko
    by_cases hr0 : 0 < r
    · have hrI : (0 : Int) < (r : Int) := by omega
      have hile := S.i1 (by omega)
      obtain ⟨r1, hr1⟩ : ∃ r1, r1 = r + 1 := ⟨_, rfl⟩
      have hln := HI.out.2.2.1
      have hn4 := HI.out.2.2.2.2.2.2.2.2.1
      have hal := S.le
      have hcap := S.sl.cap
      rw [← hr] at hcap
      have hmmc : ∃ mm : Nat, mm ≤ r ∧ (i < m ∨ a + mm = l.length) ∧ ((¬ i < m ∧ mm = r) ∨ (i < m ∧ ∃ (bk oo : Nat) (z T : Int), B = some ⟨bk, oo, none⟩ ∧ wr.cell? ⟨bk, oo + i, none⟩ = some (.int .i64 z) ∧ -9223372036854775808 ≤ z ∧ z ≤ 9223372036854775807 ∧ z.tmod (r1 : Int) = T ∧ ((0 ≤ T ∧ T = (mm : Int)) ∨ (T < 0 ∧ 0 - T = (mm : Int))))) := by
        by_cases him : i < m
        · have hzl := HI.out.2.2.2.2.2.2.1
          obtain ⟨bk, oo, hB, hcell⟩ := S.cuts.addr (by unfold ivals; rw [List.length_map]; omega)
          have hiz : i < zs.length := by omega
          have c1 := hcell i _ (show (ivals zs)[i]? = some (.int .i64 zs[i]) by unfold ivals; rw [List.getElem?_map, List.getElem?_eq_getElem hiz]; rfl)
          have hzr := HI.out.2.2.2.2.2.2.2.1 zs[i] (List.getElem_mem hiz)
          have hT := Int.natAbs_tmod zs[i] (r1 : Int)
          have hT2 : (zs[i].tmod (r1 : Int)).natAbs < r1 := by rw [hT]; exact Nat.mod_lt _ (by omega)
          exact ⟨(zs[i].tmod (r1 : Int)).natAbs, by omega, .inl him, .inr ⟨him, bk, oo, zs[i], _, hB, c1, hzr.1, hzr.2, rfl, by omega⟩⟩
        · exact ⟨r, Nat.le_refl _, .inr (by omega), .inl ⟨him, rfl⟩⟩
      obtain ⟨mm, hmr, hmi, hcase⟩ := hmmc
      have HW := hide (S.write HPF.out mm (by omega))
      have hup := fun W => run_upto A13 r c13 mm (by omega) W
      have HS := hide (And.intro hmr (And.intro hmi (And.intro hr (And.intro hal (And.intro hile hr0)))))
      have hi9 : i ≤ 201 := by have := HI.out.2.2.2.2.2.2.2.2.2.2; omega
      have hr9 : r ≤ 4096 := by omega
      clear S hln hn4 hal hcap hmi hr
      have W1 := hide (wr6 (z := (r : Int) + 1) (n := r1) (by omega) (by omega))
      have hr10 : ¬ (r1 : Int) = 0 := by omega
      have hr1b : ((r1 : Int) == 0) = false := beq_eq_false_iff_ne.2 hr10
      rcases hcase with ⟨him, hmm⟩ | ⟨him, bk, oo, z, T, hB, c1, hz1, hz2, hTe, ⟨hT0, hTm⟩ | ⟨hT0, hTm⟩⟩
      all_goals first
        | (have hmm0 := hmm
           have imI : ¬ (i : Int) < (m : Int) := by omega
           subst hmm
           clear W1 hr1 him
           go_wp2_with fail)
        | (subst hB
           have imI : (i : Int) < (m : Int) := by omega
           have tI : ¬ T < 0 := by omega
           have WT := hide (wr6 (z := T) (n := mm) hTm (by omega))
           clear hr1 him
           obtain ⟨v1, y1⟩ := W1.out
           obtain ⟨v2, y2⟩ := WT.out
           clear W1 WT
           go_wp2_with fail)
        | (subst hB
           have imI : (i : Int) < (m : Int) := by omega
           have WT := hide (wr6 (z := 0 - T) (n := mm) hTm (by omega))
           clear hr1 him
           obtain ⟨v1, y1⟩ := W1.out
           obtain ⟨v2, y2⟩ := WT.out
           clear W1 WT
           go_wp2_with fail)
      all_goals
        refine (HW.out).mono ?_
        rintro e w5 ⟨v, y, cc, rfl, P⟩
        obtain ⟨Av, cv, rfl, _, _⟩ := own_shape P.own
        obtain ⟨A', c', hfrom, hh', hc', hblk', hnil'⟩ := run_from0 P.sl.holds P.sl.len P.sl.cap mm (by rw [← HS.out.2.2.1]; exact HS.out.1)
        have HFR := hide (And.intro hh' (And.intro hc' (And.intro hblk' hnil')))
        rw [← HS.out.2.2.1] at hfrom
        have hbv := Holds.of_own P.own
        have hov := P.out
        rw [← HKO.out] at hov
        obtain ⟨ky, hky⟩ : ∃ ky, ky = y.length := ⟨_, rfl⟩
        have HKY := hide hky
        rw [← hky] at hbv ⊢
        have hbo := P.size
        have hkk9 : ko + ky ≤ 65536 := by
          have h1 := P.ol
          rw [List.length_append, ← HKO.out, ← hky] at h1
          have := HPF.out.mo
          omega
        have h3 : (bad = 0 ∧ cc = 0) ∨ (bad = 0 ∧ cc ≠ 0 ∧ ky = 0) ∨ (bad ≠ 0 ∧ cc = bad ∧ ky = 0) := by
          have h1 := P.same
          have h2 := P.nul
          by_cases hb0 : bad = 0
          · by_cases hc0 : cc = 0
            · exact .inl ⟨hb0, hc0⟩
            · exact .inr (.inl ⟨hb0, hc0, by rw [hky, (h2 hc0).2]; rfl⟩)
          · have hcb := h1 hb0
            exact .inr (.inr ⟨hb0, hcb, by rw [hky, (h2 (by omega)).2]; rfl⟩)
        have HP := hide P
        have hsum : ko + ky ≤ 140737488355328 := by omega
        clear hh' hc' hblk' hnil' P hky hup HW
        rcases h3 with ⟨rfl, rfl⟩ | ⟨rfl, hcc, hk0⟩ | ⟨hbd, rfl, hk0⟩
        all_goals first
          | (have ccI : ¬ (cc : Int) = 0 := by have := hcc; omega
             have ccb : ((cc : Int) == 0) = false := beq_eq_false_iff_ne.2 ccI
             have ccn : ((cc : Int) != 0) = true := bne_iff_ne.2 ccI
             have kyI : ¬ (0 : Int) < (ky : Int) := by omega
             clear hcc hk0
             go_wp2_with (at_builtin; refine list_onto rfl (.tmp 106) (.tmp 107) rfl w5 hbv hsum hov hbo rfl rfl ?_; intro A6 c6 w6 how6 ho6))
          | (have bdI : ¬ (cc : Int) = 0 := by have := hbd; omega
             have bdb : ((cc : Int) == 0) = false := beq_eq_false_iff_ne.2 bdI
             have bdn : ((cc : Int) != 0) = true := bne_iff_ne.2 bdI
             have kyI : ¬ (0 : Int) < (ky : Int) := by omega
             clear hbd hk0
             go_wp2_with (at_builtin; refine list_onto rfl (.tmp 106) (.tmp 107) rfl w5 hbv hsum hov hbo rfl rfl ?_; intro A6 c6 w6 how6 ho6))
          | (go_wp2_with (at_builtin; refine list_onto rfl (.tmp 106) (.tmp 107) rfl w5 hbv hsum hov hbo rfl rfl ?_; intro A6 c6 w6 how6 ho6))
        all_goals
          have HN := hide (HP.out.append (i := i) HPF.out (by rw [← HS.out.2.2.1]; exact HS.out.1) HS.out.2.2.2.1 HS.out.2.2.2.2.1 HS.out.2.1 (by rw [← HKO.out, ← HKY.out]; exact how6) (by rw [← HKO.out]; exact ho6) HFR.out.1 HFR.out.2.1 HFR.out.2.2.1 HFR.out.2.2.2)
          obtain ⟨kk, hkk⟩ : ∃ kk, kk = ko + ky := ⟨_, rfl⟩
          have hkl : (o ++ y).length = kk := by rw [List.length_append, ← HKO.out, ← HKY.out, hkk]
          have hfr := HN.out.fro _ _ _ HPF.out.zf
          have hkq : kk ≤ q := by
            obtain ⟨xx, hxx⟩ := hfr
            rw [HQ.out, hxx, List.length_append, hkl]
            exact Nat.le_add_right _ _
          have htk : wl.take kk = o ++ y := by
            obtain ⟨xx, hxx⟩ := hfr
            rw [hxx, ← hkl, List.take_left]
          have hO := HN.out.out
          rw [List.length_append, ← HKO.out, ← HKY.out, ← hkk] at hO
          have hs1 := fun x : Later w6 => str_of ((Holds.of_own hO).keep x.only (by simp)) c6
          have hWn := HN.out.want
          rw [← HQ.out] at hWn
          obtain ⟨_, _, hwe, hqc, _⟩ := own_shape hWn
          have hqc : q ≤ cw := by injection hwe with _ _ h; omega
          have hs2 := fun W => run_upto Aw q cw kk (by omega) W
          have hup := (Holds.of_own hWn).upto kk hkq
          rw [htk] at hup
          have hs3 := fun x : Later w6 => str_of (hup.keep x.only (by simp)) cw
          obtain ⟨f6, hd6, hr6⟩ := HN.out.roomy
          have HRm := hide (fun x : Later w6 => zroom_any g gw gt f6 x.val (Has.only hd6 x.only (by simp)) hr6)
          have kI : ¬ (q : Int) < (kk : Int) := by omega
          have HKK := hide hkk
          rw [← hkk]
          clear how6 ho6 hkl hfr hkq htk hO hWn hwe hqc hup hd6 hr6 hkk hbv hsum hov hbo hkk9
          refine region_later (by kernel_rfl) (by kernel_rfl) ?_
          iterate 17 (go_big_quiet_step (fail))
          go_big_quiet_step ((go_at_call 13; refine later_of (HRm.out _)))
          iterate 2 (go_big_quiet_step (fail))
          refine wpQuiet_nil ?_
          rintro _ ⟨X, rfl⟩
          have hX := HN.out.idle X.only
          rw [← HKO.out, ← HKY.out, ← HKK.out] at hX
          have HX := hide hX
          clear hX hs1 hs2 hs3 HRm HN
          go_wp2_with fail
          go_roundw
          case rel => exact ⟨a + mm, i + 1, _, o ++ y, A', c', by rw [Nat.sub_add_eq, ← HS.out.2.2.1] <;> rw [Nat.sub_self], rfl, by go_num, HX.out⟩
          case measure =>
            have h1 := HS.out.2.1
            have h2 := HS.out.1
            have h3 := HS.out.2.2.1
            have h4 := HS.out.2.2.2.2.2
            simp [intOf, slen]
            omega
    · have hr00 : r = 0 := by omega
      have hal : a = l.length := by have := S.le; omega
      have hst := S.st
      have hO := S.out
      rw [← HKO.out] at hO
      have hW := S.want
      rw [← HQ.out] at hW
      have s1 := str_of (Holds.of_own hO) co
      have s2 := str_of (Holds.of_own hW) cw
      have HO := hide S.only
      subst hr00
      clear S hO hW hr hr0
      rcases hst with ⟨hb0, hz⟩ | ⟨hz, hbad⟩
      · rw [hal] at hz
        rcases hz.fin HPF.out.zf with ⟨hec, hwl, f, sm, wb, k, hd, ht⟩ | ⟨hec, f, sm, part, wb, k, hd, ht, hp3⟩
        · have HD := hide (zdone_any g f sm 3 k wb wr hd ht true rfl)
          rw [hwl] at s2
          subst hb0
          subst hec
          clear hz hal hwl hd ht
          go_wp2_with fail
          refine (HD.out).mono ?_
          rintro e w5 ⟨rfl, rfl⟩
          go_wp2_with fail
          go_ret
          exact ⟨rfl, HO.out⟩
        · have HD := hide (zdone_any g f sm part k wb wr hd ht false (decide_eq_false hp3))
          subst hb0
          subst hec
          clear hz hal hd ht s1 s2 hp3
          go_wp2_with fail
          refine (HD.out).mono ?_
          rintro e w5 ⟨rfl, rfl⟩
          go_wp2_with fail
          go_ret
          exact ⟨rfl, HO.out⟩
      · have hec : ec = bad := hbad _ _ _ HPF.out.zf
        have hcd := hz.code
        obtain ⟨f, sm, part, wb, k, hd, ht, hp3⟩ := hz.not_done
        have HD := hide (zdone_any g f sm part k wb wr hd ht false (decide_eq_false hp3))
        subst hec
        have e0 : ¬ (ec : Int) = 0 := by omega
        have e0b : ((ec : Int) == 0) = false := beq_eq_false_iff_ne.2 e0
        have e2 : ¬ (ec : Int) = 2 := by omega
        have e2b : ((ec : Int) == 2) = false := beq_eq_false_iff_ne.2 e2
        clear hz hal hd ht s1 s2 hp3 hcd hbad
        go_wp2_with fail
        refine (HD.out).mono ?_
        rintro e w5 ⟨rfl, rfl⟩
        go_wp2_with fail
        go_ret
        exact ⟨rfl, HO.out⟩

set_option maxRecDepth 100000 in
theorem lifted (os : Os) (started : os.Started) (H : Type) (enc : TypeId × Value → H) :
    ReturnsInHanded {} Tryz.checked os 4 .any (fun w args => (Rows.zlibPiecesSpec.pre enc Tryz.prog Tryz.f4 [] false w args ∧ laidMetH Tryz.prog laidI w) ∧ sizedMet enc Tryz.prog Tryz.f4 (OpenSpec.ofChange Rows.zlibPiecesSpec) false w args)
      (Rows.zlibPiecesSpec.post enc Tryz.prog Tryz.f4 false true false false) := by
  refine returnsInHanded_of_change_and (C := Tryz.checked) (X := fun w _ => laidMetH Tryz.prog laidI w) (fun _ _ _ hh h => h.of_heap hh) own_knob started (by kernel_rfl) Tryz.func4
    (ChangeSpec.witness_shaped (enc := enc) (C := Tryz.checked) (os := os) (X := fun w _ => laidMetH Tryz.prog laidI w) false (World.doorLaid Tryz.prog 400 os) #[.slice none 0 0, .int .i64 0, .slice none 0 0] 8 rfl (World.shaped_of_RefB (by kernel_rfl) (by kernel_rfl)) (by kernel_rfl) (by kernel_rfl) (by kernel_rfl) (door_met os _)) ?_
  intro W base args ds gs before hval0 hW _ _ hL _
  have hval : ∀ (j : Nat) t v, Tryz.f4.params[j]? = some t → args[j]? = some v → Value.okWide Tryz.prog W .any base t v := hval0
  have hW' := hW
  obtain ⟨p, q, hA0, hV, rfl, hfz, hnd⟩ := hW
  have hA : DataW.TrodAll enc Tryz.prog W 0 (fun _ => true) true Tryz.f4.params.toList args.toList ds p := hA0
  rw [Tryz.params4] at hA hval
  obtain ⟨v0, vs0, d0, ds0, p0, q0, hargs, rfl, rfl, h0, r0⟩ := trodAll_cons hA
  obtain ⟨v1, vs1, d1, ds1, p1, q1, rfl, rfl, rfl, h1, r1⟩ := trodAll_cons r0
  obtain ⟨v2, vs2, d2, ds2, p2, q2, rfl, rfl, rfl, h2, r2⟩ := trodAll_cons r1
  obtain ⟨rfl, rfl, rfl⟩ := trodAll_nil r2
  obtain rfl : args = #[v0, v1, v2] := by cases args; simp_all
  obtain ⟨A0, n0, c0, l0, rfl, hc0, cm0, hN0, hl0, hb0⟩ := open_bytes Tryz.underlying22 Tryz.underlying5 (by kernel_rfl) (hval 0 22 v0 rfl rfl) h0
  obtain ⟨z1, rfl, rfl, rfl, _⟩ := open_int Tryz.underlying3 (hval 1 3 v1 rfl rfl) h1
  obtain ⟨A2, n2, c2, l2, rfl, hc2, cm2, _, hl2, hb2, hz2⟩ := open_nums Tryz.underlying31 Tryz.underlying3 (by kernel_rfl) (hval 2 31 v2 rfl rfl) h2
  refine (core A0 A2 n0 c0 n2 c2 l0 l2 z1 W (tab_of_laid hL) hb0 hl0 hc0 (fun h => (hN0 h).1) hb2 hl2 (fun z hzm => wf_i64 (hz2 z hzm))).mono fun e W' ⟨he, ho⟩ => ?_
  subst he
  exact ⟨_, rfl, law_post rfl hW' (by intro t ht; revert t; exact of_decide_eq_true (by kernel_rfl)) rfl rfl ho⟩

theorem holds : Rows.ZlibPiecesSaid :=
  OpenClaim.holds_of_wide 4 Tryz.f4 rfl rfl rfl rfl rfl rfl rfl ⟨rfl, rfl, rfl, rfl, rfl⟩ rfl rfl rfl rfl rfl (by kernel_rfl) Tryz.func4 (by kernel_rfl)
    (of_decide_eq_true (by kernel_rfl)) (by unfold Func.isWrapper; first | (rw [if_pos (by decide +kernel)]; kernel_rfl) | (rw [if_neg (by decide +kernel)]; exact ⟨rfl, rfl⟩))
    (fun os started H enc _ => lifted os started H enc)

theorem proved : Rows.ZlibPiecesCardSaid :=
  Claim7.holds_tied_plain_at .later [] Rows.zlibPiecesCard.laidKinds true Rows.zlibPiecesCard.stood.harness false
    holds (fun _ h => by cases h) (by kernel_rfl) (fun _ h => by cases h) zlibPieces_row_tie rfl ⟨rfl, rfl⟩ (by kernel_rfl) rfl
    (fun f fn hf hfn => by
      obtain rfl : f = 4 := Option.some.inj ((show Tryz.prog.funcNamed "phosphor/phosphorlaw6.ZlibPieces" = some 4 by kernel_rfl).symm.trans hf) |>.symm
      obtain rfl : fn = Tryz.f4 := (Option.some.inj (Tryz.func4.symm.trans hfn)).symm
      exact ⟨by kernel_rfl, fun j t ht => by
        rw [Tryz.params4] at ht
        have hm : t ∈ [22, 3, 31] := by simpa using Array.mem_of_getElem? ht
        have hall : ([22, 3, 31].all fun u => !Tryz.prog.wantsStandIn u) = true := by kernel_rfl
        exact (show Tryz.prog.wantsStandIn t = false by simpa using List.all_eq_true.1 hall t hm)⟩)
    (by kernel_rfl)
end Go.Proofs.YtlknhiihdejpeaaGreatDoor.zpieces
