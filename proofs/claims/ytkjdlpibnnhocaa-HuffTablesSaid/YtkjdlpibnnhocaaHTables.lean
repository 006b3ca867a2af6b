/-
  Proves: for all lengths, bytes and numbers of reads, HuffTables tells true, and leaves all that was there as it was.
-/
import Derived.Test.YtkjdlpibnnhocaaHufW
import Derived.Test.YtkjdlpibnnhocaaLaw
import Derived.Test.YtkjdlpibnnhocaaOpen
namespace Go.Proofs.Ytkjdlpibnnhocaa.htables
open Go Go.RowKit Go.ChangeShapes Go.WideShapes Go.ChangeAt

theorem nilN (w : World) : (binOp .eql 24 (.pointer none) (.pointer none)).run Try.prog w = .ok (.bool true) w := by kernel_rfl
theorem nilS (g : Nat) (w : World) : (binOp .eql 28 (.pointer (some ⟨g, 0, none⟩)) (.pointer none)).run Try.prog w = .ok (.bool false) w := by kernel_rfl
theorem nilSN (w : World) : (binOp .eql 28 (.pointer none) (.pointer none)).run Try.prog w = .ok (.bool true) w := by kernel_rfl

/-- What both have when p bits are read. -/
structure Both (w W wr : World) (g gT gr gq : Nat) (v : Value) (A : Option Addr) (c : Nat) (l b : List UInt8) (p : Nat) : Prop where
  rd : Rd wr gr v b p
  td : TRd wr gq A c b p
  tb : Tb wr g l
  rt : RT wr w.heap.size gT l
  on : Only [gr, gq] W wr

set_option maxRecDepth 100000 in
set_option maxHeartbeats 8000000 in
theorem core (A B : Option Addr) (n c m d : Nat) (l b : List UInt8) (z : Int) (w : World) (hb : Holds w 1 A n (bvals l)) (hl : l.length = n) (hb2 : Holds w 1 B m (bvals b)) (hl2 : b.length = m) (hmd : m ≤ d) (hB : B = none → d = 0 ∧ m = 0)
    (hn0 : n ≤ 9223372036854775807) (hm0 : m ≤ 9223372036854775807) :
    Calls Try.prog 3 #[.slice A n c, .slice B m d, .int .i64 z] w fun e w' => e = .returned (.bool true) ∧ Only [] w w' := by
  subst hl hl2
  have HK := hide (known_any w)
  by_cases h500 : 500 < l.length
  · have h500' : (500 : Int) < (l.length : Int) := by omega
    clear hb hb2 h500
    go_enter Try.func3, Try.ntmps3
    go_wp2_with fail
    refine (HK.out).mono ?_
    rintro e w1 ⟨rfl, ho⟩
    have HO := hide ho
    clear ho
    go_wp2_with fail
    go_ret
    exact ⟨rfl, HO.out⟩
  have d1 : ¬ (500 : Int) < (l.length : Int) := by omega
  by_cases h400 : 400 < b.length
  · have h400' : (400 : Int) < (b.length : Int) := by omega
    clear hb hb2 h500 h400
    go_enter Try.func3, Try.ntmps3
    go_wp2_with fail
    refine (HK.out).mono ?_
    rintro e w1 ⟨rfl, ho⟩
    have HO := hide ho
    clear ho
    go_wp2_with fail
    go_ret
    exact ⟨rfl, HO.out⟩
  have d2 : ¬ (400 : Int) < (b.length : Int) := by omega
  have hn1 := nilT
  have hn2 := nilN
  have hn3 := nilS
  have hn4 := nilSN
  have hn5 := nilR
  have HB := hide (And.intro hb (And.intro hb2 (And.intro (show l.length ≤ 500 by omega) (And.intro (show b.length ≤ 400 by omega) (And.intro hmd hB)))))
  clear hb hb2 h500 h400 hmd hB hn0 hm0
  have HZ := hide (fun w1 (ho : Only [] w w1) => complete_any A l.length c l w1 (HB.out.1.keep ho (by simp)) rfl (by have := HB.out.2.2.1; omega))
  have HZ2 := hide (fun w1 (ho : Only [] w w1) => tComplete_any A l.length c l w1 (HB.out.1.keep ho (by simp)) rfl (by have := HB.out.2.2.1; omega))
  obtain ⟨zc, hzc⟩ : ∃ q, q = cmpI (Sm (cn l) 16 : Nat) 32768 := ⟨_, rfl⟩
  rw [← hzc] at HZ HZ2
  clear hzc
  by_cases hE : newE l = 0
  · have hlen : l.length ≤ 320 := by
      unfold newE at hE
      exact Decidable.byContradiction fun h => by rw [if_pos (.inl (by omega))] at hE; cases hE
    have hf : far l = false := by
      unfold newE at hE
      cases h : far l with
      | false => rfl
      | true => rw [if_pos (.inr h)] at hE; cases hE
    have hmb : mayBe (cn l) = true := by
      unfold newE at hE
      rw [if_neg (by rw [hf]; rintro (h | h) <;> first | omega | cases h)] at hE
      cases h : mayBe (cn l) with
      | true => rfl
      | false => rw [h] at hE; simp at hE
    have HS := hide (mayBe_le hmb)
    have H15 := hide (ln_far hf)
    have HF := hide (And.intro hf (And.intro hmb hlen))
    clear hE hf hmb hlen
    go_enter Try.func3, Try.ntmps3
    go_wp2_with fail
    refine (HK.out).mono ?_
    rintro e w1 ⟨rfl, ho1⟩
    have HO1 := hide ho1
    clear ho1
    go_wp2_with fail
    refine (newT_any A l.length c l w1 (HB.out.1.keep HO1.out (by simp)) rfl HF.out.2.2 HF.out.1 HF.out.2.1).mono ?_
    rintro e w2 ⟨g, rfl, hg, hT, ho2⟩
    have H2 := hide (And.intro hT (HO1.out.trans ho2 (S := []) (by simp)))
    clear hT ho2 hg
    go_wp2_with fail
    refine (tNewT A l.length c l w2 (HB.out.1.keep H2.out.2 (by simp)) rfl HF.out.2.2 HF.out.1 HF.out.2.1).mono ?_
    rintro e w3 ⟨gT, rfl, hgT, hRT, ho3⟩
    have hRT' : RT w3 w.heap.size gT l := by
      obtain ⟨q1, q2, q3, q4, q5, q6⟩ := hRT
      exact ⟨q1, q2, q3, q4, Nat.le_trans H2.out.2.size q5, q6⟩
    have H3 := hide (And.intro (H2.out.1.only ho3 (by simp)) (And.intro hRT' (H2.out.2.trans ho3 (S := []) (by simp))))
    clear hRT hRT' ho3 hgT
    go_wp2_with fail
    refine (HZ.out w3 H3.out.2.2).mono ?_
    rintro e w4 ⟨rfl, ho4⟩
    have H4 := hide (And.intro (H3.out.1.only ho4 (by simp)) (And.intro (H3.out.2.1.idle ho4) (H3.out.2.2.trans ho4 (S := []) (by simp))))
    clear ho4
    go_wp2_with fail
    refine (HZ2.out w4 H4.out.2.2).mono ?_
    rintro e w5 ⟨rfl, rfl⟩
    go_wp2_with fail
    go_loopw [11] (fun v wr => ∃ (i : Int) (q : Nat), -1 ≤ i ∧ i ≤ (l.length : Int) + 1 ∧ v = .int .i64 i ∧ wr = w4.drewN q) (fun v _ => ((l.length : Int) + 2 - intOf v).toNat)
    case atStart => exact ⟨-1, 0, by omega, by omega, rfl, rfl⟩
    case round =>
      obtain ⟨i, q, hi1, hi2, rfl, rfl⟩ := hrel
      by_cases hlt : i ≤ (l.length : Int)
      · have hC1 := fun q => hide (code_any g l i (w4.drewN q) (H4.out.1.only ((Only.refl [] w4).drewN q) (by simp)) HF.out.2.2 H15.out HS.out)
        have hC2 := fun q => hide (tCode_any gT w.heap.size l i (w4.drewN q) (H4.out.2.1.idle ((Only.refl [] w4).drewN q)) HF.out.2.2 H15.out HS.out)
        generalize cvI l i = cv at *
        generalize lnI l i = ni at *
        go_wp2_with fail
        refine ((hC1 q).out).mono ?_
        rintro e w6 ⟨rfl, m6, rfl⟩
        obtain ⟨m7, h7⟩ := drews w4 q m6
        rw [h7]
        clear h7
        go_wp2_with fail
        refine ((hC2 m7).out).mono ?_
        rintro e w8 ⟨rfl, m8, rfl⟩
        obtain ⟨m9, h9⟩ := drews w4 m7 m8
        rw [h9]
        clear h9
        go_wp2_with fail
        go_roundw
        case rel => exact ⟨i + 1, m9, by omega, by omega, by go_num, rfl⟩
        case measure => simp [intOf]; omega
      · have HD := hide (And.intro (H4.out.1.only ((Only.refl [] w4).drewN q) (by simp)) (And.intro (H4.out.2.1.idle ((Only.refl [] w4).drewN q)) (H4.out.2.2.drewN q)))
        generalize w4.drewN q = V at *
        go_wp2_with fail
        refine (newReader_any B b.length d b V (HB.out.2.1.keep HD.out.2.2 (by simp)) rfl (by have := HB.out.2.2.2.1; omega) HB.out.2.2.2.2.2).mono ?_
        rintro e V2 ⟨gr, vr, rfl, hgr, hvr, hR, hoV2⟩
        have hTq : TRd (V2.alloc (.cells #[.slice B b.length d, .int .i64 0] 39)) V2.heap.size B d b 0 := by
          have hO : Only [] w V2 := HD.out.2.2.trans hoV2 (by simp)
          exact ⟨Has.new _ _ _, HB.out.2.1.keep (hO.alloc _) (by simp), HB.out.2.2.2.2.2, HB.out.2.2.2.2.1, by have := HB.out.2.2.2.1; omega, by omega⟩
        have hBne : 0 < b.length → ∀ ad, B = some ad → ad.block ≠ V2.heap.size := fun h0 ad ha => by
          have := HB.out.2.1.blk h0 ad ha
          have := HD.out.2.2.size
          have := hoV2.size
          omega
        have hR' := hR.only ((Only.refl [] V2).alloc (.cells #[.slice B b.length d, .int .i64 0] 39)) (by simp) (by simp)
        have oA : Only [] V (V2.alloc (.cells #[.slice B b.length d, .int .i64 0] 39)) := hoV2.alloc _
        have hB0 : Both w (V2.alloc (.cells #[.slice B b.length d, .int .i64 0] 39)) (V2.alloc (.cells #[.slice B b.length d, .int .i64 0] 39)) g gT gr V2.heap.size vr B d l b 0 :=
          ⟨hR', hTq, HD.out.1.only oA (by simp), HD.out.2.1.idle oA, Only.refl _ _⟩
        have hrq : gr ≠ V2.heap.size := by have := hR.1.lt; omega
        have hvq : ∀ q, vr.ownBlock = some q → q ≠ V2.heap.size := fun q hq => by
          obtain ⟨Av, cv, rfl, _, _⟩ := own_shape hR.2.1
          have := (hR.2.1.lt q hq).2
          omega
        have hsz : w.heap.size ≤ V.heap.size := HD.out.2.2.size
        have hsz2 : w.heap.size ≤ V2.heap.size := Nat.le_trans hsz hoV2.size
        have HX := hide (And.intro hB0 (And.intro hBne (And.intro hrq (And.intro hvq (And.intro (HD.out.2.2.trans oA (S := []) (by simp)) (And.intro (Nat.le_trans hsz hgr) hsz2))))))
        have hVR : ∀ q, vr.ownBlock = some q → V.heap.size ≤ q := hvr
        have HVR := hide hVR
        clear hVR hgr hvr hR hoV2 hTq hBne hR' oA hB0 hrq hvq hsz hsz2
        go_wp2_with fail
        generalize V2.alloc (.cells #[.slice B b.length d, .int .i64 0] 39) = W0 at *
        generalize V2.heap.size = gq at *
        have hend : ∀ (wr : World) (p : Nat), Both w W0 wr g gT gr gq vr B d l b p → Only [] w wr := fun wr p h => HX.out.2.2.2.2.1.trans h.on (by
          have h1 := HX.out.2.2.2.2.2.1
          have h2 := HX.out.2.2.2.2.2.2
          simp; omega)
        have HEND := hide hend
        clear hend
        go_loopw [18] (fun v wr => ∃ i p : Nat, i ≤ 300 ∧ v = .int .i64 i ∧ Both w W0 wr g gT gr gq vr B d l b p) (fun v _ => 300 - (intOf v).toNat)
        case atStart => exact ⟨0, 0, by omega, rfl, HX.out.1⟩
        case round =>
          obtain ⟨k, p, hk, rfl, hBo⟩ := hrel
          have HSy := fun (w9 : World) (p : Nat) (h : Both w W0 w9 g gT gr gq vr B d l b p) => symbols_any g l w9 h.tb HF.out.2.2
          have HSt := fun (w9 : World) (p : Nat) (h : Both w W0 w9 g gT gr gq vr B d l b p) (q : Nat) => tSymbols_any gT w.heap.size l (w9.drewN q) (h.rt.idle ((Only.refl [] w9).drewN q)) HF.out.2.2 H15.out
          obtain ⟨ns, hns⟩ : ∃ q, q = Bf (cn l) 16 := ⟨_, rfl⟩
          rw [← hns] at HSy HSt
          have HSY := hide (And.intro HSy HSt)
          clear HSy HSt hns
          by_cases hc : (k : Int) < z ∧ k < 300
          · obtain ⟨hc1, hc2⟩ := hc
            have hc2' : (k : Int) < 300 := by omega
            obtain ⟨⟨x, e, nn⟩, hrm⟩ : ∃ R, R = readM l (num b) p (8 * b.length - p) := ⟨_, rfl⟩
            have HR1 := hide (read_any g gr vr l b p wr hBo.tb hBo.rd HF.out.2.2 H15.out HS.out x e nn hrm.symm)
            have HBO := hide (And.intro hBo hrm)
            clear hBo hrm
            go_wp2_with fail
            refine (HR1.out).mono ?_
            rintro o w6 ⟨rfl, ho6, hR6⟩
            have hTd6 : TRd w6 gq B d b p := HBO.out.1.td.only ho6 (by simpa using fun h => HX.out.2.2.1 h.symm) (fun h0 ad ha _ => by
              have h1 := HB.out.2.1.blk h0 ad ha
              have h2 := HX.out.2.2.2.2.2.1
              simp; omega)
            have hRT6 : RT w6 w.heap.size gT l := HBO.out.1.rt.other ho6 HBO.out.1.rd.1 (by decide) (by decide) (by decide)
            have hTb6 : Tb w6 g l := by
              obtain ⟨S, q1, q2⟩ := HBO.out.1.tb
              exact Tb.only ⟨S, q1, q2⟩ ho6 (by simpa using Has.ne q2 HBO.out.1.rd.1 (by decide))
            have HR2 := hide (tRead_any gT w.heap.size gq B d l b p w6 hRT6 hTd6 HX.out.2.1 HF.out.2.2 H15.out HF.out.2.1 x e nn HBO.out.2.symm)
            have H6 := hide (And.intro hR6 (And.intro hTd6 (And.intro hRT6 (And.intro hTb6 ho6))))
            clear hR6 hTd6 hRT6 hTb6 ho6
            go_wp2_with fail
            refine (HR2.out).mono ?_
            rintro o w7 ⟨rfl, ho7, hR7⟩
            have hRd7 : Rd w7 gr vr b (p + nn) := H6.out.1.only ho7 (by simpa using HX.out.2.2.1) (fun q hq => by simpa using HX.out.2.2.2.1 q hq)
            have hRT7 : RT w7 w.heap.size gT l := H6.out.2.2.1.other ho7 H6.out.2.1.has (by decide) (by decide) (by decide)
            have hTb7 : Tb w7 g l := by
              obtain ⟨S, q1, q2⟩ := H6.out.2.2.2.1
              exact Tb.only ⟨S, q1, q2⟩ ho7 (by simpa using Has.ne q2 H6.out.2.1.has (by decide))
            have hOn : Only [gr, gq] W0 w7 := (HBO.out.1.on.trans H6.out.2.2.2.2 (fun i hi _ => by simp at hi; simp [hi])).trans ho7 (fun i hi _ => by simp at hi; simp [hi])
            have H7 := hide (show Both w W0 w7 g gT gr gq vr B d l b (p + nn) from ⟨hRd7, hR7, hTb7, hRT7, hOn⟩)
            have e1 : w7.cell? ⟨gq, 1, none⟩ = some (.int .i64 ((p + nn : Nat) : Int)) := hR7.has.cell 1
            have q1 := fun x => hide (at_any gr vr ((p + nn : Nat) : Int) (w7.drewN x) hRd7.1)
            clear hRd7 hRT7 hTb7 hOn ho7 hR7
            generalize p + nn = pn at *
            go_wp2_with fail
            go_quiet ((go_at_call 17; exact Calls.quiet_of_same ((q1 _).out.mono fun _ _ h => ⟨h.1, h.2.symm⟩)))
            have H8 : Both w W0 (w7.drewN nq) g gT gr gq vr B d l b pn := ⟨H7.out.rd.drewN nq, H7.out.td.drewN nq, H7.out.tb.only ((Only.refl [] w7).drewN nq) (by simp), H7.out.rt.idle ((Only.refl [] w7).drewN nq), H7.out.on.drewN nq⟩
            have HH8 := hide H8
            clear H8 q1 e1
            generalize w7.drewN nq = w8 at *
            rcases Nat.eq_zero_or_pos e with he | he
            · have he' : (e : Int) = 0 := by omega
              clear he HBO
              generalize (e : Int) = ee at *
              subst he'
              go_wp2_with fail
              go_roundw
              case rel => exact ⟨k + 1, pn, hc2, by go_num, HH8.out⟩
              case measure => simp [intOf]; omega
            · have he' : ¬ (e : Int) = 0 := by omega
              have he'' : ((e : Int) == 0) = false := beq_eq_false_iff_ne.2 (by omega)
              clear he
              go_wp2_with fail
              refine (HSY.out.1 w8 pn HH8.out).mono ?_
              rintro o w9 ⟨rfl, m9, rfl⟩
              go_wp2_with fail
              refine (HSY.out.2 w8 pn HH8.out m9).mono ?_
              rintro o w10 ⟨rfl, rfl⟩
              go_wp2_with fail
              go_ret
              exact ⟨rfl, (HEND.out w8 pn HH8.out).drewN m9⟩
          · have HBO := hide hBo
            clear hBo
            have hc' : ¬ (k : Int) < z ∨ ((k : Int) < z ∧ ¬ (k : Int) < 300) := by omega
            clear hc
            rcases hc' with hc | ⟨hc, hc3⟩
            all_goals
              go_wp2_with fail
              refine (HSY.out.1 wr p HBO.out).mono ?_
              rintro o w9 ⟨rfl, m9, rfl⟩
              go_wp2_with fail
              refine (HSY.out.2 wr p HBO.out m9).mono ?_
              rintro o w10 ⟨rfl, rfl⟩
              go_wp2_with fail
              go_ret
              exact ⟨rfl, (HEND.out wr p HBO.out).drewN m9⟩
  · have HN := hide (fun w1 (ho : Only [] w w1) => newF_any A l.length c l w1 (HB.out.1.keep ho (by simp)) rfl (by have := HB.out.2.2.1; omega) hE)
    have HN2 := hide (fun w1 (ho : Only [] w w1) => tNewF A l.length c l w1 (HB.out.1.keep ho (by simp)) rfl (by have := HB.out.2.2.1; omega) hE)
    clear hE
    generalize newE l = q at *
    go_enter Try.func3, Try.ntmps3
    go_wp2_with fail
    refine (HK.out).mono ?_
    rintro e w1 ⟨rfl, ho1⟩
    have HO1 := hide ho1
    clear ho1
    go_wp2_with fail
    refine (HN.out w1 HO1.out).mono ?_
    rintro e w2 ⟨rfl, ho2⟩
    have HO2 := hide (HO1.out.trans ho2 (S := []) (by simp))
    clear ho2
    go_wp2_with fail
    refine (HN2.out w2 HO2.out).mono ?_
    rintro e w3 ⟨rfl, rfl⟩
    go_wp2_with fail
    refine (HZ.out w2 HO2.out).mono ?_
    rintro e w4 ⟨rfl, ho4⟩
    have HO4 := hide (HO2.out.trans ho4 (S := []) (by simp))
    clear ho4
    go_wp2_with fail
    refine (HZ2.out w4 HO4.out).mono ?_
    rintro e w5 ⟨rfl, rfl⟩
    go_wp2_with fail
    go_ret
    exact ⟨rfl, HO4.out⟩
set_option maxRecDepth 100000 in
theorem lifted (os : Os) (started : os.Started) (H : Type) (enc : TypeId × Value → H) :
    ReturnsInHanded {} Try.checked os 3 .any (Rows.huffTablesSpec.pre6 enc Try.prog Try.f3 Rows.huffTablesRow.domain false)
      (Rows.huffTablesSpec.post enc Try.prog Try.f3 false true false false) := by
  refine returnsInHanded_of_change (C := Try.checked) own_knob started (by kernel_rfl) Try.func3
    (ChangeSpec.witness6 (enc := enc) (C := Try.checked) false ⟨#[], #[.slice none 0 0, .slice none 0 0, .int .i64 0], []⟩ 8 (by kernel_rfl) (by kernel_rfl) (by kernel_rfl) (by kernel_rfl)) ?_
  intro W base args ds gs before hval0 hW hcnd _
  have hval : ∀ (j : Nat) t v, Try.f3.params[j]? = some t → args[j]? = some v → Value.okWide Try.prog W .any base t v := hval0
  have hW' := hW
  obtain ⟨p, q, hA0, hV, rfl, hfz, hnd⟩ := hW
  have hA : DataW.TrodAll enc Try.prog W 0 (fun _ => true) true Try.f3.params.toList args.toList ds p := hA0
  rw [Try.params3] at hA hval
  obtain ⟨v0, vs0, d0, ds0, p0, q0, hargs, rfl, rfl, h0, r0⟩ := trodAll_cons hA
  obtain ⟨v1, vs1, d1, ds1, p1, q1, rfl, rfl, rfl, h1, r1⟩ := trodAll_cons r0
  obtain ⟨v2, vs2, d2, ds2, p2, q2, rfl, rfl, rfl, h2, r2⟩ := trodAll_cons r1
  obtain ⟨rfl, rfl, rfl⟩ := trodAll_nil r2
  obtain rfl : args = #[v0, v1, v2] := by cases args; simp_all
  obtain ⟨A0, n0, c0, l0, rfl, hc0, cm0, hA0, hl0, hb0⟩ := open_bytes Try.underlying22 Try.underlying5 (by kernel_rfl) (hval 0 22 v0 rfl rfl) h0
  obtain ⟨A1, n1, c1, l1, rfl, hc1, cm1, hA1, hl1, hb1⟩ := open_bytes Try.underlying22 Try.underlying5 (by kernel_rfl) (hval 1 22 v1 rfl rfl) h1
  obtain ⟨z2, rfl, rfl, rfl, _⟩ := open_int Try.underlying3 (hval 2 3 v2 rfl rfl) h2
  unfold maxLen at *
  refine (core A0 A1 n0 c0 n1 c1 l0 l1 z2 W hb0 hl0 hb1 hl1 hc1 hA1 (by omega) (by omega)).mono fun e W' ⟨he, ho⟩ => ?_
  subst he
  exact ⟨_, rfl, law_post rfl hW' (by intro t ht; revert t; exact of_decide_eq_true (by kernel_rfl)) rfl rfl ho⟩

theorem proved : Rows.HuffTablesSaid :=
  OpenClaim.holds_of_wide 3 Try.f3 rfl rfl rfl rfl rfl rfl rfl ⟨rfl, rfl, rfl, rfl, rfl⟩ rfl rfl rfl rfl rfl (by kernel_rfl) Try.func3 (by kernel_rfl)
    (of_decide_eq_true (by kernel_rfl)) (by unfold Func.isWrapper; first | (rw [if_pos (by decide +kernel)]; kernel_rfl) | (rw [if_neg (by decide +kernel)]; exact ⟨rfl, rfl⟩))
    (fun os started H enc _ => lifted os started H enc)
end Go.Proofs.Ytkjdlpibnnhocaa.htables
