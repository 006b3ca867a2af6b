/-
  Package inflate, all streams: the codes of a dynamic block are dealt out. | Package inflate, all streams: what stands behind what was said of a dynamic block's codes; what a symbol says beyond its least; a byte from so far back. | Package inflate, all streams: bytes from so far back, once more.
-/
import Derived.Test.YtlknhiihdejpeaaGreatDoorMFlH
namespace Go.Proofs.YtlknhiihdejpeaaGreatDoor
open Go Go.RowKit

/-- Codes may be made of these lengths. -/
def CodesOk (nl : Nat) (L : List UInt8) : Prop := mayBe (cn (L.take nl)) = true ∧ mayBe (cn (L.drop nl)) = true ∧ ln L 256 ≠ 0

theorem arr_elem : Tryz.prog.underlying 44 = some (.array (Tryz.prog.arrayLen 44) (Tryz.prog.elem 44)) := by kernel_rfl
theorem arr_len : Tryz.prog.arrayLen 44 = 316 := by kernel_rfl
theorem arr_size (w : World) : (sizeOf (Tryz.prog.elem 44)).run Tryz.prog w = .ok 1 w := by kernel_rfl
theorem run_arr_h (g o n : Nat) (hn : n ≤ 316) (w : World) : (Instr.sliceAt 44 (.pointer (some ⟨g, o, none⟩)) none (some (.int .i64 (n : Int))) none).run Tryz.prog w = .ok (.slice (some ⟨g, o, none⟩) n 316) w := by
  rw [run_sliceAt_array_h w 44 ⟨g, o, none⟩ arr_elem .i64 (n : Int) (by omega) (by rw [arr_len]; omega), arr_size]
  simp [slicedAt, Result.andThen, arr_len, Addr.add]
theorem run_arr_lh (g o l n m : Nat) (hl : l < 316) (hm : m = l + n) (hn : m ≤ 316) (w : World) : (Instr.sliceAt 44 (.pointer (some ⟨g, o, none⟩)) (some (.int .i64 (l : Int))) (some (.int .i64 (m : Int))) none).run Tryz.prog w = .ok (.slice (some ⟨g, o + l, none⟩) n (316 - l)) w := by
  rw [run_sliceAt_array_lh w 44 ⟨g, o, none⟩ arr_elem .i64 .i64 (l : Int) (m : Int) (by omega) (by omega) (by rw [arr_len]; omega), arr_size]
  have h1 : ¬ (316 : Nat) = l := by omega
  have h2 : m - l = n := by omega
  simp [slicedAt, Result.andThen, arr_len, add_none, h1, h2]

set_option maxRecDepth 100000 in
set_option maxHeartbeats 8000000 in
theorem codesH_any (g : Nat) (f : DF) (s : GSt) (L : List UInt8) (p : Nat) (w : World) (hd : Dc w g f) (hh : Hd w f.hd (lensS s L p)) (hnl : 257 ≤ s.nl ∧ s.nl ≤ 286) (hnd : 1 ≤ s.nd ∧ s.nd ≤ 30) (hL : L.length = s.nl + s.nd) (h15 : ∀ b ∈ L, b.toNat ≤ 15) :
    Calls Tryz.prog 112 #[.pointer (some ⟨g, 11, none⟩)] w fun e w' => Only [] w w' ∧
      ((CodesOk s.nl L ∧ ∃ gc, e = .returned (.tuple #[.pointer (some ⟨gc, 0, none⟩), .int .i64 0]) ∧ Cd w' gc (L.take s.nl) (L.drop s.nl)) ∨
        (¬ CodesOk s.nl L ∧ e = .returned (.tuple #[.pointer none, .int .i64 3]))) := by
  have hlT : (L.take s.nl).length = s.nl := by rw [List.length_take]; omega
  have hlD : (L.drop s.nl).length = s.nd := by rw [List.length_drop]; omega
  have fT : far (L.take s.nl) = false := far_of fun b hb => h15 b (List.mem_of_mem_take hb)
  have fD : far (L.drop s.nl) = false := far_of fun b hb => h15 b (List.mem_of_mem_drop hb)
  have hHT : Holds w 1 (some ⟨g, 36, none⟩) s.nl (bvals (L.take s.nl)) := by
    have := Holds.cells (w := w) (g := g) (o := 36) (l := L.take s.nl) (Has.lt hd) (fun i hi => by
      have hi2 : i < L.length := by omega
      rw [hd.hd (by omega) (by omega), hh.lens i hi2, List.getElem_take]
      rfl)
    rw [hlT] at this
    exact this
  have hHD : Holds w 1 (some ⟨g, 36 + s.nl, none⟩) s.nd (bvals (L.drop s.nl)) := by
    have := Holds.cells (w := w) (g := g) (o := 36 + s.nl) (l := L.drop s.nl) (Has.lt hd) (fun i hi => by
      have hi2 : s.nl + i < L.length := by omega
      rw [Nat.add_assoc, hd.hd (by omega) (by omega), hh.lens _ hi2, List.getElem_drop]
      rfl)
    rw [hlD] at this
    exact this
  have c11 : w.cell? ⟨g, 11, none⟩ = some (.int .i64 (s.nl : Int)) := by rw [hd.hd (by decide) (by decide), hh.nl]; rfl
  obtain ⟨n, hn⟩ : ∃ n, n = s.nl + s.nd := ⟨_, rfl⟩
  have hLn : ((lensS s L p).lens.length : Int) = (n : Int) := by show (L.length : Int) = _; omega
  have H0 := hide (And.intro hd (And.intro hh (And.intro hL (And.intro hn hLn))))
  have neT : ¬ mayBe (cn (L.take s.nl)) = true → newE (L.take s.nl) = 3 := fun h => by unfold newE; rw [if_neg (by rw [hlT, fT]; simp; omega), if_neg h]
  have neD : ¬ mayBe (cn (L.drop s.nl)) = true → newE (L.drop s.nl) = 3 := fun h => by unfold newE; rw [if_neg (by rw [hlD, fD]; simp; omega), if_neg h]
  have HT := hide (And.intro hHT (And.intro hlT (And.intro fT neT)))
  have HD := hide (And.intro hHD (And.intro hlD (And.intro fD neD)))
  clear hHT hHD hlT hlD fT fD neT neD hd hh hL hLn h15
  have e1 : (n : Int) - (s.nl : Int) = (s.nd : Int) := by omega
  have hs1 := run_arr_h g 36 s.nl (by omega)
  have hs2 := run_arr_lh g 36 s.nl s.nd n (by omega) hn (by omega)
  have r1 : s.nl ≤ 316 := by omega
  have r2 : n ≤ 316 := by omega
  have r3 : s.nl ≤ n := by omega
  have HX0 := hide hn
  clear hn
  by_cases hA : mayBe (cn (L.take s.nl)) = true
  · have HN := hide (newT_any (some ⟨g, 36, none⟩) s.nl 316 (L.take s.nl) w.drew HT.out.1 HT.out.2.1 (by omega) HT.out.2.2.1 hA)
    have hnext : ∀ w1 gT, Only [] w.drew w1 → Tb w1 gT (L.take s.nl) → Only [] w w1 ∧ Tb w1.drew gT (L.take s.nl) ∧ Dc w1 g f ∧ w1.cell? ⟨g, 11, none⟩ = some (.int .i64 (s.nl : Int)) ∧ w1.cell? ⟨g, 352, none⟩ = some (.int .i64 (n : Int)) ∧ Holds w1.drew 1 (some ⟨g, 36 + s.nl, none⟩) s.nd (bvals (L.drop s.nl)) := fun w1 gT ho1 hT1 => by
      have o1 : Only [] w w1 := ((Only.refl [] w).drew).trans ho1 (by simp)
      have hd1 : Dc w1 g f := Has.only H0.out.1 o1 (by simp)
      refine ⟨o1, hT1.only ((Only.refl [] w1).drew) (by simp), hd1, ?_, ?_, HD.out.1.keep (o1.drew) (by simp)⟩
      · rw [hd1.hd (by decide) (by decide), H0.out.2.1.nl]; rfl
      · rw [hd1.hd (by decide) (by decide), H0.out.2.1.n, H0.out.2.2.2.2]
    have HX := hide hnext
    clear hnext
    by_cases hB : mayBe (cn (L.drop s.nl)) = true
    · have HN2 := hide (fun w1 h => newT_any (some ⟨g, 36 + s.nl, none⟩) s.nd (316 - s.nl) (L.drop s.nl) w1 h HD.out.2.1 (by omega) HD.out.2.2.1 hB)
      obtain ⟨b256, hb⟩ : ∃ b : UInt8, b = L[256]'(by have := H0.out.2.2.1; omega) := ⟨_, rfl⟩
      have hln : ln L 256 = b256.toNat := by rw [hb]; exact ln_get _
      have h292 : ∀ w1 w2, Only [] w w1 → Only [] w1.drew w2 → Only [] w w2 ∧ w2.cell? ⟨g, 292, none⟩ = some (.int .u8 (b256.toNat : Int)) := fun w1 w2 o1 ho2 => by
        have o2 : Only [] w w2 := o1.trans (((Only.refl [] w1).drew).trans ho2 (by simp)) (by simp)
        refine ⟨o2, ?_⟩
        rw [Dc.hd (Has.only H0.out.1 o2 (by simp)) (by decide) (by decide), H0.out.2.1.lens 256 (by show 256 < L.length; have := H0.out.2.2.1; omega), hb]
        rfl
      have HB := hide (And.intro hln h292)
      clear hb hln h292
      by_cases hz : b256.toNat = 0
      · have hzI : ((b256.toNat : Nat) : Int) = 0 := by omega
        go_enter Tryz.func112, Tryz.ntmps112
        go_wp2_with fail
        go_region_with (go_at_call 53; refine (HN.out).mono ?_; rintro e w1 ⟨gT, rfl, _, hT1, ho1⟩)
        clear c11
        all_goals
          obtain ⟨o1, hT1, hd1, c11, c352, hh1⟩ := HX.out w1 gT ho1 hT1
          have H1 := hide (And.intro o1 (And.intro hT1 hd1))
          have H1N := hide (HN2.out w1.drew hh1)
          clear o1 hd1 hT1 ho1 hh1
          go_wp2_with fail
          go_region_with (go_at_call 53; refine (H1N.out).mono ?_; rintro e w2 ⟨gD, rfl, _, hT2, ho2⟩; obtain ⟨o2, c292⟩ := HB.out.2 w1 w2 H1.out.1 ho2; have H2 := hide (And.intro o2 (And.intro hT2 ho2)); clear o2 ho2 hT2; rw [hzI] at c292)
          all_goals
            go_wp2_with fail
            go_ret2
            exact ⟨H2.out.1, .inr ⟨fun h => h.2.2 (by rw [HB.out.1]; exact hz), rfl⟩⟩
      · have hzI : ¬ ((b256.toNat : Nat) : Int) = 0 := by omega
        go_enter Tryz.func112, Tryz.ntmps112
        go_wp2_with fail
        go_region_with (go_at_call 53; refine (HN.out).mono ?_; rintro e w1 ⟨gT, rfl, _, hT1, ho1⟩)
        clear c11
        all_goals
          obtain ⟨o1, hT1, hd1, c11, c352, hh1⟩ := HX.out w1 gT ho1 hT1
          have H1 := hide (And.intro o1 (And.intro hT1 hd1))
          have H1N := hide (HN2.out w1.drew hh1)
          clear o1 hd1 hT1 ho1 hh1
          go_wp2_with fail
          go_region_with (go_at_call 53; refine (H1N.out).mono ?_; rintro e w2 ⟨gD, rfl, _, hT2, ho2⟩; obtain ⟨o2, c292⟩ := HB.out.2 w1 w2 H1.out.1 ho2; have H2 := hide (And.intro o2 (And.intro hT2 ho2)); clear o2 ho2 hT2)
          all_goals
            go_wp2_with fail
            go_ret2
            exact ⟨H2.out.1.alloc _, .inl ⟨⟨hA, hB, by rw [HB.out.1]; exact hz⟩, _, rfl, gT, gD, Has.new _ _ _, (H1.out.2.1.only H2.out.2.2 (by simp)).only ((Only.refl [] w2).alloc _) (by simp), H2.out.2.1.only ((Only.refl [] w2).alloc _) (by simp)⟩⟩
    · have HN2 := hide (fun w1 h => newF_any (some ⟨g, 36 + s.nl, none⟩) s.nd (316 - s.nl) (L.drop s.nl) w1 h HD.out.2.1 (by omega) (by rw [HD.out.2.2.2 hB]; decide))
      rw [HD.out.2.2.2 hB] at HN2
      go_enter Tryz.func112, Tryz.ntmps112
      go_wp2_with fail
      go_region_with (go_at_call 53; refine (HN.out).mono ?_; rintro e w1 ⟨gT, rfl, _, hT1, ho1⟩)
      clear c11
      all_goals
        obtain ⟨o1, hT1, hd1, c11, c352, hh1⟩ := HX.out w1 gT ho1 hT1
        have H1 := hide (And.intro o1 (And.intro hT1 hd1))
        have H1N := hide (HN2.out w1.drew hh1)
        clear o1 hd1 hT1 ho1 hh1
        go_wp2_with fail
        go_region_with (go_at_call 53; refine (H1N.out).mono ?_; rintro e w2 ⟨rfl, ho2⟩)
        all_goals
          go_wp2_with fail
          go_ret2
          exact ⟨H1.out.1.trans (((Only.refl [] w1).drew).trans ho2 (by simp)) (by simp), .inr ⟨fun h => hB h.2.1, rfl⟩⟩
  · have hF := newF_any (some ⟨g, 36, none⟩) s.nl 316 (L.take s.nl) w.drew HT.out.1 HT.out.2.1 (by omega) (by rw [HT.out.2.2.2 hA]; decide)
    rw [HT.out.2.2.2 hA] at hF
    have HN := hide hF
    clear hF
    go_enter Tryz.func112, Tryz.ntmps112
    go_wp2_with fail
    go_region_with (go_at_call 53; refine (HN.out).mono ?_; rintro e w1 ⟨rfl, ho1⟩)
    all_goals
      go_wp2_with fail
      go_ret2
      exact ⟨((Only.refl [] w).drew).trans ho1 (by simp), .inr ⟨fun h => hA h.1, rfl⟩⟩
end Go.Proofs.YtlknhiihdejpeaaGreatDoor


namespace Go.Proofs.YtlknhiihdejpeaaGreatDoor
open Go Go.RowKit

set_option maxRecDepth 100000 in
set_option maxHeartbeats 2000000 in
theorem whole_any (g : Nat) (f : DF) (s : GSt) (L : List UInt8) (p : Nat) (w : World) (hd : Dc w g f) (hh : Hd w f.hd (lensS s L p)) (hnl : s.nl ≤ 286) (hnd : s.nd ≤ 30) (b : Bool) (hb : decide (L.length = s.nl + s.nd) = b) :
    Calls Tryz.prog 111 #[.pointer (some ⟨g, 11, none⟩)] w fun e w' => e = .returned (.bool b) ∧ ∃ m, w' = w.drewN m := by
  have c11 : w.cell? ⟨g, 11, none⟩ = some (.int .i64 (s.nl : Int)) := by rw [hd.hd (by decide) (by decide), hh.nl]; rfl
  have c12 : w.cell? ⟨g, 12, none⟩ = some (.int .i64 (s.nd : Int)) := by rw [hd.hd (by decide) (by decide), hh.nd]; rfl
  have c352 : w.cell? ⟨g, 352, none⟩ = some (.int .i64 (L.length : Int)) := by rw [hd.hd (by decide) (by decide), hh.n]; rfl
  obtain ⟨sm, hsm⟩ : ∃ sm, sm = s.nl + s.nd := ⟨_, rfl⟩
  have e1 : (s.nl : Int) + (s.nd : Int) = (sm : Int) := by omega
  rw [← hsm] at hb
  have b1 : sm ≤ 316 := by omega
  have hb2 : decide ((L.length : Int) = (sm : Int)) = b := by rw [← hb]; congr 1; exact propext ⟨fun h => by omega, fun h => by omega⟩
  generalize L.length = n at *
  clear hd hh hsm hb
  go_enter Tryz.func111, Tryz.ntmps111
  go_wp2_with fail
  go_region
  all_goals
    go_wp2_with fail
    go_ret
    exact ⟨by first | rfl | (rw [← hb2]; rfl), _, rfl⟩

/-- What deal answers. -/
def Dealed (g gf gw gr : Nat) (K : List Nat) (f : DF) (v vo : Value) (l : List UInt8) (q : Nat) (all x : List UInt8) (s : GSt) (L : List UInt8) (w : World) (e : Ending) (w' : World) : Prop :=
  ∃ (k c : Nat) (f' : DF), e = .returned (.tuple #[.int .i64 (k : Int), .int .i64 (c : Int)]) ∧ Rn w' g gf gw gr K f' v vo l q all x ∧ Only [g] w w' ∧
    ((L.length < s.nl + s.nd ∧ k = 5 ∧ c = 0 ∧ f' = f) ∨
      (L.length = s.nl + s.nd ∧ CodesOk s.nl L ∧ k = 7 ∧ c = 0 ∧ ∃ v', f' = { f with co := v' } ∧ CdV w' v' (L.take s.nl) (L.drop s.nl)) ∨
      (L.length = s.nl + s.nd ∧ ¬ CodesOk s.nl L ∧ k = 5 ∧ c = 3 ∧ f' = f))

set_option maxRecDepth 100000 in
set_option maxHeartbeats 4000000 in
theorem deal_step (g gf gw gr : Nat) (K : List Nat) (f : DF) (v vo : Value) (l : List UInt8) (q : Nat) (all x : List UInt8) (s : GSt) (L : List UInt8) (p : Nat) (w : World) (h : Rn w g gf gw gr K f v vo l q all x) (hh : Hd w f.hd (lensS s L p))
    (hnl : 257 ≤ s.nl ∧ s.nl ≤ 286) (hnd : 1 ≤ s.nd ∧ s.nd ≤ 30) (hL : L.length ≤ s.nl + s.nd) (h15 : ∀ b ∈ L, b.toNat ≤ 15) :
    Calls Tryz.prog 103 #[.pointer (some ⟨g, 0, none⟩)] w (Dealed g gf gw gr K f v vo l q all x s L w) := by
  have HH := hide h
  by_cases hlt : L.length < s.nl + s.nd
  · have HW := hide (whole_any g f s L p w h.on.dec hh hnl.2 hnd.2 false (decide_eq_false (by omega)))
    clear h hh h15
    go_enter Tryz.func103, Tryz.ntmps103
    go_wp2_with fail
    refine (HW.out).mono ?_
    rintro e w1 ⟨rfl, m, rfl⟩
    go_wp2_with fail
    go_ret2
    exact ⟨5, 0, f, rfl, HH.out.drewN m, (Only.refl [g] w).drewN m, .inl ⟨hlt, rfl, rfl, rfl⟩⟩
  · have heq : L.length = s.nl + s.nd := by omega
    have HW := hide (whole_any g f s L p w h.on.dec hh hnl.2 hnd.2 true (decide_eq_true heq))
    have HC := hide (fun m => codesH_any g f s L p (w.drewN m) (h.drewN m).on.dec (hh.keep (S := []) ((Only.refl [] w).drewN m) (Other.nil _)) hnl hnd heq h15)
    have HQ := hide heq
    clear h hh h15 hlt heq hL
    go_enter Tryz.func103, Tryz.ntmps103
    go_wp2_with fail
    refine (HW.out).mono ?_
    rintro e w1 ⟨rfl, m, rfl⟩
    go_wp2_with fail
    refine (HC.out m).mono ?_
    rintro e w2 ⟨ho2, hcase⟩
    have o2 : Only [] w w2 := ((Only.refl [] w).drewN m).trans ho2 (by simp)
    have h2 := HH.out.still o2
    have c353 : w2.cell? ⟨g, 353, none⟩ = some f.co := h2.on.dec.co
    have f353 : w2.frozen? ⟨g, 353, none⟩ = false := Has.free h2.on.dec 353
    have H2 := hide (And.intro o2 h2)
    clear o2 h2 ho2
    generalize f.co = u at c353
    rcases hcase with ⟨hok, gc, rfl, hcd⟩ | ⟨hno, rfl⟩
    · have HO := hide (And.intro hok hcd)
      clear hok hcd
      go_wp2_with fail
      go_ret2
      have oW : Only [g] w2 (w2.setCell ⟨g, 353, none⟩ (.pointer (some ⟨gc, 0, none⟩))) := (Only.refl [g] _).setCell (by simp) _
      exact ⟨7, 0, _, rfl, H2.out.2.cells oW (Dc.set_co H2.out.2.on.dec _) rfl rfl (H2.out.2.keepX oW), (H2.out.1.of_nil (T := [g])).trans oW (by simp), .inr (.inl ⟨HQ.out, HO.out.1, rfl, rfl, _, rfl, H2.out.2.keepV oW ⟨gc, rfl, HO.out.2⟩⟩)⟩
    · go_wp2_with fail
      go_ret2
      exact ⟨5, 3, f, rfl, H2.out.2, H2.out.1.of_nil, .inr (.inr ⟨HQ.out, hno, rfl, rfl, rfl⟩)⟩

set_option maxRecDepth 100000 in
set_option maxHeartbeats 4000000 in
/-- What a symbol says beyond its least: m the least, n bits. -/
theorem addF_any (B : List UInt8) (a o : Nat) (l : List UInt8) (hs : Src B a o l) (g gf gw gr : Nat) (K : List Nat) (f : DF) (v vo : Value) (q : Nat) (all x : List UInt8) (w : World) (h : Rn w g gf gw gr K f v vo l q all x) (m n : Nat) (hm : m ≤ 30000) (hn : n ≤ 13) :
    (8 * a < 8 * o + q + n ∧ Calls Tryz.prog 114 #[.pointer (some ⟨gf, 0, none⟩), .agg #[.int .u16 (m : Int), .int .u8 (n : Int)]] w (fun e w' => e = .returned (.tuple #[.int .i64 0, .int .i64 2]) ∧ Rn w' g gf gw gr K f v vo l q all x ∧ Only [gr] w w')) ∨
    (8 * o + q + n ≤ 8 * a ∧ Calls Tryz.prog 114 #[.pointer (some ⟨gf, 0, none⟩), .agg #[.int .u16 (m : Int), .int .u8 (n : Int)]] w (fun e w' => e = .returned (.tuple #[.int .i64 ((m + num B / 2 ^ (8 * o + q) % 2 ^ n : Nat) : Int), .int .i64 0]) ∧ Rn w' g gf gw gr K f v vo l (q + n) all x ∧ Only [gr] w w')) := by
  have hwn : IntKind.i64.wrap (n : Int) = (n : Int) := Go.Proofs.YtlknhiihdejpeaaGreatDoor.wrap64 rfl (by omega)
  have hwm : IntKind.i64.wrap (m : Int) = (m : Int) := Go.Proofs.YtlknhiihdejpeaaGreatDoor.wrap64 rfl (by omega)
  have HH := hide h
  have HB := fun W (hR : Rd W gr v l q) => bits_gen hs gr v q n (by omega) W hR
  have o0 : Only [] w (w.alloc (.cells #[.int .u16 (m : Int), .int .u8 (n : Int)] 181)).drew := ((Only.refl [] w).alloc _).drew
  have hB0 := HB _ (h.still o0).rd
  have H0 := hide (And.intro (h.still o0) o0)
  have c0 : (w.alloc (.cells #[.int .u16 (m : Int), .int .u8 (n : Int)] 181)).cell? ⟨gf, 0, none⟩ = some (.pointer (some ⟨gr, 0, none⟩)) := Has.cell (Has.alloc h.on.flow _) 0
  have k0 : (w.alloc (.cells #[.int .u16 (m : Int), .int .u8 (n : Int)] 181)).cell? ⟨w.heap.size, 0, none⟩ = some (.int .u16 (m : Int)) := Has.cell (Has.new w _ _) 0
  have k1 : (w.alloc (.cells #[.int .u16 (m : Int), .int .u8 (n : Int)] 181)).cell? ⟨w.heap.size, 1, none⟩ = some (.int .u8 (n : Int)) := Has.cell (Has.new w _ _) 1
  have hlt : w.heap.size < ((w.alloc (.cells #[.int .u16 (m : Int), .int .u8 (n : Int)] 181)).drew).heap.size := Has.lt (Has.new w _ _)
  have hngr : w.heap.size ≠ gr := Nat.ne_of_gt h.rd.1.lt
  have HM := hide (And.intro hlt hngr)
  clear HB o0 h hs hlt hngr
  rcases hB0 with ⟨hfar, hB⟩ | ⟨hnear, hB⟩
  · refine .inl ⟨hfar, ?_⟩
    have HBB := hide hB
    clear hB hfar hm hwm
    go_enter Tryz.func114, Tryz.ntmps114
    go_wp2_with fail
    have HK := hide (And.intro k0 (And.intro HM.out H0.out))
    clear HM H0 HH
    generalize w.alloc (.cells #[.int .u16 (m : Int), .int .u8 (n : Int)] 181) = w0 at *
    generalize w.heap.size = G at *
    go_region_with (go_at_call 85; refine (HBB.out).mono ?_; rintro e w1 ⟨rfl, ho1, hr1⟩)
    all_goals
      go_wp2_with fail
      go_ret2
      exact ⟨rfl, HK.out.2.2.1.read ho1 hr1, (HK.out.2.2.2.of_nil (T := [gr])).trans ho1 (by simp)⟩
  · refine .inr ⟨hnear, ?_⟩
    have HBB := hide hB
    clear hB hnear
    obtain ⟨z, hz⟩ : ∃ z, z = num B / 2 ^ (8 * o + q) % 2 ^ n := ⟨_, rfl⟩
    have hz2 : z < 8192 := by
      have h1 : z < 2 ^ n := by rw [hz]; exact Nat.mod_lt _ (Nat.two_pow_pos _)
      have h2 : 2 ^ n ≤ 2 ^ 13 := Nat.pow_le_pow_right (by decide) hn
      omega
    rw [← hz] at HBB ⊢
    clear hz
    go_enter Tryz.func114, Tryz.ntmps114
    go_wp2_with fail
    have HK := hide (And.intro k0 (And.intro HM.out H0.out))
    clear HM H0 HH
    generalize w.alloc (.cells #[.int .u16 (m : Int), .int .u8 (n : Int)] 181) = w0 at *
    generalize w.heap.size = G at *
    go_region_with (go_at_call 85; refine (HBB.out).mono ?_; rintro e w1 ⟨rfl, ho1, hr1⟩; have cm := (ho1.cell (p := ⟨G, 0, none⟩) HK.out.2.1.1 (by simpa using HK.out.2.1.2)).trans HK.out.1; have H1 := hide (And.intro ho1 hr1); clear ho1 hr1)
    all_goals
      go_wp2_with fail
      go_ret2
      exact ⟨rfl, HK.out.2.2.1.read H1.out.1 H1.out.2, (HK.out.2.2.2.of_nil (T := [gr])).trans H1.out.1 (by simp)⟩
end Go.Proofs.YtlknhiihdejpeaaGreatDoor


namespace Go.Proofs.YtlknhiihdejpeaaGreatDoor
open Go Go.RowKit

set_option maxRecDepth 100000 in
set_option maxHeartbeats 2000000 in
theorem ringback_any (g gf gw : Nat) (K : List Nat) (f : DF) (rp vo : Value) (all x : List UInt8) (d : Nat) (w : World) (h : On w g gf gw K f rp vo all x) (hd1 : 1 ≤ d) (hd2 : d ≤ all.length) (hd3 : d ≤ 32768) (hn : all.length ≤ 1073741824) :
    Calls Tryz.prog 117 #[.pointer (some ⟨g, 5, none⟩), .int .i64 (d : Int)] w fun e w' => e = .returned (.int .u8 ((all.getD (all.length - d) 0).toNat : Int)) ∧ ∃ m, w' = w.drewN m := by
  obtain ⟨ws, hW, hs, hr⟩ := h.ring
  have c5 : w.cell? ⟨g, 5, none⟩ = some (.slice (some ⟨gw, 0, none⟩) 32768 32768) := by rw [← h.wb]; exact h.dec.wb
  have c6 : w.cell? ⟨g, 6, none⟩ = some (.int .i64 (all.length : Int)) := by rw [← h.wn]; exact h.dec.wn
  have hi : all.length - d < all.length := by omega
  have hb : all.getD (all.length - d) 0 = all[all.length - d] := by rw [List.getD_eq_getElem?_getD, List.getElem?_eq_getElem hi]; rfl
  have cw : w.cell? ⟨gw, (all.length - d) % 32768, none⟩ = some (.int .u8 (all[all.length - d].toNat : Int)) := by rw [hW.cell]; exact hr _ hi (by omega)
  rw [hb]
  generalize all[all.length - d] = b at *
  obtain ⟨i, hi2⟩ : ∃ i, i = all.length - d := ⟨_, rfl⟩
  rw [← hi2] at cw
  have e1 : (all.length : Int) - (d : Int) = (i : Int) := by omega
  have e2 : (i : Int).tmod 32768 = ((i % 32768 : Nat) : Int) := rfl
  have e3 : i % 32768 < 32768 := by omega
  have e4 : i % 32768 * 1 = i % 32768 := Nat.mul_one _
  have e5 : all.length ≤ 1073741824 := hn
  have hie : i ≤ 1073741824 := by omega
  clear h hW hs hr hd1 hd2 hd3 hn hb hi hi2
  generalize all.length = n at *
  generalize i % 32768 = j at *
  go_enter Tryz.func117, Tryz.ntmps117
  go_wp2_with fail
  go_region
  all_goals
    go_wp2_with fail
    go_ret
    exact ⟨rfl, _, rfl⟩

def BackP (f f' : DF) (t : GSt) : Prop := f'.k = f.k ∧ t.k = 7
def BackQ (f f' : DF) (t : GSt) : Prop := f'.k = f.k ∧ t.k = 10

theorem dst_le : ∀ y, y < 30 → dstM y + (2 ^ dstB y - 1) ≤ 32768 ∧ dstM y ≤ 30000 ∧ dstB y ≤ 13 ∧ 1 ≤ dstM y := by decide

set_option maxRecDepth 100000 in
set_option maxHeartbeats 2000000 in
theorem back_bad (g gf : Nat) (f : DF) (w : World) (h : Dc w g f) (hs : 30 ≤ f.sy) :
    Calls Tryz.prog 115 #[.pointer (some ⟨g, 0, none⟩), .pointer (some ⟨gf, 0, none⟩)] w fun e w' => e = .returned (.int .i64 3) ∧ w = w' := by
  have c := h.sy
  have hs2 : (30 : Int) ≤ (f.sy : Int) := by omega
  generalize f.sy = y at *
  clear h hs
  go_enter Tryz.func115, Tryz.ntmps115
  go_wp2_with fail
  go_ret
  exact ⟨rfl, rfl⟩

set_option maxRecDepth 100000 in
set_option maxHeartbeats 8000000 in
theorem back_step (B : List UInt8) (a o : Nat) (l : List UInt8) (hs : Src B a o l) (g gf gw gr : Nat) (K : List Nat) (f : DF) (v vo : Value) (q : Nat) (x : List UInt8) (s : GSt) (w : World) (h : Rn w g gf gw gr K f v vo l q s.out x) (hk : s.k = 10)
    (hm : Md w f s) (hwf : s.Wf) (hp : s.p = 8 * o + q) (hl : s.out.length ≤ f.most) (hmost : f.most ≤ 1073741824) (hx : x.length ≤ s.out.length) :
    Calls Tryz.prog 115 #[.pointer (some ⟨g, 0, none⟩), .pointer (some ⟨gf, 0, none⟩)] w (fun e w' => ∃ c : Nat, e = .returned (.int .i64 (c : Int)) ∧ Went B a o l g gf gw gr K f v vo x s (BackP f) (BackQ f) w c w') := by
  have hsy := hm.sy (.inr hk)
  have hle := hm.le (by omega) (by omega)
  have h29 := hwf.sym10 hk
  have hlen := hwf.len (by omega) (by omega)
  have hdl := dst_le s.sym (by omega)
  obtain ⟨y, hy⟩ : ∃ y, y = s.sym := ⟨_, rfl⟩
  obtain ⟨m, hmm⟩ : ∃ m, m = dstM s.sym := ⟨_, rfl⟩
  obtain ⟨n, hnn⟩ : ∃ n, n = dstB s.sym := ⟨_, rfl⟩
  have cs : w.cell? ⟨g, 355, none⟩ = some (.int .i64 (y : Int)) := by have := h.on.dec.sy; rw [hsy, ← hy] at this; exact this
  have ct := hm.tab.dst s.sym (by omega)
  rw [← hy] at ct
  have ct0 : w.cell? ⟨2, y * 2, none⟩ = some (.int .u16 (m : Int)) := by rw [hmm, ← hy, Nat.mul_comm]; exact ct.1
  have ct1 : w.cell? ⟨2, y * 2 + 1, none⟩ = some (.int .u8 (n : Int)) := by rw [hnn, ← hy, Nat.mul_comm]; exact ct.2
  have hy30 : y < 30 := by omega
  have hyI : ¬ (30 : Int) ≤ (y : Int) := by omega
  have hnx := GSt.nx_10 (L0 := fixedL) (D0 := fixedD2) (N := num B) (most := f.most) (show 9 < s.k by omega)
  rw [← hmm, ← hnn] at hnx hdl
  have hadd := addF_any B a o l hs g gf gw gr K f v vo q s.out x w h m n hdl.2.1 hdl.2.2.1
  have h11 : s.k ≠ 11 := by omega
  have HH := hide (And.intro h (And.intro hm (And.intro hp (And.intro hl (And.intro h11 (And.intro hk (And.intro hnx (And.intro hmost (And.intro hx (And.intro hle hlen))))))))))
  have HD := hide (And.intro hdl (And.intro hmm hnn))
  rw [← hp] at hadd
  clear hs h hm hwf hl hk hnx hmost hx hle hlen hdl hmm hnn hsy h29 ct hy h11
  rcases hadd with ⟨hfar, hA⟩ | ⟨hnear, hA⟩
  · have HA := hide (And.intro hA hfar)
    clear hA hfar hp
    go_enter Tryz.func115, Tryz.ntmps115
    go_wp2_with fail
    refine (HA.out.1).mono ?_
    rintro e w1 ⟨rfl, h1, ho1⟩
    have H1 := hide (And.intro h1 ho1)
    clear h1 ho1
    go_wp2_with fail
    go_ret
    have hH := HH.out
    exact ⟨2, rfl, q, [], vo, f, by simpa using H1.out.1, (Since.refl _ _ _).step (H1.out.2.weak (by simp)), Same.refl f, by simpa using hH.2.2.2.1, .inr (.inl ⟨rfl, s, .short s hH.2.2.2.2.1 (by rw [hH.2.2.2.2.2.2.1]; exact HA.out.2), by simp, hH.1.mdr hH.2.1 H1.out.2, .of hH.2.2.1 (by have := hH.2.2.2.2.2.1; omega), rfl, hH.2.2.2.2.2.1⟩)⟩
  · obtain ⟨fr, hfr⟩ : ∃ fr, fr = m + num B / 2 ^ s.p % 2 ^ n := ⟨_, rfl⟩
    have hfr1 : 1 ≤ fr ∧ fr ≤ 32768 := by
      have h1 := Nat.mod_lt (num B / 2 ^ s.p) (Nat.two_pow_pos n)
      have h2 := HD.out.1
      omega
    rw [← hfr] at hA
    have hnx := HH.out.2.2.2.2.2.2.1
    dsimp only at hnx
    rw [← hfr] at hnx
    obtain ⟨n0, hn0⟩ : ∃ n0, n0 = s.out.length := ⟨_, rfl⟩
    have HF := hide (And.intro hfr1 (And.intro hn0 hnear))
    rw [← hn0] at hnx
    have HA := hide hA
    clear hfr hA hnear hp
    by_cases hlt : n0 < fr
    · rw [if_pos hlt] at hnx
      have HN := hide hnx
      have hli : (n0 : Int) < (fr : Int) := by omega
      clear hnx hlt hn0 hfr1
      go_enter Tryz.func115, Tryz.ntmps115
      go_wp2_with fail
      refine (HA.out).mono ?_
      rintro e w1 ⟨rfl, h1, ho1⟩
      have c6 : w1.cell? ⟨g, 6, none⟩ = some (.int .i64 (n0 : Int)) := by have := h1.on.dec.wn; rw [h1.on.wn, ← HF.out.2.1] at this; exact this
      have H1 := hide (And.intro h1 ho1)
      clear h1 ho1
      go_wp2_with fail
      go_ret
      exact ⟨3, rfl, q + n, [], vo, f, by simpa using H1.out.1, (Since.refl _ _ _).step (H1.out.2.weak (by simp)), Same.refl f, by simpa using HH.out.2.2.2.1, .inr (.inr ⟨.inl rfl, fun h => h, s, (Steps.refl s).bad HH.out.2.2.2.2.1 HN.out HF.out.2.2⟩)⟩
    · rw [if_neg hlt] at hnx
      have hli : ¬ (n0 : Int) < (fr : Int) := by omega
      obtain ⟨le, hle⟩ : ∃ le, le = s.len := ⟨_, rfl⟩
      have hle2 : le ≤ 258 := by rw [hle]; exact HH.out.2.2.2.2.2.2.2.2.2.2
      have hn02 : n0 ≤ f.most := by rw [hn0]; exact HH.out.2.2.2.1
      have hmost : f.most ≤ 1073741824 := HH.out.2.2.2.2.2.2.2.1
      rw [← hle] at hnx
      by_cases hlong : f.most < n0 + le
      · rw [if_pos hlong] at hnx
        have HN := hide hnx
        have hli2 : (f.most : Int) - (n0 : Int) < (le : Int) := by omega
        have HLE := hide hle
        clear hnx hlt hn0 hfr1 hlong hle
        go_enter Tryz.func115, Tryz.ntmps115
        go_wp2_with fail
        refine (HA.out).mono ?_
        rintro e w1 ⟨rfl, h1, ho1⟩
        have c6 : w1.cell? ⟨g, 6, none⟩ = some (.int .i64 (n0 : Int)) := by have := h1.on.dec.wn; rw [h1.on.wn, ← HF.out.2.1] at this; exact this
        have c356 : w1.cell? ⟨g, 356, none⟩ = some (.int .i64 (le : Int)) := by have := h1.on.dec.le; rw [HH.out.2.2.2.2.2.2.2.2.2.1, ← HLE.out] at this; exact this
        have c00 := h1.on.dec.most
        have H1 := hide (And.intro h1 ho1)
        clear h1 ho1
        go_wp2_with fail
        go_region
        all_goals
          go_wp2_with fail
          go_ret
          exact ⟨5, rfl, q + n, [], vo, f, by simpa using H1.out.1.still ((Only.refl [] w1).drew), (Since.refl _ _ _).step ((H1.out.2.weak (by simp)).drew), Same.refl f, by simpa using HH.out.2.2.2.1, .inr (.inr ⟨.inr rfl, fun h => h, s, (Steps.refl s).bad HH.out.2.2.2.2.1 HN.out HF.out.2.2⟩)⟩
      · rw [if_neg hlong] at hnx
        have HN := hide hnx
        have hli2 : ¬ (f.most : Int) - (n0 : Int) < (le : Int) := by omega
        have HLE := hide (And.intro hle (And.intro hlt hlong))
        clear hnx hlt hn0 hlong hle
        go_enter Tryz.func115, Tryz.ntmps115
        go_wp2_with fail
        refine (HA.out).mono ?_
        rintro e w1 ⟨rfl, h1, ho1⟩
        have c6 : w1.cell? ⟨g, 6, none⟩ = some (.int .i64 (n0 : Int)) := by have := h1.on.dec.wn; rw [h1.on.wn, ← HF.out.2.1] at this; exact this
        have c356 : w1.cell? ⟨g, 356, none⟩ = some (.int .i64 (le : Int)) := by have := h1.on.dec.le; rw [HH.out.2.2.2.2.2.2.2.2.2.1, ← HLE.out.1] at this; exact this
        have c00 := h1.on.dec.most
        have H1 := hide (And.intro h1 ho1)
        clear h1 ho1
        go_wp2_with fail
        go_region
        all_goals
          go_wp2_with fail
          clear c6 c00 hli hli2
          try generalize decide (n0 < fr) = b1
          try generalize decide ((f.most : Int) - (n0 : Int) < (le : Int)) = b2
          go_loopw [52] (fun i wr => ∃ (j : Nat) (y : List UInt8) (vo' : Value), i = .int .i64 (j : Int) ∧ j ≤ le ∧ again s.out fr j = s.out ++ y ∧ y.length = j ∧ Rn wr g gf gw gr K { f with wn := f.wn + j } v vo' l (q + n) (s.out ++ y) (x ++ y) ∧ Since [g, gf, gw, gr] w vo wr vo') (fun i _ => le - (intOf i).toNat)
          case atStart => exact ⟨0, [], vo, rfl, Nat.zero_le _, by simp [again], rfl, by simpa using H1.out.1.still ((Only.refl [] w1).drew), (Since.refl _ _ _).step ((H1.out.2.weak (by simp)).drew)⟩
          case round =>
            obtain ⟨j, z, vo', rfl, hj, hag, hzl, hR, hS⟩ := hrel
            by_cases hjl : j < le
            · have hji : (j : Int) < (le : Int) := by omega
              have hall : (s.out ++ z).length = n0 + j := by rw [List.length_append, hzl, HF.out.2.1]
              have hb1 := ringback_any g gf gw K { f with wn := f.wn + j } _ vo' (s.out ++ z) (x ++ z) fr wr hR.on hfr1.1 (by rw [hall]; have := HLE.out.2.1; omega) hfr1.2 (by rw [hall]; have := HLE.out.2.2; omega)
              have hsucc := again_succ fr j s.out
              rw [hag] at hsucc
              obtain ⟨b, hb⟩ : ∃ b, b = (s.out ++ z).getD ((s.out ++ z).length - fr) 0 := ⟨_, rfl⟩
              rw [← hb] at hb1 hsucc
              have hLay := fun k => lay_any g gf gw K _ _ vo' _ _ b (wr.drewN k) (hR.drewN k).on (by rw [hall]; have := HLE.out.2.2; omega) (by rw [List.length_append]; have := HH.out.2.2.2.2.2.2.2.2.1; have := HF.out.2.1; have := HLE.out.2.2; omega)
              have HJ := hide (And.intro hR (And.intro hS (And.intro hsucc (And.intro hzl (And.intro hb1 hLay)))))
              clear hR hS hsucc hzl hb1 hLay hag hall hb hj hjl
              go_wp2_with fail
              refine (HJ.out.2.2.2.2.1).mono ?_
              rintro e w2 ⟨rfl, mm, rfl⟩
              go_wp2_with fail
              refine (HJ.out.2.2.2.2.2 mm).mono ?_
              rintro e w3 ⟨rfl, vo3, hon3, hs3⟩
              have hR3 := (HJ.out.1.drewN mm).lay hon3 hs3 rfl
              rw [List.append_assoc, List.append_assoc] at hR3
              have hS3 := (HJ.out.2.1.step ((Only.refl _ wr).drewN mm)).trans hs3 (fun i hi _ => by simp only [List.mem_cons, List.not_mem_nil, or_false] at hi ⊢; omega)
              have H3 := hide (And.intro hR3 hS3)
              clear hR3 hS3 hon3 hs3
              go_wp2_with fail
              go_roundw
              case rel => exact ⟨j + 1, z ++ [b], vo3, by go_num, by omega, by rw [HJ.out.2.2.1, List.append_assoc], by rw [List.length_append, HJ.out.2.2.2.1]; rfl, by exact H3.out.1, H3.out.2⟩
              case measure => simp [intOf]; omega
            · obtain rfl : j = le := by omega
              have HJ := hide (And.intro hR (And.intro hS (And.intro hag hzl)))
              clear hR hS hag hzl
              go_wp2_with fail
              go_ret
              have hH := HH.out
              have hnx := HN.out
              rw [HJ.out.2.2.1] at hnx
              have hMe := hH.1.mds hH.2.1 HJ.out.2.1
              refine ⟨0, rfl, q + n, z, vo', _, HJ.out.1, HJ.out.2.1, ⟨rfl, rfl, rfl, rfl, rfl, rfl, rfl, rfl, rfl⟩, by rw [HJ.out.2.2.2]; have := HLE.out.2.2; have := HF.out.2.1; omega, .inl ⟨rfl, _, .one hH.2.2.2.2.1 hnx HF.out.2.2, rfl, ?_, .of (by show s.p + n = _; rw [hH.2.2.1]; omega) (by show (7 : Nat) ≠ 1; decide), rfl, rfl⟩⟩
              exact ⟨hMe.last, fun h => absurd (show (7 : Nat) = 2 from h) (by decide), fun _ _ => hMe.co (by omega) (by omega), fun h => absurd (show (7 : Nat) = 8 ∨ (7 : Nat) = 10 from h) (by decide), fun h => absurd (show (9 : Nat) ≤ 7 from h) (by decide), fun _ h => absurd (show (7 : Nat) ≤ 6 from h) (by decide), hMe.tab⟩
end Go.Proofs.YtlknhiihdejpeaaGreatDoor

