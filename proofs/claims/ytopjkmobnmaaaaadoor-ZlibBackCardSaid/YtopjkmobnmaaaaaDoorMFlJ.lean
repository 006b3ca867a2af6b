/-
  Package inflate, all streams: the codes of a dynamic block are dealt out. | Package inflate, all streams: what stands behind what was said of a dynamic block's codes; what a symbol says beyond its least; a byte from so far back.
-/
import Derived.Test.YtopjkmobnmaaaaaDoorFlI
namespace Go.Proofs.YtopjkmobnmaaaaaDoor
open Go Go.RowKit

/-- Codes may be made of these lengths. -/
def CodesOk (nl : Nat) (L : List UInt8) : Prop := mayBe (cn (L.take nl)) = true ∧ mayBe (cn (L.drop nl)) = true ∧ ln L 256 ≠ 0

theorem arr_elem : Tryd.prog.underlying 49 = some (.array (Tryd.prog.arrayLen 49) (Tryd.prog.elem 49)) := by kernel_rfl
theorem arr_len : Tryd.prog.arrayLen 49 = 316 := by kernel_rfl
theorem arr_size (w : World) : (sizeOf (Tryd.prog.elem 49)).run Tryd.prog w = .ok 1 w := by kernel_rfl
theorem run_arr_h (g o n : Nat) (hn : n ≤ 316) (w : World) : (Instr.sliceAt 49 (.pointer (some ⟨g, o, none⟩)) none (some (.int .i64 (n : Int))) none).run Tryd.prog w = .ok (.slice (some ⟨g, o, none⟩) n 316) w := by
  rw [run_sliceAt_array_h w 49 ⟨g, o, none⟩ arr_elem .i64 (n : Int) (by omega) (by rw [arr_len]; omega), arr_size]
  simp [slicedAt, Result.andThen, arr_len, Addr.add]
theorem run_arr_lh (g o l n m : Nat) (hl : l < 316) (hm : m = l + n) (hn : m ≤ 316) (w : World) : (Instr.sliceAt 49 (.pointer (some ⟨g, o, none⟩)) (some (.int .i64 (l : Int))) (some (.int .i64 (m : Int))) none).run Tryd.prog w = .ok (.slice (some ⟨g, o + l, none⟩) n (316 - l)) w := by
  rw [run_sliceAt_array_lh w 49 ⟨g, o, none⟩ arr_elem .i64 .i64 (l : Int) (m : Int) (by omega) (by omega) (by rw [arr_len]; omega), arr_size]
  have h1 : ¬ (316 : Nat) = l := by omega
  have h2 : m - l = n := by omega
  simp [slicedAt, Result.andThen, arr_len, add_none, h1, h2]

set_option maxRecDepth 100000 in
set_option maxHeartbeats 8000000 in
theorem codesH_any (g : Nat) (f : DF) (s : GSt) (L : List UInt8) (p : Nat) (w : World) (hd : Dc w g f) (hh : Hd w f.hd (lensS s L p)) (hnl : 257 ≤ s.nl ∧ s.nl ≤ 286) (hnd : 1 ≤ s.nd ∧ s.nd ≤ 30) (hL : L.length = s.nl + s.nd) (h15 : ∀ b ∈ L, b.toNat ≤ 15) :
    Calls Tryd.prog 81 #[.pointer (some ⟨g, 11, none⟩)] w fun e w' => Only [] w w' ∧
      ((CodesOk s.nl L ∧ ∃ gc, e = .returned (.tuple #[.pointer (some ⟨gc, 0, none⟩), .int .i64 0]) ∧ Cd w' gc (L.take s.nl) (L.drop s.nl)) ∨
        (¬ CodesOk s.nl L ∧ e = .returned (.tuple #[.pointer none, .int .i64 3]))) := by
  have hlT : (L.take s.nl).length = s.nl := by rw [List.length_take]; omega
  have hlD : (L.drop s.nl).length = s.nd := by rw [List.length_drop]; omega
  have fT : far (L.take s.nl) = false := far_of fun b hb => h15 b (List.mem_of_mem_take hb)
  have fD : far (L.drop s.nl) = false := far_of fun b hb => h15 b (List.mem_of_mem_drop hb)
  have hHT : Holds w 1 (some ⟨g, 36, none⟩) s.nl (bvals (L.take s.nl)) := by
    have := Holds.cells (w := w) (g := g) (o := 36) (l := L.take s.nl) (Has.lt hd) (fun i hi => by
      have hi2 : i < L.length := by omega
      rw [hd.hd (by omega) (by omega), hh.lens i hi2, List.getElem_take]
      rfl)
    rw [hlT] at this
    exact this
  have hHD : Holds w 1 (some ⟨g, 36 + s.nl, none⟩) s.nd (bvals (L.drop s.nl)) := by
    have := Holds.cells (w := w) (g := g) (o := 36 + s.nl) (l := L.drop s.nl) (Has.lt hd) (fun i hi => by
      have hi2 : s.nl + i < L.length := by omega
      rw [Nat.add_assoc, hd.hd (by omega) (by omega), hh.lens _ hi2, List.getElem_drop]
      rfl)
    rw [hlD] at this
    exact this
  have c11 : w.cell? ⟨g, 11, none⟩ = some (.int .i64 (s.nl : Int)) := by rw [hd.hd (by decide) (by decide), hh.nl]; rfl
  obtain ⟨n, hn⟩ : ∃ n, n = s.nl + s.nd := ⟨_, rfl⟩
  have hLn : ((lensS s L p).lens.length : Int) = (n : Int) := by show (L.length : Int) = _; omega
  have H0 := hide (And.intro hd (And.intro hh (And.intro hL (And.intro hn hLn))))
  have neT : ¬ mayBe (cn (L.take s.nl)) = true → newE (L.take s.nl) = 3 := fun h => by unfold newE; rw [if_neg (by rw [hlT, fT]; simp; omega), if_neg h]
  have neD : ¬ mayBe (cn (L.drop s.nl)) = true → newE (L.drop s.nl) = 3 := fun h => by unfold newE; rw [if_neg (by rw [hlD, fD]; simp; omega), if_neg h]
  have HT := hide (And.intro hHT (And.intro hlT (And.intro fT neT)))
  have HD := hide (And.intro hHD (And.intro hlD (And.intro fD neD)))
  clear hHT hHD hlT hlD fT fD neT neD hd hh hL hLn h15
  have e1 : (n : Int) - (s.nl : Int) = (s.nd : Int) := by omega
  have hs1 := run_arr_h g 36 s.nl (by omega)
  have hs2 := run_arr_lh g 36 s.nl s.nd n (by omega) hn (by omega)
  have r1 : s.nl ≤ 316 := by omega
  have r2 : n ≤ 316 := by omega
  have r3 : s.nl ≤ n := by omega
  have HX0 := hide hn
  clear hn
  by_cases hA : mayBe (cn (L.take s.nl)) = true
  · have HN := hide (newT_any (some ⟨g, 36, none⟩) s.nl 316 (L.take s.nl) w.drew HT.out.1 HT.out.2.1 (by omega) HT.out.2.2.1 hA)
    have hnext : ∀ w1 gT, Only [] w.drew w1 → Tb w1 gT (L.take s.nl) → Only [] w w1 ∧ Tb w1.drew gT (L.take s.nl) ∧ Dc w1 g f ∧ w1.cell? ⟨g, 11, none⟩ = some (.int .i64 (s.nl : Int)) ∧ w1.cell? ⟨g, 352, none⟩ = some (.int .i64 (n : Int)) ∧ Holds w1.drew 1 (some ⟨g, 36 + s.nl, none⟩) s.nd (bvals (L.drop s.nl)) := fun w1 gT ho1 hT1 => by
      have o1 : Only [] w w1 := ((Only.refl [] w).drew).trans ho1 (by simp)
      have hd1 : Dc w1 g f := Has.only H0.out.1 o1 (by simp)
      refine ⟨o1, hT1.only ((Only.refl [] w1).drew) (by simp), hd1, ?_, ?_, HD.out.1.keep (o1.drew) (by simp)⟩
      · rw [hd1.hd (by decide) (by decide), H0.out.2.1.nl]; rfl
      · rw [hd1.hd (by decide) (by decide), H0.out.2.1.n, H0.out.2.2.2.2]
    have HX := hide hnext
    clear hnext
    by_cases hB : mayBe (cn (L.drop s.nl)) = true
    · have HN2 := hide (fun w1 h => newT_any (some ⟨g, 36 + s.nl, none⟩) s.nd (316 - s.nl) (L.drop s.nl) w1 h HD.out.2.1 (by omega) HD.out.2.2.1 hB)
      obtain ⟨b256, hb⟩ : ∃ b : UInt8, b = L[256]'(by have := H0.out.2.2.1; omega) := ⟨_, rfl⟩
      have hln : ln L 256 = b256.toNat := by rw [hb]; exact ln_get _
      have h292 : ∀ w1 w2, Only [] w w1 → Only [] w1.drew w2 → Only [] w w2 ∧ w2.cell? ⟨g, 292, none⟩ = some (.int .u8 (b256.toNat : Int)) := fun w1 w2 o1 ho2 => by
        have o2 : Only [] w w2 := o1.trans (((Only.refl [] w1).drew).trans ho2 (by simp)) (by simp)
        refine ⟨o2, ?_⟩
        rw [Dc.hd (Has.only H0.out.1 o2 (by simp)) (by decide) (by decide), H0.out.2.1.lens 256 (by show 256 < L.length; have := H0.out.2.2.1; omega), hb]
        rfl
      have HB := hide (And.intro hln h292)
      clear hb hln h292
      by_cases hz : b256.toNat = 0
      · have hzI : ((b256.toNat : Nat) : Int) = 0 := by omega
        go_enter Tryd.func81, Tryd.ntmps81
        go_wp2_with fail
        go_region_with (go_at_call 33; refine (HN.out).mono ?_; rintro e w1 ⟨gT, rfl, _, hT1, ho1⟩)
        clear c11
        all_goals
          obtain ⟨o1, hT1, hd1, c11, c352, hh1⟩ := HX.out w1 gT ho1 hT1
          have H1 := hide (And.intro o1 (And.intro hT1 hd1))
          have H1N := hide (HN2.out w1.drew hh1)
          clear o1 hd1 hT1 ho1 hh1
          go_wp2_with fail
          go_region_with (go_at_call 33; refine (H1N.out).mono ?_; rintro e w2 ⟨gD, rfl, _, hT2, ho2⟩; obtain ⟨o2, c292⟩ := HB.out.2 w1 w2 H1.out.1 ho2; have H2 := hide (And.intro o2 (And.intro hT2 ho2)); clear o2 ho2 hT2; rw [hzI] at c292)
          all_goals
            go_wp2_with fail
            go_ret2
            exact ⟨H2.out.1, .inr ⟨fun h => h.2.2 (by rw [HB.out.1]; exact hz), rfl⟩⟩
      · have hzI : ¬ ((b256.toNat : Nat) : Int) = 0 := by omega
        go_enter Tryd.func81, Tryd.ntmps81
        go_wp2_with fail
        go_region_with (go_at_call 33; refine (HN.out).mono ?_; rintro e w1 ⟨gT, rfl, _, hT1, ho1⟩)
        clear c11
        all_goals
          obtain ⟨o1, hT1, hd1, c11, c352, hh1⟩ := HX.out w1 gT ho1 hT1
          have H1 := hide (And.intro o1 (And.intro hT1 hd1))
          have H1N := hide (HN2.out w1.drew hh1)
          clear o1 hd1 hT1 ho1 hh1
          go_wp2_with fail
          go_region_with (go_at_call 33; refine (H1N.out).mono ?_; rintro e w2 ⟨gD, rfl, _, hT2, ho2⟩; obtain ⟨o2, c292⟩ := HB.out.2 w1 w2 H1.out.1 ho2; have H2 := hide (And.intro o2 (And.intro hT2 ho2)); clear o2 ho2 hT2)
          all_goals
            go_wp2_with fail
            go_ret2
            exact ⟨H2.out.1.alloc _, .inl ⟨⟨hA, hB, by rw [HB.out.1]; exact hz⟩, _, rfl, gT, gD, Has.new _ _ _, (H1.out.2.1.only H2.out.2.2 (by simp)).only ((Only.refl [] w2).alloc _) (by simp), H2.out.2.1.only ((Only.refl [] w2).alloc _) (by simp)⟩⟩
    · have HN2 := hide (fun w1 h => newF_any (some ⟨g, 36 + s.nl, none⟩) s.nd (316 - s.nl) (L.drop s.nl) w1 h HD.out.2.1 (by omega) (by rw [HD.out.2.2.2 hB]; decide))
      rw [HD.out.2.2.2 hB] at HN2
      go_enter Tryd.func81, Tryd.ntmps81
      go_wp2_with fail
      go_region_with (go_at_call 33; refine (HN.out).mono ?_; rintro e w1 ⟨gT, rfl, _, hT1, ho1⟩)
      clear c11
      all_goals
        obtain ⟨o1, hT1, hd1, c11, c352, hh1⟩ := HX.out w1 gT ho1 hT1
        have H1 := hide (And.intro o1 (And.intro hT1 hd1))
        have H1N := hide (HN2.out w1.drew hh1)
        clear o1 hd1 hT1 ho1 hh1
        go_wp2_with fail
        go_region_with (go_at_call 33; refine (H1N.out).mono ?_; rintro e w2 ⟨rfl, ho2⟩)
        all_goals
          go_wp2_with fail
          go_ret2
          exact ⟨H1.out.1.trans (((Only.refl [] w1).drew).trans ho2 (by simp)) (by simp), .inr ⟨fun h => hB h.2.1, rfl⟩⟩
  · have hF := newF_any (some ⟨g, 36, none⟩) s.nl 316 (L.take s.nl) w.drew HT.out.1 HT.out.2.1 (by omega) (by rw [HT.out.2.2.2 hA]; decide)
    rw [HT.out.2.2.2 hA] at hF
    have HN := hide hF
    clear hF
    go_enter Tryd.func81, Tryd.ntmps81
    go_wp2_with fail
    go_region_with (go_at_call 33; refine (HN.out).mono ?_; rintro e w1 ⟨rfl, ho1⟩)
    all_goals
      go_wp2_with fail
      go_ret2
      exact ⟨((Only.refl [] w).drew).trans ho1 (by simp), .inr ⟨fun h => hA h.1, rfl⟩⟩
end Go.Proofs.YtopjkmobnmaaaaaDoor


namespace Go.Proofs.YtopjkmobnmaaaaaDoor
open Go Go.RowKit

set_option maxRecDepth 100000 in
set_option maxHeartbeats 2000000 in
theorem whole_any (g : Nat) (f : DF) (s : GSt) (L : List UInt8) (p : Nat) (w : World) (hd : Dc w g f) (hh : Hd w f.hd (lensS s L p)) (hnl : s.nl ≤ 286) (hnd : s.nd ≤ 30) (b : Bool) (hb : decide (L.length = s.nl + s.nd) = b) :
    Calls Tryd.prog 80 #[.pointer (some ⟨g, 11, none⟩)] w fun e w' => e = .returned (.bool b) ∧ ∃ m, w' = w.drewN m := by
  have c11 : w.cell? ⟨g, 11, none⟩ = some (.int .i64 (s.nl : Int)) := by rw [hd.hd (by decide) (by decide), hh.nl]; rfl
  have c12 : w.cell? ⟨g, 12, none⟩ = some (.int .i64 (s.nd : Int)) := by rw [hd.hd (by decide) (by decide), hh.nd]; rfl
  have c352 : w.cell? ⟨g, 352, none⟩ = some (.int .i64 (L.length : Int)) := by rw [hd.hd (by decide) (by decide), hh.n]; rfl
  obtain ⟨sm, hsm⟩ : ∃ sm, sm = s.nl + s.nd := ⟨_, rfl⟩
  have e1 : (s.nl : Int) + (s.nd : Int) = (sm : Int) := by omega
  rw [← hsm] at hb
  have b1 : sm ≤ 316 := by omega
  have hb2 : decide ((L.length : Int) = (sm : Int)) = b := by rw [← hb]; congr 1; exact propext ⟨fun h => by omega, fun h => by omega⟩
  generalize L.length = n at *
  clear hd hh hsm hb
  go_enter Tryd.func80, Tryd.ntmps80
  go_wp2_with fail
  go_region
  all_goals
    go_wp2_with fail
    go_ret
    exact ⟨by first | rfl | (rw [← hb2]; rfl), _, rfl⟩

/-- What deal answers. -/
def Dealed (g gf gw gr : Nat) (K : List Nat) (f : DF) (v vo : Value) (l : List UInt8) (q : Nat) (all x : List UInt8) (s : GSt) (L : List UInt8) (w : World) (e : Ending) (w' : World) : Prop :=
  ∃ (k c : Nat) (f' : DF), e = .returned (.tuple #[.int .i64 (k : Int), .int .i64 (c : Int)]) ∧ Rn w' g gf gw gr K f' v vo l q all x ∧ Only [g] w w' ∧
    ((L.length < s.nl + s.nd ∧ k = 5 ∧ c = 0 ∧ f' = f) ∨
      (L.length = s.nl + s.nd ∧ CodesOk s.nl L ∧ k = 7 ∧ c = 0 ∧ ∃ v', f' = { f with co := v' } ∧ CdV w' v' (L.take s.nl) (L.drop s.nl)) ∨
      (L.length = s.nl + s.nd ∧ ¬ CodesOk s.nl L ∧ k = 5 ∧ c = 3 ∧ f' = f))

set_option maxRecDepth 100000 in
set_option maxHeartbeats 4000000 in
theorem deal_step (g gf gw gr : Nat) (K : List Nat) (f : DF) (v vo : Value) (l : List UInt8) (q : Nat) (all x : List UInt8) (s : GSt) (L : List UInt8) (p : Nat) (w : World) (h : Rn w g gf gw gr K f v vo l q all x) (hh : Hd w f.hd (lensS s L p))
    (hnl : 257 ≤ s.nl ∧ s.nl ≤ 286) (hnd : 1 ≤ s.nd ∧ s.nd ≤ 30) (hL : L.length ≤ s.nl + s.nd) (h15 : ∀ b ∈ L, b.toNat ≤ 15) :
    Calls Tryd.prog 72 #[.pointer (some ⟨g, 0, none⟩)] w (Dealed g gf gw gr K f v vo l q all x s L w) := by
  have HH := hide h
  by_cases hlt : L.length < s.nl + s.nd
  · have HW := hide (whole_any g f s L p w h.on.dec hh hnl.2 hnd.2 false (decide_eq_false (by omega)))
    clear h hh h15
    go_enter Tryd.func72, Tryd.ntmps72
    go_wp2_with fail
    refine (HW.out).mono ?_
    rintro e w1 ⟨rfl, m, rfl⟩
    go_wp2_with fail
    go_ret2
    exact ⟨5, 0, f, rfl, HH.out.drewN m, (Only.refl [g] w).drewN m, .inl ⟨hlt, rfl, rfl, rfl⟩⟩
  · have heq : L.length = s.nl + s.nd := by omega
    have HW := hide (whole_any g f s L p w h.on.dec hh hnl.2 hnd.2 true (decide_eq_true heq))
    have HC := hide (fun m => codesH_any g f s L p (w.drewN m) (h.drewN m).on.dec (hh.keep (S := []) ((Only.refl [] w).drewN m) (Other.nil _)) hnl hnd heq h15)
    have HQ := hide heq
    clear h hh h15 hlt heq hL
    go_enter Tryd.func72, Tryd.ntmps72
    go_wp2_with fail
    refine (HW.out).mono ?_
    rintro e w1 ⟨rfl, m, rfl⟩
    go_wp2_with fail
    refine (HC.out m).mono ?_
    rintro e w2 ⟨ho2, hcase⟩
    have o2 : Only [] w w2 := ((Only.refl [] w).drewN m).trans ho2 (by simp)
    have h2 := HH.out.still o2
    have c353 : w2.cell? ⟨g, 353, none⟩ = some f.co := h2.on.dec.co
    have f353 : w2.frozen? ⟨g, 353, none⟩ = false := Has.free h2.on.dec 353
    have H2 := hide (And.intro o2 h2)
    clear o2 h2 ho2
    generalize f.co = u at c353
    rcases hcase with ⟨hok, gc, rfl, hcd⟩ | ⟨hno, rfl⟩
    · have HO := hide (And.intro hok hcd)
      clear hok hcd
      go_wp2_with fail
      go_ret2
      have oW : Only [g] w2 (w2.setCell ⟨g, 353, none⟩ (.pointer (some ⟨gc, 0, none⟩))) := (Only.refl [g] _).setCell (by simp) _
      exact ⟨7, 0, _, rfl, H2.out.2.cells oW (Dc.set_co H2.out.2.on.dec _) rfl rfl (H2.out.2.keepX oW), (H2.out.1.of_nil (T := [g])).trans oW (by simp), .inr (.inl ⟨HQ.out, HO.out.1, rfl, rfl, _, rfl, H2.out.2.keepV oW ⟨gc, rfl, HO.out.2⟩⟩)⟩
    · go_wp2_with fail
      go_ret2
      exact ⟨5, 3, f, rfl, H2.out.2, H2.out.1.of_nil, .inr (.inr ⟨HQ.out, hno, rfl, rfl, rfl⟩)⟩

set_option maxRecDepth 100000 in
set_option maxHeartbeats 4000000 in
/-- What a symbol says beyond its least: m the least, n bits. -/
theorem addF_any (B : List UInt8) (a o : Nat) (l : List UInt8) (hs : Src B a o l) (g gf gw gr : Nat) (K : List Nat) (f : DF) (v vo : Value) (q : Nat) (all x : List UInt8) (w : World) (h : Rn w g gf gw gr K f v vo l q all x) (m n : Nat) (hm : m ≤ 30000) (hn : n ≤ 13) :
    (8 * a < 8 * o + q + n ∧ Calls Tryd.prog 83 #[.pointer (some ⟨gf, 0, none⟩), .agg #[.int .u16 (m : Int), .int .u8 (n : Int)]] w (fun e w' => e = .returned (.tuple #[.int .i64 0, .int .i64 2]) ∧ Rn w' g gf gw gr K f v vo l q all x ∧ Only [gr] w w')) ∨
    (8 * o + q + n ≤ 8 * a ∧ Calls Tryd.prog 83 #[.pointer (some ⟨gf, 0, none⟩), .agg #[.int .u16 (m : Int), .int .u8 (n : Int)]] w (fun e w' => e = .returned (.tuple #[.int .i64 ((m + num B / 2 ^ (8 * o + q) % 2 ^ n : Nat) : Int), .int .i64 0]) ∧ Rn w' g gf gw gr K f v vo l (q + n) all x ∧ Only [gr] w w')) := by
  have hwn : IntKind.i64.wrap (n : Int) = (n : Int) := Go.Proofs.YtopjkmobnmaaaaaDoor.wrap64 rfl (by omega)
  have hwm : IntKind.i64.wrap (m : Int) = (m : Int) := Go.Proofs.YtopjkmobnmaaaaaDoor.wrap64 rfl (by omega)
  have HH := hide h
  have HB := fun W (hR : Rd W gr v l q) => bits_gen hs gr v q n (by omega) W hR
  have o0 : Only [] w (w.alloc (.cells #[.int .u16 (m : Int), .int .u8 (n : Int)] 150)).drew := ((Only.refl [] w).alloc _).drew
  have hB0 := HB _ (h.still o0).rd
  have H0 := hide (And.intro (h.still o0) o0)
  have c0 : (w.alloc (.cells #[.int .u16 (m : Int), .int .u8 (n : Int)] 150)).cell? ⟨gf, 0, none⟩ = some (.pointer (some ⟨gr, 0, none⟩)) := Has.cell (Has.alloc h.on.flow _) 0
  have k0 : (w.alloc (.cells #[.int .u16 (m : Int), .int .u8 (n : Int)] 150)).cell? ⟨w.heap.size, 0, none⟩ = some (.int .u16 (m : Int)) := Has.cell (Has.new w _ _) 0
  have k1 : (w.alloc (.cells #[.int .u16 (m : Int), .int .u8 (n : Int)] 150)).cell? ⟨w.heap.size, 1, none⟩ = some (.int .u8 (n : Int)) := Has.cell (Has.new w _ _) 1
  have hlt : w.heap.size < ((w.alloc (.cells #[.int .u16 (m : Int), .int .u8 (n : Int)] 150)).drew).heap.size := Has.lt (Has.new w _ _)
  have hngr : w.heap.size ≠ gr := Nat.ne_of_gt h.rd.1.lt
  have HM := hide (And.intro hlt hngr)
  clear HB o0 h hs hlt hngr
  rcases hB0 with ⟨hfar, hB⟩ | ⟨hnear, hB⟩
  · refine .inl ⟨hfar, ?_⟩
    have HBB := hide hB
    clear hB hfar hm hwm
    go_enter Tryd.func83, Tryd.ntmps83
    go_wp2_with fail
    have HK := hide (And.intro k0 (And.intro HM.out H0.out))
    clear HM H0 HH
    generalize w.alloc (.cells #[.int .u16 (m : Int), .int .u8 (n : Int)] 150) = w0 at *
    generalize w.heap.size = G at *
    go_region_with (go_at_call 57; refine (HBB.out).mono ?_; rintro e w1 ⟨rfl, ho1, hr1⟩)
    all_goals
      go_wp2_with fail
      go_ret2
      exact ⟨rfl, HK.out.2.2.1.read ho1 hr1, (HK.out.2.2.2.of_nil (T := [gr])).trans ho1 (by simp)⟩
  · refine .inr ⟨hnear, ?_⟩
    have HBB := hide hB
    clear hB hnear
    obtain ⟨z, hz⟩ : ∃ z, z = num B / 2 ^ (8 * o + q) % 2 ^ n := ⟨_, rfl⟩
    have hz2 : z < 8192 := by
      have h1 : z < 2 ^ n := by rw [hz]; exact Nat.mod_lt _ (Nat.two_pow_pos _)
      have h2 : 2 ^ n ≤ 2 ^ 13 := Nat.pow_le_pow_right (by decide) hn
      omega
    rw [← hz] at HBB ⊢
    clear hz
    go_enter Tryd.func83, Tryd.ntmps83
    go_wp2_with fail
    have HK := hide (And.intro k0 (And.intro HM.out H0.out))
    clear HM H0 HH
    generalize w.alloc (.cells #[.int .u16 (m : Int), .int .u8 (n : Int)] 150) = w0 at *
    generalize w.heap.size = G at *
    go_region_with (go_at_call 57; refine (HBB.out).mono ?_; rintro e w1 ⟨rfl, ho1, hr1⟩; have cm := (ho1.cell (p := ⟨G, 0, none⟩) HK.out.2.1.1 (by simpa using HK.out.2.1.2)).trans HK.out.1; have H1 := hide (And.intro ho1 hr1); clear ho1 hr1)
    all_goals
      go_wp2_with fail
      go_ret2
      exact ⟨rfl, HK.out.2.2.1.read H1.out.1 H1.out.2, (HK.out.2.2.2.of_nil (T := [gr])).trans H1.out.1 (by simp)⟩
end Go.Proofs.YtopjkmobnmaaaaaDoor

