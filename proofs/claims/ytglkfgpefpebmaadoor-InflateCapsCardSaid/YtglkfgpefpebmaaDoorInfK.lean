/-
  Package inflate: Write.
-/
import Derived.Test.YtglkfgpefpebmaaDoorInfJ
namespace Go.Proofs.YtglkfgpefpebmaaDoor
open Go Go.RowKit

/-- A decoder between two Writes. -/
structure Rest (w : World) (g gw : Nat) (f : DF) (B : List UInt8) (a o : Nat) (s : St) (all : List UInt8) : Prop where
  dec : Dc w g f
  ring : Rg w gw all
  wb : f.wb = .slice (some ⟨gw, 0, none⟩) 32768 32768
  wn : f.wn = all.length
  wts : w.ownsRow 0 5 1 f.wt (a - o) (bvals ((B.take a).drop o))
  gwt : f.wt.ownBlock ≠ some gw
  mt : Mt f s o f.ps all
  ps : f.ps < 8
  oa : o ≤ a
  aB : a ≤ B.length
  pa : 8 * o + f.ps ≤ 8 * a
  fx : f.fx = .pointer none ∨ CdV w f.fx
  co : f.k = 7 → CdV w f.co

/-- What comes of a Write of n bytes. -/
def Wrote (B : List UInt8) (a n : Nat) (g gw : Nat) (f : DF) (all : List UInt8) (E : St) (w : World) (e : Ending) (w' : World) : Prop :=
  ∃ (c : Nat) (y : List UInt8) (v : Value) (f' : DF), e = .returned (.tuple #[v, .int .i64 (c : Int)]) ∧ Only ([g, gw] ++ f.wt.ownBlock.toList) w w' ∧ (∀ b, v.ownBlock = some b → w.heap.size ≤ b) ∧
    ((c = 0 ∧ w'.ownsRow 0 5 1 v y.length (bvals y) ∧ f'.total = f.total + y.length ∧ f'.most = f.most ∧ all.length + y.length ≤ f.most ∧
        ((f'.k = 11 ∧ f'.used = f.used + ((E.p + 7) / 8 - a) ∧ E.p ≤ 8 * (a + n) ∧ E.out = all ++ y ∧ Dc w' g f') ∨
          (f'.k ≠ 11 ∧ f'.used = f.used + n ∧ 8 * (a + n) < E.p ∧ f'.fault = f.fault ∧ ∃ o' s', Rest w' g gw f' B (a + n) o' s' (all ++ y) ∧ Way fixedL (num B) s' E))) ∨
      (c = 5 ∧ v = .slice none 0 0 ∧ y = [] ∧ f.most < E.out.length))

/-- b[k:h]. -/
theorem run_between {w : World} {A : Option Addr} {n c : Nat} {l : List UInt8} (h : Holds w 1 A n (bvals l)) (hn : n ≤ c) (k m hi : Nat) (hm : 0 < m) (hk : k + m ≤ n) (he : hi = k + m) :
    ∃ A' c', (∀ w', (Instr.slice 22 (.slice A n c) (some (.int .i64 (k : Int))) (some (.int .i64 (hi : Int))) none).run Tryd.prog w' = .ok (.slice A' m c') w') ∧ Holds w 1 A' m (bvals ((l.drop k).take m)) := by
  refine ⟨A.map (·.add (k * 1)), c - k, fun w' => ?_, ?_⟩
  · rw [run_slice_lh (w := w') 22 A n c bytes_elem .i64 .i64 k hi (by omega) (by omega) (by omega), bytes_size]
    have hck : ¬ c = k := by omega
    simp [sliced, Result.andThen, hck]
    omega
  · have := h.cut hk
    rw [Nat.mul_one, Nat.mul_one, ← bvals_drop, ← bvals_take] at this
    rw [Nat.mul_one]
    exact this

/-- While a Write goes on: u bytes of n were gone through. -/
def Wlp (B : List UInt8) (a n : Nat) (g G gw : Nat) (f : DF) (all : List UInt8) (E : St) (w : World) (i : Value) (wr : World) : Prop :=
  ∃ (u : Nat) (y : List UInt8) (rp vo : Value) (f' : DF), i = .int .i64 (u : Int) ∧ u ≤ n ∧ Only ([g, gw] ++ f.wt.ownBlock.toList) w wr ∧ (∀ b, vo.ownBlock = some b → w.heap.size ≤ b) ∧ (∀ b, f'.wt.ownBlock = some b → f.wt.ownBlock = some b ∨ w.heap.size ≤ b) ∧
    f'.most = f.most ∧ f'.used = f.used ∧ f'.total = f.total ∧ all.length + y.length ≤ f.most ∧
    ((f'.fault = 0 ∧ f'.k = 11 ∧ a + u = (E.p + 7) / 8 ∧ E.p ≤ 8 * (a + n) ∧ E.out = all ++ y ∧ On wr g G gw [] f' rp vo (all ++ y) y) ∨
      (f'.fault = 0 ∧ f'.k ≠ 11 ∧ 8 * (a + u) < E.p ∧ ∃ o s, Btw wr g G gw f' rp vo B (a + u) o s (all ++ y) y ∧ Way fixedL (num B) s E) ∨
      (f'.fault = 5 ∧ f.most < E.out.length ∧ On wr g G gw [] f' rp vo (all ++ y) y))

set_option maxRecDepth 100000 in
set_option maxHeartbeats 8000000 in
theorem write_any (B : List UInt8) (a o n cb : Nat) (A : Option Addr) (g gw : Nat) (f : DF) (all : List UInt8) (E s : St) (w : World) (h : Rest w g gw f B a o s all) (hw : Way fixedL (num B) s E) (hE : E.k = 11) (hs11 : s.k ≠ 11) (hEa : 8 * a < E.p) (hf : f.fault = 0)
    (hb : Holds w 1 A n (bvals ((B.drop a).take n))) (hcb : n ≤ cb) (han : a + n ≤ B.length) (hB : B.length ≤ 90000) (hl : all.length ≤ f.most) (hmost : f.most ≤ 1073741824) (hu : f.used + n ≤ 1000000000) (ht : f.total ≤ 1000000000)
    (hA : 0 < n → ∀ ad, A = some ad → ad.block ∉ [g, gw] ++ f.wt.ownBlock.toList) :
    Calls Tryd.prog 30 #[.pointer (some ⟨g, 0, none⟩), .slice A n cb] w (Wrote B a n g gw f all E w) := by
  have hk : f.k ≠ 11 := by rw [h.mt.k]; exact hs11
  have HI := hide (And.intro h (And.intro hw (And.intro hE (And.intro hs11 (And.intro hEa (And.intro hf (And.intro hb (And.intro han (And.intro hB (And.intro hl (And.intro hmost (And.intro hA (And.intro hk hcb)))))))))))))
  have HU := hide (And.intro hu ht)
  clear h hw hE hs11 hEa hf hb han hB hl hmost hA hk hcb hu ht
  go_enter Tryd.func30, Tryd.ntmps30
  go_wp2_with fail
  have hgf : Has (w.alloc (.cells #[.pointer none, .slice none 0 0] 111)) w.heap.size 111 #[.pointer none, .slice none 0 0] := Has.new w _ _
  have o0 : Only [] w (w.alloc (.cells #[.pointer none, .slice none 0 0] 111)) := (Only.refl [] w).alloc _
  have hstart : Wlp B a n g w.heap.size gw f all E w (.int .i64 0) (w.alloc (.cells #[.pointer none, .slice none 0 0] 111)) := by
    have h := HI.out.1
    refine ⟨0, [], .pointer none, .slice none 0 0, f, rfl, Nat.zero_le _, o0.of_nil, by simp [Value.ownBlock], fun b hb => .inl hb, rfl, rfl, rfl, by simpa using HI.out.2.2.2.2.2.2.2.2.2.1, .inr (.inl ⟨HI.out.2.2.2.2.2.1, HI.out.2.2.2.2.2.2.2.2.2.2.2.2.1, HI.out.2.2.2.2.1, o, s, ?_, HI.out.2.1⟩)⟩
    have hO : Other w [] := fun k hk _ => by simp at hk
    rw [List.append_nil]
    exact ⟨⟨Has.only h.dec o0 (by simp), h.ring.only o0 (by simp), h.wb, h.wn, hgf, World.ownsRow_nil _ _ _ _, by simp [Value.ownBlock], fun k hk => ⟨by simp [Value.ownBlock], by have := (h.wts.lt k (mem_own.1 hk)).2; simp; omega⟩⟩, own_keep h.wts o0 (by simp), h.gwt, h.mt, h.ps, h.oa, h.aB, h.pa, h.fx.imp id (fun hx => hx.keep o0 hO), fun hk => (h.co hk).keep o0 hO⟩
  have HST := hide hstart
  clear hgf o0 hstart
  go_loopw [7] (fun i wr => Wlp B a n g w.heap.size gw f all E w i wr) (fun i _ => n - (intOf i).toNat)
  case atStart => exact HST.out
  case round =>
    obtain ⟨u, y, rp, vo, f', rfl, hun, hfr, hvo, hwt, hmo, hus, hto, hy, hcase⟩ := hrel
    rcases hcase with ⟨h0, h11, hau, hEp, hEo, hon⟩ | ⟨h0, h11, hfar, o', s', hbt, hW⟩ | ⟨h5, hlong, hon⟩
    · have k2 : wr.cell? ⟨g, 2, none⟩ = some (.int .i64 0) := by have := hon.dec.fault; rw [h0] at this; exact this
      have hD := hide (done_any g f' wr hon.dec true (by rw [h11]; rfl))
      have hfin : ∀ wz, Only [g] wr wz → Dc wz g { f' with used := f'.used + u, total := f'.total + y.length } → Wrote B a n g gw f all E w (.returned (.tuple #[vo, .int .i64 0])) wz := fun wz ho hd => by
        refine ⟨0, y, vo, { f' with used := f'.used + u, total := f'.total + y.length }, rfl, hfr.trans ho (by simp), hvo, .inl ⟨rfl, own_keep hon.out ho (fun b hb hm => ?_), ?_, ?_, hy, .inl ⟨h11, ?_, hEp, hEo, hd⟩⟩⟩
        · obtain rfl : b = g := by simpa using hm
          exact hon.g_vo hb.symm
        · show f'.total + y.length = f.total + y.length
          rw [hto]
        · exact hmo
        · show f'.used + u = f.used + ((E.p + 7) / 8 - a)
          rw [hus]; omega
      have HFIN := hide hfin
      have k3 := hon.dec.used
      have q3 : wr.frozen? ⟨g, 3, none⟩ = false := Has.free hon.dec 3
      have hgn : g ≠ w.heap.size := hon.g_gf
      have hgn' : w.heap.size ≠ g := fun e => hgn e.symm
      have hub : f'.used + u ≤ 1000000000 := by have := HU.out.1; omega
      have htb : f'.total ≤ 1000000000 := by have := HU.out.2; omega
      have hyb : y.length ≤ 1073741824 := by have := HI.out.2.2.2.2.2.2.2.2.2.2.1; omega
      obtain ⟨Av, cv, rfl, _, _⟩ := own_shape hon.out
      have HJ := hide hon
      clear hfr hvo hwt hmo hus hto hy hon h0 h11 hau hEp hEo hfin
      go_wp2_with fail
      refine (hD.out).mono ?_
      rintro e w1 ⟨rfl, rfl⟩
      go_wp2_with fail
      have d3 : Dc (wr.setCell ⟨g, 3, none⟩ (.int .i64 ((f'.used : Int) + (u : Int)))) g { f' with used := f'.used + u } := Dc.set_used HJ.out.dec (f'.used + u)
      have o3 : Only [g] wr (wr.setCell ⟨g, 3, none⟩ (.int .i64 ((f'.used : Int) + (u : Int)))) := (Only.refl [g] wr).setCell (by simp) _
      have k4 : (wr.setCell ⟨g, 3, none⟩ (.int .i64 ((f'.used : Int) + (u : Int)))).drew.cell? ⟨g, 4, none⟩ = some (.int .i64 (f'.total : Int)) := d3.total
      have q4 : (wr.setCell ⟨g, 3, none⟩ (.int .i64 ((f'.used : Int) + (u : Int)))).drew.frozen? ⟨g, 4, none⟩ = false := Has.free d3 4
      have k1 : (wr.setCell ⟨g, 3, none⟩ (.int .i64 ((f'.used : Int) + (u : Int)))).drew.cell? ⟨w.heap.size, 1, none⟩ = some (.slice Av y.length cv) := (Has.only HJ.out.flow o3 (by simpa using hgn')).cell 1
      have HD := hide (And.intro d3 o3)
      clear d3 o3
      generalize wr.setCell ⟨g, 3, none⟩ (.int .i64 ((f'.used : Int) + (u : Int))) = w3 at *
      go_region
      all_goals
        have k5 : (w3.setCell ⟨g, 4, none⟩ (.int .i64 ((f'.total : Int) + (y.length : Int)))).drew.cell? ⟨w.heap.size, 1, none⟩ = some (.slice Av y.length cv) := by
          have := (Has.only HJ.out.flow (HD.out.2.trans (((Only.refl [g] w3).setCell (p := ⟨g, 4, none⟩) (by simp) (.int .i64 ((f'.total : Int) + (y.length : Int)))).drew) (by simp)) (by simpa using hgn')).cell 1
          exact this
        go_wp2_with fail
        go_ret2
        exact HFIN.out _ (HD.out.2.trans (((Only.refl [g] w3).setCell (p := ⟨g, 4, none⟩) (by simp) (.int .i64 ((f'.total : Int) + (y.length : Int)))).drew) (by simp)) (Dc.set_total HD.out.1 (f'.total + y.length))
    · have k2 : wr.cell? ⟨g, 2, none⟩ = some (.int .i64 0) := by have := hbt.on.dec.fault; rw [h0] at this; exact this
      have hD := hide (done_any g f' wr hbt.on.dec false (decide_eq_false (by omega)))
      by_cases hu : u < n
      · obtain ⟨m, hm⟩ : ∃ m, m = min 4096 (n - u) := ⟨_, rfl⟩
        have hbr : Holds wr 1 A n (bvals ((B.drop a).take n)) := HI.out.2.2.2.2.2.2.1.keepPos hfr (fun h0 ad ha _ => HI.out.2.2.2.2.2.2.2.2.2.2.2.1 h0 ad ha)
        obtain ⟨hi, hhi⟩ : ∃ hi, hi = u + m := ⟨_, rfl⟩
        obtain ⟨A', c', hsl, hhl⟩ := run_between hbr HI.out.2.2.2.2.2.2.2.2.2.2.2.2.2 u m hi (by omega) (by omega) hhi
        have hpart : (((B.drop a).take n).drop u).take m = (B.drop (a + u)).take m := by
          rw [List.drop_take, List.take_take, Nat.min_eq_left (by omega), List.drop_drop]
        rw [hpart] at hhl
        have hFd := feed_any B (a + u) o' m c' A' g w.heap.size gw f' rp vo (all ++ y) y E s' wr hbt hW HI.out.2.2.1 (fun e => h11 (by rw [hbt.mt.k, e])) hfar hhl (by omega) (by omega) (by have := HI.out.2.2.2.2.2.2.2.1; omega) (by have := HI.out.2.2.2.2.2.2.2; omega) (by rw [hmo, List.length_append]; exact hy) (by rw [hmo]; exact HI.out.2.2.2.2.2.2.2.2.2.2.1) (by rw [List.length_append]; omega)
        have hmin : (if (n : Int) < (u : Int) + 4096 then (n : Int) else (u : Int) + 4096) = (hi : Int) := by split <;> omega
        have hub : u + 4096 ≤ 2000000000 := by have := HU.out.1; omega
        have HJ := hide (And.intro hFd (And.intro hfr (And.intro hvo (And.intro hwt (And.intro hmo (And.intro hus (And.intro hto (And.intro hy (And.intro h0 (And.intro hbt (And.intro hm hfar)))))))))))
        clear hfr hvo hwt hmo hus hto hy h0 h11 hfar hW hbt hbr hhl hpart hFd hm hhi
        go_wp2_with fail
        refine (hD.out).mono ?_
        rintro e w1 ⟨rfl, rfl⟩
        go_wp2_with fail
        refine (HJ.out.1).mono ?_
        rintro e w2 ⟨c, y2, rp2, vo2, f2, rfl, hfr2, hvo2, hwt2, hmo2, hus2, hto2, hy2, hcase⟩
        have hm := HJ.out.2.2.2.2.2.2.2.2.2.2.1
        have hcm : 0 < c ∧ c ≤ m := by
          have hfar := HJ.out.2.2.2.2.2.2.2.2.2.2.2
          rcases hcase with ⟨_, _, h3, h4, _⟩ | ⟨_, h2, _⟩ | ⟨_, h2, _⟩
          · omega
          · omega
          · omega
        have hun2 : u + c ≤ n := by omega
        have hsz := HJ.out.2.1.size
        have hG : ∀ i, i ∈ [g, w.heap.size, gw] ++ (vo.ownBlock.toList ++ f'.wt.ownBlock.toList) → i < w.heap.size → i ∈ [g, gw] ++ f.wt.ownBlock.toList := fun i hi hlt => by
          simp only [List.mem_append, List.mem_cons, List.not_mem_nil, or_false] at hi ⊢
          rcases hi with (rfl | rfl | rfl) | hi | hi
          · simp
          · omega
          · simp
          · have := HJ.out.2.2.1 i (mem_own.1 hi); omega
          · rcases HJ.out.2.2.2.1 i (mem_own.1 hi) with h | h
            · exact .inr (mem_own.2 h)
            · omega
        have HW : Wlp B a n g w.heap.size gw f all E w (.int .i64 ((u + c : Nat) : Int)) w2 := by
          refine ⟨u + c, y ++ y2, rp2, vo2, f2, rfl, hun2, HJ.out.2.1.trans hfr2 hG, fun b hb => ?_, fun b hb => ?_, hmo2.trans HJ.out.2.2.2.2.1, hus2.trans HJ.out.2.2.2.2.2.1, hto2.trans HJ.out.2.2.2.2.2.2.1, ?_, ?_⟩
          · rcases hvo2 b hb with h | h
            · exact HJ.out.2.2.1 b h
            · omega
          · rcases hwt2 b hb with h | h
            · exact HJ.out.2.2.2.1 b h
            · exact .inr (by omega)
          · have h1 := HJ.out.2.2.2.2.1
            rw [List.length_append] at hy2
            rw [List.length_append]
            omega
          · rw [← List.append_assoc]
            rcases hcase with ⟨h1, h2, h3, h4, h5, h6⟩ | ⟨h1, h2, h3, h4, o2, s2, h5, h6⟩ | ⟨h1, h2, h3, h4⟩
            · exact .inl ⟨by rw [h1]; exact HJ.out.2.2.2.2.2.2.2.2.1, h2, by omega, by omega, h5, h6⟩
            · subst h2
              rw [Nat.add_assoc] at h3 h5
              exact .inr (.inl ⟨by rw [h1]; exact HJ.out.2.2.2.2.2.2.2.2.1, h4, h3, o2, s2, h5, h6⟩)
            · exact .inr (.inr ⟨h1, by rw [← HJ.out.2.2.2.2.1]; exact h3, h4⟩)
        have HWH := hide HW
        have HCM := hide hcm
        have hcb : c ≤ 1000000000 := by have := HU.out.1; omega
        clear hfr2 hvo2 hwt2 hmo2 hus2 hto2 hy2 hcase hm hcm hG HW hsz
        go_wp2_with fail
        go_roundw
        case rel => exact HWH.out
        case measure => have := HCM.out; simp [intOf]; omega
      · obtain rfl : u = n := by omega
        have hfin : ∀ wz, Only [g] wr wz → Dc wz g { f' with used := f'.used + u, total := f'.total + y.length } → Wrote B a u g gw f all E w (.returned (.tuple #[vo, .int .i64 0])) wz := fun wz ho hd => by
          have hO : Other wr [g] := fun k hk _ => by
            obtain rfl : k = g := by simpa using hk
            exact ⟨_, _, _, hbt.on.dec, by decide, by decide⟩
          refine ⟨0, y, vo, { f' with used := f'.used + u, total := f'.total + y.length }, rfl, hfr.trans ho (by simp), hvo, .inl ⟨rfl, own_keep hbt.on.out ho (fun b hb hm => ?_), ?_, ?_, hy, .inr ⟨h11, ?_, hfar, by rw [HI.out.2.2.2.2.2.1]; exact h0, o', s', ⟨hd, hbt.on.ring.only ho (by simpa using fun e => hbt.on.g_gw e.symm), hbt.on.wb, hbt.on.wn, own_keep hbt.wts ho (fun b hb hm => ?_), hbt.gwt, ⟨hbt.mt.k, hbt.mt.last, hbt.mt.left, hbt.mt.out, hbt.mt.p, hbt.mt.ks, hbt.mt.few⟩, hbt.ps, hbt.oa, hbt.aB, hbt.pa, hbt.fx.imp id (fun hx => hx.keep ho hO), fun h7 => (hbt.co h7).keep ho hO⟩, hW⟩⟩⟩
          · obtain rfl : b = g := by simpa using hm
            exact hbt.on.g_vo hb.symm
          · show f'.total + y.length = f.total + y.length
            rw [hto]
          · exact hmo
          · show f'.used + u = f.used + u
            rw [hus]
          · obtain rfl : b = g := by simpa using hm
            exact own_ne hbt.wts hbt.on.dec (by decide) hb.symm
        have hon := hbt.on
        have HFIN := hide hfin
        have k3 := hon.dec.used
        have q3 : wr.frozen? ⟨g, 3, none⟩ = false := Has.free hon.dec 3
        have hgn : g ≠ w.heap.size := hon.g_gf
        have hgn' : w.heap.size ≠ g := fun e => hgn e.symm
        have hub : f'.used + u ≤ 1000000000 := by have := HU.out.1; omega
        have htb : f'.total ≤ 1000000000 := by have := HU.out.2; omega
        have hyb : y.length ≤ 1073741824 := by have := HI.out.2.2.2.2.2.2.2.2.2.2.1; omega
        obtain ⟨Av, cv, rfl, _, _⟩ := own_shape hon.out
        have HJ := hide hon
        clear hfr hvo hwt hmo hus hto hy hon h0 h11 hfar hW hbt hfin
        go_wp2_with fail
        refine (hD.out).mono ?_
        rintro e w1 ⟨rfl, rfl⟩
        go_wp2_with fail
        have d3 : Dc (wr.setCell ⟨g, 3, none⟩ (.int .i64 ((f'.used : Int) + (u : Int)))) g { f' with used := f'.used + u } := Dc.set_used HJ.out.dec (f'.used + u)
        have o3 : Only [g] wr (wr.setCell ⟨g, 3, none⟩ (.int .i64 ((f'.used : Int) + (u : Int)))) := (Only.refl [g] wr).setCell (by simp) _
        have k4 : (wr.setCell ⟨g, 3, none⟩ (.int .i64 ((f'.used : Int) + (u : Int)))).drew.cell? ⟨g, 4, none⟩ = some (.int .i64 (f'.total : Int)) := d3.total
        have q4 : (wr.setCell ⟨g, 3, none⟩ (.int .i64 ((f'.used : Int) + (u : Int)))).drew.frozen? ⟨g, 4, none⟩ = false := Has.free d3 4
        have k1 : (wr.setCell ⟨g, 3, none⟩ (.int .i64 ((f'.used : Int) + (u : Int)))).drew.cell? ⟨w.heap.size, 1, none⟩ = some (.slice Av y.length cv) := (Has.only HJ.out.flow o3 (by simpa using hgn')).cell 1
        have HD := hide (And.intro d3 o3)
        clear d3 o3
        generalize wr.setCell ⟨g, 3, none⟩ (.int .i64 ((f'.used : Int) + (u : Int))) = w3 at *
        go_region
        all_goals
          have k5 : (w3.setCell ⟨g, 4, none⟩ (.int .i64 ((f'.total : Int) + (y.length : Int)))).drew.cell? ⟨w.heap.size, 1, none⟩ = some (.slice Av y.length cv) := by
            have := (Has.only HJ.out.flow (HD.out.2.trans (((Only.refl [g] w3).setCell (p := ⟨g, 4, none⟩) (by simp) (.int .i64 ((f'.total : Int) + (y.length : Int)))).drew) (by simp)) (by simpa using hgn')).cell 1
            exact this
          go_wp2_with fail
          go_ret2
          exact HFIN.out _ (HD.out.2.trans (((Only.refl [g] w3).setCell (p := ⟨g, 4, none⟩) (by simp) (.int .i64 ((f'.total : Int) + (y.length : Int)))).drew) (by simp)) (Dc.set_total HD.out.1 (f'.total + y.length))
    · have k2 : wr.cell? ⟨g, 2, none⟩ = some (.int .i64 5) := by have := hon.dec.fault; rw [h5] at this; exact this
      have HJ := hide (And.intro hfr hlong)
      clear hfr hvo hwt hmo hus hto hy hlong hon h5
      go_wp2_with fail
      go_region
      all_goals
        go_wp2_with fail
        go_ret2
        exact ⟨5, [], .slice none 0 0, f, rfl, HJ.out.1.trans ((Only.refl [] wr).drew) (by simp), by simp [Value.ownBlock], .inr ⟨rfl, rfl, rfl, HJ.out.2⟩⟩
end Go.Proofs.YtglkfgpefpebmaaDoor
