/-
  Package inflate, all streams: Write. | Package zlib: what waits, and what a header may be.
-/
import Derived.Test.YtlknhiihdejpeaaGreatDoorMFlT
import Derived.Test.YtlknhiihdejpeaaGreatDoorMHufX
namespace Go.Proofs.YtlknhiihdejpeaaGreatDoor
open Go Go.RowKit

/-- A decoder between two Writes: a bytes of B have come, those from byte o on wait; it stands at s, where bits lack. -/
structure Rest (w : World) (g gw gt : Nat) (f : DF) (B : List UInt8) (a o : Nat) (s : GSt) : Prop where
  dec : Dc w g f
  ring : Rg w gw s.out
  wb : f.wb = .slice (some ⟨gw, 0, none⟩) 32768 32768
  wn : f.wn = s.out.length
  wt : f.wt = .slice (some ⟨gt, 0, none⟩) (a - o) 4
  wts : w.ownsRow 0 5 1 (.slice (some ⟨gt, 0, none⟩) (a - o) 4) (a - o) (bvals ((B.take a).drop o))
  gwt : gw ≠ gt
  md : Md w f s
  k : f.k = s.k
  wf : s.Wf
  pt : Pt s o f.ps
  ps : f.ps < 8
  oa : o ≤ a
  aB : a ≤ B.length
  pa : 8 * o + f.ps ≤ 8 * a
  fx : f.fx = .pointer none ∨ CdV w f.fx fixedL fixedD2
  gg : g ∉ Gs ∧ gw ∉ Gs ∧ gt ∉ Gs
  k11 : s.k ≠ 11
  far : 8 * a < (Nx B f.most s).1
  fault : f.fault = 0

/-- What comes of a Write of n bytes. -/
def Wrote (B : List UInt8) (a n : Nat) (g gw gt : Nat) (f : DF) (s : GSt) (w : World) (e : Ending) (w' : World) : Prop :=
  ∃ (c : Nat) (y : List UInt8) (v : Value) (f' : DF), e = .returned (.tuple #[v, .int .i64 (c : Int)]) ∧ Only [g, gw, gt] w w' ∧ (∀ b, v.ownBlock = some b → w.heap.size ≤ b) ∧ f'.most = f.most ∧ f'.z = f.z ∧ f'.tail = f.tail ∧ Dc w' g f' ∧ f'.fault = c ∧
    f'.wb = .slice (some ⟨gw, 0, none⟩) 32768 32768 ∧
    ((c = 0 ∧ w'.ownsRow 0 5 1 v y.length (bvals y) ∧ f'.total = f.total + y.length ∧ s.out.length + y.length ≤ f.most ∧
        ((f'.k = 11 ∧ ∃ t, End B (a + n) f.most s 0 t ∧ f'.used = f.used + ((t.p + 7) / 8 - a) ∧ t.p ≤ 8 * (a + n) ∧ t.out = s.out ++ y ∧ ∃ z, f'.wt = .slice (some ⟨gt, 0, none⟩) z 4) ∨
          (f'.used = f.used + n ∧ ∃ o' t, End B (a + n) f.most s 2 t ∧ t.out = s.out ++ y ∧ Rest w' g gw gt f' B (a + n) o' t))) ∨
      ((c = 3 ∨ c = 5) ∧ v = .slice none 0 0 ∧ f'.used = f.used ∧ ∃ t, End B (a + n) f.most s c t ∧ f'.k ≠ 11 ∧ ∃ z, f'.wt = .slice (some ⟨gt, 0, none⟩) z 4))

/-- b[k:h]. -/
theorem run_between {w : World} {A : Option Addr} {n c : Nat} {l : List UInt8} (h : Holds w 1 A n (bvals l)) (hn : n ≤ c) (k m hi : Nat) (hm : 0 < m) (hk : k + m ≤ n) (he : hi = k + m) :
    ∃ A' c', (∀ w', (Instr.slice 22 (.slice A n c) (some (.int .i64 (k : Int))) (some (.int .i64 (hi : Int))) none).run Tryz.prog w' = .ok (.slice A' m c') w') ∧ Holds w 1 A' m (bvals ((l.drop k).take m)) := by
  refine ⟨A.map (·.add (k * 1)), c - k, fun w' => ?_, ?_⟩
  · rw [run_slice_lh (w := w') 22 A n c bytes_elem .i64 .i64 k hi (by omega) (by omega) (by omega), bytes_size]
    have hck : ¬ c = k := by omega
    simp [sliced, Result.andThen, hck]
    omega
  · have := h.cut hk
    rw [Nat.mul_one, Nat.mul_one, ← bvals_drop, ← bvals_take] at this
    rw [Nat.mul_one]
    exact this

/-- While a Write goes on: u bytes of n were gone through. -/
def Wlp (B : List UInt8) (a n : Nat) (g G gw gt : Nat) (f : DF) (s : GSt) (w : World) (i : Value) (wr : World) : Prop :=
  ∃ (u : Nat) (y : List UInt8) (rp vo : Value) (f' : DF), i = .int .i64 (u : Int) ∧ u ≤ n ∧ Only [g, gw, gt] w wr ∧ (∀ b, vo.ownBlock = some b → w.heap.size ≤ b) ∧
    f'.most = f.most ∧ f'.used = f.used ∧ f'.total = f.total ∧ f'.z = f.z ∧ f'.tail = f.tail ∧ s.out.length + y.length ≤ f.most ∧
    (((f'.fault = 0 ∧ ∃ z, f'.wt = .slice (some ⟨gt, 0, none⟩) z 4) ∧ f'.k = 11 ∧ ∃ t, End B (a + n) f.most s 0 t ∧ a + u = (t.p + 7) / 8 ∧ t.p ≤ 8 * (a + n) ∧ t.out = s.out ++ y ∧ On wr g G gw [] f' rp vo (s.out ++ y) y) ∨
      (f'.fault = 0 ∧ ∃ o t, End B (a + u) f.most s 2 t ∧ t.out = s.out ++ y ∧ Btw wr g G gw gt f' rp vo B (a + u) o t y) ∨
      ((f'.fault = 3 ∨ f'.fault = 5) ∧ ∃ t, (End B (a + n) f.most s f'.fault t ∧ f'.k ≠ 11 ∧ ∃ z, f'.wt = .slice (some ⟨gt, 0, none⟩) z 4) ∧ On wr g G gw [] f' rp vo (s.out ++ y) y))

theorem Wlp.start {B : List UInt8} {a o n g gw gt : Nat} {f : DF} {s : GSt} {w : World} (h : Rest w g gw gt f B a o s) (hl : s.out.length ≤ f.most) :
    Wlp B a n g w.heap.size gw gt f s w (.int .i64 0) (w.alloc (.cells #[.pointer none, .slice none 0 0] 147)) := by
  have hgf : Has (w.alloc (.cells #[.pointer none, .slice none 0 0] 147)) w.heap.size 147 #[.pointer none, .slice none 0 0] := Has.new w _ _
  have o0 : Only [] w (w.alloc (.cells #[.pointer none, .slice none 0 0] 147)) := (Only.refl [] w).alloc _
  have hG := h.md.tab.gs
  refine ⟨0, [], .pointer none, .slice none 0 0, f, rfl, Nat.zero_le _, o0.of_nil, by simp [Value.ownBlock], rfl, rfl, rfl, rfl, rfl, by simpa using hl, .inr (.inl ⟨h.fault, o, s, .short s h.k11 h.far, by simp, ?_⟩)⟩
  refine ⟨⟨Has.only h.dec o0 (by simp), h.ring.only o0 (by simp), h.wb, h.wn, hgf, World.ownsRow_nil _ _ _ _, by simp [Value.ownBlock], fun k hk => ⟨by simp [Value.ownBlock], ?_⟩⟩, h.wt, own_keep h.wts o0 (by simp), h.gwt, h.md.keep o0 (Other.nil _), h.k, h.wf, h.pt, h.ps, h.oa, h.aB, h.pa, h.fx.imp id (fun hx => hx.keep o0 (Other.nil _)), ⟨h.gg.1, fun hm => by have := hG _ hm; omega, h.gg.2.1⟩, h.gg.2.2, h.k11, h.far⟩
  have hsz := o0.size
  rcases List.mem_cons.1 hk with rfl | hk
  · have := (h.wts.lt k rfl).2; omega
  · have := hG k hk; omega
/-- One piece more. -/
theorem Wlp.next {B : List UInt8} {a n g G gw gt u m c : Nat} {f f' : DF} {s t : GSt} {w wr w2 : World} {y : List UInt8} {vo : Value} (hun : u + m ≤ n) (hm0 : 0 < m) (hfr : Only [g, gw, gt] w wr) (hvo : ∀ b, vo.ownBlock = some b → w.heap.size ≤ b) (hG : w.heap.size ≤ G)
    (hmo : f'.most = f.most) (hus : f'.used = f.used) (hto : f'.total = f.total) (hz : f'.z = f.z) (htl : f'.tail = f.tail) (hf0 : f'.fault = 0) (hE : End B (a + u) f.most s 2 t) (htout : t.out = s.out ++ y) (ho : s.p ≤ 8 * (a + u)) {z : Nat} (hwt : f'.wt = .slice (some ⟨gt, 0, none⟩) z 4)
    (hF : Fed B (a + u) m g G gw gt f' vo y t wr c w2) : Wlp B a n g G gw gt f s w (.int .i64 ((u + c : Nat) : Int)) w2 ∧ 0 < c ∧ c ≤ m := by
  obtain ⟨y2, rp2, vo2, f2, hfr2, hvo2, h1, h2, h3, h4, h5, hle, hcase⟩ := hF
  have hsz := hfr.size
  have hw : ∀ i, i ∈ [g, G, gw, gt] ++ vo.ownBlock.toList → i < w.heap.size → i ∈ [g, gw, gt] := fun i hi hlt => by
    simp only [List.mem_append, List.mem_cons, List.not_mem_nil, or_false] at hi ⊢
    rcases hi with (rfl | rfl | rfl | rfl) | hi
    · simp
    · omega
    · simp
    · simp
    · have := hvo i (mem_own.1 hi); omega
  rw [hmo] at hcase hle
  rw [htout] at hcase hle
  rw [List.length_append] at hle
  have hle2 : s.out.length + (y ++ y2).length ≤ f.most := by rw [List.length_append]; omega
  have hvo3 : ∀ b, vo2.ownBlock = some b → w.heap.size ≤ b := fun b hb => by
    rcases hvo2 b hb with h | h
    · exact hvo b h
    · omega
  have wide : ∀ {e t2}, e ≠ 2 → End B (a + u + m) f.most t e t2 → End B (a + n) f.most s e t2 := fun he h => (hE.more (by omega) h).wide he (by omega)
  rcases hcase with ⟨q1, q2, t2, q3, q4, q5, q6, q7, q8⟩ | ⟨q1, q2, o2, t2, q3, q4, q5⟩ | ⟨q1, q2, t2, q3, q4⟩
  · have hE2 := wide (by decide) q3
    refine ⟨⟨u + c, y ++ y2, rp2, vo2, f2, rfl, by omega, hfr.trans hfr2 hw, hvo3, h1.trans hmo, h2.trans hus, h3.trans hto, h4.trans hz, h5.trans htl, hle2, .inl ⟨⟨q1.1.trans hf0, z, q1.2.trans hwt⟩, q2, t2, hE2, by omega, (hE2.on (by omega)).2.1, by rw [q7, List.append_assoc], by rw [← List.append_assoc]; exact q8⟩⟩, q5, q6⟩
  · subst q2
    refine ⟨⟨u + c, y ++ y2, rp2, vo2, f2, rfl, by omega, hfr.trans hfr2 hw, hvo3, h1.trans hmo, h2.trans hus, h3.trans hto, h4.trans hz, h5.trans htl, hle2, .inr (.inl ⟨q1.trans hf0, o2, t2, ?_, by rw [q4, List.append_assoc], ?_⟩)⟩, ?_, Nat.le_refl _⟩
    · rw [← Nat.add_assoc]; exact hE.more (by omega) q3
    · rw [← Nat.add_assoc]; exact q5
    · exact hm0
  · have h25 : f2.fault ≠ 2 := by omega
    refine ⟨⟨u + c, y ++ y2, rp2, vo2, f2, rfl, by omega, hfr.trans hfr2 hw, hvo3, h1.trans hmo, h2.trans hus, h3.trans hto, h4.trans hz, h5.trans htl, hle2, .inr (.inr ⟨q1, t2, ⟨wide h25 q3.1, q3.2.1, z, q3.2.2.trans hwt⟩, by rw [← List.append_assoc]; exact q4⟩)⟩, ?_, by omega⟩
    omega

set_option maxRecDepth 100000 in
set_option maxHeartbeats 8000000 in
theorem write_all (B : List UInt8) (a o n cb : Nat) (A : Option Addr) (g gw gt : Nat) (f : DF) (s : GSt) (w : World) (h : Rest w g gw gt f B a o s)
    (hb : Holds w 1 A n (bvals ((B.drop a).take n))) (hcb : n ≤ cb) (han : a + n ≤ B.length) (hB : B.length ≤ 90000) (hl : s.out.length ≤ f.most) (hmost : f.most ≤ 1073741824) (hu : f.used + n ≤ 1000000000) (ht : f.total ≤ 1000000000)
    (hA : 0 < n → ∀ ad, A = some ad → ad.block ∉ [g, gw, gt]) :
    Calls Tryz.prog 61 #[.pointer (some ⟨g, 0, none⟩), .slice A n cb] w (Wrote B a n g gw gt f s w) := by
  have hsp : s.p ≤ 8 * a := h.pt.le h.pa
  have HI := hide (And.intro h (And.intro hb (And.intro han (And.intro hB (And.intro hl (And.intro hmost (And.intro hA (And.intro hcb hsp))))))))
  have HU := hide (And.intro hu ht)
  have HST := hide (Wlp.start (n := n) h hl)
  clear h hb han hB hl hmost hA hcb hu ht hsp
  go_enter Tryz.func61, Tryz.ntmps61
  go_wp2_with fail
  go_loopw [7] (fun i wr => Wlp B a n g w.heap.size gw gt f s w i wr) (fun i _ => n - (intOf i).toNat)
  case atStart => exact HST.out
  case round =>
    obtain ⟨u, y, rp, vo, f', rfl, hun, hfr, hvo, hmo, hus, hto, hz, htl, hy, hcase⟩ := hrel
    rcases hcase with ⟨h0, h11, t, hE, hau, htp, hto2, hon⟩ | ⟨h0, o', t, hE, hto2, hbt⟩ | ⟨h35, t, hE, hon⟩
    · have k2 : wr.cell? ⟨g, 2, none⟩ = some (.int .i64 0) := by have := hon.dec.fault; rw [h0.1] at this; exact this
      have hD := hide (done_any g f' wr hon.dec true (by rw [h11]; rfl))
      have hfin : ∀ wz, Only [g] wr wz → Dc wz g { f' with used := f'.used + u, total := f'.total + y.length } → Wrote B a n g gw gt f s w (.returned (.tuple #[vo, .int .i64 0])) wz := fun wz ho hd => by
        refine ⟨0, y, vo, { f' with used := f'.used + u, total := f'.total + y.length }, rfl, hfr.trans ho (by simp), hvo, hmo, hz, htl, hd, h0.1, hon.wb, .inl ⟨rfl, own_keep hon.out ho (fun b hb hm => ?_), ?_, hy, .inl ⟨h11, t, hE, ?_, htp, hto2, h0.2⟩⟩⟩
        · obtain rfl : b = g := by simpa using hm
          exact hon.g_vo hb.symm
        · show f'.total + y.length = f.total + y.length
          rw [hto]
        · show f'.used + u = f.used + ((t.p + 7) / 8 - a)
          rw [hus]; omega
      have HFIN := hide hfin
      have k3 := hon.dec.used
      have q3 : wr.frozen? ⟨g, 3, none⟩ = false := Has.free hon.dec 3
      have hgn : g ≠ w.heap.size := hon.g_gf
      have hgn' : w.heap.size ≠ g := fun e => hgn e.symm
      have hub : f'.used + u ≤ 1000000000 := by have := HU.out.1; omega
      have htb : f'.total ≤ 1000000000 := by have := HU.out.2; omega
      have hyb : y.length ≤ 1073741824 := by have := HI.out.2.2.2.2.2.1; omega
      obtain ⟨Av, cv, rfl, _, _⟩ := own_shape hon.out
      have HJ := hide hon
      clear hfr hvo hmo hus hto hz htl hy hon h0 hE hto2 hfin h11 hau htp
      go_wp2_with fail
      refine (hD.out).mono ?_
      rintro e w1 ⟨rfl, rfl⟩
      go_wp2_with fail
      have d3 : Dc (wr.setCell ⟨g, 3, none⟩ (.int .i64 ((f'.used : Int) + (u : Int)))) g { f' with used := f'.used + u } := Dc.set_used HJ.out.dec (f'.used + u)
      have o3 : Only [g] wr (wr.setCell ⟨g, 3, none⟩ (.int .i64 ((f'.used : Int) + (u : Int)))) := (Only.refl [g] wr).setCell (by simp) _
      have k4 : (wr.setCell ⟨g, 3, none⟩ (.int .i64 ((f'.used : Int) + (u : Int)))).drew.cell? ⟨g, 4, none⟩ = some (.int .i64 (f'.total : Int)) := d3.total
      have q4 : (wr.setCell ⟨g, 3, none⟩ (.int .i64 ((f'.used : Int) + (u : Int)))).drew.frozen? ⟨g, 4, none⟩ = false := Has.free d3 4
      have k1 : (wr.setCell ⟨g, 3, none⟩ (.int .i64 ((f'.used : Int) + (u : Int)))).drew.cell? ⟨w.heap.size, 1, none⟩ = some (.slice Av y.length cv) := (Has.only HJ.out.flow o3 (by simpa using hgn')).cell 1
      have HD := hide (And.intro d3 o3)
      clear d3 o3
      generalize wr.setCell ⟨g, 3, none⟩ (.int .i64 ((f'.used : Int) + (u : Int))) = w3 at *
      go_region
      all_goals
        have k5 : (w3.setCell ⟨g, 4, none⟩ (.int .i64 ((f'.total : Int) + (y.length : Int)))).drew.cell? ⟨w.heap.size, 1, none⟩ = some (.slice Av y.length cv) := by
          have := (Has.only HJ.out.flow (HD.out.2.trans (((Only.refl [g] w3).setCell (p := ⟨g, 4, none⟩) (by simp) (.int .i64 ((f'.total : Int) + (y.length : Int)))).drew) (by simp)) (by simpa using hgn')).cell 1
          exact this
        go_wp2_with fail
        go_ret2
        exact HFIN.out _ (HD.out.2.trans (((Only.refl [g] w3).setCell (p := ⟨g, 4, none⟩) (by simp) (.int .i64 ((f'.total : Int) + (y.length : Int)))).drew) (by simp)) (Dc.set_total HD.out.1 (f'.total + y.length))
    · have hwn : u = n ∨ u < n := by omega
      have hD := hide (done_any g f' wr hbt.on.dec false (decide_eq_false (by have h1 := hbt.k; have h2 := hbt.k11; omega)))
      have k2 : wr.cell? ⟨g, 2, none⟩ = some (.int .i64 0) := by have := hbt.on.dec.fault; rw [h0] at this; exact this
      by_cases hu : u < n
      · obtain ⟨m, hm⟩ : ∃ m, m = min 4096 (n - u) := ⟨_, rfl⟩
        have hbr : Holds wr 1 A n (bvals ((B.drop a).take n)) := HI.out.2.1.keepPos hfr (fun h0 ad ha _ => HI.out.2.2.2.2.2.2.1 h0 ad ha)
        obtain ⟨hi, hhi⟩ : ∃ hi, hi = u + m := ⟨_, rfl⟩
        obtain ⟨A', c', hsl, hhl⟩ := run_between hbr HI.out.2.2.2.2.2.2.2.1 u m hi (by omega) (by omega) hhi
        have hpart : (((B.drop a).take n).drop u).take m = (B.drop (a + u)).take m := by
          rw [List.drop_take, List.take_take, Nat.min_eq_left (by omega), List.drop_drop]
        rw [hpart] at hhl
        have hFd := feed_all B (a + u) o' m c' A' g w.heap.size gw gt f' rp vo y t wr hbt hhl (by omega) (by omega) (by have := HI.out.2.2.1; omega) (by rw [hmo, hto2, List.length_append]; exact hy) (by rw [hmo]; exact HI.out.2.2.2.2.2.1) (by rw [hto2, List.length_append]; omega)
        have hmin : (if (n : Int) < (u : Int) + 4096 then (n : Int) else (u : Int) + 4096) = (hi : Int) := by split <;> omega
        have hub : u + 4096 ≤ 2000000000 := by have := HU.out.1; omega
        have hnext := fun c w2 => Wlp.next (n := n) (c := c) (w2 := w2) (show u + m ≤ n by omega) (show 0 < m by omega) hfr hvo (Nat.le_refl _) hmo hus hto hz htl h0 hE hto2 (by have := HI.out.2.2.2.2.2.2.2.2; omega) hbt.wt
        have HJ := hide (And.intro hFd (And.intro hnext hm))
        clear hfr hvo hmo hus hto hz htl hy h0 hE hto2 hbt hbr hhl hpart hFd hm hhi hwn hnext
        go_wp2_with fail
        refine (hD.out).mono ?_
        rintro e w1 ⟨rfl, rfl⟩
        go_wp2_with fail
        refine (HJ.out.1).mono ?_
        rintro e w2 ⟨c, rfl, hF⟩
        have hN := HJ.out.2.1 c w2 hF
        have hcb : c ≤ 1000000000 := by have := HU.out.1; have := HJ.out.2.2; omega
        have HN := hide hN
        clear hF hN
        go_wp2_with fail
        go_roundw
        case rel => exact HN.out.1
        case measure => have := HN.out.2; have := HJ.out.2.2; simp [intOf]; omega
      · obtain rfl : u = n := by omega
        have hon := hbt.on
        have hfin : ∀ wz, Only [g] wr wz → Dc wz g { f' with used := f'.used + u, total := f'.total + y.length } → Wrote B a u g gw gt f s w (.returned (.tuple #[vo, .int .i64 0])) wz := fun wz ho hd => by
          have hO : Other wr [g] := fun k hk _ => by
            obtain rfl : k = g := by simpa using hk
            exact ⟨⟨_, _, _, hbt.on.dec, f'.ne_ty (by decide) (by decide), f'.ne_ty (by decide) (by decide)⟩, hbt.gg.1⟩
          have hM := hbt.md.keep ho hO
          refine ⟨0, y, vo, { f' with used := f'.used + u, total := f'.total + y.length }, rfl, hfr.trans ho (by simp), hvo, hmo, hz, htl, hd, h0, hbt.on.wb, .inl ⟨rfl, own_keep hbt.on.out ho (fun b hb hm => ?_) |> fun h => h, ?_, hy, .inr ⟨?_, o', t, hE, hto2, ⟨hd, hbt.on.ring.only ho (by simpa using fun e => hbt.on.g_gw e.symm), hbt.on.wb, hbt.on.wn, hbt.wt, own_keep hbt.wts ho (fun b hb hm => ?_), hbt.gwt, ⟨hM.last, hM.left, hM.co, hM.sy, hM.le, hM.hd, hM.tab⟩, hbt.k, hbt.wf, hbt.pt, hbt.ps, hbt.oa, hbt.aB, hbt.pa, hbt.fx.imp id (fun hx => hx.keep ho hO), ⟨hbt.gg.1, hbt.gg.2.2, hbt.gtG⟩, hbt.k11, hbt.far, h0⟩⟩⟩⟩
          · obtain rfl : b = g := by simpa using hm
            exact hbt.on.g_vo hb.symm
          · show f'.total + y.length = f.total + y.length
            rw [hto]
          · show f'.used + u = f.used + u
            rw [hus]
          · obtain rfl : b = g := by simpa using hm
            exact own_ne hbt.wts hbt.on.dec (DF.ty_ne _ (by decide) (by decide)) hb.symm
        have HFIN := hide hfin
        have k3 := hon.dec.used
        have q3 : wr.frozen? ⟨g, 3, none⟩ = false := Has.free hon.dec 3
        have hgn : g ≠ w.heap.size := hon.g_gf
        have hgn' : w.heap.size ≠ g := fun e => hgn e.symm
        have hub : f'.used + u ≤ 1000000000 := by have := HU.out.1; omega
        have htb : f'.total ≤ 1000000000 := by have := HU.out.2; omega
        have hyb : y.length ≤ 1073741824 := by have := HI.out.2.2.2.2.2.1; omega
        obtain ⟨Av, cv, rfl, _, _⟩ := own_shape hon.out
        have HJ := hide hon
        clear hfr hvo hmo hus hto hz htl hy hon h0 hE hto2 hfin hbt
        go_wp2_with fail
        refine (hD.out).mono ?_
        rintro e w1 ⟨rfl, rfl⟩
        go_wp2_with fail
        have d3 : Dc (wr.setCell ⟨g, 3, none⟩ (.int .i64 ((f'.used : Int) + (u : Int)))) g { f' with used := f'.used + u } := Dc.set_used HJ.out.dec (f'.used + u)
        have o3 : Only [g] wr (wr.setCell ⟨g, 3, none⟩ (.int .i64 ((f'.used : Int) + (u : Int)))) := (Only.refl [g] wr).setCell (by simp) _
        have k4 : (wr.setCell ⟨g, 3, none⟩ (.int .i64 ((f'.used : Int) + (u : Int)))).drew.cell? ⟨g, 4, none⟩ = some (.int .i64 (f'.total : Int)) := d3.total
        have q4 : (wr.setCell ⟨g, 3, none⟩ (.int .i64 ((f'.used : Int) + (u : Int)))).drew.frozen? ⟨g, 4, none⟩ = false := Has.free d3 4
        have k1 : (wr.setCell ⟨g, 3, none⟩ (.int .i64 ((f'.used : Int) + (u : Int)))).drew.cell? ⟨w.heap.size, 1, none⟩ = some (.slice Av y.length cv) := (Has.only HJ.out.flow o3 (by simpa using hgn')).cell 1
        have HD := hide (And.intro d3 o3)
        clear d3 o3
        generalize wr.setCell ⟨g, 3, none⟩ (.int .i64 ((f'.used : Int) + (u : Int))) = w3 at *
        go_region
        all_goals
          have k5 : (w3.setCell ⟨g, 4, none⟩ (.int .i64 ((f'.total : Int) + (y.length : Int)))).drew.cell? ⟨w.heap.size, 1, none⟩ = some (.slice Av y.length cv) := by
            have := (Has.only HJ.out.flow (HD.out.2.trans (((Only.refl [g] w3).setCell (p := ⟨g, 4, none⟩) (by simp) (.int .i64 ((f'.total : Int) + (y.length : Int)))).drew) (by simp)) (by simpa using hgn')).cell 1
            exact this
          go_wp2_with fail
          go_ret2
          exact HFIN.out _ (HD.out.2.trans (((Only.refl [g] w3).setCell (p := ⟨g, 4, none⟩) (by simp) (.int .i64 ((f'.total : Int) + (y.length : Int)))).drew) (by simp)) (Dc.set_total HD.out.1 (f'.total + y.length))
    · have k2 := hon.dec.fault
      have HJ := hide (And.intro hfr (And.intro hmo (And.intro hz (And.intro htl (And.intro hus (And.intro hE hon))))))
      clear hfr hvo hmo hus hto hz htl hy hE hon
      rcases h35 with h5 | h5
      all_goals
        rw [h5] at k2
        have H5 := hide h5
        clear h5
        go_wp2_with fail
        go_region
        all_goals
          go_wp2_with fail
          go_ret2
          have hJ := HJ.out
          have hE := hJ.2.2.2.2.2.1
          rw [H5.out] at hE
          exact ⟨_, [], .slice none 0 0, f', rfl, hJ.1.trans ((Only.refl [] wr).drew) (by simp), by simp [Value.ownBlock], hJ.2.1, hJ.2.2.1, hJ.2.2.2.1, Has.only hJ.2.2.2.2.2.2.dec ((Only.refl [] wr).drew) (by simp), H5.out, hJ.2.2.2.2.2.2.wb, .inr ⟨by first | exact .inl rfl | exact .inr rfl, rfl, hJ.2.2.2.2.1, t, hE⟩⟩
end Go.Proofs.YtlknhiihdejpeaaGreatDoor


namespace Go.Proofs.YtlknhiihdejpeaaGreatDoor
open Go Go.RowKit

/-- A decoder's tail: its sum, its part, the four bytes that wait, how many wait. -/
def tailZ (sm : Value) (part : Nat) (b : List UInt8) (n : Nat) : List Value := [sm, .int .i64 (part : Int)] ++ (bvals b ++ [.int .i64 (n : Int)])

theorem arr4_elem : Tryz.prog.underlying 55 = some (.array (Tryz.prog.arrayLen 55) (Tryz.prog.elem 55)) := by kernel_rfl
theorem arr4_len : Tryz.prog.arrayLen 55 = 4 := by kernel_rfl
theorem arr4_size (w : World) : (sizeOf (Tryz.prog.elem 55)).run Tryz.prog w = .ok 1 w := by kernel_rfl
theorem run_arr4_h (g o n : Nat) (hn : n ≤ 4) (w : World) : (Instr.sliceAt 55 (.pointer (some ⟨g, o, none⟩)) none (some (.int .i64 (n : Int))) none).run Tryz.prog w = .ok (.slice (some ⟨g, o, none⟩) n 4) w := by
  rw [run_sliceAt_array_h w 55 ⟨g, o, none⟩ arr4_elem .i64 (n : Int) (by omega) (by rw [arr4_len]; omega), arr4_size]
  simp [slicedAt, Result.andThen, arr4_len, Addr.add]
theorem run_arr4_lh (g o l m : Nat) (hl : l < 4) (hm : l ≤ m) (hn : m ≤ 4) (w : World) : (Instr.sliceAt 55 (.pointer (some ⟨g, o, none⟩)) (some (.int .i64 (l : Int))) (some (.int .i64 (m : Int))) none).run Tryz.prog w = .ok (.slice (some ⟨g, o + l, none⟩) (m - l) (4 - l)) w := by
  rw [run_sliceAt_array_lh w 55 ⟨g, o, none⟩ arr4_elem .i64 .i64 (l : Int) (m : Int) (by omega) (by omega) (by rw [arr4_len]; omega), arr4_size]
  have h1 : ¬ (4 : Nat) = l := by omega
  simp [slicedAt, Result.andThen, arr4_len, add_none, h1]

/-- Whether a header may begin so. -/
def mayHead (h : List UInt8) : Bool := match h with
  | [] => true
  | [a] => a.toNat % 16 == 8 && decide (a.toNat / 16 ≤ 7)
  | a :: b :: _ => (a.toNat % 16 == 8 && decide (a.toNat / 16 ≤ 7)) && ((a.toNat * 256 + b.toNat) % 31 == 0 && b.toNat / 32 % 2 == 0)
end Go.Proofs.YtlknhiihdejpeaaGreatDoor

