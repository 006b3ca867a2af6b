/-
  The tables of inflate, as the rows list them: what their cells hold. | Package inflate, all streams: how many lengths a dynamic block has.
-/
import Derived.Test.YtlknhiihdejpeaaGreatDoorMMem
import Derived.Test.YtlknhiihdejpeaaGreatDoorMFlP
import Derived.Test.YtlknhiihdejpeaaGreatDoorCards
import Derived.Test.YtlknhiihdejpeaaGreatDoorTie
import Derived.LaidMore
import Derived.Lib.LaidTab
import Derived.Lay
import Derived.SevenTiedAt
import Derived.Stop.Joined
import Derived.Deep.MidRow
namespace Go.Proofs.YtlknhiihdejpeaaGreatDoor
open Go Go.RowKit Go.ChangeShapes Go.WideShapes Go.ChangeAt

def laidI : List (String × DataW Unit) := [("phosphor/inflate.ranks", Rows.laid_phosphor_inflate_ranks), ("phosphor/inflate.lengths", Rows.laid_phosphor_inflate_lengths), ("phosphor/inflate.distances", Rows.laid_phosphor_inflate_distances)]

def reachD (l : List (Nat × Nat)) : DataW Unit := .agg (l.map fun x => .agg [.lit (.int .u16 (x.1 : Int)), .lit (.int .u8 (x.2 : Int))])
def lenL : List (Nat × Nat) := (List.range 29).map fun i => (lenM (257 + i), lenB (257 + i))
def dstL : List (Nat × Nat) := (List.range 30).map fun i => (dstM i, dstB i)
theorem ranks_data : (Rows.laid_phosphor_inflate_ranks : DataW Unit) = Lib.tabData .u8 (rankN.map fun (n : Nat) => (n : Int)) := by rfl
theorem lengths_data : (Rows.laid_phosphor_inflate_lengths : DataW Unit) = reachD lenL := by rfl
theorem dists_data : (Rows.laid_phosphor_inflate_distances : DataW Unit) = reachD dstL := by rfl

set_option maxRecDepth 100000 in
/-- A table of pairs, read. -/
theorem cells_of_reach {W : World} {enc : TypeId × Value → Unit} {base : Nat} {sp : Nat → Bool} {held : Bool} {fuel n : Nat} {t : TypeId} {cs : List Value} {l : List (Nat × Nat)} {p : List MemPlace}
    (ht : Tryz.prog.underlying t = some (.array n 181)) (hl : l.length = n) (h : DataW.trod enc Tryz.prog W base sp held fuel t cs = some (reachD l, p)) (i : Nat) (hi : i < n) :
    cs[2 * i]? = some (.int .u16 ((l.getD i (0, 0)).1 : Int)) ∧ cs[2 * i + 1]? = some (.int .u8 ((l.getD i (0, 0)).2 : Int)) := by
  obtain ⟨xs, m, _, hx, _, hxl, hat⟩ := DataW.trod_array ht h
  have hc : Tryz.prog.cellsOf 181 = 2 := by kernel_rfl
  have h1 := hat i hi
  rw [hc] at h1
  have hxi : xs[i]? = some xs[i] := List.getElem?_eq_getElem (by omega)
  rw [hxi] at h1
  have hd : (xs[i]'(by omega)).1 = .agg [.lit (.int .u16 ((l.getD i (0, 0)).1 : Int)), .lit (.int .u8 ((l.getD i (0, 0)).2 : Int))] := by
    have hm : xs.map (·.1) = l.map fun x => (DataW.agg [.lit (.int .u16 (x.1 : Int)), .lit (.int .u8 (x.2 : Int))] : DataW Unit) := by
      have := congrArg Prod.fst hx
      simp only [reachD] at this
      injection this with h
      exact h.symm
    have hi2 := congrArg (fun z => z[i]?) hm
    simp only [List.getElem?_map, hxi, List.getElem?_eq_getElem (show i < l.length by omega), Option.map_some, Option.some.injEq] at hi2
    rw [hi2, List.getD_eq_getElem?_getD, List.getElem?_eq_getElem (by omega)]
    rfl
  obtain ⟨y0, y1, k, hy, _, f0, f1⟩ := trod_struct2 Tryz.underlying181 h1
  have c0 : Tryz.prog.cellsOf 118 = 1 := by kernel_rfl
  have c1 : Tryz.prog.cellsOf 5 = 1 := by kernel_rfl
  obtain ⟨a, ha, hya, _⟩ := DataW.trod_int Tryz.underlying118 f0
  obtain ⟨b, hb, hyb, _⟩ := DataW.trod_int Tryz.underlying5 f1
  rw [hy, hya, hyb] at hd
  simp at hd
  obtain ⟨rfl, rfl⟩ := hd
  have ha' : List.take (Tryz.prog.cellsOf 118) (List.drop 0 (List.take 2 (List.drop (i * 2) cs))) = _ := ha
  have hb' : List.take (Tryz.prog.cellsOf 5) (List.drop 1 (List.take 2 (List.drop (i * 2) cs))) = _ := hb
  rw [c0] at ha'
  rw [c1] at hb'
  have ha2 := congrArg (fun z => z[0]?) ha'
  have hb2 := congrArg (fun z => z[0]?) hb'
  simp only [List.getElem?_take, List.getElem?_drop, List.getElem?_cons_zero] at ha2 hb2
  simp at ha2 hb2
  rw [Nat.mul_comm i 2] at ha2 hb2
  rw [List.getD_eq_getElem?_getD]
  exact ⟨ha2, hb2⟩

set_option maxRecDepth 100000 in
theorem tab_of_laid {W : World} (h : laidMetH Tryz.prog laidI W) : Tab W := by
  rw [MakeChecks.laidMetH_plain _ _ _ (by kernel_rfl)] at h
  obtain ⟨ps, ⟨g0, t0, cs0, f0, p0, q0, hg0, ht0, hv0, hd0, ⟨g1, t1, cs1, f1, p1, q1, hg1, ht1, hv1, hd1, ⟨g2, t2, cs2, f2, p2, q2, hg2, ht2, hv2, hd2, _, _⟩, _⟩, _⟩, _, _⟩ := h
  have gR : Tryz.prog.globalNamed "phosphor/inflate.ranks" = some 0 := by kernel_rfl
  have gL : Tryz.prog.globalNamed "phosphor/inflate.lengths" = some 1 := by kernel_rfl
  have gD : Tryz.prog.globalNamed "phosphor/inflate.distances" = some 2 := by kernel_rfl
  obtain rfl := Option.some.inj (gR.symm.trans hg0)
  obtain rfl := Option.some.inj (gL.symm.trans hg1)
  obtain rfl := Option.some.inj (gD.symm.trans hg2)
  obtain rfl := Option.some.inj ((show (Tryz.prog.globals[0]?).map (·.type) = some 42 by kernel_rfl).symm.trans ht0)
  obtain rfl := Option.some.inj ((show (Tryz.prog.globals[1]?).map (·.type) = some 182 by kernel_rfl).symm.trans ht1)
  obtain rfl := Option.some.inj ((show (Tryz.prog.globals[2]?).map (·.type) = some 184 by kernel_rfl).symm.trans ht2)
  rw [ranks_data] at hd0
  rw [lengths_data] at hd1
  rw [dists_data] at hd2
  have e0 := Lib.cells_of_tab Tryz.underlying42 Tryz.underlying5 (by kernel_rfl) (by kernel_rfl) hd0
  have i0 : Lib.TabIs Tryz.prog W "phosphor/inflate.ranks" .u8 (rankN.map fun (n : Nat) => (n : Int)) := by unfold Lib.TabIs; rw [hv0, ← e0]
  have l1 : lenL.length = 29 := by simp [lenL]
  have l2 : dstL.length = 30 := by simp [dstL]
  refine ⟨fun i hi => ?_, fun i hi => ?_, fun i hi => ?_⟩
  · have h := i0.cell gR i (by simpa [rankN] using hi)
    rw [h]
    congr 2
    simp only [List.getD_eq_getElem?_getD, List.getElem?_map]
    cases rankN[i]? <;> rfl
  · obtain ⟨q1, q2⟩ := cells_of_reach Tryz.underlying182 l1 hd1 i hi
    have e : lenL.getD i (0, 0) = (lenM (257 + i), lenB (257 + i)) := by simp [lenL, List.getD_eq_getElem?_getD, hi]
    rw [e] at q1 q2
    rw [Array.getElem?_toList] at q1 q2
    exact ⟨(World.var?_cell gL hv1 _).trans q1, (World.var?_cell gL hv1 _).trans q2⟩
  · obtain ⟨q1, q2⟩ := cells_of_reach Tryz.underlying184 l2 hd2 i hi
    have e : dstL.getD i (0, 0) = (dstM i, dstB i) := by simp [dstL, List.getD_eq_getElem?_getD, hi]
    rw [e] at q1 q2
    rw [Array.getElem?_toList] at q1 q2
    exact ⟨(World.var?_cell gD hv2 _).trans q1, (World.var?_cell gD hv2 _).trans q2⟩

/-- The door's own heap meets the condition. -/
theorem door_met (os : Os) (args : Array Value) : laidMetH Tryz.prog laidI ((World.doorLaid Tryz.prog 400 os).forCall (fun _ _ => 0) ⟨#[], args, []⟩).memory :=
  laidMetH_of_parts3 (fuel := 8) (laidMet_of_run' 8 (by kernel_rfl) (by kernel_rfl)) (by kernel_rfl) (by kernel_rfl)
end Go.Proofs.YtlknhiihdejpeaaGreatDoor


namespace Go.Proofs.YtlknhiihdejpeaaGreatDoor
open Go Go.RowKit

theorem Only.setCells (S : List Nat) (g : Nat) (hg : g ∈ S) : ∀ (vs : List Value) (o : Nat) (a w : World), Only S a w → Only S a (w.setCells g o vs)
  | [], _, _, _, h => h
  | v :: r, o, a, w, h => Only.setCells S g hg r (o + 1) a _ (h.setCell (by simp [hg]) v)
theorem Has.setCells (g : Nat) (t : TypeId) : ∀ (vs : List Value) (o : Nat) (w : World) (cs : Array Value), Has w g t cs →
    ∃ cs', Has (w.setCells g o vs) g t cs' ∧ cs'.size = cs.size ∧ ∀ i : Nat, cs'[i]? = if o ≤ i ∧ i < o + vs.length ∧ i < cs.size then vs[i - o]? else cs[i]?
  | [], o, w, cs, h => ⟨cs, h, rfl, fun i => by rw [if_neg (by simp only [List.length_nil]; omega)]⟩
  | v :: r, o, w, cs, h => by
    obtain ⟨cs', h1, h2, h3⟩ := Has.setCells g t r (o + 1) _ _ (h.set o v)
    refine ⟨cs', h1, by rw [h2, Array.size_setIfInBounds], fun i => ?_⟩
    rw [h3, Array.size_setIfInBounds, Array.getElem?_setIfInBounds, List.length_cons]
    by_cases hi : o = i
    · subst hi
      rw [if_neg (by omega), if_pos rfl]
      by_cases hs : o < cs.size
      · rw [if_pos hs, if_pos (by omega)]; simp
      · rw [if_neg hs, if_neg (by omega), Array.getElem?_eq_none (by omega)]
    · by_cases hr : o + 1 ≤ i ∧ i < o + 1 + r.length ∧ i < cs.size
      · rw [if_pos hr, if_pos (by omega), show i - o = (i - (o + 1)) + 1 by omega, List.getElem?_cons_succ]
      · rw [if_neg hr, if_neg hi, if_neg (by omega)]

/-- A header's cells. -/
def DF.head (f : DF) (vs : List Value) : DF := { f with hd := fun j => (vs[j - 11]?).getD (.int .i64 0) }
theorem Dc.set_head {w : World} {g : Nat} {f : DF} (h : Dc w g f) (vs : List Value) (hv : vs.length = 342) : Dc (w.setCells g 11 vs) g (f.head vs) := by
  obtain ⟨cs', h1, h2, h3⟩ := Has.setCells g f.ty vs 11 w f.cells h
  have : cs' = (f.head vs).cells := by
    apply Array.ext_getElem?
    intro i
    rw [h3, hv, DF.cells_size]
    by_cases hi : i < 357
    · rw [DF.cells_get _ hi, DF.cells_get _ hi]
      by_cases h4 : 11 ≤ i ∧ i < 353
      · have e : (f.head vs).at i = (vs[i - 11]?).getD (.int .i64 0) := by
          simp only [DF.at]
          iterate 15 rw [if_neg (by omega)]
          rfl
        rw [if_pos (by omega), e, List.getElem?_eq_getElem (by omega)]
        rfl
      · rw [if_neg (by omega)]
        have e : (f.head vs).at i = f.at i := by
          have key : ∀ j, j < 357 → ¬ (11 ≤ j ∧ j < 353) → j = 0 ∨ j = 1 ∨ j = 2 ∨ j = 3 ∨ j = 4 ∨ j = 5 ∨ j = 6 ∨ j = 7 ∨ j = 8 ∨ j = 9 ∨ j = 10 ∨ j = 353 ∨ j = 354 ∨ j = 355 ∨ j = 356 := by intro j; omega
          rcases key i hi h4 with rfl | rfl | rfl | rfl | rfl | rfl | rfl | rfl | rfl | rfl | rfl | rfl | rfl | rfl | rfl <;> rfl
        rw [e]
    · rw [if_neg (by omega), show i = 357 + (i - 357) by omega, DF.cells_tail, DF.cells_tail]
      rfl
  rw [this] at h1
  exact h1
theorem Dc.there {w : World} {g : Nat} {f : DF} (h : Dc w g f) : w.there g 11 342 := fun j hj => ⟨by rw [Dc.hd h (by omega) (by omega)]; rfl, Has.free h _⟩

/-- A header behind its counts. -/
def hdNewV (x y z : Value) : List Value := [x, y, z] ++ (List.replicate 19 (.int .u8 0) ++ ([.int .i64 0, .pointer none, .int .i64 0] ++ (List.replicate 316 (.int .u8 0) ++ [.int .i64 0])))
def hdNew (nl nd no : Nat) : List Value := hdNewV (.int .i64 (nl : Int)) (.int .i64 (nd : Int)) (.int .i64 (no : Int))
theorem hdNew_length (nl nd no : Nat) : (hdNew nl nd no).length = 342 := by
  unfold hdNew hdNewV
  simp only [List.length_append, List.length_replicate, List.length_cons, List.length_nil]
set_option maxRecDepth 100000 in
theorem zero_header (x y z : Value) : (((Tryz.zeroCells46.setIfInBounds 0 x).setIfInBounds 1 y).setIfInBounds 2 z) = (hdNewV x y z).toArray := by kernel_rfl
theorem hdNew_one (nl nd no : Nat) : (hdNew nl nd no).toArray.all (·.oneCell') = true := all_oneCell_toArray (by
  intro v hv
  simp only [hdNew, hdNewV, List.mem_append, List.mem_cons, List.not_mem_nil, or_false, List.mem_replicate] at hv
  rcases hv with (rfl | rfl | rfl) | ⟨_, rfl⟩ | (rfl | rfl | rfl) | ⟨_, rfl⟩ | rfl <;> rfl)
theorem hdNew_ok (w : World) (f : DF) (s : GSt) (h1 : s.own = List.replicate 19 0) (h2 : s.nOwn = 0) (h3 : s.lens = []) (hk : s.k = 4) : Hd w (f.head (hdNew s.nl s.nd s.no)).hd s := by
  refine ⟨rfl, rfl, rfl, fun i hi => ?_, by rw [h2]; rfl, fun h => absurd h (by omega), fun h => absurd h (by omega), fun i hi => ?_, by rw [h3]; rfl⟩
  · have hi2 : i < 19 := by rw [h1, List.length_replicate] at hi; exact hi
    have e : s.own[i]? = some 0 := by rw [h1, List.getElem?_replicate, if_pos hi2]
    rw [List.getElem?_eq_getElem hi] at e
    rw [Option.some.inj e]
    have key : ∀ j, j < 19 → (f.head (hdNew s.nl s.nd s.no)).hd (14 + j) = .int .u8 0 := by
      intro j hj
      show ((hdNew s.nl s.nd s.no)[14 + j - 11]?).getD _ = _
      rw [show 14 + j - 11 = j + 3 by omega]
      unfold hdNew hdNewV
      rw [List.getElem?_append_right (by show 3 ≤ _; omega), List.getElem?_append_left (by rw [List.length_replicate]; show j + 3 - 3 < 19; omega)]
      show ((List.replicate 19 (Value.int .u8 0))[j + 3 - 3]?).getD _ = _
      rw [List.getElem?_replicate, if_pos (by omega)]
      rfl
    exact key i hi2
  · rw [h3] at hi; exact absurd hi (by simp)

def CntP (f f' : DF) (t : GSt) : Prop := f'.k = f.k ∧ t.k = 4
def CntQ (f f' : DF) (t : GSt) : Prop := f'.k = f.k ∧ t.k = 3

theorem and31 (n : Nat) (h : n < 4294967296) : bits .and .u32 (n : Int) 31 = ((n % 32 : Nat) : Int) := by
  have := u32_and_nat n 31 h (by omega)
  rw [show (31 : Nat) = 2 ^ 5 - 1 from rfl, Nat.and_two_pow_sub_one_eq_mod] at this
  exact this

set_option maxRecDepth 100000 in
set_option maxHeartbeats 8000000 in
theorem counts_any (B : List UInt8) (a o : Nat) (l : List UInt8) (hs : Src B a o l) (g gf gw gr : Nat) (K : List Nat) (f : DF) (v vo : Value) (q : Nat) (x : List UInt8) (s : GSt) (w : World) (h : Rn w g gf gw gr K f v vo l q s.out x) (hk : s.k = 3)
    (hm : Md w f s) (hp : s.p = 8 * o + q) (hl : s.out.length ≤ f.most) :
    Calls Tryz.prog 99 #[.pointer (some ⟨g, 11, none⟩), .pointer (some ⟨gr, 0, none⟩)] w (fun e w' => ∃ c : Nat, e = .returned (.int .i64 (c : Int)) ∧ Went B a o l g gf gw gr K f v vo x s (CntP f) (CntQ f) w c w') := by
  have hnx := GSt.nx_3 (L0 := fixedL) (D0 := fixedD2) (N := num B) (most := f.most) hk
  have h11 : s.k ≠ 11 := by omega
  have HH := hide (And.intro h (And.intro hm (And.intro hp (And.intro hl (And.intro h11 hk)))))
  rcases bits_gen hs gr v q 14 (by decide) w h.rd with ⟨hfar, hB⟩ | ⟨hnear, hB⟩
  · have hend : End B a f.most s 2 s := .short s h11 (by rw [hnx]; show 8 * a < s.p + 14; omega)
    have HB := hide (And.intro hB hend)
    clear hs h hm hp hl hnx hfar hB hend h11 hk
    go_enter Tryz.func99, Tryz.ntmps99
    go_wp2_with fail
    refine (HB.out.1).mono ?_
    rintro e w1 ⟨rfl, ho1, hr1⟩
    have H1 := hide (And.intro ho1 hr1)
    clear ho1 hr1
    go_wp2_with fail
    go_ret
    have hH := HH.out
    exact ⟨2, rfl, q, [], vo, f, by simpa using hH.1.read H1.out.1 H1.out.2, (Since.refl _ _ _).step (H1.out.1.weak (by simp)), Same.refl f, by simpa using hH.2.2.2.1, .inr (.inl ⟨rfl, s, HB.out.2, by simp, hH.1.mdr hH.2.1 H1.out.1, .of hH.2.2.1 (by omega), rfl, hH.2.2.2.2.2⟩)⟩
  · rw [← hp] at hB
    have hv : num B / 2 ^ s.p % 2 ^ 14 < 16384 := Nat.mod_lt _ (by decide)
    rw [show (16384 : Nat) = 2 ^ 14 from rfl] at hnx
    generalize num B / 2 ^ s.p % 2 ^ 14 = z at *
    have hz : z < 16384 := hv
    clear hv
    obtain ⟨m1, hm1⟩ : ∃ m1, m1 = z % 32 := ⟨_, rfl⟩
    obtain ⟨d, hd⟩ : ∃ d, d = z / 32 := ⟨_, rfl⟩
    obtain ⟨m2, hm2⟩ : ∃ m2, m2 = d % 32 := ⟨_, rfl⟩
    obtain ⟨t, ht⟩ : ∃ t, t = z / 1024 := ⟨_, rfl⟩
    obtain ⟨nl, hnl⟩ : ∃ nl, nl = 257 + m1 := ⟨_, rfl⟩
    obtain ⟨nd, hnd⟩ : ∃ nd, nd = 1 + m2 := ⟨_, rfl⟩
    obtain ⟨no, hno⟩ : ∃ no, no = 4 + t := ⟨_, rfl⟩
    have e1 : bits .and .u32 (z : Int) 31 = (m1 : Int) := by rw [hm1]; exact and31 z (by omega)
    have e2 : (z : Int) / 32 = (d : Int) := by omega
    have e3 : bits .and .u32 (d : Int) 31 = (m2 : Int) := by rw [hm2]; exact and31 d (by omega)
    have e4 : (z : Int) / 1024 = (t : Int) := by omega
    have e5 : (257 : Int) + (m1 : Int) = (nl : Int) := by omega
    have e6 : (1 : Int) + (m2 : Int) = (nd : Int) := by omega
    have e7 : (4 : Int) + (t : Int) = (no : Int) := by omega
    have r1 : m1 < 32 := by omega
    have r2 : m2 < 32 := by omega
    have r3 : t < 16 := by omega
    have r4 : nl < 289 := by omega
    have r5 : nd < 33 := by omega
    have r6 : d < 512 := by omega
    dsimp only at hnx
    rw [← hm1, ← hd, ← hm2, ← ht, ← hnl, ← hnd, ← hno] at hnx
    have hbd := zero_header
    have HB := hide (And.intro hB (And.intro hnx hnear))
    have HN := hide (And.intro hnl (And.intro hnd (And.intro hno (And.intro hm1 (And.intro hm2 (And.intro hd ht))))))
    clear hs h hm hp hl hnx hnear hB h11 hk hm1 hd hm2 ht hnl hnd hno
    go_enter Tryz.func99, Tryz.ntmps99
    go_wp2_with fail
    refine (HB.out.1).mono ?_
    rintro e w1 ⟨rfl, ho1, hr1⟩
    have h1 := HH.out.1.read ho1 hr1
    have ht := h1.on.dec.there
    have HD := hide (And.intro h1 ho1)
    clear ho1 hr1 h1
    go_wp2_with (refine wpList_store_mid rfl 46 (.tmp 29) (.tmp 28) rfl g 11 (hdNew nl nd no).toArray rfl rfl (by rw [List.size_toArray, hdNew_length]; exact ht) (by rw [List.size_toArray, hdNew_length]; kernel_rfl) (hdNew_one nl nd no) ?_; clear ht hbd; change wpList _ _ _ _ _ (w1.setCells g 11 (hdNew nl nd no)); have hD2 := HD.out.1.on.dec.set_head (hdNew nl nd no) (hdNew_length nl nd no); have oW := Only.setCells [g] g (by simp) (hdNew nl nd no) 11 w1 w1 (Only.refl _ _); generalize w1.setCells g 11 (hdNew nl nd no) = w2 at *; have k11 : w2.cell? ⟨g, 11, none⟩ = some (.int .i64 (nl : Int)) := hD2.hd (by decide) (by decide); have k12 : w2.cell? ⟨g, 12, none⟩ = some (.int .i64 (nd : Int)) := hD2.hd (by decide) (by decide); have H2 := hide (And.intro hD2 oW); clear hD2 oW)
    all_goals
      go_ret
      have hR := HD.out.1.cells H2.out.2 H2.out.1 rfl rfl (HD.out.1.keepX H2.out.2)
      have oW : Only [g, gf, gw, gr] w w2 := (HD.out.2.weak (by simp)).trans (H2.out.2.weak (T := [g, gf, gw, gr]) (by simp)) (by simp)
      have hN := HN.out
      have hnx := HB.out.2.1
      by_cases hc : m1 ≤ 29 ∧ m2 ≤ 29
      · rw [if_pos hc] at hnx
        have hM := HD.out.1.mdg (HH.out.1.mdr HH.out.2.1 HD.out.2) H2.out.2
        first
          | (exfalso; omega)
          | exact ⟨0, rfl, q + 14, [], vo, f.head (hdNew nl nd no), by simpa using hR, (Since.refl _ _ _).step oW, ⟨rfl, rfl, rfl, rfl, rfl, rfl, rfl, rfl, rfl⟩, by simpa using HH.out.2.2.2.1, .inl ⟨rfl, _, .one HH.out.2.2.2.2.1 hnx (by rw [HH.out.2.2.1]; exact HB.out.2.2), by simp, ⟨HH.out.2.1.last, fun h => absurd (show (4 : Nat) = 2 from h) (by decide), fun h => absurd (show (7 : Nat) ≤ 4 from h) (by decide), fun h => absurd (show (4 : Nat) = 8 ∨ (4 : Nat) = 10 from h) (by decide), fun h => absurd (show (9 : Nat) ≤ 4 from h) (by decide), fun _ _ => hdNew_ok w2 f { s with k := 4, p := s.p + 14, nl := nl, nd := nd, no := no, own := List.replicate 19 0, nOwn := 0, lens := [] } rfl rfl rfl rfl, hM.tab⟩, .of (by show s.p + 14 = _; rw [HH.out.2.2.1]; omega) (by show (4 : Nat) ≠ 1; decide), rfl, rfl⟩⟩
      · rw [if_neg hc] at hnx
        first
          | (exfalso; omega)
          | exact ⟨3, rfl, q + 14, [], vo, f.head (hdNew nl nd no), by simpa using hR, (Since.refl _ _ _).step oW, ⟨rfl, rfl, rfl, rfl, rfl, rfl, rfl, rfl, rfl⟩, by simpa using HH.out.2.2.2.1, .inr (.inr ⟨.inl rfl, fun h => h, s, (Steps.refl s).bad HH.out.2.2.2.2.1 hnx (by rw [HH.out.2.2.1]; exact HB.out.2.2)⟩)⟩
end Go.Proofs.YtlknhiihdejpeaaGreatDoor

