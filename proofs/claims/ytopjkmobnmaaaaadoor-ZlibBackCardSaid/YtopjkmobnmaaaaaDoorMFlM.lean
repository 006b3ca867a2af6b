/-
  Package inflate, all streams: where a decoder stands; what comes of a part of it. | The tables of inflate, as the rows list them: what their cells hold.
-/
import Derived.Test.YtopjkmobnmaaaaaDoorMFlD
import Derived.Test.YtopjkmobnmaaaaaDoorFlP
import Derived.StillTailTactics
import Derived.Test.YtopjkmobnmaaaaaDoorMLaw
import Derived.Test.YtopjkmobnmaaaaaDoorCards
import Derived.Test.YtopjkmobnmaaaaaDoorTie
import Derived.LaidMore
import Derived.Lib.LaidTab
import Derived.Lay
import Derived.SevenTiedAt
import Derived.Stop.Joined
namespace Go.Proofs.YtopjkmobnmaaaaaDoor
open Go Go.RowKit

/-- The bytes l are those of B from byte o up to byte a. -/
structure Src (B : List UInt8) (a o : Nat) (l : List UInt8) : Prop where
  eq : l = (B.take a).drop o
  oa : o ≤ a
  aB : a ≤ B.length
namespace Src
variable {B : List UInt8} {a o : Nat} {l : List UInt8}
theorem len (h : Src B a o l) : l.length = a - o := by rw [h.eq]; exact part_length B a o h.aB
theorem bits (h : Src B a o l) {k n : Nat} (hk : 8 * o + k + n ≤ 8 * a) : bitsOf (num l) k n = bitsOf (num B) (8 * o + k) n := by rw [h.eq]; exact part_bits B a o k n hk
theorem read (h : Src B a o l) (T : List UInt8) {k : Nat} (hk : k ≤ 8 * l.length) : readM T (num l) k (8 * l.length - k) = readM T (num B) (8 * o + k) (8 * a - (8 * o + k)) := by
  have h1 := h.len
  have h2 := h.oa
  rw [h1, h.eq]
  exact part_read T B a o k h.oa (by omega)
end Src

/-- Where the reader at block g stands. -/
def posOf (w : World) (g : Nat) : Nat := match w.cell? ⟨g, 1, none⟩ with
  | some (.int _ k) => k.toNat
  | _ => 0
theorem posOf_eq {w : World} {g : Nat} {v : Value} {l : List UInt8} {k : Nat} (h : Rd w g v l k) : posOf w g = k := by
  unfold posOf
  have : w.cell? ⟨g, 1, none⟩ = some (.int .i64 (k : Int)) := h.1.cell 1
  rw [this]
  rfl

/-- What stays as it was. -/
structure Same (f f' : DF) : Prop where
  most : f'.most = f.most
  fault : f'.fault = f.fault
  used : f'.used = f.used
  total : f'.total = f.total
  wt : f'.wt = f.wt
  ps : f'.ps = f.ps
  wb : f'.wb = f.wb
  z : f'.z = f.z
  tail : f'.tail = f.tail
theorem Same.refl (f : DF) : Same f f := ⟨rfl, rfl, rfl, rfl, rfl, rfl, rfl, rfl, rfl⟩
theorem Same.trans {f f' f'' : DF} (h : Same f f') (k : Same f' f'') : Same f f'' := ⟨k.most.trans h.most, k.fault.trans h.fault, k.used.trans h.used, k.total.trans h.total, k.wt.trans h.wt, k.ps.trans h.ps, k.wb.trans h.wb, k.z.trans h.z, k.tail.trans h.tail⟩

/-- What a dynamic block has said by now lies in a header's cells. -/
structure Hd (w : World) (hd : Nat → Value) (s : GSt) : Prop where
  nl : hd 11 = .int .i64 (s.nl : Int)
  nd : hd 12 = .int .i64 (s.nd : Int)
  no : hd 13 = .int .i64 (s.no : Int)
  own : ∀ i, (h : i < s.own.length) → hd (14 + i) = .int .u8 (s.own[i].toNat : Int)
  nOwn : hd 33 = .int .i64 (s.nOwn : Int)
  tb : 5 ≤ s.k → ∃ gt, hd 34 = .pointer (some ⟨gt, 0, none⟩) ∧ Tb w gt s.own
  sym : s.k = 6 → hd 35 = .int .i64 (s.sym : Int)
  lens : ∀ i, (h : i < s.lens.length) → hd (36 + i) = .int .u8 (s.lens[i].toNat : Int)
  n : hd 352 = .int .i64 (s.lens.length : Int)
/-- The three tables of package inflate, as start-up lays them. -/
structure Tab (w : World) : Prop where
  ranks : ∀ i, i < 19 → w.cell? ⟨0, i, none⟩ = some (.int .u8 (rankN.getD i 0 : Nat))
  len : ∀ i, i < 29 → w.cell? ⟨1, 2 * i, none⟩ = some (.int .u16 (lenM (257 + i) : Nat)) ∧ w.cell? ⟨1, 2 * i + 1, none⟩ = some (.int .u8 (lenB (257 + i) : Nat))
  dst : ∀ i, i < 30 → w.cell? ⟨2, 2 * i, none⟩ = some (.int .u16 (dstM i : Nat)) ∧ w.cell? ⟨2, 2 * i + 1, none⟩ = some (.int .u8 (dstB i : Nat))
theorem Tab.lt0 {w : World} (h : Tab w) : 0 < w.heap.size := World.block_lt_of_cell? w _ (h.ranks 0 (by omega))
theorem Tab.lt1 {w : World} (h : Tab w) : 1 < w.heap.size := World.block_lt_of_cell? w _ (h.len 0 (by omega)).1
theorem Tab.lt2 {w : World} (h : Tab w) : 2 < w.heap.size := World.block_lt_of_cell? w _ (h.dst 0 (by omega)).1
theorem Tab.only {w w' : World} {S : List Nat} (h : Tab w) (ho : Only S w w') (hS : ∀ k ∈ S, k < w.heap.size → k ∉ Gs) : Tab w' := by
  have n0 : 0 ∉ S := fun hm => hS _ hm h.lt0 (by decide)
  have n1 : 1 ∉ S := fun hm => hS _ hm h.lt1 (by decide)
  have n2 : 2 ∉ S := fun hm => hS _ hm h.lt2 (by decide)
  exact ⟨fun i hi => (ho.cell (p := ⟨_, i, none⟩) h.lt0 n0).trans (h.ranks i hi),
    fun i hi => ⟨(ho.cell (p := ⟨_, 2 * i, none⟩) h.lt1 n1).trans (h.len i hi).1, (ho.cell (p := ⟨_, 2 * i + 1, none⟩) h.lt1 n1).trans (h.len i hi).2⟩,
    fun i hi => ⟨(ho.cell (p := ⟨_, 2 * i, none⟩) h.lt2 n2).trans (h.dst i hi).1, (ho.cell (p := ⟨_, 2 * i + 1, none⟩) h.lt2 n2).trans (h.dst i hi).2⟩⟩
theorem Tab.gs {w : World} (h : Tab w) : ∀ k ∈ Gs, k < w.heap.size := by
  intro k hk
  simp only [Gs, List.mem_cons, List.not_mem_nil, or_false] at hk
  rcases hk with rfl | rfl | rfl
  · exact h.lt0
  · exact h.lt1
  · exact h.lt2
/-- The decoder's cells hold where one stands. -/
structure Md (w : World) (f : DF) (s : GSt) : Prop where
  last : f.last = s.last
  left : s.k = 2 → f.left = s.left
  co : 7 ≤ s.k → s.k ≤ 10 → CdV w f.co s.T s.D
  sy : s.k = 8 ∨ s.k = 10 → f.sy = s.sym
  le : 9 ≤ s.k → s.k ≤ 10 → f.le = s.len
  hd : 4 ≤ s.k → s.k ≤ 6 → Hd w f.hd s
  tab : Tab w
theorem Hd.keep {w w' : World} {hd : Nat → Value} {s : GSt} {S : List Nat} (h : Hd w hd s) (ho : Only S w w') (hS : Other w S) : Hd w' hd s :=
  ⟨h.nl, h.nd, h.no, h.own, h.nOwn, fun hk => by obtain ⟨gt, h1, h2⟩ := h.tb hk; exact ⟨gt, h1, h2.keep ho hS⟩, h.sym, h.lens, h.n⟩
theorem Md.keep {w w' : World} {f : DF} {s : GSt} {S : List Nat} (h : Md w f s) (ho : Only S w w') (hS : Other w S) : Md w' f s :=
  ⟨h.last, h.left, fun h1 h2 => (h.co h1 h2).keep ho hS, h.sy, h.le, fun h1 h2 => (h.hd h1 h2).keep ho hS, h.tab.only ho (fun k hk hlt => (hS k hk hlt).2)⟩

/-- Its reader stands at bit q of the bytes from byte o on. -/
def Pt (s : GSt) (o q : Nat) : Prop := s.p = 8 * o + (if s.k = 1 then q + toByte q else q)
theorem Pt.of {s : GSt} {o q : Nat} (h : s.p = 8 * o + q) (hk : s.k ≠ 1) : Pt s o q := by unfold Pt; rw [if_neg hk]; exact h
theorem Pt.eq {s : GSt} {o q : Nat} (h : Pt s o q) (hk : s.k ≠ 1) : s.p = 8 * o + q := by unfold Pt at h; rw [if_neg hk] at h; exact h

theorem Rn.others {w : World} {g gf gw gr : Nat} {K : List Nat} {f : DF} {v vo : Value} {l : List UInt8} {q : Nat} {all x : List UInt8} (h : Rn w g gf gw gr K f v vo l q all x) {S : List Nat} (hS : ∀ k ∈ S, k < w.heap.size → k ∈ [g, gf, gw, gr] ++ vo.ownBlock.toList) : Other w S := fun k hk hlt => h.other k (hS k hk hlt) hlt
theorem Rn.mdr {w w' : World} {g gf gw gr : Nat} {K : List Nat} {f f' : DF} {v vo : Value} {l : List UInt8} {q : Nat} {all x : List UInt8} {s : GSt} (h : Rn w g gf gw gr K f v vo l q all x) (hm : Md w f' s) (ho : Only [gr] w w') : Md w' f' s :=
  hm.keep ho (h.others (by simp))
theorem Rn.mdg {w w' : World} {g gf gw gr : Nat} {K : List Nat} {f f' : DF} {v vo : Value} {l : List UInt8} {q : Nat} {all x : List UInt8} {s : GSt} (h : Rn w g gf gw gr K f v vo l q all x) (hm : Md w f' s) (ho : Only [g] w w') : Md w' f' s :=
  hm.keep ho (h.others (by simp))
theorem Rn.mdo {w w' : World} {g gf gw gr : Nat} {K : List Nat} {f f' : DF} {v vo : Value} {l : List UInt8} {q : Nat} {all x : List UInt8} {s : GSt} (h : Rn w g gf gw gr K f v vo l q all x) (hm : Md w f' s) (ho : Only [g, gr] w w') : Md w' f' s :=
  hm.keep ho (h.others (by intro k hk _; simp only [List.mem_cons, List.not_mem_nil, or_false, List.mem_append] at hk ⊢; omega))
theorem Rn.mds {w w' : World} {g gf gw gr : Nat} {K : List Nat} {f f' : DF} {v vo vo' : Value} {l : List UInt8} {q : Nat} {all x : List UInt8} {s : GSt} (h : Rn w g gf gw gr K f v vo l q all x) (hm : Md w f' s) (ho : Since [g, gf, gw, gr] w vo w' vo') : Md w' f' s :=
  hm.keep ho.only h.other

theorem Since.more_ {w w' : World} {v v' : Value} {g gf gw gr : Nat} (h : Since [g, gf, gw] w v w' v') : Since [g, gf, gw, gr] w v w' v' := (Since.refl [g, gf, gw, gr] w v).trans h (fun i hi _ => by simp only [List.mem_cons, List.not_mem_nil, or_false] at hi ⊢; omega)

abbrev Stp (B : List UInt8) (a most : Nat) (s t : GSt) : Prop := Steps fixedL fixedD2 (num B) a most s t
abbrev Stp1 (B : List UInt8) (a most : Nat) (s t : GSt) : Prop := Steps1 fixedL fixedD2 (num B) a most s t
abbrev End (B : List UInt8) (a most : Nat) (s : GSt) (e : Nat) (t : GSt) : Prop := Ends fixedL fixedD2 (num B) a most s e t
abbrev Nx (B : List UInt8) (most : Nat) (s : GSt) : Nat × Except Nat GSt := s.nx fixedL fixedD2 (num B) most
theorem okL : OkT fixedL := ⟨by rw [fixL_len]; decide, fixL_far, fixL_may⟩
theorem okD : OkT fixedD2 := ⟨by rw [fixD2_len]; decide, fixD2_far, fixD2_may⟩

/-- What comes of a part: it goes on (0), bits lack (2), or it is refused (3, 5). -/
def Went (B : List UInt8) (a o : Nat) (l : List UInt8) (g gf gw gr : Nat) (K : List Nat) (f : DF) (v vo : Value) (x : List UInt8) (s : GSt) (P Q : DF → GSt → Prop) (w : World) (c : Nat) (w' : World) : Prop :=
  ∃ (q' : Nat) (y : List UInt8) (vo' : Value) (f' : DF), Rn w' g gf gw gr K f' v vo' l q' (s.out ++ y) (x ++ y) ∧ Since [g, gf, gw, gr] w vo w' vo' ∧ Same f f' ∧ s.out.length + y.length ≤ f.most ∧
    ((c = 0 ∧ ∃ t, Stp1 B a f.most s t ∧ t.out = s.out ++ y ∧ Md w' f' t ∧ Pt t o q' ∧ P f' t) ∨
      (c = 2 ∧ ∃ t, End B a f.most s 2 t ∧ t.out = s.out ++ y ∧ Md w' f' t ∧ Pt t o q' ∧ Q f' t) ∨
      ((c = 3 ∨ c = 5) ∧ ∃ t, End B a f.most s c t))

/-- A symbol read. -/
theorem read_gen {B : List UInt8} {a o : Nat} {l : List UInt8} (hs : Src B a o l) (gT gr : Nat) (v : Value) (T : List UInt8) (q : Nat) (w : World) (hT : Tb w gT T) (hR : Rd w gr v l q) (ok : OkT T) :
    ∃ x c n, Calls Tryd.prog 78 #[.pointer (some ⟨gT, 0, none⟩), .pointer (some ⟨gr, 0, none⟩)] w (fun e w' => e = .returned (.tuple #[.int .i64 (x : Nat), .int .i64 (c : Nat)]) ∧ Only [gr] w w' ∧ Rd w' gr v l (q + n)) ∧
      ((c = 2 ∧ n = 0 ∧ 8 * a < 8 * o + q + needN T (num B) (8 * o + q)) ∨
        (c = 3 ∧ n = 0 ∧ 8 * o + q + needN T (num B) (8 * o + q) ≤ 8 * a ∧ (huffN T (num B) (8 * o + q)).2.1 ≠ 0) ∨
        (c = 0 ∧ 0 < n ∧ 8 * o + q + needN T (num B) (8 * o + q) ≤ 8 * a ∧ 8 * o + q + n ≤ 8 * a ∧ huffN T (num B) (8 * o + q) = (x, 0, n))) := by
  have hqq := hR.2.2.2
  have hlen := hs.len
  have hoa := hs.oa
  have h1 := hs.read T hqq
  rw [readM_left T (num B)] at h1
  by_cases hsh : 8 * a - (8 * o + q) < needN T (num B) (8 * o + q)
  · rw [if_pos hsh] at h1
    exact ⟨0, 2, 0, read_any gT gr v T l q w hT hR ok.len ok.le ok.sum 0 2 0 h1, .inl ⟨rfl, rfl, by omega⟩⟩
  · rw [if_neg hsh] at h1
    rcases huffN_err T (num B) (8 * o + q) with h | h
    · have hn := huffN_pos T _ _ h
      have hd := needN_ok h
      generalize hz : huffN T (num B) (8 * o + q) = z at h h1 hn hd
      obtain ⟨x, c, n⟩ := z
      obtain rfl : c = 0 := h
      exact ⟨x, 0, n, read_any gT gr v T l q w hT hR ok.len ok.le ok.sum x 0 n h1, .inr (.inr ⟨rfl, hn, by omega, by have : needN T (num B) (8 * o + q) = n := hd; omega, rfl⟩)⟩
    · rw [h] at h1
      exact ⟨0, 3, 0, read_any gT gr v T l q w hT hR ok.len ok.le ok.sum 0 3 0 h1, .inr (.inl ⟨rfl, rfl, by omega, by rw [h]; decide⟩)⟩

/-- Bits read. -/
theorem bits_gen {B : List UInt8} {a o : Nat} {l : List UInt8} (hs : Src B a o l) (gr : Nat) (v : Value) (q n : Nat) (hn : n ≤ 32) (w : World) (hR : Rd w gr v l q) :
    (8 * a < 8 * o + q + n ∧ Calls Tryd.prog 57 #[.pointer (some ⟨gr, 0, none⟩), .int .i64 (n : Int)] w (fun e w' => e = .returned (.tuple #[.int .u32 0, .bool false]) ∧ Only [gr] w w' ∧ Rd w' gr v l q)) ∨
    (8 * o + q + n ≤ 8 * a ∧ Calls Tryd.prog 57 #[.pointer (some ⟨gr, 0, none⟩), .int .i64 (n : Int)] w (fun e w' => e = .returned (.tuple #[.int .u32 ((num B / 2 ^ (8 * o + q) % 2 ^ n : Nat) : Int), .bool true]) ∧ Only [gr] w w' ∧ Rd w' gr v l (q + n))) := by
  have hqq := hR.2.2.2
  have hlen := hs.len
  have hoa := hs.oa
  have hB := bits_any gr v l q (n : Int) w hR
  by_cases hq : q + n ≤ 8 * l.length
  · have ok : okBits l.length q (n : Int) = true := by unfold okBits; simp; omega
    unfold gotBits at hB
    rw [ok] at hB
    simp only [if_true, Int.toNat_natCast] at hB
    rw [hs.bits (by omega)] at hB
    exact .inr ⟨by omega, hB⟩
  · have ok : okBits l.length q (n : Int) = false := by unfold okBits; simp; omega
    unfold gotBits at hB
    rw [ok] at hB
    exact .inl ⟨by omega, hB⟩
end Go.Proofs.YtopjkmobnmaaaaaDoor


namespace Go.Proofs.YtopjkmobnmaaaaaDoor
open Go Go.RowKit Go.ChangeShapes Go.WideShapes Go.ChangeAt

def laidI : List (String × DataW Unit) := [("phosphor/inflate.ranks", Rows.laid_phosphor_inflate_ranks), ("phosphor/inflate.lengths", Rows.laid_phosphor_inflate_lengths), ("phosphor/inflate.distances", Rows.laid_phosphor_inflate_distances)]

def reachD (l : List (Nat × Nat)) : DataW Unit := .agg (l.map fun x => .agg [.lit (.int .u16 (x.1 : Int)), .lit (.int .u8 (x.2 : Int))])
def lenL : List (Nat × Nat) := (List.range 29).map fun i => (lenM (257 + i), lenB (257 + i))
def dstL : List (Nat × Nat) := (List.range 30).map fun i => (dstM i, dstB i)
theorem ranks_data : (Rows.laid_phosphor_inflate_ranks : DataW Unit) = Lib.tabData .u8 (rankN.map fun (n : Nat) => (n : Int)) := by rfl
theorem lengths_data : (Rows.laid_phosphor_inflate_lengths : DataW Unit) = reachD lenL := by rfl
theorem dists_data : (Rows.laid_phosphor_inflate_distances : DataW Unit) = reachD dstL := by rfl

set_option maxRecDepth 100000 in
/-- A table of pairs, read. -/
theorem cells_of_reach {W : World} {enc : TypeId × Value → Unit} {base : Nat} {sp : Nat → Bool} {held : Bool} {fuel n : Nat} {t : TypeId} {cs : List Value} {l : List (Nat × Nat)} {p : List MemPlace}
    (ht : Tryd.prog.underlying t = some (.array n 150)) (hl : l.length = n) (h : DataW.trod enc Tryd.prog W base sp held fuel t cs = some (reachD l, p)) (i : Nat) (hi : i < n) :
    cs[2 * i]? = some (.int .u16 ((l.getD i (0, 0)).1 : Int)) ∧ cs[2 * i + 1]? = some (.int .u8 ((l.getD i (0, 0)).2 : Int)) := by
  obtain ⟨xs, m, _, hx, _, hxl, hat⟩ := DataW.trod_array ht h
  have hc : Tryd.prog.cellsOf 150 = 2 := by kernel_rfl
  have h1 := hat i hi
  rw [hc] at h1
  have hxi : xs[i]? = some xs[i] := List.getElem?_eq_getElem (by omega)
  rw [hxi] at h1
  have hd : (xs[i]'(by omega)).1 = .agg [.lit (.int .u16 ((l.getD i (0, 0)).1 : Int)), .lit (.int .u8 ((l.getD i (0, 0)).2 : Int))] := by
    have hm : xs.map (·.1) = l.map fun x => (DataW.agg [.lit (.int .u16 (x.1 : Int)), .lit (.int .u8 (x.2 : Int))] : DataW Unit) := by
      have := congrArg Prod.fst hx
      simp only [reachD] at this
      injection this with h
      exact h.symm
    have hi2 := congrArg (fun z => z[i]?) hm
    simp only [List.getElem?_map, hxi, List.getElem?_eq_getElem (show i < l.length by omega), Option.map_some, Option.some.injEq] at hi2
    rw [hi2, List.getD_eq_getElem?_getD, List.getElem?_eq_getElem (by omega)]
    rfl
  obtain ⟨y0, y1, k, hy, _, f0, f1⟩ := trod_struct2 Tryd.underlying150 h1
  have c0 : Tryd.prog.cellsOf 97 = 1 := by kernel_rfl
  have c1 : Tryd.prog.cellsOf 5 = 1 := by kernel_rfl
  obtain ⟨a, ha, hya, _⟩ := DataW.trod_int Tryd.underlying97 f0
  obtain ⟨b, hb, hyb, _⟩ := DataW.trod_int Tryd.underlying5 f1
  rw [hy, hya, hyb] at hd
  simp at hd
  obtain ⟨rfl, rfl⟩ := hd
  have ha' : List.take (Tryd.prog.cellsOf 97) (List.drop 0 (List.take 2 (List.drop (i * 2) cs))) = _ := ha
  have hb' : List.take (Tryd.prog.cellsOf 5) (List.drop 1 (List.take 2 (List.drop (i * 2) cs))) = _ := hb
  rw [c0] at ha'
  rw [c1] at hb'
  have ha2 := congrArg (fun z => z[0]?) ha'
  have hb2 := congrArg (fun z => z[0]?) hb'
  simp only [List.getElem?_take, List.getElem?_drop, List.getElem?_cons_zero] at ha2 hb2
  simp at ha2 hb2
  rw [Nat.mul_comm i 2] at ha2 hb2
  rw [List.getD_eq_getElem?_getD]
  exact ⟨ha2, hb2⟩

set_option maxRecDepth 100000 in
theorem tab_of_laid {W : World} (h : laidMetH Tryd.prog laidI W) : Tab W := by
  rw [MakeChecks.laidMetH_plain _ _ _ (by kernel_rfl)] at h
  obtain ⟨ps, ⟨g0, t0, cs0, f0, p0, q0, hg0, ht0, hv0, hd0, ⟨g1, t1, cs1, f1, p1, q1, hg1, ht1, hv1, hd1, ⟨g2, t2, cs2, f2, p2, q2, hg2, ht2, hv2, hd2, _, _⟩, _⟩, _⟩, _, _⟩ := h
  have gR : Tryd.prog.globalNamed "phosphor/inflate.ranks" = some 0 := by kernel_rfl
  have gL : Tryd.prog.globalNamed "phosphor/inflate.lengths" = some 1 := by kernel_rfl
  have gD : Tryd.prog.globalNamed "phosphor/inflate.distances" = some 2 := by kernel_rfl
  obtain rfl := Option.some.inj (gR.symm.trans hg0)
  obtain rfl := Option.some.inj (gL.symm.trans hg1)
  obtain rfl := Option.some.inj (gD.symm.trans hg2)
  obtain rfl := Option.some.inj ((show (Tryd.prog.globals[0]?).map (·.type) = some 47 by kernel_rfl).symm.trans ht0)
  obtain rfl := Option.some.inj ((show (Tryd.prog.globals[1]?).map (·.type) = some 151 by kernel_rfl).symm.trans ht1)
  obtain rfl := Option.some.inj ((show (Tryd.prog.globals[2]?).map (·.type) = some 153 by kernel_rfl).symm.trans ht2)
  rw [ranks_data] at hd0
  rw [lengths_data] at hd1
  rw [dists_data] at hd2
  have e0 := Lib.cells_of_tab Tryd.underlying47 Tryd.underlying5 (by kernel_rfl) (by kernel_rfl) hd0
  have i0 : Lib.TabIs Tryd.prog W "phosphor/inflate.ranks" .u8 (rankN.map fun (n : Nat) => (n : Int)) := by unfold Lib.TabIs; rw [hv0, ← e0]
  have l1 : lenL.length = 29 := by simp [lenL]
  have l2 : dstL.length = 30 := by simp [dstL]
  refine ⟨fun i hi => ?_, fun i hi => ?_, fun i hi => ?_⟩
  · have h := i0.cell gR i (by simpa [rankN] using hi)
    rw [h]
    congr 2
    simp only [List.getD_eq_getElem?_getD, List.getElem?_map]
    cases rankN[i]? <;> rfl
  · obtain ⟨q1, q2⟩ := cells_of_reach Tryd.underlying151 l1 hd1 i hi
    have e : lenL.getD i (0, 0) = (lenM (257 + i), lenB (257 + i)) := by simp [lenL, List.getD_eq_getElem?_getD, hi]
    rw [e] at q1 q2
    rw [Array.getElem?_toList] at q1 q2
    exact ⟨(World.var?_cell gL hv1 _).trans q1, (World.var?_cell gL hv1 _).trans q2⟩
  · obtain ⟨q1, q2⟩ := cells_of_reach Tryd.underlying153 l2 hd2 i hi
    have e : dstL.getD i (0, 0) = (dstM i, dstB i) := by simp [dstL, List.getD_eq_getElem?_getD, hi]
    rw [e] at q1 q2
    rw [Array.getElem?_toList] at q1 q2
    exact ⟨(World.var?_cell gD hv2 _).trans q1, (World.var?_cell gD hv2 _).trans q2⟩

/-- The door's own heap meets the condition. -/
theorem door_met (os : Os) (args : Array Value) : laidMetH Tryd.prog laidI ((World.doorLaid Tryd.prog 400 os).forCall (fun _ _ => 0) ⟨#[], args, []⟩).memory :=
  laidMetH_of_parts3 (fuel := 8) (laidMet_of_run' 8 (by kernel_rfl) (by kernel_rfl)) (by kernel_rfl) (by kernel_rfl)
end Go.Proofs.YtopjkmobnmaaaaaDoor

