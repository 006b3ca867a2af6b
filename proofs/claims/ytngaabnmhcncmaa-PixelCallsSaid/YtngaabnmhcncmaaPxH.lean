/-
  Package pixel: rows gone through pixel by pixel; FromRGB.
-/
import Derived.Test.YtngaabnmhcncmaaPxG
import Derived.Deep.Slices
namespace Go.Proofs.Ytngaabnmhcncmaa
open Go Go.RowKit

def slen : Value → Nat
  | .slice _ n _ => n
  | _ => 0

/-- What is left of a row of K pixels, from byte f of A on, when k are gone. -/
structure IsTail (A : Option Addr) (f K k : Nat) (p : Value) (X : Option Addr) (q : Nat) : Prop where
  val : p = .slice X q q
  len : q = 4 * (K - k)
  addr : k < K → X = A.map (·.add (f + 4 * k))
theorem IsTail.start (A : Option Addr) (f K : Nat) : IsTail A f K 0 (rowV A f (4 * K)) (if 4 * K = 0 then A else A.map (·.add f)) (4 * K) :=
  ⟨rfl, by omega, fun h => by rw [if_neg (by omega)]; rfl⟩
theorem IsTail.start0 (A : Option Addr) (K n : Nat) (hn : n = 4 * K) : IsTail A 0 K 0 (.slice A n n) A n :=
  ⟨rfl, by omega, fun h => by cases A with
    | none => rfl
    | some a => show some a = some (a.add 0); rw [show a.add 0 = a from rfl]⟩
theorem IsTail.step {A : Option Addr} {f K k : Nat} {p : Value} {X : Option Addr} {q : Nat} (h : IsTail A f K k p X q) (hk : k < K) :
    ∃ X' q', IsTail A f K (k + 1) (.slice X' q' q') X' q' ∧ ∀ w : World, (Instr.slice 22 (.slice X q q) (some (.int .i64 4)) none none).run Try.prog w = .ok (.slice X' q' q') w := by
  have hl := h.len
  refine ⟨if q = 4 then X else X.map (·.add 4), q - 4, ⟨rfl, by omega, fun hk1 => ?_⟩, fun w => ?_⟩
  · rw [if_neg (by omega), h.addr hk]
    cases A with
    | none => rfl
    | some a =>
      show some ((a.add (f + 4 * k)).add 4) = some (a.add (f + 4 * (k + 1)))
      rw [Go.Deep.add_add, show f + 4 * k + 4 = f + 4 * (k + 1) by omega]
  · rw [run_slice_l (w := w) 22 X q q bytes_elem .i64 4 (by omega) (by omega), bytes_size]
    simp only [Result.andThen_ok, sliced]
    rfl

/-- The pixel that three bytes make. -/
def rgbP (l : List UInt8) (i : Nat) : Px := ⟨l.getD (3 * i) 0, l.getD (3 * i + 1) 0, l.getD (3 * i + 2) 0, 255⟩
/-- All of them. -/
def rgbL (l : List UInt8) (k : Nat) : List UInt8 := rowF (fun i _ => rgbP l i) 0 (List.replicate (4 * k) 0) 0 k

set_option maxRecDepth 100000 in
set_option maxHeartbeats 4000000 in
theorem rgb_bad (W H : Int) (A : Option Addr) (n c : Nat) (w : World) (hf : ¬ faultE W H 3 n = 0) :
    Calls Try.prog 15 #[.int .i64 W, .int .i64 H, .slice A n c] w fun e w' => ∃ v, e = .returned (.tuple #[v, .int .i64 (faultE W H 3 n : Nat)]) ∧ Own w' w.heap.size 0 0 v [] ∧ Only [] w w' := by
  have HM := hide (fun w => fault_any W H 3 A n c w (by omega))
  have hz : Has (w.alloc (.cells #[.int .i64 0, .int .i64 0, .slice none 0 0] 24)) w.heap.size 24 #[.int .i64 0, .int .i64 0, .slice none 0 0] := Has.new w _ _
  have o0 : Only [] w (w.alloc (.cells #[.int .i64 0, .int .i64 0, .slice none 0 0] 24)) := (Only.refl [] w).alloc _
  generalize faultE W H 3 n = f at *
  have hf1 : ¬ (f : Int) = 0 := by omega
  clear hf
  go_enter Try.func15, Try.ntmps15
  go_wp2_with fail
  refine (HM.out _).mono ?_
  rintro e w1 ⟨rfl, rfl⟩
  go_wp2_with (refine list_store_row' rfl 24 (.tmp 6) (.tmp 17) rfl w.heap.size #[.int .i64 0, .int .i64 0, .slice none 0 0] rfl rfl 24 _ hz (by kernel_rfl) rfl (mat_one _ _ _ _ _) ?_; intro w3 hT3 hO3)
  exact bodyPost_ret (results_row_two Try.results15 _ _ w.heap.size 24 _ _ rfl hT3 Try.underlying24 rfl (by kernel_rfl)) rfl ⟨_, rfl, own_zero _ _, o0.trans hO3 (by intro i hi hlt; simp at hi; omega)⟩

/-- Where FromRGB's loop stands. -/
structure RgbSt (w w2 : World) (x y g k : Nat) (l R : List UInt8) (bv pv : Value) (wr : World) (j q cb : Nat) (X Bv : Option Addr) (m : List UInt8) : Prop where
  le : j ≤ k
  bval : bv = .slice Bv (3 * (k - j)) cb
  tail : IsTail (some ⟨g, 0, none⟩) 0 k j pv X q
  hb : Holds wr 1 Bv (3 * (k - j)) (bvals (l.drop (3 * j)))
  cap : 3 * (k - j) ≤ cb
  old : ∀ ad, Bv = some ad → 0 < 3 * (k - j) → ad.block < w.heap.size
  mlen : m.length = 4 * k
  own : wr.ownsRow (w.heap.size + 1) 5 1 (.slice (some ⟨g, 0, none⟩) (4 * k) (4 * k)) (4 * k) (bvals m)
  done : rowF (fun i _ => rgbP l i) 0 m j (k - j) = R
  res : Has wr w.heap.size 24 #[.int .i64 0, .int .i64 0, .slice none 0 0]
  mat : Has wr w2.heap.size 24 #[.int .i64 (x : Int), .int .i64 (y : Int), .slice (some ⟨g, 0, none⟩) (4 * k) (4 * k)]
  only : Only [] w wr

set_option maxRecDepth 100000 in
set_option maxHeartbeats 4000000 in
theorem rgb_ok (W H : Int) (A : Option Addr) (n c : Nat) (l : List UInt8) (w : World) (hf : faultE W H 3 n = 0) (hb : Holds w 1 A n (bvals l)) (hl : l.length = n) (hc : n ≤ c) :
    Calls Try.prog 15 #[.int .i64 W, .int .i64 H, .slice A n c] w fun e w' => ∃ v, e = .returned (.tuple #[v, .int .i64 0]) ∧ Own w' w.heap.size W H v (rgbL l (W.toNat * H.toNat)) ∧ Only [] w w' := by
  have HM := hide (fun w => fault_any W H 3 A n c w (by omega))
  rw [hf] at HM
  obtain ⟨x, y, rfl, rfl, hm, hn⟩ := faultE_ok hf
  obtain ⟨_, _, e1, e2, hxy, hok⟩ := mayI_nat hm
  obtain rfl : x = _ := by exact_mod_cast e1
  obtain rfl : y = _ := by exact_mod_cast e2
  obtain ⟨k, hk⟩ : ∃ k, k = x * y := ⟨_, rfl⟩
  have hz : Has (w.alloc (.cells #[.int .i64 0, .int .i64 0, .slice none 0 0] 24)) w.heap.size 24 #[.int .i64 0, .int .i64 0, .slice none 0 0] := Has.new w _ _
  have o0 : Only [] w (w.alloc (.cells #[.int .i64 0, .int .i64 0, .slice none 0 0] 24)) := (Only.refl [] w).alloc _
  have HB := hide (blank_any x y (4 * k) (w.alloc (.cells #[.int .i64 0, .int .i64 0, .slice none 0 0] 24)) (by rw [hk]) (by omega))
  have hs : (w.alloc (.cells #[.int .i64 0, .int .i64 0, .slice none 0 0] 24)).heap.size = w.heap.size + 1 := by simp
  have hlen : (List.replicate (4 * k) (0 : UInt8)).length = 4 * k := by simp
  have hR : rgbL l ((x : Int).toNat * (y : Int).toNat) = rowF (fun i _ => rgbP l i) 0 (List.replicate (4 * k) 0) 0 k := by
    unfold rgbL
    rw [Int.toNat_natCast, Int.toNat_natCast, ← hk]
  have hn3 : n = 3 * k := by rw [hn, ← hk]; omega
  generalize rgbL l ((x : Int).toNat * (y : Int).toNat) = R at *
  have HR := hide (And.intro hR (And.intro hlen (And.intro hb (And.intro hl hc))))
  clear hR hlen hb hl hc hf hm hok hn hxy e1 e2 hk
  subst hn3
  go_enter Try.func15, Try.ntmps15
  go_wp2_with fail
  refine (HM.out _).mono ?_
  rintro e w1 ⟨rfl, rfl⟩
  go_wp2_with fail
  refine (HB.out).mono ?_
  rintro e w2 ⟨g, rfl, hg, how, ho2⟩
  have hz2 := hz.only ho2 (by simp)
  have o2 := o0.trans ho2 (S := []) (by simp)
  have hg2 : g < w2.heap.size := (own_block how _ rfl).2.1
  have hb2 := HR.out.2.2.1.keep o2 (by simp)
  have H0 := hide (And.intro how (And.intro hz2 (And.intro o2 (And.intro hg (And.intro hg2 (And.intro hb2 hs))))))
  clear how hz2 o2 hg hg2 hb2 hs ho2 hz o0 HB HM
  unfold mval
  go_wp2_with fail
  go_loopw [2, 10] (fun bv pv wr => ∃ (j q cb : Nat) (X Bv : Option Addr) (m : List UInt8), RgbSt w w2 x y g k l R bv pv wr j q cb X Bv m) (fun bv _ _ => slen bv)
  case atStart =>
    obtain ⟨how, hz2, o2, hg, hg2, hb2, hs⟩ := H0.out
    obtain ⟨hR, hlen, hb, hl, hc⟩ := HR.out
    refine ⟨0, 4 * k, c, some ⟨g, 0, none⟩, A, List.replicate (4 * k) 0, Nat.zero_le _, rfl, IsTail.start0 _ _ _ rfl, ?_, hc, fun ad ha h0 => hb.blk h0 ad ha, hlen, ?_, hR.symm, hz2.alloc _, Has.new w2 _ _, o2.alloc _⟩
    · rw [Nat.mul_zero, List.drop_zero]; exact hb2.keep ((Only.refl [] w2).alloc _) (by simp)
    · rw [← hs]; exact own_keep how ((Only.refl [] w2).alloc _) (by simp)
  case round =>
    obtain ⟨j, q, cb, X, Bv, m, S⟩ := hrel
    have hg : g < w2.heap.size := H0.out.2.2.2.2.1
    have hgw : w.heap.size < g := by have := H0.out.2.2.2.1; have := H0.out.2.2.2.2.2.2; omega
    by_cases hlt : j < k
    · obtain ⟨X', q', hT', hrun1⟩ := S.tail.step hlt
      obtain ⟨B', cb', hrun2, hb', hcb', hblk⟩ := run_from S.hb (by rw [List.length_drop, HR.out.2.2.2.1]; omega) S.cap 3 (by omega)
      have hX := S.tail.addr hlt
      rw [Nat.zero_add, Option.map_some, add_zero_of] at hX
      have hq := S.tail.len
      have hpv := S.tail.val
      have hbv := S.bval
      obtain ⟨bb, oo, hBa, hcell⟩ := S.hb.addr (by rw [bvals_length, List.length_drop, HR.out.2.2.2.1]; omega)
      have hdl : (l.drop (3 * j)).length = 3 * (k - j) := by rw [List.length_drop, HR.out.2.2.2.1]; omega
      have c0 := cell_of hcell (i := 0) (by omega)
      have c1 := cell_of hcell (i := 1) (by omega)
      have c2 := cell_of hcell (i := 2) (by omega)
      rw [Nat.add_zero] at c0
      rw [getD_drop] at c0 c1 c2
      have hP : (rgbP l j).val = .agg #[.int .u8 ((l.getD (3 * j + 0) 0).toNat : Int), .int .u8 ((l.getD (3 * j + 1) 0).toNat : Int), .int .u8 ((l.getD (3 * j + 2) 0).toNat : Int), .int .u8 255] := rfl
      have HLay := hide (fun v (hv : v = (rgbP l j).val) => hv ▸ lay_any g j (4 * k) (4 * k) q q (w.heap.size + 1) m (rgbP l j) wr.drew (S.own) S.mlen (by omega) (by omega))
      rw [hP] at HLay
      generalize (l.getD (3 * j + 0) 0).toNat = x0 at *
      generalize (l.getD (3 * j + 1) 0).toNat = x1 at *
      generalize (l.getD (3 * j + 2) 0).toNat = x2 at *
      obtain ⟨r, hr⟩ : ∃ r, r = 3 * (k - j) := ⟨_, rfl⟩
      have HS := hide (And.intro S (And.intro hT' (And.intro hb' (And.intro hcb' (And.intro hblk (And.intro hlt hr))))))
      rw [← hr] at hbv hrun2
      have hrun2 : ∀ w' : World, (Instr.slice 22 (.slice Bv r cb) (some (.int .i64 3)) none none).run Try.prog w' = .ok (.slice B' (r - 3) cb') w' := hrun2
      have j0 : 0 < r := by omega
      have j1 : 1 < r := by omega
      have j2 : 2 < r := by omega
      have i1 : (1 : Int) < (r : Int) := by omega
      have i2 : (2 : Int) < (r : Int) := by omega
      have q0 : 0 < q := by omega
      subst hpv
      subst hbv
      subst hX
      subst hBa
      clear S hT' hb' hcb' hblk hlt hr hq hdl hcell hP
      go_wp2_with fail
      go_still_tail 11, (by kernel_rfl)
      change wpList _ _ _ _ _ wr.drew
      go_wp2_with fail
      refine (HLay.out _ rfl).mono ?_
      rintro e w3 ⟨rfl, how3, ho3⟩
      have H3 := hide (And.intro how3 ho3)
      clear how3 ho3 c0 c1 c2
      go_wp2_with fail
      go_quiet (fail)
      go_roundw
      case rel =>
        refine ⟨_, _, _, _, _, _, _, _, _, _, _, _, _, _, _, _, _, _, _, _, _, ?_, rfl⟩
        obtain ⟨S, hT', hb', hcb', hblk, hlt, hr⟩ := HS.out
        have o3 : Only [g] wr (w3.drewN nq) := ((Only.refl [g] wr).drew.trans H3.out.2 (by simp)).drewN nq
        have hsz := S.mat.lt
        have hk1 : 3 * (k - j) - 3 = 3 * (k - (j + 1)) := by omega
        have hblk' : ∀ ad, B' = some ad → 0 < 3 * (k - (j + 1)) → ad.block < w.heap.size := fun ad had h0 => by
          obtain ⟨ad0, h1, h2⟩ := hblk ad had
          rw [h2]; exact S.old ad0 h1 (by omega)
        rw [hk1] at hb' hcb'
        rw [List.drop_drop, show 3 * j + 3 = 3 * (j + 1) by omega] at hb'
        refine ⟨j + 1, q', cb', X', B', put4 m j (rgbP l j), hlt, by rw [hr, hk1], hT', ?_, hcb', hblk', by rw [put4_length]; exact S.mlen, H3.out.1, ?_, S.res.only o3 (by simp; omega), S.mat.only o3 (by simp; omega), S.only.trans o3 (by intro i hi hlt2; simp at hi; omega)⟩
        · refine hb'.keepPos o3 (fun h0 ad had _ => ?_)
          have := hblk' ad had h0
          simp; omega
        · have hd := S.done
          rw [show k - j = (k - (j + 1)) + 1 by omega, rowF, Nat.zero_add] at hd
          exact hd
      case measure => simp [slen]; omega
    · obtain rfl : j = k := by have := S.le; omega
      have hq := S.tail.len
      have hpv := S.tail.val
      have hq0 : q = 0 := by omega
      subst hpv
      subst hq0
      have m0 := S.mat.cell 0
      have m1 := S.mat.cell 1
      have m2 := S.mat.cell 2
      simp only [List.getElem?_toArray, List.getElem?_cons_zero, List.getElem?_cons_succ] at m0 m1 m2
      have hres := S.res
      have HS := hide S
      clear S hq hlt
      go_wp2_with (refine list_store_row' rfl 24 (.tmp 6) (.tmp 43) rfl w.heap.size #[.int .i64 (x : Int), .int .i64 (y : Int), .slice (some ⟨g, 0, none⟩) (4 * j) (4 * j)] rfl rfl 24 _ hres (by kernel_rfl) rfl (mat_one _ _ _ _ _) ?_; intro w4 hT4 hO4)
      have S := HS.out
      have hd := S.done
      rw [Nat.sub_self] at hd
      have hd : m = R := hd
      refine bodyPost_ret (results_row_two Try.results15 _ _ w.heap.size 24 _ _ rfl hT4 Try.underlying24 rfl (by kernel_rfl)) rfl ⟨_, rfl, ⟨some ⟨g, 0, none⟩, 4 * j, by rw [← hd, S.mlen]; rfl, ?_⟩, S.only.trans hO4 (by intro i hi hlt; simp at hi; omega)⟩
      rw [← hd, S.mlen]
      refine own_mono (own_keep S.own hO4 ?_) (by omega)
      intro b hb hm
      have : g = b := by injection hb
      simp at hm
      omega
end Go.Proofs.Ytngaabnmhcncmaa
