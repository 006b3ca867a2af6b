/-
  Package inflate, for the new base: Store, Fixed. | Package zlib: Pack. | Regions that draw their order and hold calls that make memory but turn nothing that was there: one walk serves every order.
-/
import Derived.Test.YtopjkmobnmaaaaaDoorMHufFx
import Derived.Test.YtopjkmobnmaaaaaDoorMReadD
import Derived.Test.YtopjkmobnmaaaaaDoorMFlD
import Derived.Test.YtopjkmobnmaaaaaDoorMSumE
import Derived.Deep.WholeRow
import Derived.Test.YtopjkmobnmaaaaaDoorProg
import Derived.Test.YtopjkmobnmaaaaaDoorMem
import Derived.Deep.QuietTactic
import Derived.BigQuiet
namespace Go.Proofs.YtopjkmobnmaaaaaDoor
open Go Go.RowKit

/-- A stored block that is the last one. -/
def storeB (last : Bool) (b : List UInt8) : List UInt8 := hdr last b.length ++ b
theorem storeB_length (last : Bool) (b : List UInt8) : (storeB last b).length = 5 + b.length := by unfold storeB; rw [List.length_append]; rfl
theorem storeB_num (last : Bool) (b : List UInt8) (h : b.length < 65536) : num (storeB last b) = last.toNat + b.length % 65536 * 2 ^ 8 + (4294967295 - b.length) % 65536 * 2 ^ 24 + num b * 2 ^ 40 := by
  unfold storeB
  rw [num_append, num_hdr _ _ h, show (hdr last b.length).length = 5 from rfl]
  omega

theorem Wr.keep {w w' : World} {g : Nat} {v : Value} {N n : Nat} (h : Wr w g v N n) (ho : Only [] w w') : Wr w' g v N n := by
  obtain ⟨l, rest, cnt, ⟨h1, h2, h3⟩, hc⟩ := h
  exact ⟨l, rest, cnt, ⟨h1.only ho (by simp), own_keep h2 ho (by simp), h3⟩, hc⟩

set_option maxRecDepth 100000 in
set_option maxHeartbeats 4000000 in
theorem layStored_any (g : Nat) (v : Value) (A : Option Addr) (n c : Nat) (b : List UInt8) (w : World) (hW : Wr w g v 0 0) (hb : Holds w 1 A n (bvals b)) (hl : b.length = n) (hn : n < 65536)
    (hA : 0 < n → ∀ ad, A = some ad → ad.block ∉ g :: v.ownBlock.toList) :
    Calls Tryd.prog 19 #[.pointer (some ⟨g, 0, none⟩), .slice A n c, .int .u32 1] w fun e w' => e = .returned (.tuple #[]) ∧ ∃ v', Wr w' g v' (num (storeB true b)) (8 * (5 + n)) ∧ WSince w g v w' v' := by
  subst hl
  have b0 : bits .or .u32 1 0 = 1 := by decide
  have hn1 : (b.length : Int) < 65536 := by omega
  have e2 := flip32 b.length (by omega)
  have e5 : (if IntKind.u32.signed = true then -1 else IntKind.u32.max) = IntKind.u32.max := by decide
  have H1 := hide (wBits g v 0 0 1 3 w hW (by decide) (by decide))
  have HB := hide (And.intro hb (And.intro hA hn))
  have HNUM := hide (storeB_num true b hn)
  clear hW hb hA hn
  obtain ⟨y, hy⟩ : ∃ y, y = 4294967295 - b.length := ⟨_, rfl⟩
  rw [← hy] at e2
  have HY := hide hy
  clear hy
  go_enter Tryd.func19, Tryd.ntmps19
  go_wp2_with fail
  refine (H1.out).mono ?_
  rintro e w1 ⟨rfl, v1, hw1, hs1⟩
  rw [show laidN 0 0 1 3 = 1 from rfl, show laidL 0 3 = 3 from rfl] at hw1
  have H2 := hide (And.intro hs1 (wAlign g v1 1 3 w1 hw1 (by decide)))
  clear hw1 hs1
  go_wp2_with fail
  refine (H2.out.2).mono ?_
  rintro e w2 ⟨rfl, v2, hw2, hs2⟩
  rw [show 3 + padOf 3 = 8 from rfl] at hw2
  have H3 := hide (And.intro (H2.out.1.trans hs2) (wBits g v2 1 8 b.length 16 w2 hw2 (by have := HB.out.2.2; omega) (by decide)))
  clear hw2 hs2
  go_wp2_with fail
  refine (H3.out.2).mono ?_
  rintro e w3 ⟨rfl, v3, hw3, hs3⟩
  rw [show laidL 8 16 = 24 from rfl] at hw3
  have H4 := hide (And.intro (H3.out.1.trans hs3) (wBits g v3 _ 24 y 16 w3 hw3 (by have := HY.out; omega) (by decide)))
  clear hw3 hs3
  go_wp2_with fail
  refine (H4.out.2).mono ?_
  rintro e w4 ⟨rfl, v4, hw4, hs4⟩
  rw [show laidL 24 16 = 40 from rfl] at hw4
  have hs04 := H4.out.1.trans hs4
  have H5 := hide (And.intro hs04 (wBytes g v4 _ 40 A b.length c b w4 hw4 (HB.out.1.keepPos hs04.1 (fun h0 ad ha _ => HB.out.2.1 h0 ad ha)) rfl (by have := HB.out.2.2; omega) (fun h0 ad ha hlt hm => by
    have h1 := HB.out.1.blk h0 ad ha
    have h2 := HB.out.2.1 h0 ad ha
    rcases List.mem_cons.1 hm with hm | hm
    · exact h2 (by rw [hm]; exact List.mem_cons_self ..)
    · have hb4 : v4.ownBlock = some ad.block := by cases hv : v4.ownBlock with
        | none => rw [hv] at hm; simp at hm
        | some j => rw [hv] at hm; simp at hm; rw [hm]
      rcases hs04.2 _ hb4 with h | h
      · exact h2 (List.mem_cons_of_mem _ (by rw [h]; simp))
      · omega)))
  clear hw4 hs4 hs04
  go_wp2_with fail
  refine (H5.out.2).mono ?_
  rintro e w5 ⟨rfl, v5, hw5, hs5⟩
  have H6 := hide (And.intro hw5 (H5.out.1.trans hs5))
  clear hw5 hs5
  go_wp2_with fail
  go_end0
  refine ⟨rfl, v5, ?_, H6.out.2⟩
  have h := H6.out.1
  rw [HNUM.out]
  have hN : laidN (laidN 1 8 b.length 16) 24 y 16 + num b * 2 ^ (40 + padOf 40) = true.toNat + b.length % 65536 * 2 ^ 8 + (4294967295 - b.length) % 65536 * 2 ^ 24 + num b * 2 ^ 40 := by
    rw [HY.out]; rfl
  have hL : 40 + padOf 40 + 8 * b.length = 8 * (5 + b.length) := by
    rw [show padOf 40 = 0 from rfl]; omega
  rw [hN, hL] at h
  exact h

theorem mem_own' {v : Value} {b : Nat} (h : b ∈ v.ownBlock.toList) : v.ownBlock = some b := mem_own.1 h

set_option maxRecDepth 100000 in
set_option maxHeartbeats 4000000 in
theorem store_any (A : Option Addr) (n c : Nat) (b : List UInt8) (w : World) (hb : Holds w 1 A n (bvals b)) (hl : b.length = n) (hn : n < 65536) :
    Calls Tryd.prog 8 #[.slice A n c] w fun e w' => ∃ v, e = .returned v ∧ w'.ownsRow w.heap.size 5 1 v (storeB true b).length (bvals (storeB true b)) ∧ Only [] w w' := by
  subst hl
  have hn1 : ¬ (65535 : Int) < (b.length : Int) := by omega
  have HB := hide (And.intro hb hn)
  clear hb hn
  go_enter Tryd.func8, Tryd.ntmps8
  go_wp2_with fail
  refine (newWriter_any w).mono ?_
  rintro e w1 ⟨g, rfl, hg, hw1, ho1⟩
  have H1 := hide (And.intro hg (And.intro ho1 (layStored_any g _ A b.length c b w1 hw1 (HB.out.1.keep ho1 (by simp)) rfl HB.out.2 (fun h0 ad ha hm => by
    have h1 := HB.out.1.blk h0 ad ha
    simp [Value.ownBlock] at hm
    omega))))
  clear hg ho1 hw1
  go_wp2_with fail
  go_loopw [0] (fun s wr => s = .slice A b.length c ∧ wr = w1) (fun _ _ => 0)
  case atStart => exact ⟨rfl, rfl⟩
  case round =>
    obtain ⟨rfl, rfl⟩ := hrel
    go_wp2_with fail
    refine (H1.out.2.2).mono ?_
    rintro e w2 ⟨rfl, v2, hw2, hs2⟩
    have H2 := hide (And.intro hs2 (wDone g v2 _ _ w2 hw2 (by have := HB.out.2; omega)))
    clear hs2 hw2
    go_wp2_with fail
    refine (H2.out.2).mono ?_
    rintro e w3 ⟨rv, bs, rfl, hown, ho3, hlen, hnum⟩
    have hbs : bs = storeB true b := num_inj (by rw [hlen, storeB_length]; omega) hnum
    subst hbs
    have o02 : Only [] w w2 := H1.out.2.1.trans H2.out.1.1 (fun i hi hlt => by
      rcases List.mem_cons.1 hi with rfl | hi
      · have := H1.out.1; omega
      · simp [Value.ownBlock] at hi)
    have H3 := hide (And.intro (own_mono hown o02.size) (o02.trans ho3 (by simp)))
    clear hown ho3 o02 hlen hnum
    go_wp2_with fail
    go_ret
    exact ⟨rv, rfl, H3.out.1, H3.out.2⟩

/-- One fixed block of literals. -/
def symsOf (b : List UInt8) : List Nat := (b.map UInt8.toNat).reverse
/-- The bytes bs are those of b as a fixed block that is the last one. -/
def IsFixed (b bs : List UInt8) : Prop := num bs = 3 + 8 * bitsN fixedL (256 :: symsOf b) ∧ bs.length = (3 + bitsL fixedL (256 :: symsOf b) + 7) / 8
theorem IsFixed.inj {b x y : List UInt8} (h : IsFixed b x) (k : IsFixed b y) : x = y := num_inj (h.2.trans k.2.symm) (h.1.trans k.1.symm)
theorem symsOf_take (b : List UInt8) (j : Nat) (h : j < b.length) : symsOf (b.take (j + 1)) = b[j].toNat :: symsOf (b.take j) := by
  unfold symsOf
  rw [take_snoc h, List.map_append, List.reverse_append]; rfl
theorem symsOf_length (b : List UInt8) : (symsOf b).length = b.length := by simp [symsOf]
theorem fixL_pos : ∀ i, i < 288 → ln fixedL i ≠ 0 := by
  intro i hi
  have := fixedL_get hi (by rw [fixL_len]; exact hi)
  rw [ln_get (by rw [fixL_len]; exact hi), this]
  split
  · decide
  · split
    · decide
    · split <;> decide
theorem cvI_code (i : Nat) (hi : i < 288) : cvI fixedL (i : Int) = rev (cd fixedL i) (ln fixedL i) := by
  unfold cvI
  rw [lnI_nat, Int.toNat_natCast, if_pos (fixL_pos i hi)]
/-- One symbol more is laid. -/
theorem laid_sym (r : List Nat) (i : Nat) (hi : i < 288) : laidN (3 + 8 * bitsN fixedL r) (3 + bitsL fixedL r) (cvI fixedL (i : Int)) (lnI fixedL (i : Int) : Int) = 3 + 8 * bitsN fixedL (i :: r) ∧
    laidL (3 + bitsL fixedL r) (lnI fixedL (i : Int) : Int) = 3 + bitsL fixedL (i :: r) := by
  have h0 := fixL_pos i hi
  have h15 := fixL_far' i
  have hB : bitsN fixedL (i :: r) = bitsN fixedL r + rev (cd fixedL i) (ln fixedL i) * 2 ^ bitsL fixedL r := rfl
  have hL : bitsL fixedL (i :: r) = bitsL fixedL r + ln fixedL i := rfl
  rw [cvI_code i hi, lnI_nat]
  unfold laidN laidL
  rw [if_pos (by omega), if_pos (by omega), Int.toNat_natCast, Nat.mod_eq_of_lt (rev_lt _ _), hB, hL]
  refine ⟨?_, by omega⟩
  rw [Nat.pow_add, Nat.mul_add, ← Nat.mul_assoc, Nat.mul_comm _ (2 ^ 3), Nat.mul_assoc, Nat.add_assoc]

/-- A table stays while a writer writes. -/
theorem Tb.since {w w' : World} {g gT N n : Nat} {v v' : Value} {l : List UInt8} (h : Tb w gT l) (hW : Wr w g v N n) (hs : WSince w g v w' v') : Tb w' gT l := by
  obtain ⟨S, hD, hT⟩ := h
  obtain ⟨lb, rest, cnt, ⟨h1, h2, _⟩, _⟩ := hW
  refine Tb.only ⟨S, hD, hT⟩ hs.1 (fun hm => ?_)
  rcases List.mem_cons.1 hm with rfl | hm
  · exact Has.ne hT h1 (by decide) rfl
  · exact own_ne h2 hT (by decide) (mem_own.1 hm).symm

set_option maxRecDepth 100000 in
set_option maxHeartbeats 4000000 in
theorem fixedP_any (A : Option Addr) (n c : Nat) (b : List UInt8) (w : World) (hb : Holds w 1 A n (bvals b)) (hl : b.length = n) (hn : n ≤ 1000000) :
    Calls Tryd.prog 9 #[.slice A n c] w fun e w' => ∃ v bs, e = .returned v ∧ IsFixed b bs ∧ w'.ownsRow w.heap.size 5 1 v bs.length (bvals bs) ∧ Only [] w w' := by
  subst hl
  have HB := hide (And.intro hb hn)
  clear hb hn
  go_enter Tryd.func9, Tryd.ntmps9
  go_wp2_with fail
  refine (fixedC_any w).mono ?_
  rintro e w1 ⟨gc, rfl, ⟨gT, gD, hcd, hT⟩, ho1⟩
  have k0 : w1.cell? ⟨gc, 0, none⟩ = some (.pointer (some ⟨gT, 0, none⟩)) := hcd.cell 0
  have H1 := hide (And.intro hT ho1)
  clear hT ho1 hcd
  go_wp2_with fail
  refine (newWriter_any w1).mono ?_
  rintro e w2 ⟨g, rfl, hg, hw2, ho2⟩
  have H2 := hide (And.intro hg (And.intro (H1.out.2.trans ho2 (S := []) (by simp)) (And.intro (H1.out.1.1.only ho2 (by simp)) (wBits g _ 0 0 3 3 w2 hw2 (by decide) (by decide)))))
  clear hg ho2 hw2
  go_wp2_with fail
  refine (H2.out.2.2.2).mono ?_
  rintro e w3 ⟨rfl, v3, hw3, hs3⟩
  rw [show laidN 0 0 3 3 = 3 from rfl, show laidL 0 3 = 3 from rfl] at hw3
  have hT3 : Tb w3 gT fixedL := H2.out.2.2.1.only hs3.1 (fun hm => by
    have h1 := H1.out.1.1.lt
    have h2 := H2.out.1
    simp [Value.ownBlock] at hm
    omega)
  have hsz := H2.out.2.1.size
  have H3 := hide (And.intro hw3 (And.intro hs3 hT3))
  clear hw3 hs3 hT3
  go_wp2_with fail
  go_loopw [16] (fun i wr => ∃ (j : Nat) (v' : Value), j ≤ b.length ∧ i = .int .i64 j ∧ Wr wr g v' (3 + 8 * bitsN fixedL (symsOf (b.take j))) (3 + bitsL fixedL (symsOf (b.take j))) ∧ WSince w2 g (.slice none 0 0) wr v' ∧ Tb wr gT fixedL) (fun i _ => b.length - (intOf i).toNat)
  case atStart => exact ⟨0, v3, Nat.zero_le _, rfl, H3.out.1, H3.out.2.1, H3.out.2.2⟩
  case round =>
    obtain ⟨j, v', hj, rfl, hW, hS, hT⟩ := hrel
    have hbl := bitsL_le fixL_far' (symsOf (b.take j))
    rw [symsOf_length, List.length_take, Nat.min_eq_left hj] at hbl
    have hnb := HB.out.2
    by_cases hjn : j < b.length
    · have hbr := (HB.out.1.keep H2.out.2.1 (by simp)).keepPos hS.1 (fun h0 ad ha _ hm => by
        have h1 := HB.out.1.blk h0 ad ha
        have h2 := H2.out.1
        have h3 := H1.out.2.size
        simp [Value.ownBlock] at hm
        omega)
      obtain ⟨ba, oa, rfl, hc2⟩ := hbr.addr (by simpa using (show 0 < b.length by omega))
      have hcell : wr.cell? ⟨ba, oa + j, none⟩ = some (.int .u8 (b[j].toNat : Int)) := hc2 j _ (bvals_get b j hjn)
      have hlt := b[j].toNat_lt
      have htk := symsOf_take b j hjn
      have hbl2 := bitsL_le fixL_far' (symsOf (b.take (j + 1)))
      rw [htk] at hbl2
      obtain ⟨x, hx⟩ : ∃ x, x = b[j].toNat := ⟨_, rfl⟩
      rw [← hx] at hcell hlt htk hbl2
      have hla := laid_sym (symsOf (b.take j)) x (by omega)
      have HCo := hide (code_any gT fixedL (x : Int) wr hT (by rw [fixL_len]; decide) fixL_far' fixL_sum)
      have hcv := cvI_lt fixL_sum fixL_far' (x : Int)
      have HJ := hide (And.intro hW (And.intro hS (And.intro hT (And.intro hla (And.intro htk hbl)))))
      clear hW hS hT hla htk hbr hc2 hx hbl hbl2
      generalize cvI fixedL (x : Int) = cv at *
      generalize lnI fixedL (x : Int) = nn at *
      go_wp2_with fail
      refine (HCo.out).mono ?_
      rintro e w4 ⟨rfl, m4, rfl⟩
      have hW4 := HJ.out.1.keep ((Only.refl [] wr).drewN m4)
      have hBt := wBits g v' _ _ cv (nn : Int) (wr.drewN m4) hW4 (by omega) (by have := HJ.out.2.2.2.2.2; have := HB.out.2; omega)
      rw [HJ.out.2.2.2.1.1, HJ.out.2.2.2.1.2] at hBt
      have H4 := hide (And.intro hBt hW4)
      clear hBt hW4
      go_wp2_with fail
      refine (H4.out.1).mono ?_
      rintro e w5 ⟨rfl, v5, hw5, hs5⟩
      have hT5 := (HJ.out.2.2.1.only ((Only.refl [] wr).drewN m4) (by simp)).since H4.out.2 hs5
      have hS5 : WSince w2 g (.slice none 0 0) w5 v5 := (HJ.out.2.1.trans ⟨(Only.refl _ wr).drewN m4, fun _ h => .inl h⟩).trans hs5
      have H5 := hide (And.intro hw5 (And.intro hS5 hT5))
      clear hw5 hs5 hT5 hS5
      go_wp2_with fail
      go_roundw
      case rel => exact ⟨j + 1, v5, hjn, by go_num, by rw [HJ.out.2.2.2.2.1]; exact H5.out.1, H5.out.2.1, H5.out.2.2⟩
      case measure => simp [intOf]; omega
    · obtain rfl : j = b.length := by omega
      rw [List.take_length] at hW hbl
      have hla := laid_sym (symsOf b) 256 (by decide)
      have HCo := hide (code_any gT fixedL ((256 : Nat) : Int) wr hT (by rw [fixL_len]; decide) fixL_far' fixL_sum)
      have hcv := cvI_lt fixL_sum fixL_far' ((256 : Nat) : Int)
      have HJ := hide (And.intro hW (And.intro hS (And.intro hla hbl)))
      clear hW hS hT hla hbl
      generalize cvI fixedL ((256 : Nat) : Int) = cv at *
      generalize lnI fixedL ((256 : Nat) : Int) = nn at *
      go_wp2_with fail
      refine (HCo.out).mono ?_
      rintro e w4 ⟨rfl, m4, rfl⟩
      have hW4 := HJ.out.1.keep ((Only.refl [] wr).drewN m4)
      have hBt := wBits g v' _ _ cv (nn : Int) (wr.drewN m4) hW4 (by omega) (by have := HJ.out.2.2.2; have := HB.out.2; omega)
      rw [HJ.out.2.2.1.1, HJ.out.2.2.1.2] at hBt
      have H4 := hide hBt
      clear hBt hW4
      go_wp2_with fail
      refine (H4.out).mono ?_
      rintro e w5 ⟨rfl, v5, hw5, hs5⟩
      have hS5 : WSince w2 g (.slice none 0 0) w5 v5 := (HJ.out.2.1.trans ⟨(Only.refl _ wr).drewN m4, fun _ h => .inl h⟩).trans hs5
      have hL : bitsL fixedL (256 :: symsOf b) = bitsL fixedL (symsOf b) + ln fixedL 256 := rfl
      have h15 := fixL_far' 256
      have H5 := hide (And.intro hS5 (wDone g v5 _ _ w5 hw5 (by have := HJ.out.2.2.2; have := HB.out.2; omega)))
      clear hw5 hs5 hS5 hL h15
      go_wp2_with fail
      refine (H5.out.2).mono ?_
      rintro e w6 ⟨rv, bs, rfl, hown, ho6, hlen, hnum⟩
      have o05 : Only [] w w5 := H2.out.2.1.trans H5.out.1.1 (fun i hi hlt => by
        rcases List.mem_cons.1 hi with rfl | hi
        · have := H2.out.1; have := H1.out.2.size; omega
        · simp [Value.ownBlock] at hi)
      have H6 := hide (And.intro (own_mono hown o05.size) (And.intro (o05.trans ho6 (by simp)) (And.intro hlen hnum)))
      clear hown ho6 o05 hlen hnum
      go_wp2_with fail
      go_ret
      exact ⟨rv, bs, rfl, ⟨H6.out.2.2.2, H6.out.2.2.1⟩, H6.out.1, H6.out.2.1⟩
end Go.Proofs.YtopjkmobnmaaaaaDoor


namespace Go.Proofs.YtopjkmobnmaaaaaDoor
open Go Go.RowKit

theorem run_arr4_all (g : Nat) (w : World) : (Instr.sliceAt 32 (.pointer (some ⟨g, 0, none⟩)) none none none).run Tryd.prog w = .ok (.slice (some ⟨g, 0, none⟩) 4 4) w := by
  rw [run_sliceAt_array_all w 32 ⟨g, 0, none⟩ arr4_elem, arr4_size]
  simp [slicedAt, Result.andThen, arr4_len, Addr.add]

/-- What a way of laying gives. -/
def LayK (L : List UInt8 → Prop) (w : World) (e : Ending) (w' : World) : Prop :=
  ∃ v bs, e = .returned v ∧ L bs ∧ w'.ownsRow w.heap.size 5 1 v bs.length (bvals bs) ∧ Only [] w w'

theorem two_lit (w : World) : Holds (w.alloc (.cells #[.int .u8 120, .int .u8 1] 5)) 1 (some ⟨w.heap.size, 0, none⟩) 2 (bvals [0x78, 0x01]) := by
  have := Holds.lit w #[.int .u8 120, .int .u8 1] 5
  simpa [bvals] using this
theorem pack_concat (s q gq cv : Nat) (Av : Option Addr) (bs : List UInt8) (w5 : World) (hA : Holds w5 1 (some ⟨q, 0, none⟩) 2 (bvals [0x78, 0x01])) (hB : Holds w5 1 Av bs.length (bvals bs)) (hC : Holds w5 1 (some ⟨gq, 0, none⟩) 4 (bvals (bigN s))) (hl : bs.length ≤ 90000) :
    Calls Tryd.prog 13 #[.slice (some ⟨w5.heap.size, 0, none⟩) 3 3] (w5.alloc (.cells #[.slice (some ⟨q, 0, none⟩) 2 2, .slice Av bs.length cv, .slice (some ⟨gq, 0, none⟩) 4 4] 22)) fun e w' =>
      ∃ v, e = .returned v ∧ w'.ownsRow w5.heap.size 5 1 v ([0x78, 0x01] ++ bs ++ bigN s).length (bvals ([0x78, 0x01] ++ bs ++ bigN s)) ∧ Only [] w5 w' := by
  have o1 : Only [] w5 (w5.alloc (.cells #[.slice (some ⟨q, 0, none⟩) 2 2, .slice Av bs.length cv, .slice (some ⟨gq, 0, none⟩) 4 4] 22)) := (Only.refl [] w5).alloc _
  have hP : Holds (w5.alloc (.cells #[.slice (some ⟨q, 0, none⟩) 2 2, .slice Av bs.length cv, .slice (some ⟨gq, 0, none⟩) 4 4] 22)) 1 (some ⟨w5.heap.size, 0, none⟩) 3 ([(⟨some ⟨q, 0, none⟩, 2, [0x78, 0x01]⟩ : CPart), ⟨Av, cv, bs⟩, ⟨some ⟨gq, 0, none⟩, 4, bigN s⟩].map CPart.val) := by
    have := Holds.lit w5 #[.slice (some ⟨q, 0, none⟩) 2 2, .slice Av bs.length cv, .slice (some ⟨gq, 0, none⟩) 4 4] 22
    simpa [CPart.val, bigN] using this
  have hps : ∀ p ∈ [(⟨some ⟨q, 0, none⟩, 2, [0x78, 0x01]⟩ : CPart), ⟨Av, cv, bs⟩, ⟨some ⟨gq, 0, none⟩, 4, bigN s⟩], Holds (w5.alloc (.cells #[.slice (some ⟨q, 0, none⟩) 2 2, .slice Av bs.length cv, .slice (some ⟨gq, 0, none⟩) 4 4] 22)) 1 p.A p.l.length (bvals p.l) := by
    intro p hp
    simp only [List.mem_cons, List.not_mem_nil, or_false] at hp
    rcases hp with rfl | rfl | rfl
    · exact hA.keep o1 (by simp)
    · exact hB.keep o1 (by simp)
    · exact hC.keep o1 (by simp)
  have hall : CPart.all [(⟨some ⟨q, 0, none⟩, 2, [0x78, 0x01]⟩ : CPart), ⟨Av, cv, bs⟩, ⟨some ⟨gq, 0, none⟩, 4, bigN s⟩] = [0x78, 0x01] ++ bs ++ bigN s := by
    simp [CPart.all]
  have hlen : ([0x78, 0x01] ++ bs ++ bigN s).length = bs.length + 6 := by simp [bigN]
  have hcon := concat_any (some ⟨w5.heap.size, 0, none⟩) 3 _ _ hP (by simp) hps
  rw [hall] at hcon
  refine (hcon (by omega) (by omega)).mono ?_
  rintro e w6 ⟨v, rfl, ho, h1⟩
  refine ⟨v, rfl, own_mono ho (by simp), o1.trans h1 (by simp)⟩

/-! DRAFT, not built to its end (all goes well up to region 5; there the walk takes past 150 s: many orders; two sorries stand: the sum's bytes behind the call, the end).
set_option maxRecDepth 100000 in
set_option maxHeartbeats 8000000 in
theorem pack_fixed (A : Option Addr) (n c : Nat) (b : List UInt8) (w : World) (hb : Holds w 1 A n (bvals b)) (hl : b.length = n) (hc : n ≤ c) (hn : n ≤ 1000000) (L : List UInt8 → Prop) (hL : ∀ bs, L bs → bs.length ≤ 90000)
    (hlay : ∀ w1, Only [] w w1 → Calls Tryd.prog 9 #[.slice A n c] w1 (LayK L w1)) :
    Calls Tryd.prog 6 #[.slice A n c, .bool true] w fun e w' => ∃ v bs, e = .returned v ∧ L bs ∧ w'.ownsRow w.heap.size 5 1 v ([0x78, 0x01] ++ bs ++ bigN (adWord (adOf b))).length (bvals ([0x78, 0x01] ++ bs ++ bigN (adWord (adOf b)))) ∧ Only [] w w' := by
  have HB := hide (And.intro hb (And.intro hl (And.intro hc hn)))
  have HL := hide (And.intro hL hlay)
  clear hb hl hc hn hL hlay
  go_enter Tryd.func6, Tryd.ntmps6
  go_wp2_with fail
  refine (newAdler_any w).mono ?_
  rintro e w1 ⟨ga, rfl, hga, had, ho1⟩
  have hp : Part.Ok ⟨A, c, b⟩ w1 ga := ⟨by
      have h := HB.out.1.keep ho1 (by simp)
      rw [← HB.out.2.1] at h
      exact h, by have := HB.out.2.1; have := HB.out.2.2.1; show b.length ≤ c; omega, by have := HB.out.2.1; have := HB.out.2.2.2; show b.length ≤ _; omega, fun h0 ad ha => by
      obtain ⟨ad', h1, h2, _⟩ := HB.out.1.2 (by have := HB.out.2.1; have h2 : 0 < b.length := h0; omega)
      obtain rfl : ad = ad' := by rw [h1] at ha; exact (Option.some.inj ha).symm
      omega⟩
  have t3 := ofAdler_one ga [] A n c b w1 had hp HB.out.2.1 _ rfl
  have H1 := hide (And.intro ho1 (And.intro had hga))
  have HT := hide t3
  clear ho1 had hga hp t3
  go_wp2_with fail
  refine (HT.out).mono ?_
  rintro e w2 ⟨rfl, ha2, ho2⟩
  have hlt : adWord (adOf b) < 4294967296 := by have := adOf_lt b; unfold adWord; omega
  have HBg := hide (big_any (adWord (adOf b)) hlt w2)
  have H2 := hide (And.intro ha2 ho2)
  clear ha2 ho2 hlt
  go_wp2_with fail
  refine (HBg.out).mono ?_
  rintro e w3 ⟨rfl, ho3⟩
  have hst : (storeCells ⟨w3.heap.size, 0, none⟩ (bvals (bigN (adWord (adOf b))))).run Tryd.prog (w3.alloc (.cells #[.int .u8 0, .int .u8 0, .int .u8 0, .int .u8 0] 32)) = .ok () (w3.alloc (.cells (bvals (bigN (adWord (adOf b)))).toArray 32)) :=
    run_storeCells_new (P := Tryd.prog) w3 32 #[.int .u8 0, .int .u8 0, .int .u8 0, .int .u8 0] (bvals (bigN (adWord (adOf b)))).toArray (by kernel_rfl) rfl (by simp [bvals, bigN, Value.oneCell'])
  have o4 : Only [] w (w3.alloc (.cells (bvals (bigN (adWord (adOf b)))).toArray 32)) := ((H1.out.1.trans (S := []) (T := [ga]) (H2.out.2.trans (ho3.weak (T := [ga]) (by simp)) (by simp)) (by have := H1.out.2.2; simp; omega))).alloc _
  have hg4 : Has (w3.alloc (.cells (bvals (bigN (adWord (adOf b)))).toArray 32)) w3.heap.size 32 (bvals (bigN (adWord (adOf b)))).toArray := Has.new w3 _ _
  obtain ⟨w4, hw4⟩ : ∃ w4, w4 = w3.alloc (.cells (bvals (bigN (adWord (adOf b)))).toArray 32) := ⟨_, rfl⟩
  rw [← hw4] at hst o4 hg4
  have hs3 : w.heap.size ≤ w3.heap.size := by have := H1.out.1.size; have := H2.out.2.size; have := ho3.size; omega
  obtain ⟨q, hq⟩ : ∃ q, q = w3.heap.size := ⟨_, rfl⟩
  have H3 := hide (And.intro o4 (And.intro hg4 hs3))
  clear ho3 o4 hg4 hs3 hw4
  go_wp2_with fail
  go_region_with (first
    | (go_at_call 9; refine (HL.out.2 _ (by first | exact H3.out.1.drew | exact H3.out.1.drew.alloc _)).mono ?_; rintro e w5 ⟨v, bs, rfl, hbs, how, hol⟩; obtain ⟨Av, cv, rfl, hcv, _⟩ := own_shape how)
    | go_loud (go_at_call 13; refine (pack_concat (adWord (adOf b)) _ _ _ _ _ _ (by
        first
          | exact (show Holds w5 1 (some ⟨w4.heap.size, 0, none⟩) 2 (bvals [0x78, 0x01]) from (two_lit w4.drew).keep hol (by simp))
          | exact two_lit _) (by first | exact Holds.of_own how | exact (Holds.of_own how).keep ((Only.refl [] _).alloc _) (by simp)) (by sorry) (HL.out.1 _ hbs)).mono ?_; rintro e w6 ⟨vo, rfl, how6, ho6⟩))
  all_goals
    go_wp2_with fail
    go_ret
    sorry
-/
end Go.Proofs.YtopjkmobnmaaaaaDoor


namespace Go.Proofs.YtopjkmobnmaaaaaDoor
open Go Go.RowKit

/-- A world in which all that was there is as it was. -/
structure Later (w : World) where
  val : World
  only : Only [] w val

instance later_nonempty (w : World) : Nonempty (Later w) := ⟨⟨w, Only.refl [] w⟩⟩

theorem region_later {P : Program} {id : Nat} {Q : Exit → Act → World → Prop} {a : Act} {w : World} {l : List Oper} (hm : P.follows .mixedOrders = true) (hB : Region.lexB .any l.toArray = true)
    (h : wpQuiet P l.toArray (fun w' => ∃ x : Later w, w' = x.val) (fun a' => ∀ w', (∃ x : Later w, w' = x.val) → Q .normal a' w') l a) : (Code.region id l.toArray true).wp P Q a w :=
  wp_region_quiet (C := fun w' => ∃ x : Later w, w' = x.val) hm hB ⟨⟨_, (Only.refl [] w).drew⟩, rfl⟩ h

/-- A call there. -/
theorem later_of {P : Program} {f : FuncId} {args : Array Value} {w : World} {x : Later w} {v : Value} (h : Calls P f args x.val fun e w' => e = .returned v ∧ Only [] x.val w') :
    Calls P f args x.val fun e w'' => e = .returned v ∧ ∃ y : Later w, w'' = y.val :=
  h.mono fun _ w' ⟨he, ho⟩ => ⟨he, ⟨w', x.only.trans ho (by simp)⟩, rfl⟩
/-- A cell there. -/
theorem later_cell {w : World} {p : Addr} {u : Value} (h : w.cell? p = some u) : ∀ x : Later w, x.val.cell? p = some u := fun x => by
  rw [x.only.cell (World.block_lt_of_cell? w p h) (by simp)]; exact h
end Go.Proofs.YtopjkmobnmaaaaaDoor

