/-
  The reference's Store, Fixed.
-/
import Derived.Test.YtglkfgpefpebmaaDoorInfS
import Derived.Test.YtglkfgpefpebmaaDoorHufU
import Derived.Test.YtglkfgpefpebmaaDoorMTWrite
import Derived.Test.YtglkfgpefpebmaaDoorCut
import Derived.Deep.DeepCutAuto
namespace Go.Proofs.YtglkfgpefpebmaaDoor
open Go Go.RowKit

theorem TWr.keep {w w' : World} {g : Nat} {v : Value} {N n : Nat} (h : TWr w g v N n) (ho : Only [] w w') : TWr w' g v N n := h.only ho (by simp) (by simp)

/-- The symbols laid ahead of round j. -/
def symsTo (b : List UInt8) (j : Nat) : List Nat := if j ≤ b.length then symsOf (b.take j) else 256 :: symsOf b
theorem symsTo_end (b : List UInt8) : symsTo b (b.length + 1) = 256 :: symsOf b := if_neg (by omega)
theorem symsTo_len (b : List UInt8) : symsTo b b.length = symsOf b := by unfold symsTo; rw [if_pos (Nat.le_refl _), List.take_length]
theorem symsTo_step (b : List UInt8) (j : Nat) (h : j < b.length) : symsTo b (j + 1) = b[j].toNat :: symsTo b j := by
  unfold symsTo
  rw [if_pos (by omega), if_pos (by omega), symsOf_take b j h]
theorem symsTo_le (b : List UInt8) (j : Nat) : (symsTo b j).length ≤ b.length + 1 := by
  unfold symsTo
  split
  · rw [symsOf_length, List.length_take]; omega
  · rw [List.length_cons, symsOf_length]; omega

set_option maxRecDepth 100000 in
set_option maxHeartbeats 4000000 in
theorem tFixedP_any (A : Option Addr) (n c : Nat) (b : List UInt8) (w : World) (hb : Holds w 1 A n (bvals b)) (hl : b.length = n) (hn : n ≤ 1000000) :
    Calls Tryd.prog 13 #[.slice A n c] w fun e w' => ∃ v bs, e = .returned v ∧ IsFixed b bs ∧ w'.ownsRow w.heap.size 5 1 v bs.length (bvals bs) ∧ Only [] w w' := by
  subst hl
  have HB := hide (And.intro hb hn)
  clear hb hn
  go_enter Tryd.func13, Tryd.ntmps13
  go_wp2_with fail
  refine (tFixed_any w).mono ?_
  rintro e w1 ⟨g1, g2, rfl, h1, _, ho1⟩
  have H1 := hide (And.intro h1 ho1)
  clear h1 ho1
  go_wp2_with fail
  refine (tNewT (some ⟨g1, 0, none⟩) 288 288 fixedL w1 H1.out.1 fixL_len (by decide) fixL_far fixL_may).mono ?_
  rintro e w2 ⟨gT, rfl, hgT, hRT, ho2⟩
  have H2 := hide (And.intro hRT (H1.out.2.trans ho2 (S := []) (by simp)))
  clear hgT hRT ho2
  go_wp2_with fail
  have hT0 : TWr (w2.alloc (.cells #[.slice none 0 0] 54)) w2.heap.size (.slice none 0 0) 0 0 := ⟨[], Has.new _ _ _, World.ownsRow_nil _ _ _ _, by simp, rfl, rfl⟩
  obtain ⟨g, hg⟩ : ∃ g, g = w2.heap.size := ⟨_, rfl⟩
  rw [← hg] at hT0 ⊢
  have HG := hide hg
  have oa : Only [] w2 (w2.alloc (.cells #[.slice none 0 0] 54)) := (Only.refl [] w2).alloc _
  generalize w2.alloc (.cells #[.slice none 0 0] 54) = w3 at *
  have H3 := hide (And.intro oa (tWBits g _ 0 0 1 1 w3 hT0 (by decide) (by decide)))
  clear oa hT0 hg
  refine (H3.out.2).mono ?_
  rintro e w4 ⟨rfl, v4, hw4, hs4⟩
  rw [show laidN 0 0 1 1 = 1 from rfl, show laidL 0 1 = 1 from rfl] at hw4
  have H4 := hide (And.intro hs4 (tWBits g v4 1 1 1 2 w4 hw4 (by decide) (by decide)))
  clear hw4 hs4
  go_wp2_with fail
  refine (H4.out.2).mono ?_
  rintro e w5 ⟨rfl, v5, hw5, hs5⟩
  rw [show laidN 1 1 1 2 = 3 from rfl, show laidL 1 2 = 3 from rfl] at hw5
  have H5 := hide (And.intro hw5 (H4.out.1.trans hs5))
  clear hw5 hs5
  go_wp2_with fail
  have hto : ∀ wr v', WSince w3 g (.slice none 0 0) wr v' → Only [] w2 wr := fun wr v' hs => H3.out.1.trans hs.1 (fun i hi hlt => by
    have := HG.out
    simp [Value.ownBlock] at hi
    omega)
  have HTO := hide hto
  clear hto
  go_loopw [8] (fun i wr => ∃ (j : Nat) (v' : Value), j ≤ b.length + 1 ∧ i = .int .i64 j ∧ TWr wr g v' (3 + 8 * bitsN fixedL (symsTo b j)) (3 + bitsL fixedL (symsTo b j)) ∧ WSince w3 g (.slice none 0 0) wr v') (fun i _ => b.length + 1 - (intOf i).toNat)
  case atStart => exact ⟨0, v5, Nat.zero_le _, rfl, H5.out.1, H5.out.2⟩
  case round =>
    obtain ⟨j, v', hj, rfl, hW, hS⟩ := hrel
    have hbl := bitsL_le fixL_far' (symsTo b j)
    have hsl := symsTo_le b j
    have hnb := HB.out.2
    have hRT : RT wr w1.heap.size gT fixedL := H2.out.1.idle (HTO.out wr v' hS)
    by_cases hjn : j < b.length
    · have hbr := HB.out.1.keep (H2.out.2.trans (HTO.out wr v' hS) (by simp)) (by simp)
      obtain ⟨ba, oa, rfl, hc2⟩ := hbr.addr (by simpa using (show 0 < b.length by omega))
      have hcell : wr.cell? ⟨ba, oa + j, none⟩ = some (.int .u8 (b[j].toNat : Int)) := hc2 j _ (bvals_get b j hjn)
      have hlt := b[j].toNat_lt
      have htk := symsTo_step b j hjn
      obtain ⟨x, hx⟩ : ∃ x, x = b[j].toNat := ⟨_, rfl⟩
      rw [← hx] at hcell hlt htk
      have hla := laid_sym (symsTo b j) x (by omega)
      have HCo := hide (tCode_any gT w1.heap.size fixedL (x : Int) wr hRT (by rw [fixL_len]; decide) fixL_far' fixL_sum)
      have hcv := cvI_lt fixL_sum fixL_far' (x : Int)
      have HJ := hide (And.intro hW (And.intro hS (And.intro hla (And.intro htk (And.intro hbl hsl)))))
      clear hW hS hla htk hbr hc2 hx hbl hsl hRT
      generalize cvI fixedL (x : Int) = cv at *
      generalize lnI fixedL (x : Int) = nn at *
      go_wp2_with fail
      refine (HCo.out).mono ?_
      rintro e w6 ⟨rfl, m6, rfl⟩
      have hW6 := HJ.out.1.keep ((Only.refl [] wr).drewN m6)
      have hBt := tWBits g v' _ _ cv (nn : Int) (wr.drewN m6) hW6 (by omega) (by have := HJ.out.2.2.2.2; have := HB.out.2; omega)
      rw [HJ.out.2.2.1.1, HJ.out.2.2.1.2] at hBt
      have H6 := hide hBt
      clear hBt hW6
      go_wp2_with fail
      refine (H6.out).mono ?_
      rintro e w7 ⟨rfl, v7, hw7, hs7⟩
      have hS7 : WSince w3 g (.slice none 0 0) w7 v7 := (HJ.out.2.1.trans ⟨(Only.refl _ wr).drewN m6, fun _ h => .inl h⟩).trans hs7
      have H7 := hide (And.intro hw7 hS7)
      clear hw7 hs7 hS7
      go_wp2_with fail
      go_roundw
      case rel => exact ⟨j + 1, v7, by omega, by go_num, by rw [HJ.out.2.2.2.1]; exact H7.out.1, H7.out.2⟩
      case measure => simp [intOf]; omega
    · rcases Nat.eq_or_lt_of_le (show b.length ≤ j by omega) with he | he
      · subst he
        rw [symsTo_len] at hW hbl hsl
        have hla := laid_sym (symsOf b) 256 (by decide)
        have HCo := hide (tCode_any gT w1.heap.size fixedL ((256 : Nat) : Int) wr hRT (by rw [fixL_len]; decide) fixL_far' fixL_sum)
        have hcv := cvI_lt fixL_sum fixL_far' ((256 : Nat) : Int)
        have HJ := hide (And.intro hW (And.intro hS (And.intro hla (And.intro hbl hsl))))
        clear hW hS hla hbl hsl hRT
        generalize cvI fixedL ((256 : Nat) : Int) = cv at *
        generalize lnI fixedL ((256 : Nat) : Int) = nn at *
        go_wp2_with fail
        refine (HCo.out).mono ?_
        rintro e w6 ⟨rfl, m6, rfl⟩
        have hW6 := HJ.out.1.keep ((Only.refl [] wr).drewN m6)
        have hBt := tWBits g v' _ _ cv (nn : Int) (wr.drewN m6) hW6 (by omega) (by have := HJ.out.2.2.2; have := HB.out.2; omega)
        rw [HJ.out.2.2.1.1, HJ.out.2.2.1.2] at hBt
        have H6 := hide hBt
        clear hBt hW6
        go_wp2_with fail
        refine (H6.out).mono ?_
        rintro e w7 ⟨rfl, v7, hw7, hs7⟩
        have hS7 : WSince w3 g (.slice none 0 0) w7 v7 := (HJ.out.2.1.trans ⟨(Only.refl _ wr).drewN m6, fun _ h => .inl h⟩).trans hs7
        have H7 := hide (And.intro hw7 hS7)
        clear hw7 hs7 hS7
        go_wp2_with fail
        go_roundw
        case rel => exact ⟨b.length + 1, v7, Nat.le_refl _, by go_num, by rw [symsTo_end]; exact H7.out.1, H7.out.2⟩
        case measure => simp [intOf]
      · obtain rfl : j = b.length + 1 := by omega
        rw [symsTo_end] at hW hbl hsl
        have hgt : ¬ ((b.length + 1 : Nat) : Int) ≤ (b.length : Int) := by omega
        have H6 := hide (And.intro hS (tWDone g v' _ _ wr hW (by omega)))
        clear hW hS hbl hsl hRT
        go_wp2_with fail
        refine (H6.out.2).mono ?_
        rintro e w6 ⟨rv, bs, rfl, hown, ho6, hlen, hnum⟩
        have o0r : Only [] w wr := H2.out.2.trans (HTO.out wr v' H6.out.1) (by simp)
        have H7 := hide (And.intro (own_mono hown o0r.size) (And.intro (o0r.trans ho6 (by simp)) (And.intro hlen hnum)))
        clear hown ho6 o0r hlen hnum
        go_wp2_with fail
        go_ret
        exact ⟨rv, bs, rfl, ⟨H7.out.2.2.2, H7.out.2.2.1⟩, H7.out.1, H7.out.2.1⟩

/-- b[0:n]. -/
theorem run_whole (A : Option Addr) (n c : Nat) (hc : n ≤ c) (w : World) : (Instr.slice 22 (.slice A n c) (some (.int .i64 0)) (some (.int .i64 (n : Int))) none).run Tryd.prog w = .ok (.slice A n c) w := by
  rw [run_slice_lh (w := w) 22 A n c bytes_elem .i64 .i64 0 n (by omega) (by omega) (by omega), bytes_size]
  cases A with
  | none => simp [sliced, Result.andThen]
  | some ad => by_cases h0 : c = 0 <;> simp [sliced, Result.andThen, h0, Addr.add]

theorem flip8 (n : Nat) (h : n < 256) : bits .xor .u8 255 (n : Int) = ((255 - n : Nat) : Int) := by
  have key : ∀ n : Fin 256, bits .xor .u8 255 ((n.val : Nat) : Int) = ((255 - n.val : Nat) : Int) := by decide +kernel
  exact key ⟨n, h⟩

set_option maxRecDepth 100000 in
set_option maxHeartbeats 4000000 in
theorem tStore_any (A : Option Addr) (n c : Nat) (b : List UInt8) (w : World) (hb : Holds w 1 A n (bvals b)) (hl : b.length = n) (hn : n < 65536) (hc : n ≤ c) :
    Calls Tryd.prog 11 #[.slice A n c] w fun e w' => ∃ v, e = .returned v ∧ w'.ownsRow w.heap.size 5 1 v (storeB true b).length (bvals (storeB true b)) ∧ Only [] w w' := by
  subst hl
  have hn2 : ¬ (65535 : Int) < (b.length : Int) := by omega
  obtain ⟨l0, hl0⟩ : ∃ x, x = b.length % 256 := ⟨_, rfl⟩
  obtain ⟨l1, hl1⟩ : ∃ x, x = b.length / 256 := ⟨_, rfl⟩
  obtain ⟨m0, hm0⟩ : ∃ x, x = 255 - l0 := ⟨_, rfl⟩
  obtain ⟨m1, hm1⟩ : ∃ x, x = 255 - l1 := ⟨_, rfl⟩
  have c1 : IntKind.u8.wrap (b.length : Int) = (l0 : Int) := by rw [IntKind.wrap_u8, hl0]; omega
  have c2 : IntKind.u8.wrap ((b.length : Int) / 256) = (l1 : Int) := by rw [IntKind.wrap_u8, hl1]; omega
  have c3 : (b.length : Int) % 256 = (l0 : Int) := by rw [hl0]; omega
  have c4 : (b.length : Int) / 256 % 256 = (l1 : Int) := by rw [hl1]; omega
  have e0 : bits .xor .u8 IntKind.u8.max (l0 : Int) = (m0 : Int) := by rw [hm0]; exact flip8 l0 (by omega)
  have e1 : bits .xor .u8 IntKind.u8.max (l1 : Int) = (m1 : Int) := by rw [hm1]; exact flip8 l1 (by omega)
  have e5 : (if IntKind.u8.signed = true then -1 else IntKind.u8.max) = IntKind.u8.max := by decide
  obtain ⟨i0, hi0, hz0, hz1, hz2⟩ := info_of u8_info
  have HL := hide (And.intro hl0 (And.intro hl1 (And.intro hm0 hm1)))
  have HB := hide (And.intro hb (And.intro hn hc))
  clear hb hn hc hl0 hl1 hm0 hm1
  go_enter Tryd.func11, Tryd.ntmps11
  go_wp2_with fail
  go_loopw [3, 4] (fun o i wr => o = .slice none 0 0 ∧ i = .int .i64 0 ∧ wr = w) (fun _ _ _ => 0)
  case atStart => exact ⟨rfl, rfl, rfl⟩
  case round =>
    obtain ⟨rfl, rfl, rfl⟩ := hrel
    have hlit := Holds.lit wr #[.int .u8 1, .int .u8 (l0 : Int), .int .u8 (l1 : Int), .int .u8 (m0 : Int), .int .u8 (m1 : Int)] 5
    have hnil := World.ownsRow_nil (wr.alloc (.cells #[.int .u8 1, .int .u8 (l0 : Int), .int .u8 (l1 : Int), .int .u8 (m0 : Int), .int .u8 (m1 : Int)] 5)) wr.heap.size 5 1
    have hsl := run_whole A b.length c HB.out.2.2
    have hbl : (5 + b.length) * 1 ≤ 140737488355328 := by have := HB.out.2.1; omega
    have hone := bvals_one b
    have oa : Only [] wr (wr.alloc (.cells #[.int .u8 1, .int .u8 (l0 : Int), .int .u8 (l1 : Int), .int .u8 (m0 : Int), .int .u8 (m1 : Int)] 5)) := (Only.refl [] wr).alloc _
    have HA := hide oa
    clear oa
    have hone5 : ∀ u ∈ [Value.int .u8 1, .int .u8 (l0 : Int), .int .u8 (l1 : Int), .int .u8 (m0 : Int), .int .u8 (m1 : Int)], u.oneCell' = true := by simp [Value.oneCell']
    have hlen5 : (0 + (#[Value.int .u8 1, .int .u8 (l0 : Int), .int .u8 (l1 : Int), .int .u8 (m0 : Int), .int .u8 (m1 : Int)] : Array Value).size) * 1 ≤ 140737488355328 := by simp
    have hb5 := HA.out.size
    go_upto_region 10 with (at_builtin; refine list_append _ rfl (.tmp 15) (.tmp 29) 22 rfl wr.heap.size 1 1 Tryd.underlying22 hi0 hz0 hz1 hz2 rfl (Nat.zero_lt_one) hnil rfl hlit rfl hone5 hlen5 (Nat.zero_lt_one) hb5 ?_; intro A4 c4' w4 hown4 hgr4 hat4)
    have hown4' : w4.ownsRow wr.heap.size 5 1 (.slice A4 5 c4') 5 [.int .u8 1, .int .u8 (l0 : Int), .int .u8 (l1 : Int), .int .u8 (m0 : Int), .int .u8 (m1 : Int)] := hown4
    have o04 : Only [] wr w4 := HA.out.grown hgr4 (fun k hk _ => by simp [Value.ownBlock] at hk)
    have hbw : Holds w4 1 A b.length (bvals b) := HB.out.1.keep o04 (by simp)
    have hB4 := o04.size
    have hhd : ([.int .u8 1, .int .u8 (l0 : Int), .int .u8 (l1 : Int), .int .u8 (m0 : Int), .int .u8 (m1 : Int)] : List Value) ++ bvals b = bvals (storeB true b) := by
      have h := HL.out
      have hn := HB.out.2.1
      unfold storeB
      rw [bvals_append]
      congr 1
      have u1 : (UInt8.ofNat b.length).toNat = l0 := by rw [UInt8.toNat_ofNat']; omega
      have u2 : (UInt8.ofNat (b.length / 256)).toNat = l1 := by rw [UInt8.toNat_ofNat']; omega
      have u3 : (UInt8.ofNat (255 - b.length % 256)).toNat = m0 := by rw [UInt8.toNat_ofNat']; omega
      have u4 : (UInt8.ofNat (255 - b.length / 256)).toNat = m1 := by rw [UInt8.toNat_ofNat']; omega
      simp [hdr, bvals, u1, u2, u3, u4]
    have HO4 := hide (And.intro o04 hhd)
    clear hown4 hgr4 hat4 hlit hnil hone5 hlen5 hb5 o04 hhd
    go_wp2_with (at_builtin; refine list_append _ rfl (.tmp 31) (.tmp 37) 22 rfl wr.heap.size 1 1 Tryd.underlying22 hi0 hz0 hz1 hz2 rfl (Nat.zero_lt_one) hown4' rfl hbw rfl hone hbl (Nat.zero_lt_one) hB4 ?_; intro A5 c5' w5 hown5 hgr5 hat5)
    go_ret
    have hlt := hown4'.lt
    have o05 : Only [] wr w5 := HO4.out.1.trans ((Only.refl (Value.slice A4 5 c4').ownBlock.toList w4).grown hgr5 (fun k hk _ => mem_own.2 hk)) (fun i hi hl => by
      have := (hlt i (mem_own.1 hi)).1
      omega)
    refine ⟨_, rfl, ?_, o05⟩
    rw [storeB_length, ← HO4.out.2]
    exact hown5
end Go.Proofs.YtglkfgpefpebmaaDoor
