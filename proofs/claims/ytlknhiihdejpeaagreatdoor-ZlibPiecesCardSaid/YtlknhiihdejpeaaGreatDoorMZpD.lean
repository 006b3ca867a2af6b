/-
  Package zlib, in pieces: a Write behind an error. | Package zlib, in pieces: the room; a new decoder.
-/
import Derived.Test.YtlknhiihdejpeaaGreatDoorMZpB
import Derived.Test.YtlknhiihdejpeaaGreatDoorMZlH
import Derived.Test.YtlknhiihdejpeaaGreatDoorMFlNw
namespace Go.Proofs.YtlknhiihdejpeaaGreatDoor
open Go Go.RowKit

set_option maxRecDepth 100000 in
set_option maxHeartbeats 8000000 in
/-- The sum is held once more, where all four bytes are there and are not the sum. -/
theorem readSum_full (g ga : Nat) (f0 : DF) (m cb : Nat) (wb2 : List UInt8) (A A' : Option Addr) (c' : Nat) (l : List UInt8) (w : World) (hd : Dc w g f0) (ht : f0.tail = tailZ (.iface 62 (.pointer (some ⟨ga, 0, none⟩))) 2 wb2 4) (hwl : wb2.length = 4) (ha : Adl w ga l)
    (hsl : ∀ w' : World, (Instr.slice 22 (.slice A m cb) (some (.int .i64 0)) none none).run Tryz.prog w' = .ok (.slice A' m c') w') (heq : ¬ wb2 = bigN (adWord (adOf l))) :
    Calls Tryz.prog 29 #[.pointer (some ⟨g, 0, none⟩), .slice A m cb] w fun e w' => Only [g] w w' ∧ Adl w' ga l ∧ e = .returned (.int .i64 4) ∧ Dc w' g f0 := by
  obtain ⟨f, hf⟩ : ∃ f : DF, f0 = { f with tail := tailZ (.iface 62 (.pointer (some ⟨ga, 0, none⟩))) 2 wb2 4 } := ⟨f0, by rw [← ht]⟩
  subst hf
  have hG : Calls Tryz.prog 45 #[.pointer (some ⟨g, 0, none⟩), .slice A m cb, .int .i64 4] w fun e w' => e = .returned (.slice A' m c') ∧ Dc w' g { f with tail := tailZ (.iface 62 (.pointer (some ⟨ga, 0, none⟩))) 2 wb2 4 } ∧ Only [g] w w' :=
    gather_full g _ _ 2 4 m cb wb2 A A' c' w hd ht hwl (by decide) hsl
  have hgaN : ga ≠ g := by
    obtain ⟨x, _, _, hA⟩ := ha
    exact fun e => Has.ne hd hA (DF.ne_ty _ (by decide) (by decide)) e.symm
  have HG := hide (And.intro hG (And.intro hwl (And.intro ha hgaN)))
  clear hG hwl hd ht ha hgaN hsl
  go_enter Tryz.func29, Tryz.ntmps29
  go_wp2_with fail
  refine (HG.out.1).mono ?_
  rintro e w1 ⟨rfl, hd1, ho1⟩
  have ha1 : Adl w1 ga l := HG.out.2.2.1.only ho1 (by simpa using HG.out.2.2.2)
  have H1 := hide (And.intro hd1 (And.intro ho1 ha1))
  clear hd1 ho1 ha1
  have c363' : w1.cell? ⟨g, 363, none⟩ = some (.int .i64 4) := (H1.out.1.tail 6).trans (tailZ_n _ 2 wb2 4 HG.out.2.1)
  have c357 : w1.cell? ⟨g, 357, none⟩ = some (.iface 62 (.pointer (some ⟨ga, 0, none⟩))) := (H1.out.1.tail 0).trans rfl
  have hcell : ∀ i, i < 4 → w1.cell? ⟨g, 359 + i, none⟩ = some (.int .u8 (wz wb2 i : Int)) := fun i hi => by
    rw [show 359 + i = 357 + (2 + i) by omega]
    exact (H1.out.1.tail (2 + i)).trans (tailZ_w _ 2 wb2 4 i HG.out.2.1 hi)
  have k0 : w1.cell? ⟨g, 359, none⟩ = some (.int .u8 (wz wb2 0 : Int)) := hcell 0 (by decide)
  have k1 : w1.cell? ⟨g, 360, none⟩ = some (.int .u8 (wz wb2 1 : Int)) := hcell 1 (by decide)
  have k2 : w1.cell? ⟨g, 361, none⟩ = some (.int .u8 (wz wb2 2 : Int)) := hcell 2 (by decide)
  have k3 : w1.cell? ⟨g, 362, none⟩ = some (.int .u8 (wz wb2 3 : Int)) := hcell 3 (by decide)
  have m2 := adler_sum
  obtain ⟨s, hs⟩ : ∃ s, s = adWord (adOf l) := ⟨_, rfl⟩
  have hs32 : s < 4294967296 := by rw [hs]; have := adOf_lt l; unfold adWord; omega
  have HSum := hide (adlerSum_any ga l w1.drew (H1.out.2.2.only ((Only.refl [] w1).drew) (by simp)))
  have HBig := hide (fun w' => big_any s hs32 w')
  rw [← hs] at HSum heq
  have HS := hide hs
  have hneq := neq_four wb2 (bigN s) HG.out.2.1 rfl
  rw [four_agg wb2 HG.out.2.1] at hneq
  clear hs hs32 hcell
  have hk : ∀ n w3, Only [] (w1.drewN n) w3 → (∀ i, i < 4 → w3.cell? ⟨g, 359 + i, none⟩ = some (.int .u8 (wz wb2 i : Int))) ∧ Only [] w1 w3 := fun n w3 ho => by
    have o13 : Only [] w1 w3 := ((Only.refl [] w1).drewN n).trans ho (by simp)
    have hd3 : Dc w3 g { f with tail := tailZ (.iface 62 (.pointer (some ⟨ga, 0, none⟩))) 2 wb2 4 } := Has.only H1.out.1 o13 (by simp)
    refine ⟨fun i hi => ?_, o13⟩
    rw [show 359 + i = 357 + (2 + i) by omega]
    exact (hd3.tail (2 + i)).trans (tailZ_w _ 2 wb2 4 i HG.out.2.1 hi)
  have HK := hide (fun n w3 (ho : Only [] (w1.drewN n) w3) => (⟨(hk n w3 ho).1 0 (by decide), (hk n w3 ho).1 1 (by decide), (hk n w3 ho).1 2 (by decide), (hk n w3 ho).1 3 (by decide), (hk n w3 ho).2⟩ : w3.cell? ⟨g, 359, none⟩ = some (.int .u8 (wz wb2 0 : Int)) ∧ w3.cell? ⟨g, 360, none⟩ = some (.int .u8 (wz wb2 1 : Int)) ∧ w3.cell? ⟨g, 361, none⟩ = some (.int .u8 (wz wb2 2 : Int)) ∧ w3.cell? ⟨g, 362, none⟩ = some (.int .u8 (wz wb2 3 : Int)) ∧ Only [] w1 w3))
  clear hk
  generalize wz wb2 0 = p0 at *
  generalize wz wb2 1 = p1 at *
  generalize wz wb2 2 = p2 at *
  generalize wz wb2 3 = p3 at *
  generalize (bvals (bigN s)).toArray = Y at *
  have hdc : (!decide (wb2 = bigN s)) = true := by simp [heq]
  rw [hdc] at hneq
  have HE := hide heq
  clear heq hdc
  go_wp2_with fail
  go_region_with (first | (go_at_call 134; refine (HSum.out).mono ?_; rintro e w2 ⟨rfl, mm, rfl⟩) | (go_at_call 18; refine (HBig.out _).mono ?_; rintro e w3 ⟨rfl, ho3⟩; obtain ⟨j0, j1, j2, j3, o13⟩ := HK.out _ w3 ho3; clear ho3))
  all_goals
    have hd3 : Dc w3 g { f with tail := tailZ (.iface 62 (.pointer (some ⟨ga, 0, none⟩))) 2 wb2 4 } := Has.only H1.out.1 o13 (by simp)
    have k358 : w3.cell? ⟨g, 358, none⟩ = some (.int .i64 2) := hd3.tail 1
    have q358 : w3.frozen? ⟨g, 358, none⟩ = false := Has.free hd3 358
    have H3 := hide (And.intro hd3 o13)
    clear hd3 o13 j0 j1 j2 j3
    go_wp2_with fail
    go_ret
    exact ⟨H1.out.2.1.trans H3.out.2 (by simp), H1.out.2.2.only H3.out.2 (by simp), rfl, H3.out.1⟩

set_option maxRecDepth 100000 in
set_option maxHeartbeats 8000000 in
/-- The head is asked once more, where both bytes are there and may be none. -/
theorem readHead_full (g : Nat) (f : DF) (sm : Value) (m cb : Nat) (wb2 : List UInt8) (A A' : Option Addr) (c' : Nat) (w : World) (hd : Dc w g f) (ht : f.tail = tailZ sm 0 wb2 2) (hwl : wb2.length = 4)
    (hsl : ∀ w' : World, (Instr.slice 22 (.slice A m cb) (some (.int .i64 0)) none none).run Tryz.prog w' = .ok (.slice A' m c') w') (hbad : mhB 2 (wz wb2 0) (wz wb2 1) = false) :
    Calls Tryz.prog 27 #[.pointer (some ⟨g, 0, none⟩), .slice A m cb] w fun e w' => Only [g] w w' ∧ e = .returned (.tuple #[.slice none 0 0, .int .i64 3]) ∧ Dc w' g f := by
  have hG : Calls Tryz.prog 45 #[.pointer (some ⟨g, 0, none⟩), .slice A m cb, .int .i64 2] w fun e w' => e = .returned (.slice A' m c') ∧ Dc w' g f ∧ Only [g] w w' :=
    gather_full g f sm 0 2 m cb wb2 A A' c' w hd ht hwl (by decide) hsl
  have HG := hide (And.intro hG (And.intro hwl ht))
  clear hG hd ht hwl hsl
  have hs1 := run_arr4_h g 359 2 (by omega)
  go_enter Tryz.func27, Tryz.ntmps27
  go_wp2_with fail
  refine (HG.out.1).mono ?_
  rintro e w1 ⟨rfl, hd1, ho1⟩
  have c359 : w1.drew.cell? ⟨g, 359, none⟩ = some (.int .u8 (wz wb2 0 : Int)) := by have := hd1.tail 2; rw [HG.out.2.2, tailZ_w sm 0 wb2 2 0 HG.out.2.1 (by decide)] at this; exact this
  have c360 : w1.drew.cell? ⟨g, 360, none⟩ = some (.int .u8 (wz wb2 1 : Int)) := by have := hd1.tail 3; rw [HG.out.2.2, tailZ_w sm 0 wb2 2 1 HG.out.2.1 (by decide)] at this; exact this
  have c363 : w1.cell? ⟨g, 363, none⟩ = some (.int .i64 2) := by have := hd1.tail 6; rw [HG.out.2.2, tailZ_n sm 0 wb2 2 HG.out.2.1] at this; exact this
  have HM := hide (mayBegin_any g 2 (wz wb2 0) (wz wb2 1) w1.drew (by unfold wz; exact UInt8.toNat_lt _) (by unfold wz; exact UInt8.toNat_lt _) (by decide) c359 c360 false hbad.symm)
  have H1 := hide (And.intro hd1 ho1)
  clear hd1 ho1 c359 c360 hbad
  go_wp2_with fail
  go_region_with (go_at_call 46; refine (HM.out).mono ?_; rintro e w2 ⟨rfl, mm, rfl⟩)
  all_goals
    go_wp2_with fail
    go_ret2
    exact ⟨H1.out.2.drewN _, rfl, Has.only H1.out.1 ((Only.refl [] w1).drewN _) (by simp)⟩

/-- A Write behind an error tells it again. -/
theorem write_err {b : List UInt8} {W0 g gw gt a m cb c : Nat} {A : Option Addr} {w : World} (hF : Fx W0 g gw gt) (h : ZE W0 g gw gt w c) (hs : SL b W0 w A m cb a) (hn : b.length ≤ 90000) :
    Calls Tryz.prog 12 #[.pointer (some ⟨g, 0, none⟩), .slice A m cb] w fun e w' => e = .returned (.tuple #[.slice none 0 0, .int .i64 (c : Int)]) ∧ Only [g] w w' ∧ ZE W0 g gw gt w' c := by
  have hg := hF.lg
  have hlen := hs.len
  have hle := hs.le
  have hgA : 0 < m → ∀ ad, A = some ad → ad.block ≠ g := fun h0 ad ha => by have := hs.blk h0 ad ha; omega
  obtain ⟨A', c', hsl, _, _⟩ := run_from0 hs.holds hlen hs.cap 0 (Nat.zero_le _)
  rcases h with ⟨rfl, f, wb, k, hd, ht, hwl, hk0, hk2, hbad, hroom⟩ | ⟨hc, f, sm, wb, hd, ht, hwl, hfa, h11, hroom⟩ | ⟨rfl, f, ga, wb, l, hd, ht, hwl, had, hga, hne, hroom⟩
  · have hp := part_of hd ht
    have key : Calls Tryz.prog 27 #[.pointer (some ⟨g, 0, none⟩), .slice A m cb] w fun e w' => Only [g] w w' ∧ e = .returned (.tuple #[.slice none 0 0, .int .i64 3]) ∧ ZE W0 g gw gt w' 3 ∧ w'.cell? ⟨g, 358, none⟩ = some (.int .i64 0) := by
      by_cases h2 : k = 2
      · subst h2
        refine (readHead_full g f .nilIface m cb wb A A' c' w hd ht hwl hsl hbad).mono ?_
        rintro e w' ⟨ho, rfl, hd'⟩
        exact ⟨ho, rfl, .inl ⟨rfl, f, wb, 2, hd', ht, hwl, hk0, hk2, hbad, hroom⟩, part_of hd' ht⟩
      · obtain rfl : k = 1 := by omega
        obtain ⟨cc, hcc⟩ : ∃ cc, cc = min m (2 - 1) := ⟨_, rfl⟩
        obtain ⟨wb2, hwb⟩ : ∃ x, x = waitZ wb ((b.drop a).take m) 1 cc := ⟨_, rfl⟩
        have hwl2 : wb2.length = 4 := by rw [hwb]; exact waitZ_length hwl (by rw [hlen]; omega) (by omega)
        have hw0 : wz wb2 0 = wz wb 0 := by
          have h1 : wb2.take (1 + cc) = wb.take 1 ++ ((b.drop a).take m).take cc := by rw [hwb]; exact waitZ_take (by omega) (by rw [hlen]; omega)
          rw [← wz_take (l := wb2) (n := 1 + cc) (i := 0) (by omega), h1]
          match wb, hwl with
          | x :: _, _ => rfl
        have hb1 : mhB 1 (wz wb2 0) (wz wb2 1) = false := by rw [mhB_same (x' := wz wb 0) (y' := wz wb 1) (fun _ => hw0) (fun _ h => absurd rfl h)]; exact hbad
        have hb2 : mhB (1 + cc) (wz wb2 0) (wz wb2 1) = false := mhB_more (by decide) (by omega) (by omega) hb1
        refine (readHead_any g f .nilIface 1 m cb wb _ A w hd ht hwl (by decide) hs.holds hlen hs.cap hgA hs.nil (by omega) cc hcc wb2 hwb).mono ?_
        rintro e w' ⟨ho, ⟨_, rfl, hd'⟩ | ⟨ht2, _⟩⟩
        · exact ⟨ho, rfl, .inl ⟨rfl, _, wb2, 1 + cc, hd', rfl, hwl2, by omega, by omega, hb2, hroom⟩, part_of hd' rfl⟩
        · rw [hb2] at ht2; cases ht2
    refine (zwrite_gen g 0 A m cb w hp (by decide) (fun e w' => Only [g] w w' ∧ e = .returned (.tuple #[.slice none 0 0, .int .i64 3]) ∧ ZE W0 g gw gt w' 3 ∧ w'.cell? ⟨g, 358, none⟩ = some (.int .i64 0)) (fun _ _ _ _ => False) (fun _ _ _ _ => False) (fun _ => key) (fun e w1 h => ?_) (fun b1 w1 hr => ?_) (fun _ _ _ _ h => h.elim) (fun v b2 w2 hr => ?_) (fun _ _ _ _ h => h.elim)).mono ?_
    · obtain ⟨_, rfl, _, hc⟩ := h
      exact ⟨_, 3, 0, rfl, hc, .inl rfl⟩
    · rcases hr with ⟨h, _⟩ | ⟨_, ⟨_, he, _⟩, _⟩
      · exact absurd h (by decide)
      · exact absurd (int_one (tup2 he).2) (by decide)
    · rcases hr with ⟨h, _⟩ | ⟨_, _, _, h, _⟩
      · exact absurd h (by decide)
      · exact h.elim
    · rintro e w' (⟨_, b1, c, ⟨ho, he, hz, _⟩, hc, rfl⟩ | ⟨_, b1, ⟨_, he, _⟩, _⟩ | ⟨b1, w1, _, v, b2, c, h, _⟩ | ⟨b1, w1, _, v, b2, h, _⟩ | ⟨v, b2, w2, hr, c, h, _⟩ | ⟨h3, _⟩)
      · have := int_one (tup2 he).2
        obtain rfl : c = 3 := by omega
        exact ⟨rfl, ho, hz⟩
      · exact absurd (int_one (tup2 he).2) (by decide)
      · exact h.elim
      · exact h.elim
      · exact h.elim
      · exact absurd h3 (by decide)
  · have hp := part_of hd ht
    have key : Calls Tryz.prog 28 #[.pointer (some ⟨g, 0, none⟩), .slice A m cb] w fun e w' => Only [g] w w' ∧ (∃ b2, e = .returned (.tuple #[.slice none 0 0, b2, .int .i64 (c : Int)])) ∧ ZE W0 g gw gt w' c ∧ w'.cell? ⟨g, 358, none⟩ = some (.int .i64 1) := by
      refine (readBody_gen g m cb A ((b.drop a).take m) w _ hs.holds hlen hs.cap (bodyRead_fault g m cb c A f w hd hfa hc) (fun e w1 hx => ?_)).mono ?_
      · obtain ⟨he, ho⟩ := hx
        exact ⟨f, sm, .slice none 0 0, wb, 0, c, he, Nat.zero_le _, Has.only hd ho (by simp), ht⟩
      · rintro e w' ⟨f1, sm1, v, wb1, u, cc, e1, w1, A2, c2, ⟨he, ho1⟩, ⟨he1, hu, hd1, ht1⟩, rfl, ho, hd', _⟩
        rw [he] at he1
        obtain ⟨rfl, _, hcc⟩ := tup3 he1
        have hcc := int_one hcc
        obtain rfl : c = cc := by omega
        have hd0 : Dc w1 g f := Has.only hd ho1 (by simp)
        have hk : f1.k = f.k := by
          have := (dc_same hd1 hd0).1 1 (by decide)
          unfold DF.at at this
          simp at this
          omega
        rw [if_neg (by rw [hk]; exact h11)] at hd'
        have hd2 := dc_swap hd1 hd0 hd'
        exact ⟨(ho1.weak (by simp)).trans ho (by simp), ⟨_, rfl⟩, .inr (.inl ⟨hc, f, sm, wb, hd2, ht, hwl, hfa, h11, hroom⟩), part_of hd2 ht⟩
    refine (zwrite_gen g 1 A m cb w hp (by decide) (fun _ _ => False) (fun b1 w1 e w' => w1 = w ∧ Only [g] w w' ∧ (∃ b2, e = .returned (.tuple #[.slice none 0 0, b2, .int .i64 (c : Int)])) ∧ ZE W0 g gw gt w' c ∧ w'.cell? ⟨g, 358, none⟩ = some (.int .i64 1)) (fun _ _ _ _ => False) (fun h => absurd h (by decide)) (fun _ _ h => h.elim) (fun b1 w1 hr => ?_) (fun b1 w1 e w2 h => ?_) (fun v b2 w2 hr => ?_) (fun _ _ _ _ h => h.elim)).mono ?_
    · rcases hr with ⟨_, rfl, rfl⟩ | ⟨h, _⟩
      · exact key.mono fun e w' h => ⟨rfl, h⟩
      · exact absurd h (by decide)
    · obtain ⟨_, _, ⟨b2, rfl⟩, _, hcl⟩ := h
      exact ⟨_, b2, c, 1, rfl, hcl, .inl rfl⟩
    · rcases hr with ⟨h, _⟩ | ⟨b1, w1, _, ⟨_, _, ⟨b3, he⟩, _⟩, _⟩
      · exact absurd h (by decide)
      · have := int_one (tup3 he).2.2; omega
    · rintro e w' (⟨h, _⟩ | ⟨h, _⟩ | ⟨b1, w1, _, v, b2, c1, ⟨_, ho, ⟨b3, he⟩, hz, _⟩, hc1, rfl⟩ | ⟨b1, w1, _, v, b2, ⟨_, _, ⟨b3, he⟩, _⟩, _⟩ | ⟨v, b2, w2, hr, c1, h, _⟩ | ⟨h3, _⟩)
      · exact absurd h (by decide)
      · exact absurd h (by decide)
      · have := int_one (tup3 he).2.2
        obtain rfl : c1 = c := by omega
        exact ⟨rfl, ho, hz⟩
      · have := int_one (tup3 he).2.2; omega
      · exact h.elim
      · exact absurd h3 (by decide)
  · have hp := part_of hd ht
    have key := readSum_full g ga f m cb wb A A' c' l w hd ht hwl had hsl hne
    refine (zwrite_gen g 2 A m cb w hp (by decide) (fun _ _ => False) (fun _ _ _ _ => False) (fun b2 w2 e w' => w2 = w ∧ Only [g] w w' ∧ Adl w' ga l ∧ e = .returned (.int .i64 4) ∧ Dc w' g f) (fun h => absurd h (by decide)) (fun _ _ h => h.elim) (fun b1 w1 hr => ?_) (fun _ _ _ _ h => h.elim) (fun v b2 w2 hr => ?_) (fun b2 w2 e w3 h => ?_)).mono ?_
    · rcases hr with ⟨h, _⟩ | ⟨h, _⟩ <;> exact absurd h (by decide)
    · rcases hr with ⟨_, rfl, rfl, rfl⟩ | ⟨_, _, _, h, _⟩
      · exact key.mono fun e w' h => ⟨rfl, h⟩
      · exact h.elim
    · exact ⟨4, h.2.2.2.1⟩
    · rintro e w' (⟨h, _⟩ | ⟨h, _⟩ | ⟨b1, w1, _, v, b2, c1, h, _⟩ | ⟨b1, w1, _, v, b2, h, _⟩ | ⟨v, b2, w2, hr, c1, ⟨_, ho, had', he, hd'⟩, hx⟩ | ⟨h3, _⟩)
      · exact absurd h (by decide)
      · exact absurd h (by decide)
      · exact h.elim
      · exact h.elim
      · injection he with he
        have := int_one he
        rcases hx with ⟨_, rfl⟩ | ⟨h0, _⟩
        · obtain rfl : c1 = 4 := by omega
          exact ⟨rfl, ho, .inr (.inr ⟨rfl, f, ga, wb, l, hd', ht, hwl, had', hga, hne, hroom⟩)⟩
        · omega
      · exact absurd h3 (by decide)
end Go.Proofs.YtlknhiihdejpeaaGreatDoor


namespace Go.Proofs.YtlknhiihdejpeaaGreatDoor
open Go Go.RowKit

set_option maxRecDepth 100000 in
set_option maxHeartbeats 4000000 in
theorem room_any (g gw gt : Nat) (f : DF) (w : World) (hd : Dc w g f) (hr : Roomy gw gt f) :
    Calls Tryz.prog 30 #[.pointer (some ⟨g, 0, none⟩)] w fun e w' => e = .returned (.int .i64 32772) ∧ Only [] w w' := by
  obtain ⟨hwb, z, hwt⟩ := hr
  have c1 := hd.wb
  rw [hwb] at c1
  have c2 := hd.wt
  rw [hwt] at c2
  have d1 : w.drew.cell? ⟨g, 5, none⟩ = some (.slice (some ⟨gw, 0, none⟩) 32768 32768) := c1
  have d2 : w.drew.cell? ⟨g, 7, none⟩ = some (.slice (some ⟨gt, 0, none⟩) z 4) := c2
  clear hd hwb hwt c1 c2
  go_enter Tryz.func30, Tryz.ntmps30
  go_wp2_with fail
  go_region
  all_goals
    go_wp2_with fail
    go_ret
    exact ⟨rfl, (Only.refl [] w).drew⟩
set_option maxRecDepth 100000 in
set_option maxHeartbeats 4000000 in
theorem zroom_any (g gw gt : Nat) (f : DF) (w : World) (hd : Dc w g f) (hr : Roomy gw gt f) :
    Calls Tryz.prog 13 #[.pointer (some ⟨g, 0, none⟩)] w fun e w' => e = .returned (.int .i64 32776) ∧ Only [] w w' := by
  have HR := hide (room_any g gw gt f w hd hr)
  clear hd hr
  go_enter Tryz.func13, Tryz.ntmps13
  go_wp2_with fail
  refine (HR.out).mono ?_
  rintro e w1 ⟨rfl, ho⟩
  have HO := hide ho
  clear ho
  go_wp2_with fail
  go_ret
  exact ⟨rfl, HO.out⟩

theorem ZS.roomy {b : List UInt8} {most W0 g gw gt a : Nat} {w : World} {o : List UInt8} (h : ZS b most W0 g gw gt w a o) : ∃ f, Dc w g f ∧ Roomy gw gt f := by
  rcases h with ⟨wb, h, _⟩ | ⟨f, s, ga, wb, oo, h, _⟩ | ⟨f, t, ga, wb, k, h, _⟩ | ⟨f, t, sm, wb, k, h, _⟩
  · exact ⟨_, h.dec, rfl, 0, rfl⟩
  · exact ⟨f, h.rest.dec, h.rest.wb, _, h.rest.wt⟩
  · exact ⟨f, h.dec, h.room⟩
  · exact ⟨f, h.dec, h.room⟩
theorem ZE.roomy {W0 g gw gt c : Nat} {w : World} (h : ZE W0 g gw gt w c) : ∃ f, Dc w g f ∧ Roomy gw gt f := by
  rcases h with ⟨_, f, wb, k, hd, _, _, _, _, _, hr⟩ | ⟨_, f, sm, wb, hd, _, _, _, _, hr⟩ | ⟨_, f, ga, wb, l, hd, _, _, _, _, _, hr⟩
  · exact ⟨f, hd, hr⟩
  · exact ⟨f, hd, hr⟩
  · exact ⟨f, hd, hr⟩
theorem ZE.not_done {W0 g gw gt c : Nat} {w : World} (h : ZE W0 g gw gt w c) : ∃ f sm part wb k, Dc w g f ∧ f.tail = tailZ sm part wb k ∧ part ≠ 3 := by
  rcases h with ⟨_, f, wb, k, hd, ht, _⟩ | ⟨_, f, sm, wb, hd, ht, _⟩ | ⟨_, f, ga, wb, l, hd, ht, _⟩
  · exact ⟨f, _, 0, wb, k, hd, ht, by decide⟩
  · exact ⟨f, sm, 1, wb, 0, hd, ht, by decide⟩
  · exact ⟨f, _, 2, wb, 4, hd, ht, by decide⟩
theorem ZE.code {W0 g gw gt c : Nat} {w : World} (h : ZE W0 g gw gt w c) : 3 ≤ c ∧ c ≤ 5 := by
  rcases h with ⟨h, _⟩ | ⟨h, _⟩ | ⟨h, _⟩ <;> omega
/-- A new decoder. -/
theorem zs_new {b : List UInt8} {most g gw gt : Nat} {w w1 : World} (hN : Newed most w g gw gt w1) (hT : Tab w) : Fx w.heap.size g gw gt ∧ ZS b most w.heap.size g gw gt w1 0 [] := by
  have hne := newed_ne hN
  obtain ⟨n1, n2, n3, n4, n5, n6, n7, n8⟩ := hN
  exact ⟨⟨n1, n2, n3, hne.1, hne.2, fun e => n4 e.symm, hT.lts⟩, .inl ⟨[0, 0, 0, 0], ⟨by decide, Nat.zero_le _, rfl, rfl, rfl, n5, n6, n7, hT.only n8 (by simp)⟩, rfl⟩⟩
/-- What nothing of it is changed. -/
theorem ZS.still {b : List UInt8} {most W0 g gw gt a : Nat} {w w' : World} {o : List UInt8} (h : ZS b most W0 g gw gt w a o) (ho : Only [] w w') : ZS b most W0 g gw gt w' a o := by
  rcases h with ⟨wb, h, h0⟩ | ⟨f, s, ga, wb, oo, h, h0⟩ | ⟨f, t, ga, wb, k, h, h0⟩ | ⟨f, t, sm, wb, k, h, h0⟩
  · exact .inl ⟨wb, ⟨h.lt, h.le, h.wl, h.wt, h.mh, Has.only h.dec ho (by simp), h.ring.only ho (by simp), own_keep h.wts ho (by simp), h.tab.only ho (by simp)⟩, h0⟩
  · exact .inr (.inl ⟨f, s, ga, wb, oo, ⟨h.ge, h.le, h.head, h.rest.still ho (by simp) (by simp) (by simp) (Other.nil _), h.z, h.mo, h.tail, h.wl, h.ad.only ho (by simp), h.gge, h.ends, h.used, h.total⟩, h0⟩)
  · exact .inr (.inr (.inl ⟨f, t, ga, wb, k, ⟨h.head, h.ends, h.k4, h.at_, h.le, h.wl, h.wt, Has.only h.dec ho (by simp), h.tail, h.ad.only ho (by simp), h.gge, h.room⟩, h0⟩))
  · exact .inr (.inr (.inr ⟨f, t, sm, wb, k, ⟨h.head, h.ends, h.ge, h.le, h.sum, h.wl, Has.only h.dec ho (by simp), h.tail, h.room⟩, h0⟩))
end Go.Proofs.YtlknhiihdejpeaaGreatDoor

