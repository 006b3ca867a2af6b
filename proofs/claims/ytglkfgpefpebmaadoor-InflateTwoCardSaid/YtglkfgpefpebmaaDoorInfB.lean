/-
  Package inflate: the fixed codes; what the small methods tell.
-/
import Derived.Test.YtglkfgpefpebmaaDoorInfA
import Derived.Test.YtglkfgpefpebmaaDoorHufFx
namespace Go.Proofs.YtglkfgpefpebmaaDoor
open Go Go.RowKit

def fixedD2 : List UInt8 := List.replicate 32 5
theorem fixedD2_eq : bvals fixedD ++ [Value.int .u8 5, .int .u8 5] = bvals fixedD2 := by kernel_rfl
theorem fixL_len : fixedL.length = 288 := by decide +kernel
theorem fixL_far : far fixedL = false := by decide +kernel
theorem fixL_may : mayBe (cn fixedL) = true := by decide +kernel
theorem fixL_far' : ∀ i, ln fixedL i ≤ 15 := ln_far fixL_far
theorem fixL_sum : Sm (cn fixedL) 16 ≤ 32768 := mayBe_le fixL_may
theorem fixD2_len : fixedD2.length = 32 := by decide +kernel
theorem fixD2_far : far fixedD2 = false := by decide +kernel
theorem fixD2_may : mayBe (cn fixedD2) = true := by decide +kernel

/-- Block gc holds the fixed codes. -/
def Cd (w : World) (gc : Nat) : Prop := ∃ gT gD, Has w gc 41 #[.pointer (some ⟨gT, 0, none⟩), .pointer (some ⟨gD, 0, none⟩)] ∧ Tb w gT fixedL

/-- At v are the fixed codes. -/
def CdV (w : World) (v : Value) : Prop := ∃ gc, v = .pointer (some ⟨gc, 0, none⟩) ∧ Cd w gc
/-- The blocks of S are of none of these types. -/
def Other (w : World) (S : List Nat) : Prop := ∀ k ∈ S, k < w.heap.size → ∃ t cs fr, w.heap[k]? = some (.cells cs t fr) ∧ t ≠ 41 ∧ t ≠ 101
theorem Cd.keep {w w' : World} {gc : Nat} {S : List Nat} (h : Cd w gc) (ho : Only S w w') (hS : Other w S) : Cd w' gc := by
  obtain ⟨gT, gD, h1, h2⟩ := h
  refine ⟨gT, gD, h1.only ho (fun hm => ?_), h2.only ho (fun hm => ?_)⟩
  · obtain ⟨t, cs, fr, hh, hne, _⟩ := hS gc hm h1.lt
    unfold Has at h1
    rw [h1] at hh
    injection hh with hh
    injection hh with _ ht
    exact hne ht.symm
  · obtain ⟨t, cs, fr, hh, _, hne⟩ := hS gT hm h2.lt
    obtain ⟨S', _, hT⟩ := h2
    unfold Tbl Has at hT
    rw [hT] at hh
    injection hh with hh
    injection hh with _ ht
    exact hne ht.symm
theorem CdV.keep {w w' : World} {v : Value} {S : List Nat} (h : CdV w v) (ho : Only S w w') (hS : Other w S) : CdV w' v := by
  obtain ⟨gc, rfl, h1⟩ := h
  exact ⟨gc, rfl, h1.keep ho hS⟩

set_option maxRecDepth 100000 in
set_option maxHeartbeats 4000000 in
theorem fixedC_any (w : World) : Calls Tryd.prog 21 #[] w fun e w' => ∃ gc, e = .returned (.pointer (some ⟨gc, 0, none⟩)) ∧ Cd w' gc ∧ Only [] w w' := by
  obtain ⟨i0, hi0, hz0, hz1, hz2⟩ := info_of u8_info
  go_enter Tryd.func21, Tryd.ntmps21
  go_wp2_with fail
  refine (fixed_own w).mono ?_
  rintro e w1 ⟨va, gd, rfl, hva, hd, hgd, ho1⟩
  obtain ⟨A1, c1, rfl, _, _⟩ := own_shape hva
  have H1 := hide (And.intro hva (And.intro hd (And.intro hgd ho1)))
  clear hva hd hgd ho1
  go_wp2_with fail
  refine (newT_any A1 288 c1 fixedL w1 (Holds.of_own H1.out.1) fixL_len (by decide) fixL_far fixL_may).mono ?_
  rintro e w2 ⟨gT, rfl, _, hT, ho2⟩
  have H2 := hide (And.intro hT (And.intro (own_keep H1.out.2.1 ho2 (by simp)) (H1.out.2.2.2.trans ho2 (S := []) (by simp))))
  clear hT ho2
  have H55 := Holds.lit w2 #[.int .u8 5, .int .u8 5] 5
  go_wp2_with (at_builtin; refine list_append _ rfl (.tmp 17) (.tmp 18) 22 rfl 0 1 1 Tryd.underlying22 hi0 hz0 hz1 hz2 rfl (Nat.zero_lt_one) (H2.out.2.1.alloc _) rfl H55 rfl (by simp [Value.oneCell']) (by decide) (Nat.zero_lt_one) (Nat.zero_le _) ?_; intro A3 c3 w3 hown3 hgr3 _; have H3 := hide (And.intro hown3 hgr3); clear hown3 hgr3 H55)
  have hown3 : w3.ownsRow 0 5 1 (.slice A3 32 c3) 32 (bvals fixedD2) := by rw [← fixedD2_eq]; exact H3.out.1
  have ho3 : Only [gd] w2 w3 := ((Only.refl [gd] w2).alloc _).grown H3.out.2 (fun k hk _ => by injection hk with hk; subst hk; simp)
  have hT3 : Tb w3 gT fixedL := by
    obtain ⟨S, hD, hTT⟩ := H2.out.1
    have hne : some gT ≠ (Value.slice (some ⟨gd, 0, none⟩) 30 30).ownBlock := own_ne H2.out.2.1 hTT (by decide)
    exact Tb.only ⟨S, hD, hTT⟩ ho3 (fun hm => hne (by simp at hm; rw [hm]; rfl))
  have hO3 : Only [] w w3 := H2.out.2.2.trans ho3 (by simp; have := H1.out.2.2.1; omega)
  have H4 := hide (And.intro hT3 hO3)
  have hh3 := Holds.of_own hown3
  clear hown3 ho3 hT3 hO3
  refine (newT_any A3 32 c3 fixedD2 w3 hh3 fixD2_len (by decide) fixD2_far fixD2_may).mono ?_
  rintro e w4 ⟨gD, rfl, _, _, ho4⟩
  have H5 := hide (And.intro (H4.out.1.only ho4 (by simp)) (H4.out.2.trans ho4 (S := []) (by simp)))
  clear ho4 hh3
  go_wp2_with fail
  go_ret
  exact ⟨_, rfl, ⟨gT, gD, Has.new _ _ _, H5.out.1.only ((Only.refl [] w4).alloc _) (by simp)⟩, H5.out.2.alloc _⟩

set_option maxRecDepth 100000 in
theorem done_any (g : Nat) (f : DF) (w : World) (h : Dc w g f) (b : Bool) (hb : decide ((f.k : Int) = 11) = b) :
    Calls Tryd.prog 31 #[.pointer (some ⟨g, 0, none⟩)] w fun e w' => e = .returned (.bool b) ∧ w = w' := by
  have c1 := h.k
  have hb' : ((f.k : Int) == 11) = b := hb
  clear h hb
  generalize (f.k : Int) = x at *
  go_enter Tryd.func31, Tryd.ntmps31
  go_wp2
  go_ret
  exact ⟨rfl, rfl⟩

set_option maxRecDepth 100000 in
theorem used_any (g : Nat) (f : DF) (w : World) (h : Dc w g f) :
    Calls Tryd.prog 32 #[.pointer (some ⟨g, 0, none⟩)] w fun e w' => e = .returned (.int .i64 (f.used : Int)) ∧ w = w' := by
  have c3 := h.used
  clear h
  generalize (f.used : Int) = x at *
  go_enter Tryd.func32, Tryd.ntmps32
  go_wp2
  go_ret
  exact ⟨rfl, rfl⟩

set_option maxRecDepth 100000 in
theorem behind_any (g : Nat) (f : DF) (w : World) (h : Dc w g f) :
    Calls Tryd.prog 81 #[.pointer (some ⟨g, 0, none⟩)] w fun e w' => e = .returned (.int .i64 (behindK f.last : Nat)) ∧ w = w' := by
  have c9 := h.last
  clear h
  cases hl : f.last <;> rw [hl] at c9 <;>
  · go_enter Tryd.func81, Tryd.ntmps81
    go_wp2
    go_ret
    exact ⟨rfl, rfl⟩

theorem nilC (w : World) : (binOp .eql 42 (.pointer none) (.pointer none)).run Tryd.prog w = .ok (.bool true) w := by kernel_rfl
theorem someC (g : Nat) (w : World) : (binOp .eql 42 (.pointer (some ⟨g, 0, none⟩)) (.pointer none)).run Tryd.prog w = .ok (.bool false) w := by kernel_rfl

set_option maxRecDepth 100000 in
set_option maxHeartbeats 2000000 in
theorem fixedCodes_any (g : Nat) (f : DF) (w : World) (h : Dc w g f) (hx : f.fx = .pointer none ∨ CdV w f.fx) :
    Calls Tryd.prog 89 #[.pointer (some ⟨g, 0, none⟩)] w fun e w' => ∃ gc, e = .returned (.pointer (some ⟨gc, 0, none⟩)) ∧ Cd w' gc ∧ Dc w' g { f with fx := .pointer (some ⟨gc, 0, none⟩) } ∧ Only [g] w w' := by
  have n1 := nilC
  have n2 := someC
  have H := hide h
  have c := h.fx
  rcases hx with hx | hx
  · rw [hx] at c
    clear h hx
    go_enter Tryd.func89, Tryd.ntmps89
    go_wp2_with fail
    refine (fixedC_any w).mono ?_
    rintro e w1 ⟨gc, rfl, hv, ho1⟩
    have h1 : Dc w1 g f := Has.only H.out ho1 (by simp)
    have k1 := h1.fx
    have q1 : w1.frozen? ⟨g, 354, none⟩ = false := Has.free h1 354
    have H1 := hide (And.intro h1 (And.intro hv ho1))
    clear h1 hv ho1 c
    go_wp2_with fail
    go_ret
    refine ⟨gc, rfl, H1.out.2.1.keep (S := [g]) ((Only.refl _ _).setCell (by simp) _) ?_, Dc.set_fx H1.out.1 _, (H1.out.2.2.of_nil).setCell (by simp) _⟩
    intro k hk _
    obtain rfl : k = g := by simpa using hk
    exact ⟨_, _, _, H1.out.1, by decide, by decide⟩
  · obtain ⟨gc, hx, hc⟩ := hx
    rw [hx] at c
    have HC := hide (And.intro hc hx)
    clear h hx hc
    go_enter Tryd.func89, Tryd.ntmps89
    go_wp2_with fail
    go_ret
    refine ⟨gc, rfl, HC.out.1, ?_, Only.refl _ _⟩
    rw [← HC.out.2]
    exact H.out
end Go.Proofs.YtglkfgpefpebmaaDoor
