/-
  The codes said a second time: New that fails, Code, Symbols.
-/
import Derived.Test.YtglkfgpefpebmaaDoorHufT
namespace Go.Proofs.YtglkfgpefpebmaaDoor
open Go Go.RowKit

theorem RTf.only {w w' : World} {g : Nat} {l : List UInt8} {f : Nat → Nat} {A B : Option Addr} {c c' : Nat} {S : List Nat} (h : RTf w g l f A B c c') (ho : Only S w w') (hg : g ∉ S) (hA : ∀ b, (Value.slice A l.length c).ownBlock = some b → b ∉ S) (hB : ∀ b, (Value.slice B l.length c').ownBlock = some b → b ∉ S) : RTf w' g l f A B c c' :=
  ⟨h.has.only ho hg, own_keep h.lens ho hA, own_keep h.codes ho hB⟩
/-- It is kept where a block of another type may have changed. -/
theorem RT.other {w w' : World} {base g q : Nat} {l : List UInt8} {t : TypeId} {cs : Array Value} (h : RT w base g l) (ho : Only [q] w w') (hq : Has w q t cs) (h1 : t ≠ 105) (h2 : t ≠ 5) (h3 : t ≠ 37) : RT w' base g l := by
  obtain ⟨A, gB, c, c', hb, hR⟩ := h
  refine ⟨A, gB, c, c', hb, hR.only ho ?_ ?_ ?_⟩
  · intro hm
    have : g = q := by simpa using hm
    subst this
    exact Has.ne hR.has hq (fun e => h1 e.symm) rfl
  · intro b hbk hm
    have : b = q := by simpa using hm
    subst this
    exact own_ne hR.lens hq (fun e => h2 e.symm) hbk.symm
  · intro b hbk hm
    have : b = q := by simpa using hm
    subst this
    exact own_ne hR.codes hq (fun e => h3 e.symm) hbk.symm
theorem RT.idle {w w' : World} {base g : Nat} {l : List UInt8} (h : RT w base g l) (ho : Only [] w w') : RT w' base g l := by
  obtain ⟨A, gB, c, c', hb, hR⟩ := h
  exact ⟨A, gB, c, c', hb, hR.only ho (by simp) (by simp) (by simp)⟩
theorem RT.lt {w : World} {base g : Nat} {l : List UInt8} (h : RT w base g l) : g < w.heap.size := by
  obtain ⟨A, gB, c, c', hb, hR⟩ := h
  exact hR.has.lt
/-- What is read of it. -/
theorem RT.open_ {w : World} {base g : Nat} {l : List UInt8} (h : RT w base g l) : ∃ A B c c', w.cell? ⟨g, 0, none⟩ = some (.slice A l.length c) ∧ w.cell? ⟨g, 1, none⟩ = some (.slice B l.length c') ∧
    (0 < l.length → ∃ a b, A = some ⟨a, 0, none⟩ ∧ B = some ⟨b, 0, none⟩ ∧ ∀ i, i < l.length → w.cell? ⟨a, i, none⟩ = some (.int .u8 (ln l i : Nat)) ∧ w.cell? ⟨b, i, none⟩ = some (.int .u32 (cdz l i : Nat))) := by
  obtain ⟨A, gB, c, c', hb, hR⟩ := h
  refine ⟨A, some ⟨gB, 0, none⟩, c, c', hR.has.cell 0, hR.has.cell 1, fun h0 => ?_⟩
  obtain ⟨a, ha, _, _, _, hca⟩ := own_open hR.lens h0
  obtain ⟨b, hb, _, _, _, hcb⟩ := own_open hR.codes h0
  refine ⟨a, b, ha, hb, fun i hi => ⟨?_, hcb i _ (uvals_get _ _ _ hi)⟩⟩
  rw [ln_get hi]
  exact hca i _ (bvals_get l i hi)

set_option maxRecDepth 100000 in
set_option maxHeartbeats 4000000 in
theorem tCode_in (g base : Nat) (l : List UInt8) (i : Nat) (w : World) (h : RT w base g l) (hi : i < l.length) (hn : l.length ≤ 320) (h15 : ∀ i, ln l i ≤ 15) (hS : Sm (cn l) 16 ≤ 32768) :
    Calls Tryd.prog 27 #[.pointer (some ⟨g, 0, none⟩), .int .i64 i] w fun e w' => e = .returned (.tuple #[.int .u32 (cvI l i : Nat), .int .i64 (lnI l i : Nat)]) ∧ ∃ m, w' = w.drewN m := by
  obtain ⟨A, B, c, c', c0, c1, hcs⟩ := h.open_
  obtain ⟨a, b, rfl, rfl, hcs2⟩ := hcs (by omega)
  obtain ⟨d0, d1⟩ := hcs2 i hi
  have hx15 := h15 i
  have hcv : cvI l (i : Int) = if ln l i ≠ 0 then rev (cd l i) (ln l i) else 0 := by unfold cvI; rw [lnI_nat, Int.toNat_natCast]
  have hcz : cdz l i = if ln l i ≠ 0 then cd l i else 0 := rfl
  rw [lnI_nat, hcv]
  rw [hcz] at d1
  clear hcs hcs2 hcv hcz h
  have hi0 : (0 : Int) ≤ (i : Int) := by omega
  have hi1 : (i : Int) < (l.length : Int) := by omega
  have hi2 : ¬ (l.length : Int) ≤ (i : Int) := by omega
  by_cases h0 : ln l i ≠ 0
  · have hcl := cd_lt hS h0 (h15 i)
    have hp15 := Nat.pow_le_pow_right (n := 2) (by decide) hx15
    rw [if_pos h0] at d1 ⊢
    generalize cd l i = y at *
    generalize ln l i = x at *
    have hy : y < 32768 := Nat.lt_of_lt_of_le hcl hp15
    have HV := fun q => hide (refReverse_yes y x (w.drewN q) (by omega) (by omega))
    have k1 : IntKind.i64.wrap (x : Int) = (x : Int) := wrap64 rfl (by omega)
    generalize rev y x = R at *
    have hx0 : ((x : Int) == 0) = false := beq_eq_false_iff_ne.2 (by omega)
    have hx0' : ¬ (x : Int) = 0 := by omega
    clear hcl hp15 h0
    go_enter Tryd.func27, Tryd.ntmps27
    go_wp2_with fail
    go_quiet ((go_at_call 47; exact Calls.quiet_of_same ((HV _).out.mono fun _ _ h => ⟨h.1, h.2.symm⟩)))
    go_wp2_with fail
    go_ret2
    exact ⟨rfl, _, rfl⟩
  · have hx : ln l i = 0 := by omega
    rw [hx] at d0 ⊢
    rw [if_neg (by omega)]
    clear d1 h0 hx hx15
    go_enter Tryd.func27, Tryd.ntmps27
    go_wp2_with fail
    go_ret2
    exact ⟨rfl, 0, rfl⟩

set_option maxRecDepth 100000 in
theorem tCode_any (g base : Nat) (l : List UInt8) (i : Int) (w : World) (h : RT w base g l) (hn : l.length ≤ 320) (h15 : ∀ i, ln l i ≤ 15) (hS : Sm (cn l) 16 ≤ 32768) :
    Calls Tryd.prog 27 #[.pointer (some ⟨g, 0, none⟩), .int .i64 i] w fun e w' => e = .returned (.tuple #[.int .u32 (cvI l i : Nat), .int .i64 (lnI l i : Nat)]) ∧ ∃ m, w' = w.drewN m := by
  by_cases hi : 0 ≤ i ∧ i < (l.length : Int)
  · obtain ⟨k, rfl⟩ := Int.eq_ofNat_of_zero_le hi.1
    exact tCode_in g base l k w h (by omega) hn h15 hS
  · have e : lnI l i = 0 := by
      unfold lnI
      by_cases h0 : 0 ≤ i
      · rw [if_pos h0, ln_out (by omega)]
      · rw [if_neg h0]
    have e2 : cvI l i = 0 := by unfold cvI; rw [e]; rfl
    rw [e, e2]
    obtain ⟨A, B, c, c', c0, c1, _⟩ := h.open_
    clear h e e2
    by_cases h1 : i < 0
    · clear hi
      go_enter Tryd.func27, Tryd.ntmps27
      go_wp2_with fail
      go_ret2
      exact ⟨rfl, 0, rfl⟩
    · have h2 : (l.length : Int) ≤ i := by omega
      clear hi
      go_enter Tryd.func27, Tryd.ntmps27
      go_wp2_with fail
      go_ret2
      exact ⟨rfl, 0, rfl⟩

end Go.Proofs.YtglkfgpefpebmaaDoor
