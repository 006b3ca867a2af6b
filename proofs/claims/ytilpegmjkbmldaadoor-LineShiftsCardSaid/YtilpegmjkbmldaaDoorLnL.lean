/-
  A builder of text: a sign put behind it (of ASCII, or 4E00).
-/
import Derived.Test.YtilpegmjkbmldaaDoorLnK
namespace Go.Proofs.YtilpegmjkbmldaaDoor
open Go Go.RowKit

/-- The signs whose bytes are told here; their bytes. -/
def Sign (r : Int) : Prop := (0 ≤ r ∧ r < 128) ∨ r = 19968
def encR (r : Int) : List UInt8 := if r = 19968 then [228, 184, 128] else [UInt8.ofNat r.toNat]
theorem encR_ascii {r : Int} (h0 : 0 ≤ r) (h1 : r < 128) : encR r = [UInt8.ofNat r.toNat] ∧ ((UInt8.ofNat r.toNat).toNat : Int) = r := by
  refine ⟨by unfold encR; rw [if_neg (by omega)], ?_⟩
  rw [UInt8.toNat_ofNat']
  omega

set_option maxRecDepth 100000 in
set_option maxHeartbeats 4000000 in
theorem appendNon_any (B : Nat) (q : List UInt8) (A : Option Addr) (c : Nat) (w : World) (hown : w.ownsRow B 5 1 (.slice A q.length c) q.length (bvals q)) (hB : B ≤ w.heap.size) (hq : q.length ≤ 1000000000) :
    Calls Tryd.prog 41 #[.slice A q.length c, .int .i32 19968] w fun e w' => ∃ A' c', e = .returned (.slice A' (q.length + 3) c') ∧ w'.ownsRow B 5 1 (.slice A' (q.length + 3) c') (q.length + 3) (bvals q ++ bvals [228, 184, 128]) ∧ (∀ g, Wrote w B g w') ∧ w.heap.size ≤ w'.heap.size := by
  obtain ⟨i0, hi0, hz0, hz1, hz2⟩ := info_of u8_info'
  have hown1 := hown.alloc (.cells #[.int .u8 228, .int .u8 184, .int .u8 128] 5)
  have hlit := Holds.lit w #[.int .u8 228, .int .u8 184, .int .u8 128] 5
  have hbase : B ≤ (w.alloc (.cells #[.int .u8 228, .int .u8 184, .int .u8 128] 5)).heap.size := by simp; omega
  have HO := hide (And.intro hown1 (And.intro hlit hbase))
  clear hown hown1 hlit hbase hB
  go_enter Tryd.func41, Tryd.ntmps41
  go_wp2_with (at_builtin; refine list_append _ rfl (.tmp 34) (.tmp 48) 43 rfl B 1 1 Tryd.underlying43 hi0 hz0 hz1 hz2 rfl (by omega) HO.out.1 rfl HO.out.2.1 rfl (by simp [Value.oneCell']) (by show (q.length + 3) * 1 ≤ _; omega) (by omega) HO.out.2.2 ?_; intro A2 c2 w2 hown2 hg2 hat2; have HQ := hide (And.intro hown2 hg2); clear hown2 hg2 hat2)
  go_ret
  obtain ⟨hown2, hg2⟩ := HQ.out
  have := hg2.size
  rw [World.size_alloc] at this
  exact ⟨A2, c2, rfl, hown2, fun g => (Wrote.nil ((Only.refl [] w).alloc _)).trans (Wrote.grown HO.out.1 hg2), by omega⟩

set_option maxRecDepth 100000 in
set_option maxHeartbeats 4000000 in
theorem appendRune_any (B : Nat) (q : List UInt8) (r : Int) (hr : Sign r) (A : Option Addr) (c : Nat) (w : World) (hown : w.ownsRow B 5 1 (.slice A q.length c) q.length (bvals q)) (hB : B ≤ w.heap.size) (hq : q.length ≤ 1000000000) :
    Calls Tryd.prog 35 #[.slice A q.length c, .int .i32 r] w fun e w' => ∃ A' c', e = .returned (.slice A' (q ++ encR r).length c') ∧ w'.ownsRow B 5 1 (.slice A' (q ++ encR r).length c') (q ++ encR r).length (bvals (q ++ encR r)) ∧ (∀ g, Wrote w B g w') ∧ w.heap.size ≤ w'.heap.size := by
  obtain ⟨i0, hi0, hz0, hz1, hz2⟩ := info_of u8_info'
  by_cases h9 : r = 19968
  · subst h9
    have e : encR 19968 = [228, 184, 128] := by unfold encR; rw [if_pos rfl]
    rw [e]
    have el : (q ++ [228, 184, 128]).length = q.length + 3 := by simp
    rw [el, bvals_append]
    have HN := hide (appendNon_any B q A c w hown hB hq)
    clear hown hB e el hr
    go_enter Tryd.func35, Tryd.ntmps35
    go_wp2_with fail
    refine (HN.out).mono ?_
    rintro e w1 ⟨A2, c2, rfl, h1⟩
    have HQ := hide h1
    clear h1 HN
    go_wp2_with fail
    go_ret
    exact ⟨A2, c2, rfl, HQ.out⟩
  · have h0 : 0 ≤ r ∧ r < 128 := by unfold Sign at hr; omega
    obtain ⟨e, hb⟩ := encR_ascii h0.1 h0.2
    rw [e]
    generalize UInt8.ofNat r.toNat = b at *
    subst hb
    have el : (q ++ [b]).length = q.length + 1 := by simp
    rw [el, bvals_append]
    have hown1 := hown.alloc (.cells #[.int .u8 (b.toNat : Int)] 5)
    have hlit := Holds.lit w #[.int .u8 (b.toNat : Int)] 5
    have hbase : B ≤ (w.alloc (.cells #[.int .u8 (b.toNat : Int)] 5)).heap.size := by simp; omega
    have HO := hide (And.intro hown1 (And.intro hlit hbase))
    have u1 : IntKind.u32.wrap (b.toNat : Int) = (b.toNat : Int) := IntWalk.u32_in _ ⟨by omega, by omega⟩
    have u2 : IntKind.u8.wrap (b.toNat : Int) = (b.toNat : Int) := IntWalk.u8_in _ ⟨by omega, by omega⟩
    have u3 : (b.toNat : Int) ≤ 127 := by omega
    have hq2 := hq
    clear hown hown1 hlit hbase hB e el hr h9 h0
    go_enter Tryd.func35, Tryd.ntmps35
    go_wp2_with (at_builtin; refine list_append _ rfl (.tmp 8) (.tmp 11) 43 rfl B 1 1 Tryd.underlying43 hi0 hz0 hz1 hz2 rfl (by omega) HO.out.1 rfl HO.out.2.1 rfl (by simp [Value.oneCell']) (by show (q.length + 1) * 1 ≤ _; omega) (by omega) HO.out.2.2 ?_; intro A2 c2 w2 hown2 hg2 hat2; have HQ := hide (And.intro hown2 hg2); clear hown2 hg2 hat2)
    go_ret
    obtain ⟨hown2, hg2⟩ := HQ.out
    have := hg2.size
    rw [World.size_alloc] at this
    exact ⟨A2, c2, rfl, hown2, fun g => (Wrote.nil ((Only.refl [] w).alloc _)).trans (Wrote.grown HO.out.1 hg2), by omega⟩

set_option maxRecDepth 100000 in
set_option maxHeartbeats 1000000 in
theorem writeRune_any (B g : Nat) (q : List UInt8) (r : Int) (hr : Sign r) (p : Value) (A : Option Addr) (c : Nat) (w : World) (h : Bd w B g q p A c) (hq : q.length ≤ 1000000000) :
    Calls Tryd.prog 29 #[.pointer (some ⟨g, 0, none⟩), .int .i32 r] w fun e w' => (∃ z, e = .returned (.tuple #[z, .nilIface])) ∧ (∃ A' c', Bd w' B g (q ++ encR r) (.pointer (some ⟨g, 0, none⟩)) A' c') ∧ Wrote w B g w' := by
  have HK := hide (copyCheck_any g p _ w h.has h.ptr)
  have H0 := hide h
  have HA := hide (fun w1 hown hB => appendRune_any B q r hr A c w1 hown hB hq)
  obtain ⟨X, hX⟩ : ∃ X, X = q ++ encR r := ⟨_, rfl⟩
  have hXl : X.length ≤ 2000000000 := by
    rw [hX, List.length_append]
    have : (encR r).length ≤ 3 := by unfold encR; split <;> simp
    omega
  rw [← hX] at HA ⊢
  clear h hX hr
  go_enter Tryd.func29, Tryd.ntmps29
  go_wp2_with fail
  refine (HK.out).mono ?_
  rintro e w1 ⟨rfl, hh, ho⟩
  have hown1 := own_off H0.out.own H0.out.has (by decide) ho
  have c1 : w1.cell? ⟨g, 1, none⟩ = some (.slice A q.length c) := hh.cell 1
  have hbase : B ≤ w1.heap.size := by have := H0.out.le; have := ho.size; omega
  have HB := hide (HA.out w1 hown1 hbase)
  have HO := hide (And.intro hbase (And.intro hh ho))
  clear hown1 hbase hh ho HA
  go_wp2_with fail
  refine (HB.out).mono ?_
  rintro e w2 ⟨A2, c2, rfl, hown2, hW, hsz⟩
  have hh2 := (hW (g + 1)).kept g _ _ HO.out.2.1 (by decide) (by omega)
  have e1 : w2.cell? ⟨g, 1, none⟩ = some (.slice A q.length c) := hh2.cell 1
  have f1 := hh2.free 1
  have hs1 := hh2.set 1 (.slice A2 X.length c2)
  have ho2 : Only [g] w2 (w2.setCell ⟨g, 1, none⟩ (.slice A2 X.length c2)) := (Only.refl _ w2).setCell (by simp) _
  have hown3 := own_off hown2 hh2 (by decide) ho2
  have HQ := hide (And.intro hs1 (And.intro hown3 (And.intro (((Wrote.only HO.out.2.2).trans (hW g)).trans (Wrote.only ho2)) (show B ≤ (w2.setCell ⟨g, 1, none⟩ (.slice A2 X.length c2)).heap.size from by have := ho2.size; have := HO.out.1; omega))))
  clear hown2 hW hsz hh2 hs1 ho2 hown3 HB
  go_wp2_with fail
  go_ret2
  exact ⟨⟨_, rfl⟩, ⟨A2, c2, HQ.out.1, HQ.out.2.1, .inr rfl, HQ.out.2.2.2⟩, HQ.out.2.2.1⟩
end Go.Proofs.YtilpegmjkbmldaaDoor
