/-
  Of: all parts written, one behind the other.
-/
import Derived.Test.YteimhpjhmpdmjaaSumC
import Derived.Test.YteimhpjhmpdmjaaSumD
namespace Go.Proofs.Yteimhpjhmpdmjaa
open Go Go.RowKit

/-- A part: a slice of bytes. -/
structure Part where
  A : Option Addr
  c : Nat
  l : List UInt8
def Part.val (p : Part) : Value := .slice p.A p.l.length p.c
structure Part.Ok (p : Part) (w : World) (g : Nat) : Prop where
  holds : Holds w 1 p.A p.l.length (bvals p.l)
  cap : p.l.length ≤ p.c
  max : p.l.length ≤ 140737488355328
  ne : 0 < p.l.length → ∀ ad, p.A = some ad → ad.block ≠ g
def Part.all (ps : List Part) : List UInt8 := (ps.map Part.l).flatten

theorem Part.Ok.only {p : Part} {w w' : World} {g : Nat} (h : p.Ok w g) (ho : Only [g] w w') : p.Ok w' g :=
  ⟨h.holds.keepPos ho (fun h0 ad ha _ => by simpa using h.ne h0 ad ha), h.cap, h.max, h.ne⟩

theorem Part.all_take (ps : List Part) (j : Nat) (h : j < ps.length) : Part.all (ps.take (j + 1)) = Part.all (ps.take j) ++ ps[j].l := by
  unfold Part.all
  rw [List.take_succ_eq_append_getElem h, List.map_append, List.flatten_append]
  simp

theorem Crc.only {w w' : World} {g : Nat} {l : List UInt8} {S : List Nat} (h : Crc w g l) (ho : Only S w w') (hg : g ∉ S) : Crc w' g l := Has.only h ho hg
theorem Crc.lt {w : World} {g : Nat} {l : List UInt8} (h : Crc w g l) : g < w.heap.size := Has.lt h

theorem adlerSum_o (g : Nat) (l : List UInt8) (w : World) (h : Adl w g l) :
    Calls Try.prog 13 #[.pointer (some ⟨g, 0, none⟩)] w fun e w' => e = .returned (.int .u32 ((adWord (adOf l) : Nat) : Int)) ∧ Adl w' g l ∧ Only [] w w' :=
  (adlerSum_any g l w h).mono fun _ _ ⟨he, m, hm⟩ => ⟨he, by rw [hm]; exact h.only ((Only.refl [] w).drewN m) (by simp), by rw [hm]; exact (Only.refl [] w).drewN m⟩

theorem crc_write (n : Nat) (a : Addr) (w : World) : (method (n + 1) 25 (.pointer (some a)) "Write").run Try.prog w = .ok (9, .pointer (some a)) w := by kernel_rfl
theorem crc_sum (n : Nat) (a : Addr) (w : World) : (method (n + 1) 25 (.pointer (some a)) "Sum").run Try.prog w = .ok (11, .pointer (some a)) w := by kernel_rfl
theorem adler_write (n : Nat) (a : Addr) (w : World) : (method (n + 1) 27 (.pointer (some a)) "Write").run Try.prog w = .ok (10, .pointer (some a)) w := by kernel_rfl
theorem adler_sum (n : Nat) (a : Addr) (w : World) : (method (n + 1) 27 (.pointer (some a)) "Sum").run Try.prog w = .ok (13, .pointer (some a)) w := by kernel_rfl

set_option maxHeartbeats 1000000 in
theorem ofCrc_any (g : Nat) (l0 : List UInt8) (P : Option Addr) (k c : Nat) (ps : List Part) (w : World) (h : Crc w g l0) (hP : Holds w 1 P k (ps.map Part.val)) (hk : ps.length = k) (hk2 : k ≤ 140737488355328)
    (hps : ∀ p ∈ ps, p.Ok w g) (hPne : 0 < k → ∀ ad, P = some ad → ad.block ≠ g) :
    Calls Try.prog 15 #[.pointer (some ⟨g, 0, none⟩), .slice P k c] w fun e w' =>
      e = .returned (.int .u32 ((4294967295 - crcList 4294967295 (l0 ++ Part.all ps) : Nat) : Int)) ∧ Crc w' g (l0 ++ Part.all ps) ∧ Only [g] w w' := by
  subst hk
  have HH := hide h
  have HP := hide hP
  have HO := hide (And.intro hps hPne)
  clear h hP hps hPne
  have m1 := crc_write
  have m2 := crc_sum
  go_enter Try.func15, Try.ntmps15
  go_wp2
  go_loopw [9] (fun i wr => ∃ j : Nat, j ≤ ps.length ∧ i = .int .i64 j ∧ Crc wr g (l0 ++ Part.all (ps.take j)) ∧ Only [g] w wr) (fun i _ => ps.length - (intOf i).toNat)
  case atStart => exact ⟨0, Nat.zero_le _, rfl, by simpa [Part.all] using HH.out, Only.refl _ _⟩
  case round =>
    obtain ⟨j, hj, rfl, hCj, hoj⟩ := hrel
    by_cases hlt : j < ps.length
    · have hok := (HO.out.1 ps[j] (List.getElem_mem hlt)).only hoj
      have hP2 := HP.out.keepPos hoj (fun h0 ad ha _ => by simpa using HO.out.2 h0 ad ha)
      obtain ⟨b, o, rfl, hc2⟩ := hP2.addr (by simpa using (show 0 < ps.length by omega))
      have hcell : wr.cell? ⟨b, o + j, none⟩ = some (.slice ps[j].A ps[j].l.length ps[j].c) := hc2 j _ (by simp [hlt, Part.val])
      have hst := Part.all_take ps j hlt
      have HE := hide (And.intro hCj (And.intro hoj (And.intro hok hst)))
      clear hCj hoj hok hst hc2 hP2
      generalize ps[j] = p at *
      obtain ⟨A, cp, l⟩ := p
      simp only at hcell HE
      go_wp2_with fail
      refine (crcWrite_any g _ A l.length cp l wr HE.out.1 HE.out.2.2.1.holds rfl HE.out.2.2.1.max).mono ?_
      rintro e w1 ⟨rfl, hC1, ho1⟩
      have H1 := hide (And.intro hC1 ho1)
      clear hC1 ho1 hcell
      go_wp2_with fail
      go_roundw
      case rel => exact ⟨j + 1, hlt, by go_num, by rw [HE.out.2.2.2, ← List.append_assoc]; exact H1.out.1, HE.out.2.1.trans H1.out.2 (by simp)⟩
      case measure => simp [intOf]; omega
    · obtain rfl : j = ps.length := by omega
      have ht : ps.take ps.length = ps := List.take_length
      rw [ht] at hCj
      clear ht hlt
      have HE := hide (And.intro hCj hoj)
      clear hCj hoj
      go_wp2_with fail
      refine (crcSum_any g _ wr HE.out.1).mono ?_
      rintro e w1 ⟨rfl, rfl⟩
      go_wp2_with fail
      go_ret
      exact ⟨rfl, HE.out.1, HE.out.2⟩

set_option maxHeartbeats 1000000 in
theorem ofAdler_any (g : Nat) (l0 : List UInt8) (P : Option Addr) (k c : Nat) (ps : List Part) (w : World) (h : Adl w g l0) (hP : Holds w 1 P k (ps.map Part.val)) (hk : ps.length = k) (hk2 : k ≤ 140737488355328)
    (hps : ∀ p ∈ ps, p.Ok w g) (hPne : 0 < k → ∀ ad, P = some ad → ad.block ≠ g) :
    Calls Try.prog 16 #[.pointer (some ⟨g, 0, none⟩), .slice P k c] w fun e w' =>
      e = .returned (.int .u32 ((adWord (adOf (l0 ++ Part.all ps)) : Nat) : Int)) ∧ Adl w' g (l0 ++ Part.all ps) ∧ Only [g] w w' := by
  subst hk
  have HH := hide h
  have HP := hide hP
  have HO := hide (And.intro hps hPne)
  clear h hP hps hPne
  have m1 := adler_write
  have m2 := adler_sum
  go_enter Try.func16, Try.ntmps16
  go_wp2
  go_loopw [9] (fun i wr => ∃ j : Nat, j ≤ ps.length ∧ i = .int .i64 j ∧ Adl wr g (l0 ++ Part.all (ps.take j)) ∧ Only [g] w wr) (fun i _ => ps.length - (intOf i).toNat)
  case atStart => exact ⟨0, Nat.zero_le _, rfl, by simpa [Part.all] using HH.out, Only.refl _ _⟩
  case round =>
    obtain ⟨j, hj, rfl, hCj, hoj⟩ := hrel
    by_cases hlt : j < ps.length
    · have hok := (HO.out.1 ps[j] (List.getElem_mem hlt)).only hoj
      have hP2 := HP.out.keepPos hoj (fun h0 ad ha _ => by simpa using HO.out.2 h0 ad ha)
      obtain ⟨b, o, rfl, hc2⟩ := hP2.addr (by simpa using (show 0 < ps.length by omega))
      have hcell : wr.cell? ⟨b, o + j, none⟩ = some (.slice ps[j].A ps[j].l.length ps[j].c) := hc2 j _ (by simp [hlt, Part.val])
      have hst := Part.all_take ps j hlt
      have HE := hide (And.intro hCj (And.intro hoj (And.intro hok hst)))
      clear hCj hoj hok hst hc2 hP2
      generalize ps[j] = p at *
      obtain ⟨A, cp, l⟩ := p
      simp only at hcell HE
      go_wp2_with fail
      refine (adlerWrite_any g _ A l.length cp l wr HE.out.1 HE.out.2.2.1.holds rfl HE.out.2.2.1.max HE.out.2.2.1.cap HE.out.2.2.1.ne).mono ?_
      rintro e w1 ⟨rfl, hC1, ho1⟩
      have H1 := hide (And.intro hC1 ho1)
      clear hC1 ho1 hcell
      go_wp2_with fail
      go_roundw
      case rel => exact ⟨j + 1, hlt, by go_num, by rw [HE.out.2.2.2, ← List.append_assoc]; exact H1.out.1, HE.out.2.1.trans H1.out.2 (by simp)⟩
      case measure => simp [intOf]; omega
    · obtain rfl : j = ps.length := by omega
      have ht : ps.take ps.length = ps := List.take_length
      rw [ht] at hCj
      clear ht hlt
      have HE := hide (And.intro hCj hoj)
      clear hCj hoj
      go_wp2_with fail
      refine (adlerSum_any g _ wr HE.out.1).mono ?_
      rintro e w1 ⟨rfl, m, rfl⟩
      go_wp2_with fail
      go_ret
      exact ⟨rfl, HE.out.1.only ((Only.refl [] _).drewN m) (by simp), HE.out.2.drewN m⟩
theorem Part.all_one (p : Part) : Part.all [p] = p.l := by simp [Part.all]

/-- One part, its slice just laid. -/
theorem ofCrc_one (g : Nat) (l0 : List UInt8) (A : Option Addr) (n c : Nat) (l : List UInt8) (w : World) (h : Crc w g l0) (hp : Part.Ok ⟨A, c, l⟩ w g) (hl : l.length = n) (q : Nat) (hq : q = w.heap.size) :
    Calls Try.prog 15 #[.pointer (some ⟨g, 0, none⟩), .slice (some ⟨q, 0, none⟩) 1 1] (w.alloc (.cells #[.slice A n c] 22)) fun e w' =>
      e = .returned (.int .u32 ((4294967295 - crcList 4294967295 (l0 ++ l) : Nat) : Int)) ∧ Crc w' g (l0 ++ l) ∧ Only [g] w w' := by
  subst hq
  subst hl
  have ho : Only [g] w (w.alloc (.cells #[.slice A l.length c] 22)) := ((Only.refl [] w).alloc _).of_nil
  have glt := h.lt
  refine (ofCrc_any g l0 _ 1 1 [⟨A, c, l⟩] _ (h.only ((Only.refl [] w).alloc _) (by simp)) (Holds.lit w #[.slice A l.length c] 22) rfl (by omega) ?_ ?_).mono ?_
  · intro p hp'
    obtain rfl := List.mem_singleton.1 hp'
    exact hp.only ho
  · intro _ ad ha
    injection ha with ha; subst ha
    show w.heap.size ≠ g
    omega
  · rintro e w' ⟨he, hc, ho2⟩
    rw [Part.all_one] at he hc
    exact ⟨he, hc, ho.trans ho2 (by simp)⟩

theorem ofAdler_one (g : Nat) (l0 : List UInt8) (A : Option Addr) (n c : Nat) (l : List UInt8) (w : World) (h : Adl w g l0) (hp : Part.Ok ⟨A, c, l⟩ w g) (hl : l.length = n) (q : Nat) (hq : q = w.heap.size) :
    Calls Try.prog 16 #[.pointer (some ⟨g, 0, none⟩), .slice (some ⟨q, 0, none⟩) 1 1] (w.alloc (.cells #[.slice A n c] 22)) fun e w' =>
      e = .returned (.int .u32 ((adWord (adOf (l0 ++ l)) : Nat) : Int)) ∧ Adl w' g (l0 ++ l) ∧ Only [g] w w' := by
  subst hq
  subst hl
  have ho : Only [g] w (w.alloc (.cells #[.slice A l.length c] 22)) := ((Only.refl [] w).alloc _).of_nil
  have glt := h.lt
  refine (ofAdler_any g l0 _ 1 1 [⟨A, c, l⟩] _ (h.only ((Only.refl [] w).alloc _) (by simp)) (Holds.lit w #[.slice A l.length c] 22) rfl (by omega) ?_ ?_).mono ?_
  · intro p hp'
    obtain rfl := List.mem_singleton.1 hp'
    exact hp.only ho
  · intro _ ad ha
    injection ha with ha; subst ha
    show w.heap.size ≠ g
    omega
  · rintro e w' ⟨he, hc, ho2⟩
    rw [Part.all_one] at he hc
    exact ⟨he, hc, ho.trans ho2 (by simp)⟩

/-- No part at all. -/
theorem ofCrc_none (g : Nat) (l0 : List UInt8) (w : World) (h : Crc w g l0) :
    Calls Try.prog 15 #[.pointer (some ⟨g, 0, none⟩), .slice none 0 0] w fun e w' =>
      e = .returned (.int .u32 ((4294967295 - crcList 4294967295 l0 : Nat) : Int)) ∧ Crc w' g l0 ∧ Only [g] w w' := by
  refine (ofCrc_any g l0 none 0 0 [] w h (Holds.empty _ _ _) rfl (by omega) (by simp) (by simp)).mono ?_
  rintro e w' ⟨he, hc, ho⟩
  have e0 : l0 ++ Part.all [] = l0 := by simp [Part.all]
  rw [e0] at he hc
  exact ⟨he, hc, ho⟩
end Go.Proofs.Yteimhpjhmpdmjaa
