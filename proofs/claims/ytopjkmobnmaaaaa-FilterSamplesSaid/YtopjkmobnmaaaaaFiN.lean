/-
  Package filter: what every law asks first.
-/
import Derived.Test.YtopjkmobnmaaaaaFiK
import Derived.Test.YtopjkmobnmaaaaaStr
namespace Go.Proofs.Ytopjkmobnmaaaaa
open Go Go.RowKit

theorem str_of {w : World} {A : Option Addr} {n : Nat} {l : List UInt8} (h : Holds w 1 A n (bvals l)) (c : Nat) : (convert 22 9 (.slice A n c)).run Try.prog w = .ok (.string ⟨l.toArray⟩) w :=
  run_string_of h c 22 5 9 Try.underlying22 Try.underlying5 Try.underlying9

theorem known_undo : flR true 2 1 [1, 2] [10, 20] = [11, 22] := by decide
theorem known_smp : smR [27] 2 4 = [0, 1, 2, 3] := by decide

set_option maxRecDepth 100000 in
set_option maxHeartbeats 4000000 in
theorem known_any (w : World) : Calls Try.prog 8 #[] w fun e w' => e = .returned (.bool true) ∧ Only [] w w' := by
  have hl1 : Holds ((w.alloc (.cells #[.int .u8 1, .int .u8 2] 5)).alloc (.cells #[.int .u8 10, .int .u8 20] 5)) 1 (some ⟨w.heap.size, 0, none⟩) 2 (bvals [1, 2]) := (Holds.lit w #[.int .u8 1, .int .u8 2] 5).keep (S := []) ((Only.refl [] _).alloc _) (by simp)
  have hl2 : Holds ((w.alloc (.cells #[.int .u8 1, .int .u8 2] 5)).alloc (.cells #[.int .u8 10, .int .u8 20] 5)) 1 (some ⟨w.heap.size + 1, 0, none⟩) 2 (bvals [10, 20]) := by
    have h := Holds.lit (w.alloc (.cells #[.int .u8 1, .int .u8 2] 5)) #[.int .u8 10, .int .u8 20] 5
    rw [World.size_alloc] at h
    exact h
  have HU := hide (undo_any 2 1 (some ⟨w.heap.size, 0, none⟩) (some ⟨w.heap.size + 1, 0, none⟩) 2 2 2 2 [1, 2] [10, 20] _ hl1 rfl hl2 rfl (by omega))
  rw [known_undo, show fErr 2 1 2 2 = 0 from rfl] at HU
  rw [show (([11, 22] : List UInt8).length) = 2 from rfl, show (((0 : Nat) : Int)) = 0 from rfl] at HU
  have HS : Hid (∀ w : World, Calls Try.prog 14 #[.slice (some ⟨w.heap.size, 0, none⟩) 1 1, .int .i64 2, .int .i64 4] (w.alloc (.cells #[.int .u8 27] 5)) fun e w' => ∃ v, e = .returned (.tuple #[v, .int .i64 0]) ∧ w'.ownsRow (w.alloc (.cells #[.int .u8 27] 5)).heap.size 3 1 v 4 (svals [0, 1, 2, 3]) ∧ Only [] (w.alloc (.cells #[.int .u8 27] 5)) w') := hide (fun w => by
    have h := samples_any 2 4 (some ⟨w.heap.size, 0, none⟩) 1 1 [27] (w.alloc (.cells #[.int .u8 27] 5)) (Holds.lit w #[.int .u8 27] 5) rfl (by omega)
    rw [known_smp] at h
    exact h)
  have HZ : Hid (∀ w : World, Calls Try.prog 18 #[.agg #[.int .i64 4, .int .i64 0, .int .i64 8, .int .i64 8], .int .i64 13, .int .i64 9] w fun e w' => e = .returned (.tuple #[.int .i64 2, .int .i64 2]) ∧ Only [] w w') := hide (fun w => size_any 4 0 8 8 13 9 w (by omega) (by omega) (by omega) (by omega))
  have HR : Hid (∀ w : World, Calls Try.prog 16 #[.int .i64 5, .int .i64 1, .int .i64 2] w fun e w' => e = .returned (.int .i64 2) ∧ w' = w) := hide (fun w => row_len 5 1 2 w)
  have HP := hide passes_any
  have o0 : Only [] w ((w.alloc (.cells #[.int .u8 1, .int .u8 2] 5)).alloc (.cells #[.int .u8 10, .int .u8 20] 5)) := ((Only.refl [] w).alloc _).alloc _
  have H0 := hide o0
  clear hl1 hl2 o0
  go_enter Try.func8, Try.ntmps8
  go_wp2_with fail
  refine (HU.out).mono ?_
  rintro e w1 ⟨v, rfl, how1, ho1⟩
  obtain ⟨A1, c1, rfl, _, _⟩ := own_shape how1
  have hx := Holds.of_own how1
  have o1 := H0.out.trans ho1 (S := []) (by simp)
  have H1 := hide (And.intro hx o1)
  clear how1 ho1 hx o1
  go_wp2_with fail
  refine (HS.out _).mono ?_
  rintro e w2 ⟨v, rfl, how2, ho2⟩
  obtain ⟨A2, c2, rfl, _, _⟩ := own_shape how2
  have o1b : Only [] w1 (w1.alloc (.cells #[.int .u8 27] 5)) := (Only.refl [] w1).alloc _
  have o2 := o1b.trans ho2 (S := []) (by simp)
  have H2 := hide (And.intro (And.intro (H1.out.1.keep o2 (by simp)) (Holds.of_own how2)) (H1.out.2.trans o2 (S := []) (by simp)))
  clear how2 ho2 o1b o2
  go_wp2_with fail
  refine (HZ.out _).mono ?_
  rintro e w3 ⟨rfl, ho3⟩
  have hx := H2.out.1.1.keep ho3 (by simp)
  have hy := H2.out.1.2.keep ho3 (by simp)
  have o3 := H2.out.2.trans ho3 (S := []) (by simp)
  have hst : (convert 22 9 (.slice A1 2 c1)).run Try.prog w3 = .ok (.string ⟨#[11, 22]⟩) w3 := str_of hx c1
  obtain ⟨b2, of2, rfl, hc2⟩ := hy.addr (by simp)
  have s3 := hc2 3 _ (show (svals [0, 1, 2, 3])[3]? = some (.int .i64 3) from rfl)
  have H3 := hide o3
  clear hx hy o3 ho3 hc2
  go_wp2_with fail
  refine (HR.out _).mono ?_
  rintro e w4 ⟨rfl, rfl⟩
  go_wp2_with fail
  refine (HP.out _).mono ?_
  rintro e w5 ⟨v, rfl, how5, ho5⟩
  obtain ⟨A5, c5, rfl, _, _⟩ := own_shape how5
  have H5 := hide (H3.out.trans ho5 (S := []) (by simp))
  clear how5 ho5 s3 hst
  go_wp2_with fail
  go_ret
  exact ⟨rfl, H5.out⟩
end Go.Proofs.Ytopjkmobnmaaaaa
