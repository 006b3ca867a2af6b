/-
  Package filter: what a filter takes a byte for.
-/
import Derived.Test.YtopjkmobnmaaaaaFiB
namespace Go.Proofs.Ytopjkmobnmaaaaa
open Go Go.RowKit

theorem u8_add (x y : Nat) (hx : x < 256) (hy : y < 256) : (UInt8.ofNat x + UInt8.ofNat y).toNat = (x + y) % 256 := by
  rw [UInt8.toNat_add, UInt8.toNat_ofNat', UInt8.toNat_ofNat', Nat.mod_eq_of_lt (by omega : x < 2 ^ 8), Nat.mod_eq_of_lt (by omega : y < 2 ^ 8)]

set_option maxRecDepth 100000 in
set_option maxHeartbeats 4000000 in
theorem guess_any (k i s : Nat) (A B : Option Addr) (n c m d : Nat) (l u : List UInt8) (w : World) (hk : k ≤ 4) (hs : s ≤ 8) (hi : i ≤ 1000000000)
    (hb : Holds w 1 A n (bvals l)) (hl : l.length = n) (hu : Holds w 1 B m (bvals u)) (hul : u.length = m) :
    Calls Try.prog 23 #[.int .i64 k, .slice A n c, .slice B m d, .int .i64 i, .int .i64 s] w fun e w' => e = .returned (.int .u8 ((gs k (lf l i s) (u.getD i 0) (lf u i s)).toNat : Int)) ∧ w' = w := by
  have HA := hide (at_any A n c l ((i : Int) - (s : Int)) w hb hl (by omega))
  have HC := hide (at_any B m d u ((i : Int) - (s : Int)) w hu hul (by omega))
  have HB := hide (at_any B m d u (i : Int) w hu hul (by omega))
  rw [atI_sub] at HA HC
  rw [atI_nat] at HB
  obtain ⟨j, hj⟩ : ∃ j, j = (i : Int) - (s : Int) := ⟨_, rfl⟩
  have V1 : Hid (wrap64 ((i : Int) - (s : Int)) = j) := hide (by rw [hj]; exact IntWalk.wrap64_in _ ⟨by omega, by omega⟩)
  have V2 : Hid (IntKind.i64.wrap ((i : Int) - (s : Int)) = j) := hide (by rw [hj, IntKind.wrap_i64]; omega)
  rw [← hj] at HA HC
  generalize lf l i s = a at *
  generalize lf u i s = cc at *
  generalize u.getD i 0 = b at *
  have HP := hide (fun w => paeth_any a b cc w)
  have g0 : gs 0 a b cc = 0 := rfl
  have g1 : gs 1 a b cc = a := rfl
  have g2 : gs 2 a b cc = b := rfl
  have g3 : gs 3 a b cc = UInt8.ofNat ((a.toNat + b.toNat) / 2) := rfl
  have g4 : gs 4 a b cc = pae a b cc := rfl
  have ha := a.toNat_lt
  have hb8 := b.toNat_lt
  clear hj hb hl hu hul
  rcases (show k = 0 ∨ k = 1 ∨ k = 2 ∨ k = 3 ∨ k = 4 by omega) with rfl | rfl | rfl | rfl | rfl
  · rw [g0]
    clear g0 g1 g2 g3 g4 HP HA HB HC
    have v1 := V1.out
    have v2 := V2.out
    clear V1 V2
    go_enter Try.func23, Try.ntmps23
    go_wp2_with fail
    go_ret
    exact ⟨rfl, rfl⟩
  · rw [g1]
    clear g0 g1 g2 g3 g4 HP HB HC
    generalize a.toNat = x at *
    have e1 : IntKind.u8.wrap (x : Int) = (x : Int) := by rw [IntKind.wrap_u8]; omega
    have v1 := V1.out
    have v2 := V2.out
    clear V1 V2
    go_enter Try.func23, Try.ntmps23
    go_wp2_with fail
    refine (HA.out).mono ?_
    rintro e w1 ⟨rfl, rfl⟩
    go_wp2_with fail
    go_ret
    exact ⟨rfl, rfl⟩
  · rw [g2]
    clear g0 g1 g2 g3 g4 HP HA HC
    generalize b.toNat = x at *
    have e1 : IntKind.u8.wrap (x : Int) = (x : Int) := by rw [IntKind.wrap_u8]; omega
    have v1 := V1.out
    have v2 := V2.out
    clear V1 V2
    go_enter Try.func23, Try.ntmps23
    go_wp2_with fail
    refine (HB.out).mono ?_
    rintro e w1 ⟨rfl, rfl⟩
    go_wp2_with fail
    go_ret
    exact ⟨rfl, rfl⟩
  · rw [g3, UInt8.toNat_ofNat', Nat.mod_eq_of_lt (by omega : (a.toNat + b.toNat) / 2 < 2 ^ 8)]
    clear g0 g1 g2 g3 g4 HP HC
    generalize a.toNat = x at *
    generalize b.toNat = y at *
    obtain ⟨z, hz⟩ : ∃ z, z = (x + y) / 2 := ⟨_, rfl⟩
    rw [← hz]
    obtain ⟨q, hq⟩ : ∃ q, q = x + y := ⟨_, rfl⟩
    have Hw1 : Hid (wrap64 ((x : Int) + (y : Int)) = (q : Int)) := hide (by rw [hq]; exact IntWalk.wrap64_in _ ⟨by omega, by omega⟩)
    have Hw2 : Hid (IntKind.i64.wrap ((x : Int) + (y : Int)) = (q : Int)) := hide (by rw [hq, IntKind.wrap_i64]; omega)
    have Hw3 : Hid ((q : Int).tdiv 2 = (z : Int)) := hide (by rw [hz, ← hq]; exact (Int.ofNat_tdiv q 2).symm)
    have Hw4 : Hid (IntKind.u8.wrap (z : Int) = (z : Int)) := hide (by rw [IntKind.wrap_u8]; omega)
    have Hw5 : Hid (IntKind.i64.wrap (z : Int) = (z : Int)) := hide (by rw [IntKind.wrap_i64]; omega)
    have Hw6 : Hid (wrap64 (z : Int) = (z : Int)) := hide (IntWalk.wrap64_in _ ⟨by omega, by omega⟩)
    have Hw7 : Hid (IntKind.i64.wrap (x : Int) = (x : Int)) := hide (by rw [IntKind.wrap_i64]; omega)
    have Hw8 : Hid (IntKind.i64.wrap (y : Int) = (y : Int)) := hide (by rw [IntKind.wrap_i64]; omega)
    clear hz hq
    have w1 := Hw1.out
    have w2 := Hw2.out
    have w3 := Hw3.out
    have w4 := Hw4.out
    have w5 := Hw5.out
    have w6 := Hw6.out
    have w7 := Hw7.out
    have w8 := Hw8.out
    clear Hw1 Hw2 Hw3 Hw4 Hw5 Hw6 Hw7 Hw8
    have v1 := V1.out
    have v2 := V2.out
    clear V1 V2
    go_enter Try.func23, Try.ntmps23
    go_wp2_with fail
    refine (HA.out).mono ?_
    rintro e w1 ⟨rfl, rfl⟩
    go_wp2_with fail
    refine (HB.out).mono ?_
    rintro e w1 ⟨rfl, rfl⟩
    go_wp2_with fail
    go_ret
    exact ⟨rfl, rfl⟩
  · rw [g4]
    clear g0 g1 g2 g3 g4
    have v1 := V1.out
    have v2 := V2.out
    clear V1 V2
    go_enter Try.func23, Try.ntmps23
    go_wp2_with fail
    refine (HC.out).mono ?_
    rintro e w1 ⟨rfl, rfl⟩
    go_wp2_with fail
    refine (HA.out).mono ?_
    rintro e w1 ⟨rfl, rfl⟩
    go_wp2_with fail
    refine (HB.out).mono ?_
    rintro e w1 ⟨rfl, rfl⟩
    go_wp2_with fail
    refine (HP.out _).mono ?_
    rintro e w1 ⟨rfl, rfl⟩
    go_wp2_with fail
    go_ret
    exact ⟨rfl, rfl⟩
end Go.Proofs.Ytopjkmobnmaaaaa
