/-
  The chapter's examples hold; a play is small.
-/
import Derived.Test.YtibbaeelgihmgaaDoorB64F
import Derived.Test.YtibbaeelgihmgaaDoorB64H
import Derived.Test.YtibbaeelgihmgaaDoorStr
namespace Go.Proofs.YtibbaeelgihmgaaDoor
open Go Go.RowKit

theorem own_string {w : World} {B : Nat} {A : Option Addr} {c n : Nat} {l : List UInt8} (h : w.ownsRow B 5 1 (.slice A n c) n (bvals l)) : (convert 28 9 (.slice A n c)).run Tryd.prog w = .ok (.string ⟨l.toArray⟩) w :=
  run_string_of (Holds.of_own h) c 28 5 9 Tryd.underlying28 Tryd.underlying5 Tryd.underlying9
theorem holds_string {w : World} {A : Option Addr} {n : Nat} (c : Nat) {l : List UInt8} (h : Holds w 1 A n (bvals l)) : (convert 28 9 (.slice A n c)).run Tryd.prog w = .ok (.string ⟨l.toArray⟩) w :=
  run_string_of h c 28 5 9 Tryd.underlying28 Tryd.underlying5 Tryd.underlying9

theorem known1 : St.new.write [89, 87, 74, 106] = ([97, 98, 99], 0, St.new) := by kernel_rfl
theorem known2 : St.new.write [90, 65] = ([], 0, ⟨[90, 65], 0, false, false⟩) := by kernel_rfl
theorem known3 : (⟨[90, 65], 0, false, false⟩ : St).fin = ([100], 0, St.new) := by kernel_rfl
theorem known4 : enc [97] = [89, 81, 61, 61] := by kernel_rfl
theorem known_ok : (⟨[90, 65], 0, false, false⟩ : St).Ok := by
  have := write_ok St.Ok.new [90, 65]
  rw [known2] at this
  exact this

set_option maxHeartbeats 2000000 in
set_option maxRecDepth 10000 in
theorem known_any (w : World) (T : Tab w) : Calls Tryd.prog 7 #[] w fun e w' => e = .returned (.bool true) ∧ Only [] w w' := by
  have hn1 : ∀ (g : Nat) (w : World), (binOp .eql 25 (.pointer (some ⟨g, 0, none⟩)) (.pointer none)).run Tryd.prog w = .ok (.bool false) w := fun g w => by kernel_rfl
  have hcv := run_bytes_const Tryd.prog 28 5 Tryd.underlying28 Tryd.underlying5
  have HT := hide T
  clear T
  go_enter Tryd.func7, Tryd.ntmps7
  go_wp2_with fail
  refine (newDecoder_any w).mono ?_
  rintro e w1 ⟨g, rfl, hg, hd1, ho1⟩
  have glt := hd1.lt
  have hlit : Holds (w1.alloc (.cells #[.int .u8 89, .int .u8 87, .int .u8 74, .int .u8 106] 5 (4, 5))) 1 (some ⟨w1.heap.size, 0, none⟩) 4 (bvals [89, 87, 74, 106]) := Holds.lit_mark w1 _ _ _ _ rfl
  have oa : Only [] w1 (w1.alloc (.cells #[.int .u8 89, .int .u8 87, .int .u8 74, .int .u8 106] 5 (4, 5))) := (Only.refl [] w1).alloc _
  have hw := write_any g St.new _ 4 4 _ _ ((HT.out.only ho1 (by simp) (by simp)).only oa (by simp) (by simp)) (hd1.only oa (by simp)) St.Ok.new hlit rfl (by omega) (fun _ ad ha => by injection ha with ha; subst ha; show w1.heap.size ≠ g; omega)
  rw [known1] at hw
  have H1 := hide (And.intro hg (And.intro ho1 (And.intro oa hw)))
  clear hd1 ho1 oa hw hlit glt hg
  go_wp2_with fail
  refine (H1.out.2.2.2).mono ?_
  rintro e w2 ⟨v2, rfl, ho2, hd2, hon2⟩
  obtain ⟨A2, c2, rfl, _, _⟩ := own_shape ho2
  have glt := hd2.lt
  have hlit : Holds (w2.alloc (.cells #[.int .u8 90, .int .u8 65] 5 (2, 3))) 1 (some ⟨w2.heap.size, 0, none⟩) 2 (bvals [90, 65]) := Holds.lit_mark w2 _ _ _ _ rfl
  have ob : Only [] w2 (w2.alloc (.cells #[.int .u8 90, .int .u8 65] 5 (2, 3))) := (Only.refl [] w2).alloc _
  have o02 : Only [] w w2 := (H1.out.2.1.trans H1.out.2.2.1 (by simp)).trans hon2 (by have := H1.out.1; simp; omega)
  have T2 := HT.out.only o02 (by simp) (by simp)
  have hw := write_any g St.new _ 2 2 _ _ (T2.only ob (by simp) (by simp)) (Has.only hd2 ob (by simp)) St.Ok.new hlit rfl (by omega) (fun _ ad ha => by injection ha with ha; subst ha; show w2.heap.size ≠ g; omega)
  rw [known2] at hw
  have hne2 := own_ne ho2 hd2 (by decide)
  have H2 := hide (And.intro ho2 (And.intro hne2 (And.intro o02 (And.intro ob (And.intro T2 hw)))))
  clear ho2 hd2 hon2 glt hlit ob o02 T2 hw hne2
  go_wp2_with fail
  refine (H2.out.2.2.2.2.2).mono ?_
  rintro e w3 ⟨v3', rfl, ho3, hd3, hon3⟩
  obtain ⟨A3, c3, rfl, _, _⟩ := own_shape ho3
  have hne3 := own_ne ho3 hd3 (by decide)
  have hb3 : Only [g] _ w3 := H2.out.2.2.2.1.of_nil.trans hon3 (by simp)
  have hh := held_o g _ w3 hd3 (by decide) (by decide)
  have hh : Calls Tryd.prog 15 #[.pointer (some ⟨g, 0, none⟩)] w3 fun e w' => e = .returned (.int .i64 2) ∧ De w' g ⟨[90, 65], 0, false, false⟩ ∧ Only [] w3 w' := hh
  have H3 := hide (And.intro ho3 (And.intro hne3 (And.intro hb3 hh)))
  clear ho3 hd3 hon3 hne3 hb3 hh
  go_wp2_with fail
  refine (H3.out.2.2.2).mono ?_
  rintro e w4 ⟨rfl, hd4, ho4⟩
  have he := end_any g _ w4 hd4 known_ok
  rw [known3] at he
  have H4 := hide (And.intro ho4 he)
  clear hd4 ho4 he
  go_wp2_with fail
  refine (H4.out.2).mono ?_
  rintro e w5 ⟨v5, rfl, ho5, hd5, hon5⟩
  obtain ⟨A5, c5, rfl, _, _⟩ := own_shape ho5
  have o35 : Only [g] w3 w5 := H4.out.1.of_nil.trans hon5 (by simp)
  have o25 : Only [g] w2 w5 := H3.out.2.2.1.trans o35 (by simp)
  have s2 : (convert 28 9 (.slice A2 3 c2)).run Tryd.prog w5 = .ok (.string ⟨#[97, 98, 99]⟩) w5 := own_string (own_keep H2.out.1 o25 (fun b hb hm => H2.out.2.1 (hb.trans (congrArg some (by simpa using hm))).symm))
  have s3 : (convert 28 9 (.slice A3 0 c3)).run Tryd.prog w5 = .ok (.string ⟨#[]⟩) w5 := own_string (own_keep H3.out.1 o35 (fun b hb hm => H3.out.2.1 (hb.trans (congrArg some (by simpa using hm))).symm))
  have s5 : (convert 28 9 (.slice A5 1 c5)).run Tryd.prog w5 = .ok (.string ⟨#[100]⟩) w5 := own_string ho5
  have hg := H1.out.1
  have o05 : Only [] w w5 := H2.out.2.2.1.trans o25 (by simp; omega)
  have hlit : Holds (w5.alloc (.cells #[.int .u8 97] 5 (1, 2))) 1 (some ⟨w5.heap.size, 0, none⟩) 1 (bvals [97]) := Holds.lit_mark w5 _ _ _ _ rfl
  have oc : Only [] w5 (w5.alloc (.cells #[.int .u8 97] 5 (1, 2))) := (Only.refl [] w5).alloc _
  have hen := encode_any _ 1 1 [97] _ ((HT.out.only o05 (by simp) (by simp)).only oc (by simp) (by simp)) hlit rfl (by omega) (Nat.le_refl _)
  rw [known4] at hen
  have H5 := hide (And.intro o05 (And.intro oc hen))
  clear ho5 hd5 hon5 o35 o25 o05 oc hen hlit hg
  go_wp2_with fail
  refine (H5.out.2.2).mono ?_
  rintro e w6 ⟨v6, rfl, ho6, hon6⟩
  obtain ⟨A6, c6, rfl, _, _⟩ := own_shape ho6
  have s6 : (convert 28 9 (.slice A6 4 c6)).run Tryd.prog w6 = .ok (.string ⟨#[89, 81, 61, 61]⟩) w6 := own_string ho6
  have H6 := hide hon6
  clear ho6 hon6
  go_wp2_with fail
  go_ret
  exact ⟨rfl, (H5.out.1.trans H5.out.2.1 (by simp)).trans H6.out (by simp)⟩
end Go.Proofs.YtibbaeelgihmgaaDoor
