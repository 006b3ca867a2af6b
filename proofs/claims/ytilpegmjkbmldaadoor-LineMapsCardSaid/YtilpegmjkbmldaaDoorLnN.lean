/-
  What every law of lines asks first.
-/
import Derived.Test.YtilpegmjkbmldaaDoorLnT
import Derived.Test.YtilpegmjkbmldaaDoorLnG
namespace Go.Proofs.YtilpegmjkbmldaaDoor
open Go Go.RowKit

def kn0 : List Ce := newL 4 Lk.zero
def kn1 : List Ce := putL kn0 1 19968 true Lk.zero
def kn2 : List Ce := putL kn1 2 120 false ⟨1, 0, 0⟩
theorem kn1_eq : kn1 = [⟨0, 0, Lk.zero⟩, ⟨19968, 1, Lk.zero⟩, ⟨0, 2, Lk.zero⟩, ⟨0, 0, Lk.zero⟩] := by decide +kernel
theorem kn2_eq : kn2 = [⟨0, 0, Lk.zero⟩, ⟨0, 0, Lk.zero⟩, ⟨120, 0, ⟨1, 0, 0⟩⟩, ⟨0, 0, Lk.zero⟩] := by decide +kernel
theorem kn1_mend : mendL kn1 = kn1 := by decide +kernel
theorem kn2_mend : mendL kn2 = kn2 := by decide +kernel
theorem kn1_text : textL kn1 = [32, 228, 184, 128] := by decide +kernel
theorem kn2_text : textL kn2 = [32, 32, 120] := by decide +kernel
theorem kn1_signs : Signs (mendL kn1) := by
  rw [kn1_mend, kn1_eq]
  intro c hc h2 h0
  simp only [List.mem_cons, List.not_mem_nil, or_false] at hc
  rcases hc with rfl | rfl | rfl | rfl
  · exact absurd rfl h0
  · exact .inr rfl
  · exact absurd rfl h0
  · exact absurd rfl h0
theorem kn2_signs : Signs (mendL kn2) := by
  rw [kn2_mend, kn2_eq]
  intro c hc h2 h0
  simp only [List.mem_cons, List.not_mem_nil, or_false] at hc
  rcases hc with rfl | rfl | rfl | rfl
  · exact absurd rfl h0
  · exact absurd rfl h0
  · exact .inl ⟨by decide, by decide⟩
  · exact absurd rfl h0
theorem kn2_right : rightL kn2 = true := by simp [rightL, kn2_mend]

set_option maxRecDepth 100000 in
set_option maxHeartbeats 4000000 in
theorem known_any (w : World) : Calls Tryd.prog 7 #[] w fun e w' => e = .returned (.bool true) ∧ Only [] w w' := by
  have HN : Hid (Calls Tryd.prog 8 #[.int .i64 4, .agg #[.int .i64 0, .int .i64 0, .int .i64 0]] w fun e w' => ∃ A, e = .returned (.slice A 4 4) ∧ LineAt w' A 4 4 kn0 ∧ Only [] w w') := hide (new_any 4 Lk.zero w)
  have HP1 : Hid (∀ A w1, LineAt w1 A 4 4 kn0 → Calls Tryd.prog 19 #[.slice A 4 4, .int .i64 1, .int .i32 19968, .int .i64 2, .agg #[.int .i64 0, .int .i64 0, .int .i64 0]] w1 fun e w' => ∃ g, e = .returned (.tuple #[.slice (some ⟨g, 0, none⟩) 4 4, .bool true]) ∧ NewLine w1 w' g kn1) :=
    hide (fun A w1 h => put_two A 4 4 kn0 1 19968 Lk.zero w1 h (by omega) (by omega))
  have HP2 : Hid (∀ A w1, LineAt w1 A 4 4 kn1 → Calls Tryd.prog 19 #[.slice A 4 4, .int .i64 2, .int .i32 120, .int .i64 1, .agg #[.int .i64 1, .int .i64 0, .int .i64 0]] w1 fun e w' => ∃ g, e = .returned (.tuple #[.slice (some ⟨g, 0, none⟩) 4 4, .bool true]) ∧ NewLine w1 w' g kn2) :=
    hide (fun A w1 h => put_one A 4 4 kn1 2 120 ⟨1, 0, 0⟩ w1 h (by omega) (by omega))
  have HT1 : Hid (∀ A w1, LineAt w1 A 4 4 kn1 → Calls Tryd.prog 20 #[.slice A 4 4] w1 fun e w' => e = .returned (.string ⟨#[32, 228, 184, 128]⟩) ∧ Only [] w1 w') :=
    hide (fun A w1 h => by have := text_any A 4 4 kn1 w1 h (by omega) kn1_signs; rw [kn1_text] at this; exact this)
  have HT2 : Hid (∀ A w1, LineAt w1 A 4 4 kn2 → Calls Tryd.prog 20 #[.slice A 4 4] w1 fun e w' => e = .returned (.string ⟨#[32, 32, 120]⟩) ∧ Only [] w1 w') :=
    hide (fun A w1 h => by have := text_any A 4 4 kn2 w1 h (by omega) kn2_signs; rw [kn2_text] at this; exact this)
  have HR : Hid (∀ A w1, LineAt w1 A 4 4 kn2 → Calls Tryd.prog 12 #[.slice A 4 4] w1 fun e w' => e = .returned (.bool true) ∧ Only [] w1 w') :=
    hide (fun A w1 h => by have := right_any A 4 4 kn2 w1 h (by omega); rw [kn2_right] at this; exact this)
  go_enter Tryd.func7, Tryd.ntmps7
  go_wp2_with fail
  refine (HN.out).mono ?_
  rintro e w1 ⟨A, rfl, h1, o1⟩
  have H1 := hide (And.intro h1 o1)
  clear h1 o1 HN
  go_wp2_with fail
  refine (HP1.out _ _ H1.out.1).mono ?_
  rintro e w2 ⟨g, rfl, N2⟩
  have l2 : LineAt w2 (some ⟨g, 0, none⟩) 4 4 kn1 := N2.at
  have H2 := hide (And.intro l2 (H1.out.2.trans N2.only (S := []) (by simp)))
  clear l2 N2 HP1
  go_wp2_with fail
  refine (HP2.out _ _ H2.out.1).mono ?_
  rintro e w3 ⟨g2, rfl, N3⟩
  have l3 : LineAt w3 (some ⟨g2, 0, none⟩) 4 4 kn2 := N3.at
  have H3 := hide (And.intro l3 (And.intro (H2.out.1.keep N3.only) (H2.out.2.trans N3.only (S := []) (by simp))))
  clear l3 N3 HP2
  go_wp2_with fail
  refine (HT1.out _ _ H3.out.2.1).mono ?_
  rintro e w4 ⟨rfl, o4⟩
  have H4 := hide (And.intro (H3.out.1.keep o4) (H3.out.2.2.trans o4 (S := []) (by simp)))
  clear o4 HT1
  go_wp2_with fail
  refine (HT2.out _ _ H4.out.1).mono ?_
  rintro e w5 ⟨rfl, o5⟩
  have H5 := hide (And.intro (H4.out.1.keep o5) (H4.out.2.trans o5 (S := []) (by simp)))
  clear o5 HT2
  go_wp2_with fail
  refine (HR.out _ _ H5.out.1).mono ?_
  rintro e w6 ⟨rfl, o6⟩
  have l6 := H5.out.1.keep o6
  have c1 : w6.cell? ⟨g2, 6, none⟩ = some (.int .i64 0) := by
    have := (l6.ce 1 ⟨0, 0, Lk.zero⟩ (by rw [kn2_eq]; rfl)).2.1
    simpa using this
  have H6 := hide (H5.out.2.trans o6 (S := []) (by simp))
  clear o6 l6 HR
  go_wp2_with fail
  go_ret
  exact ⟨rfl, H6.out⟩
end Go.Proofs.YtilpegmjkbmldaaDoor
