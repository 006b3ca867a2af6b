/-
  Package pixel: New, FromRGBA, FromRGB.
-/
import Derived.Test.YtngaabnmhcncmaaPxF
namespace Go.Proofs.Ytngaabnmhcncmaa
open Go Go.RowKit

theorem own_zero (w : World) (B : Nat) : Own w B 0 0 (mval 0 0 none 0 0) [] := ⟨none, 0, rfl, World.ownsRow_nil _ _ _ _⟩

/-- What New tells: sides, bytes, the error. -/
def newW (W H : Int) : Int := if mayI W H = true then W else 0
def newL (W H : Int) : List UInt8 := if mayI W H = true then List.replicate (4 * (W.toNat * H.toNat)) 0 else []
def newE7 (W H : Int) : Nat := if mayI W H = true then 0 else 1

theorem mayI_nat {W H : Int} (h : mayI W H = true) : ∃ x y : Nat, W = x ∧ H = y ∧ x * y ≤ 67108864 ∧ okM x y (4 * (x * y)) := by
  unfold mayI at h
  rw [decide_eq_true_iff] at h
  obtain ⟨x, rfl⟩ := Int.eq_ofNat_of_zero_le (show 0 ≤ W by omega)
  obtain ⟨y, rfl⟩ := Int.eq_ofNat_of_zero_le (show 0 ≤ H by omega)
  have e : ((x * y : Nat) : Int) = (x : Int) * (y : Int) := Int.natCast_mul x y
  rw [← e] at h
  refine ⟨x, y, rfl, rfl, ?_, ?_, rfl⟩
  · rcases h with ⟨h1, h2⟩ | h
    · obtain rfl : x = 0 := by omega
      rw [Nat.zero_mul]; omega
    · omega
  · rcases h with h | h
    · exact .inl (by omega)
    · exact .inr (by omega)

set_option maxRecDepth 100000 in
set_option maxHeartbeats 4000000 in
theorem new_any (W H : Int) (w : World) :
    Calls Try.prog 13 #[.int .i64 W, .int .i64 H] w fun e w' => ∃ v, e = .returned (.tuple #[v, .int .i64 (newE7 W H : Nat)]) ∧ Own w' w.heap.size (newW W H) (newW H W) v (newL W H) ∧ Only [] w w' := by
  have HM := hide (mayBe_any W H)
  have hsym : mayI H W = mayI W H := by unfold mayI; rw [Int.mul_comm]; congr 1; apply propext; constructor <;> (rintro (h | h); exact .inl ⟨h.2, h.1⟩; exact .inr ⟨h.2.1, h.1, h.2.2⟩)
  have hz : Has (w.alloc (.cells #[.int .i64 0, .int .i64 0, .slice none 0 0] 24)) w.heap.size 24 #[.int .i64 0, .int .i64 0, .slice none 0 0] := Has.new w _ _
  have o0 : Only [] w (w.alloc (.cells #[.int .i64 0, .int .i64 0, .slice none 0 0] 24)) := (Only.refl [] w).alloc _
  cases hm : mayI W H with
  | false =>
    have E1 : newW W H = 0 := by unfold newW; rw [hm]; rfl
    have E2 : newW H W = 0 := by unfold newW; rw [hsym, hm]; rfl
    have E3 : newL W H = [] := by unfold newL; rw [hm]; rfl
    have E4 : newE7 W H = 1 := by unfold newE7; rw [hm]; rfl
    rw [E1, E2, E3, E4]
    rw [hm] at HM
    clear E1 E2 E3 E4 hsym hm
    go_enter Try.func13, Try.ntmps13
    go_wp2_with fail
    refine (HM.out _).mono ?_
    rintro e w1 ⟨rfl, rfl⟩
    go_wp2_with (refine list_store_row' rfl 24 (.tmp 4) (.tmp 10) rfl w.heap.size #[.int .i64 0, .int .i64 0, .slice none 0 0] rfl rfl 24 _ hz (by kernel_rfl) rfl (mat_one _ _ _ _ _) ?_; intro w3 hT3 hO3)
    exact bodyPost_ret (results_row_two Try.results13 _ _ w.heap.size 24 _ _ rfl hT3 Try.underlying24 rfl (by kernel_rfl)) rfl ⟨_, rfl, own_zero _ _, o0.trans hO3 (by intro i hi hlt; simp at hi; omega)⟩
  | true =>
    obtain ⟨x, y, rfl, rfl, hxy, hok⟩ := mayI_nat hm
    have E1 : newW x y = x := by unfold newW; rw [hm]; rfl
    have E2 : newW y x = y := by unfold newW; rw [hsym, hm]; rfl
    have E3 : newL x y = List.replicate (4 * (x * y)) 0 := by unfold newL; rw [hm]; rfl
    have E4 : newE7 x y = 0 := by unfold newE7; rw [hm]; rfl
    rw [E1, E2, E3, E4]
    rw [hm] at HM
    have HB := hide (fun w => blank_any x y (4 * (x * y)) w rfl (by omega))
    have hlen : (List.replicate (4 * (x * y)) (0 : UInt8)).length = 4 * (x * y) := by simp
    generalize hL : List.replicate (4 * (x * y)) (0 : UInt8) = L at *
    generalize 4 * (x * y) = N at *
    subst hlen
    clear E1 E2 E3 E4 hsym hm hxy hok hL
    go_enter Try.func13, Try.ntmps13
    go_wp2_with fail
    refine (HM.out _).mono ?_
    rintro e w1 ⟨rfl, rfl⟩
    go_wp2_with fail
    refine (HB.out _).mono ?_
    rintro e w2 ⟨g, rfl, hg, how, ho2⟩
    have hz2 := hz.only ho2 (by simp)
    unfold mval
    go_wp2_with (refine list_store_row' rfl 24 (.tmp 4) (.tmp 13) rfl w.heap.size #[.int .i64 (x : Int), .int .i64 (y : Int), .slice (some ⟨g, 0, none⟩) L.length L.length] rfl rfl 24 _ hz2 (by kernel_rfl) rfl (mat_one _ _ _ _ _) ?_; intro w3 hT3 hO3)
    have hs : w.heap.size < g := by have h : (w.alloc (.cells #[.int .i64 0, .int .i64 0, .slice none 0 0] 24)).heap.size = w.heap.size + 1 := by simp
                                    omega
    refine bodyPost_ret (results_row_two Try.results13 _ _ w.heap.size 24 _ _ rfl hT3 Try.underlying24 rfl (by kernel_rfl)) rfl ⟨_, rfl, ⟨some ⟨g, 0, none⟩, L.length, rfl, own_mono (own_keep how hO3 ?_) (by simp)⟩, (o0.trans ho2 (S := []) (by simp)).trans hO3 (by intro i hi hlt; simp at hi; omega)⟩
    intro b hb hm
    have : g = b := by injection hb
    simp at hm
    omega

set_option maxRecDepth 100000 in
set_option maxHeartbeats 4000000 in
/-- Four bytes a pixel: what they are, or the error. -/
theorem rgba_bad (W H : Int) (A : Option Addr) (n c : Nat) (w : World) (hf : ¬ faultE W H 4 n = 0) :
    Calls Try.prog 17 #[.int .i64 W, .int .i64 H, .slice A n c] w fun e w' => ∃ v, e = .returned (.tuple #[v, .int .i64 (faultE W H 4 n : Nat)]) ∧ Own w' w.heap.size 0 0 v [] ∧ Only [] w w' := by
  have HM := hide (fun w => fault_any W H 4 A n c w (by omega))
  have hz : Has (w.alloc (.cells #[.int .i64 0, .int .i64 0, .slice none 0 0] 24)) w.heap.size 24 #[.int .i64 0, .int .i64 0, .slice none 0 0] := Has.new w _ _
  have o0 : Only [] w (w.alloc (.cells #[.int .i64 0, .int .i64 0, .slice none 0 0] 24)) := (Only.refl [] w).alloc _
  generalize faultE W H 4 n = f at *
  have hf1 : ¬ (f : Int) = 0 := by omega
  clear hf
  go_enter Try.func17, Try.ntmps17
  go_wp2_with fail
  refine (HM.out _).mono ?_
  rintro e w1 ⟨rfl, rfl⟩
  go_wp2_with (refine list_store_row' rfl 24 (.tmp 6) (.tmp 15) rfl w.heap.size #[.int .i64 0, .int .i64 0, .slice none 0 0] rfl rfl 24 _ hz (by kernel_rfl) rfl (mat_one _ _ _ _ _) ?_; intro w3 hT3 hO3)
  exact bodyPost_ret (results_row_two Try.results17 _ _ w.heap.size 24 _ _ rfl hT3 Try.underlying24 rfl (by kernel_rfl)) rfl ⟨_, rfl, own_zero _ _, o0.trans hO3 (by intro i hi hlt; simp at hi; omega)⟩

set_option maxRecDepth 100000 in
set_option maxHeartbeats 4000000 in
theorem rgba_ok (W H : Int) (A : Option Addr) (n c : Nat) (l : List UInt8) (w : World) (hf : faultE W H 4 n = 0) (hb : Holds w 1 A n (bvals l)) (hl : l.length = n) (hn : n ≤ 140737488355328) (hA : A = none → c = 0 ∧ n = 0) :
    Calls Try.prog 17 #[.int .i64 W, .int .i64 H, .slice A n c] w fun e w' => ∃ v, e = .returned (.tuple #[v, .int .i64 0]) ∧ Own w' w.heap.size W H v l ∧ Only [] w w' := by
  have HM := hide (fun w => fault_any W H 4 A n c w (by omega))
  rw [hf] at HM
  have hz : Has (w.alloc (.cells #[.int .i64 0, .int .i64 0, .slice none 0 0] 24)) w.heap.size 24 #[.int .i64 0, .int .i64 0, .slice none 0 0] := Has.new w _ _
  have o0 : Only [] w (w.alloc (.cells #[.int .i64 0, .int .i64 0, .slice none 0 0] 24)) := (Only.refl [] w).alloc _
  have HL := hide (like_any W H A n c l (w.alloc (.cells #[.int .i64 0, .int .i64 0, .slice none 0 0] 24)) (hb.keep o0 (by simp)) hl hn hA)
  clear hf hb hl hn hA
  go_enter Try.func17, Try.ntmps17
  go_wp2_with fail
  refine (HM.out _).mono ?_
  rintro e w1 ⟨rfl, rfl⟩
  go_wp2_with fail
  refine (HL.out).mono ?_
  rintro e w2 ⟨v, rfl, ⟨A1, c1, rfl, how⟩, ho2⟩
  have hz2 := hz.only ho2 (by simp)
  unfold mval
  go_wp2_with (refine list_store_row' rfl 24 (.tmp 6) (.tmp 21) rfl w.heap.size #[.int .i64 W, .int .i64 H, .slice A1 l.length c1] rfl rfl 24 _ hz2 (by kernel_rfl) rfl (mat_one _ _ _ _ _) ?_; intro w3 hT3 hO3)
  have hs : (w.alloc (.cells #[.int .i64 0, .int .i64 0, .slice none 0 0] 24)).heap.size = w.heap.size + 1 := by simp
  refine bodyPost_ret (results_row_two Try.results17 _ _ w.heap.size 24 _ _ rfl hT3 Try.underlying24 rfl (by kernel_rfl)) rfl ⟨_, rfl, ⟨A1, c1, rfl, own_mono (own_keep how hO3 ?_) (by omega)⟩, (o0.trans ho2 (S := []) (by simp)).trans hO3 (by intro i hi hlt; simp at hi; omega)⟩
  intro b hb hm
  cases A1 with
  | none => cases hb
  | some ad =>
    have := (own_block how ad rfl).1
    have hb' : ad.block = b := by injection hb
    simp at hm
    omega
end Go.Proofs.Ytngaabnmhcncmaa
