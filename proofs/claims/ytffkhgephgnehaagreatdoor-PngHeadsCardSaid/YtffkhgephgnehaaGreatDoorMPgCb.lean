import Derived.Test.YtffkhgephgnehaaGreatDoorPgCa
namespace Go.Proofs.YtffkhgephgnehaaGreatDoor
open Go Go.RowKit
set_option maxRecDepth 100000 in
set_option maxHeartbeats 8000000 in
theorem rCheck_good (W H d c l s : Int) (w : World) (hW : 1 <= W /\ W <= 16384 /\ 1 <= H /\ H <= 16384) (hs : Hid (∀ w : World,Calls Tryz.prog 18 #[.int .i64 c] w fun e w'=>e = .returned (.int .i64 s) /\ w' = w)) (hp : 0 < s) (h1 : ¬ l < 0) (h2 : ¬ 1 < l) (hd : d = 8 \/ (d = 16 /\ c ≠ 3) \/ ((c = 0 \/ c = 3) /\ (d = 1 \/ d = 2 \/ d = 4))) :
 Calls Tryz.prog 16 #[.agg #[.int .i64 W,.int .i64 H,.int .i64 d,.int .i64 c,.int .i64 l]] w fun e w'=>e = .returned (.int .i64 0) /\ Only [] w w':=by
 obtain ⟨hW1,hW2,hH1,hH2⟩:=hW
 have q0 : (s == 0) = false:=beq_eq_false_iff_ne.2 (by omega)
 clear hp
 rcases hd with rfl | ⟨rfl,hc⟩ | ⟨rfl | rfl,rfl | rfl | rfl⟩
 all_goals
  try (have q3 : (c != 3) = true:=bne_iff_ne.2 hc)
  try clear hc
  go_enter Tryz.func16,Tryz.ntmps16
  go_wp2_with (go_at_call 18; refine ((hs.out) _).mono ?_; rintro e w' ⟨rfl,rfl⟩)
  go_ret
  exact ⟨rfl,Only.alloc (Only.refl _ _) _⟩
set_option maxRecDepth 100000 in
set_option maxHeartbeats 8000000 in
theorem rCheck_low (W H d c l s : Int) (w : World) (hW : 1 <= W /\ W <= 16384 /\ 1 <= H /\ H <= 16384) (hs : Hid (∀ w : World,Calls Tryz.prog 18 #[.int .i64 c] w fun e w'=>e = .returned (.int .i64 s) /\ w' = w)) (hp : 0 < s) (h1 : l < 0) (hd : d = 8 \/ (d = 16 /\ c ≠ 3) \/ ((c = 0 \/ c = 3) /\ (d = 1 \/ d = 2 \/ d = 4))) :
 Calls Tryz.prog 16 #[.agg #[.int .i64 W,.int .i64 H,.int .i64 d,.int .i64 c,.int .i64 l]] w fun e w'=>e = .returned (.int .i64 8) /\ Only [] w w':=by
 obtain ⟨hW1,hW2,hH1,hH2⟩:=hW
 have q0 : (s == 0) = false:=beq_eq_false_iff_ne.2 (by omega)
 clear hp
 rcases hd with rfl | ⟨rfl,hc⟩ | ⟨rfl | rfl,rfl | rfl | rfl⟩
 all_goals
  try (have q3 : (c != 3) = true:=bne_iff_ne.2 hc)
  try clear hc
  go_enter Tryz.func16,Tryz.ntmps16
  go_wp2_with (go_at_call 18; refine ((hs.out) _).mono ?_; rintro e w' ⟨rfl,rfl⟩)
  go_ret
  exact ⟨rfl,Only.alloc (Only.refl _ _) _⟩
end Go.Proofs.YtffkhgephgnehaaGreatDoor
