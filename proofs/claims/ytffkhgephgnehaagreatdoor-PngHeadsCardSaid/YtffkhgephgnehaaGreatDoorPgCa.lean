import Derived.Test.YtffkhgephgnehaaGreatDoorMPgK
namespace Go.Proofs.YtffkhgephgnehaaGreatDoor
open Go Go.RowKit
theorem pgSide_iff (n : Int) : pgSide n = true ↔ 1 <= n /\ n <= 16384:=by unfold pgSide; exact decide_eq_true_iff
theorem pgMay_iff (c d : Int) : pgMay c d = true ↔ 0 < smpV c /\ (d = 8 \/ (d = 16 /\ c ≠ 3) \/ ((c = 0 \/ c = 3) /\ (d = 1 \/ d = 2 \/ d = 4))):=by
 unfold pgMay
 by_cases h : d = 1 \/ d = 2 \/ d = 4
 ·rw [if_pos h]
  rcases smpV_cases c with ⟨rfl,e⟩ | ⟨rfl,e⟩ | ⟨rfl,e⟩ | ⟨rfl,e⟩ | ⟨rfl,e⟩ | ⟨h0,h2,h3,h4,h6,e⟩
  all_goals
   rw [e,decide_eq_true_iff]
   omega
 rw [if_neg h]
 by_cases h8 : d = 8
 ·rw [if_pos h8,decide_eq_true_iff]
  omega
 rw [if_neg h8]
 by_cases h16 : d = 16
 ·rw [if_pos h16,decide_eq_true_iff]
  omega
 rw [if_neg h16]
 constructor
 ·intro h; cases h
 ·omega
theorem chkV_arg {W H d c l : Int} (h : ¬ (1 <= W /\ W <= 16384 /\ 1 <= H /\ H <= 16384)) : chkV W H d c l = 1:=by
 unfold chkV
 rw [if_neg]
 rw [pgSide_iff,pgSide_iff]
 omega
theorem chkV_ok {W H d c l : Int} (h : 1 <= W /\ W <= 16384 /\ 1 <= H /\ H <= 16384) (h1 : 0 < smpV c) (h2 : d = 8 \/ (d = 16 /\ c ≠ 3) \/ ((c = 0 \/ c = 3) /\ (d = 1 \/ d = 2 \/ d = 4))) (h3 : 0 <= l /\ l <= 1) : chkV W H d c l = 0:=by
 unfold chkV
 rw [if_pos (by rw [pgSide_iff,pgSide_iff]; omega),if_pos ⟨(pgMay_iff c d).2 ⟨h1,h2⟩,by omega⟩]
theorem chkV_kind {W H d c l : Int} (h : 1 <= W /\ W <= 16384 /\ 1 <= H /\ H <= 16384) (hk : ¬ (0 < smpV c /\ (d = 8 \/ (d = 16 /\ c ≠ 3) \/ ((c = 0 \/ c = 3) /\ (d = 1 \/ d = 2 \/ d = 4))) /\ (0 <= l /\ l <= 1))) : chkV W H d c l = 8:=by
 unfold chkV
 rw [if_pos (by rw [pgSide_iff,pgSide_iff]; omega),if_neg]
 intro hh
 have:=(pgMay_iff c d).1 hh.1
 exact hk ⟨this.1,this.2,by omega⟩
set_option maxRecDepth 100000 in
set_option maxHeartbeats 8000000 in
theorem rCheck_side (W H d c l : Int) (w : World) (hW : ¬ (1 <= W /\ W <= 16384 /\ 1 <= H /\ H <= 16384)) : Calls Tryz.prog 16 #[.agg #[.int .i64 W,.int .i64 H,.int .i64 d,.int .i64 c,.int .i64 l]] w fun e w'=>e = .returned (.int .i64 (chkV W H d c l : Nat)) /\ Only [] w w':=by
 rw [chkV_arg hW]
 rcases (show W < 1 \/ (1 <= W /\ 16384 < W) \/ (1 <= W /\ W <= 16384 /\ H < 1) \/ (1 <= W /\ W <= 16384 /\ 1 <= H /\ 16384 < H) by omega) with h | ⟨h,h1⟩ | ⟨h,h1,h2⟩ | ⟨h,h1,h2,h3⟩
 all_goals
  clear hW
  go_enter Tryz.func16,Tryz.ntmps16
  go_wp2_with fail
  go_ret
  exact ⟨rfl,Only.alloc (Only.refl _ _) _⟩
end Go.Proofs.YtffkhgephgnehaaGreatDoor
