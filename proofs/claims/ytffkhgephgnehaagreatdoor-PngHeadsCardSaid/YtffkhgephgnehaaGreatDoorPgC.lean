import Derived.Test.YtffkhgephgnehaaGreatDoorMPgCb
import Derived.Test.YtffkhgephgnehaaGreatDoorMPgCd
namespace Go.Proofs.YtffkhgephgnehaaGreatDoor
open Go Go.RowKit
theorem rCheck_any (W H d c l : Int) (w : World) : Calls Tryz.prog 16 #[.agg #[.int .i64 W,.int .i64 H,.int .i64 d,.int .i64 c,.int .i64 l]] w fun e w'=>e = .returned (.int .i64 (chkV W H d c l : Nat)) /\ Only [] w w':=by
 by_cases hW : 1 <= W /\ W <= 16384 /\ 1 <= H /\ H <= 16384
 case neg=>exact rCheck_side W H d c l w hW
 have hs:=hide (fun w=>rSamples_any c w)
 have hn:=(smpV_nn c).1
 by_cases hd : d = 8 \/ (d = 16 /\ c ≠ 3) \/ ((c = 0 \/ c = 3) /\ (d = 1 \/ d = 2 \/ d = 4))
 ·by_cases h0 : smpV c = 0
  ·rw [chkV_kind hW (by omega)]
   exact rCheck_none W H d c l _ w hW hs h0 hd
  ·by_cases h1 : l < 0
   ·rw [chkV_kind hW (by omega)]
    exact rCheck_low W H d c l _ w hW hs (by omega) h1 hd
   ·by_cases h2 : 1 < l
    ·rw [chkV_kind hW (by omega)]
     exact rCheck_high W H d c l _ w hW hs (by omega) h1 h2 hd
    ·rw [chkV_ok hW (by omega) hd (by omega)]
     exact rCheck_good W H d c l _ w hW hs (by omega) h1 h2 hd
 ·rw [chkV_kind hW (by omega)]
  exact rCheck_kind W H d c l _ w hW hs (by omega)
end Go.Proofs.YtffkhgephgnehaaGreatDoor
