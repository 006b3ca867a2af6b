import Derived.Test.YtjfjmkkkbcgohaaGreatDoorMInfO
import Derived.Deep.MidRow
namespace Go.Proofs.YtjfjmkkkbcgohaaGreatDoor
open Go Go.RowKit
def numOf (w : World) (g i : Nat) : Nat:=match w.cell? ⟨g,i,none⟩ with
 | some (.int _ k)=>k.toNat
 | _=>0
theorem numOf_eq {w : World} {g i n : Nat} (h : w.cell? ⟨g,i,none⟩ = some (.int .i64 (n : Int))) : numOf w g i = n:=by
 unfold numOf
 rw [h]
 rfl
end Go.Proofs.YtjfjmkkkbcgohaaGreatDoor
