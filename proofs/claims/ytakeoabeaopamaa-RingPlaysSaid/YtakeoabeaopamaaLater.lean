/-
  Regions that draw their order and hold calls that make memory but turn nothing that was there: one walk serves every order.
-/
import Derived.Test.YtakeoabeaopamaaProg
import Derived.Test.YtakeoabeaopamaaMem
import Derived.Deep.QuietTactic
import Derived.BigQuiet
namespace Go.Proofs.Ytakeoabeaopamaa
open Go Go.RowKit

/-- A world in which all that was there is as it was. -/
structure Later (w : World) where
  val : World
  only : Only [] w val

instance later_nonempty (w : World) : Nonempty (Later w) := ⟨⟨w, Only.refl [] w⟩⟩

theorem region_later {P : Program} {id : Nat} {Q : Exit → Act → World → Prop} {a : Act} {w : World} {l : List Oper} (hm : P.follows .mixedOrders = true) (hB : Region.lexB .any l.toArray = true)
    (h : wpQuiet P l.toArray (fun w' => ∃ x : Later w, w' = x.val) (fun a' => ∀ w', (∃ x : Later w, w' = x.val) → Q .normal a' w') l a) : (Code.region id l.toArray true).wp P Q a w :=
  wp_region_quiet (C := fun w' => ∃ x : Later w, w' = x.val) hm hB ⟨⟨_, (Only.refl [] w).drew⟩, rfl⟩ h

/-- A call there. -/
theorem later_of {P : Program} {f : FuncId} {args : Array Value} {w : World} {x : Later w} {v : Value} (h : Calls P f args x.val fun e w' => e = .returned v ∧ Only [] x.val w') :
    Calls P f args x.val fun e w'' => e = .returned v ∧ ∃ y : Later w, w'' = y.val :=
  h.mono fun _ w' ⟨he, ho⟩ => ⟨he, ⟨w', x.only.trans ho (by simp)⟩, rfl⟩
/-- A cell there. -/
theorem later_cell {w : World} {p : Addr} {u : Value} (h : w.cell? p = some u) : ∀ x : Later w, x.val.cell? p = some u := fun x => by
  rw [x.only.cell (World.block_lt_of_cell? w p h) (by simp)]; exact h
end Go.Proofs.Ytakeoabeaopamaa
