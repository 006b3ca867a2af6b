import Derived.Test.YtjfjmkkkbcgohaaGreatDoorMGrow
import Derived.Test.YtjfjmkkkbcgohaaGreatDoorMWriteA
namespace Go.Proofs.YtjfjmkkkbcgohaaGreatDoor
open Go Go.RowKit
end Go.Proofs.YtjfjmkkkbcgohaaGreatDoor
namespace Go.Proofs.YtjfjmkkkbcgohaaGreatDoor
def ln (l : List UInt8) (i : Nat) : Nat:=((l[i]?).map (·.toNat)).getD 0
def cn (l : List UInt8) (n : Nat) : Nat:=if n = 0 then 0 else l.countP (fun b=>b.toNat == n)
theorem take_snoc {l : List UInt8} {i : Nat} (h : i < l.length) : l.take (i + 1) = l.take i ++ [l[i]]:=by
 rw [List.take_add_one,List.getElem?_eq_getElem h]; rfl
def rk (l : List UInt8) (i n : Nat) : Nat:=cn (l.take i) n
def Fs (c : Nat -> Nat) : Nat -> Nat
 | 0=>0
 | n + 1=>2 * (Fs c n + c n)
def Bf (c : Nat -> Nat) : Nat -> Nat
 | 0=>0
 | n + 1=>Bf c n + c n
def Lg (c : Nat -> Nat) : Nat -> Nat
 | 0=>0
 | n + 1=>if 0 < c (n + 1) then n + 1 else Lg c n
def Sm (c : Nat -> Nat) : Nat -> Nat
 | 0=>0
 | n + 1=>Sm c n + c n * 2 ^ (15 - n)
theorem Lg_le (c : Nat -> Nat) (n : Nat) : Lg c n <= n:=by
 induction n with
 | zero=>exact Nat.le_refl _
 | succ n ih=>unfold Lg; split <;> omega
def cd (l : List UInt8) (i : Nat) : Nat:=Fs (cn l) (ln l i) + rk l i (ln l i)
def pl (l : List UInt8) (i : Nat) : Nat:=Bf (cn l) (ln l i) + rk l i (ln l i)
end Go.Proofs.YtjfjmkkkbcgohaaGreatDoor
