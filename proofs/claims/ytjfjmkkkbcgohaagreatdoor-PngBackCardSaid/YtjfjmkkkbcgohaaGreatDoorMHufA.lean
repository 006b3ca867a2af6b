import Derived.Test.YtjfjmkkkbcgohaaGreatDoorMHBits
import Derived.Laws.Tables
import Derived.Laws.StructEq
namespace Go.Proofs.YtjfjmkkkbcgohaaGreatDoor
open Go Go.RowKit
def tEq (c d : Nat -> Nat) : Bool:=(List.range' 0 16).all fun i=>c i == d i
def mayBe (c : Nat -> Nat) : Bool:=decide (Sm c 16 = 32768) || tEq c (fun _=>0) || tEq c (fun i=>if i = 1 then 1 else 0)
structure TF where
 len : Nat -> Nat
 code : Nat -> Nat
 sym : Nat -> Nat
 cnt : Nat -> Nat
 fst : Nat -> Nat
 bef : Nat -> Nat
 lng : Nat
def TF.at (f : TF) (i : Nat) : Value :=
 if i < 320 then .int .u8 (f.len i : Int) else if i < 640 then .int .u16 (f.code (i - 320) : Int) else if i < 960 then .int .i16 (f.sym (i - 640) : Int)
 else if i < 976 then .int .i64 (f.cnt (i - 960) : Int) else if i < 992 then .int .i64 (f.fst (i - 976) : Int) else if i < 1008 then .int .i64 (f.bef (i - 992) : Int) else .int .i64 (f.lng : Int)
def TF.cells (f : TF) : Array Value:=((List.range 1009).map f.at).toArray
namespace TF
variable (f : TF)
end TF
def TF.new (c : Nat -> Nat) : TF:=⟨fun _=>0,fun _=>0,fun _=>0,c,fun _=>0,fun _=>0,0⟩
def TF.ord (c : Nat -> Nat) (k : Nat) : TF:={ TF.new c with fst:=fun i=>if i <= k then Fs c i else 0,bef:=fun i=>if i <= k then Bf c i else 0,lng:=Lg c k }
def Tbl (w : World) (g : Nat) (f : TF) : Prop:=Has w g 210 f.cells
theorem Tbl.only {w w' : World} {g : Nat} {f : TF} {S : List Nat} (h : Tbl w g f) (ho : Only S w w') (hg : g ∉ S) : Tbl w' g f:=Has.only h ho hg
theorem wrap64 {z : Int} {n : Nat} (h1 : z = n) (h2 : n <= 9223372036854775807) : IntKind.i64.wrap z = (n : Int):=by
 rw [IntKind.wrap_i64]; omega
def TF.dl (l : List UInt8) (s : Nat) (S : Nat -> Nat) : TF :=
 { TF.ord (cn l) 15 with len:=fun i=>if i < s then ln l i else 0,code:=fun i=>if i < s /\ ln l i ≠ 0 then rev (cd l i) (ln l i) else 0,sym:=S }
def Dealt (l : List UInt8) (s : Nat) (S : Nat -> Nat) : Prop:=∀ i,i < s -> ln l i ≠ 0 -> S (pl l i) = i
def far (l : List UInt8) : Bool:=l.any fun b=>decide (15 < b.toNat)
def Tb (w : World) (g : Nat) (l : List UInt8) : Prop:=∃ S,Dealt l l.length S /\ Tbl w g (TF.dl l l.length S)
theorem Tb.only {w w' : World} {g : Nat} {l : List UInt8} {S : List Nat} (h : Tb w g l) (ho : Only S w w') (hg : g ∉ S) : Tb w' g l:=by
 obtain ⟨F,h1,h2⟩:=h
 exact ⟨F,h1,h2.only ho hg⟩
theorem Tb.lt {w : World} {g : Nat} {l : List UInt8} (h : Tb w g l) : g < w.heap.size:=by
 obtain ⟨F,_,h2⟩:=h
 exact Has.lt h2
theorem list_build {P : Program} {ops : Array Oper} {rest : List Oper} {o : Oper} {a : Act} {w : World} {Q : Exit -> Act -> World -> Prop} (hgd : o.guard = none) (t : TypeId) (k : Nat) (x : Operand) (ho : o.op = .build t #[(k,x)])
 (v : Value) (hx : a.eval x = v) (cells : Array Value) (hb : P.built t [(k,v)] = some cells)
 (h : wpList P ops Q rest (a.put o.dst (.agg cells)) w) : wpList P ops Q (o :: rest) a w :=
 wpList_plain hgd fun _ hK=>by
  refine wp_build t #[(k,x)] ho ?_ ?_
  ·simp [hx,hb]
  ·simpa [hx,hb] using hK _ _ h
end Go.Proofs.YtjfjmkkkbcgohaaGreatDoor
namespace Go.Proofs.YtjfjmkkkbcgohaaGreatDoor
def bc (N k : Nat) : Nat -> Nat
 | 0=>0
 | n + 1=>2 * bc N k n + N / 2 ^ (k + n) % 2
def sy (l : List UInt8) (n j : Nat) : Nat:=((List.range l.length).find? fun i=>ln l i == n && rk l i n == j).getD 0
def scan (l : List UInt8) (N k left : Nat) : Nat -> Nat -> Nat × Nat × Nat
 | 0,_=>(0,3,0)
 | r + 1,n=>if left < n then (0,2,0) else if bc N k n < Fs (cn l) n + cn l n then (sy l n (bc N k n - Fs (cn l) n),0,n) else scan l N k left r (n + 1)
def readM (l : List UInt8) (N k left : Nat) : Nat × Nat × Nat:=scan l N k left (Lg (cn l) 15) 1
theorem scan_hit {l : List UInt8} {N k left r n : Nat} (h : ¬ left < n) (h2 : bc N k n < Fs (cn l) n + cn l n) : scan l N k left (r + 1) n = (sy l n (bc N k n - Fs (cn l) n),0,n):=by unfold scan; rw [if_neg h,if_pos h2]
theorem scan_next {l : List UInt8} {N k left r n : Nat} (h : ¬ left < n) (h2 : ¬ bc N k n < Fs (cn l) n + cn l n) : scan l N k left (r + 1) n = scan l N k left r (n + 1):=by
 show (if left < n then (0,2,0) else if bc N k n < Fs (cn l) n + cn l n then (sy l n (bc N k n - Fs (cn l) n),0,n) else scan l N k left r (n + 1)) = _
 rw [if_neg h,if_neg h2]
end Go.Proofs.YtjfjmkkkbcgohaaGreatDoor
