import Derived.Test.YtjfjmkkkbcgohaaGreatDoorMPgA
namespace Go.Proofs.YtjfjmkkkbcgohaaGreatDoor
open Go Go.RowKit
structure Since (S : List Nat) (w : World) (v : Value) (w' : World) (v' : Value) : Prop where
 only : Only (S ++ v.ownBlock.toList) w w'
 own : ∀ b,v'.ownBlock = some b -> v.ownBlock = some b \/ w.heap.size <= b
namespace Since
variable {S : List Nat} {w w' w'' : World} {v v' v'' : Value}
theorem refl (S : List Nat) (w : World) (v : Value) : Since S w v w v:=⟨Only.refl _ _,fun _ h=>.inl h⟩
theorem trans {T : List Nat} (h : Since S w v w' v') (k : Since T w' v' w'' v'') (hT : ∀ i,i ∈ T -> i < w.heap.size -> i ∈ S) : Since S w v w'' v'':=by
 refine ⟨h.only.trans k.only ?_,fun b hb=>?_⟩
 ·intro i hi hlt
  rcases List.mem_append.1 hi with hi | hi
  ·exact List.mem_append.2 (.inl (hT i hi hlt))
  ·have hv : v'.ownBlock = some i:=by cases hv : v'.ownBlock with
    | none=>rw [hv] at hi; simp at hi
    | some j=>rw [hv] at hi; simp at hi; rw [hi]
   rcases h.own i hv with h1 | h1
   ·rw [h1]; simp
   ·omega
 ·rcases k.own b hb with h1 | h1
  ·exact h.own b h1
  ·exact .inr (Nat.le_trans h.only.size h1)
theorem step (h : Since S w v w' v') (ho : Only S w' w'') : Since S w v w'' v' :=
 h.trans (T:=S) ⟨ho.weak (fun _ hk _=>List.mem_append.2 (.inl hk)),fun _ h=>.inl h⟩ (fun _ h _=>h)
theorem grown {o : Obj} (h : Since S w v w' v') (hg : (w'.alloc o).grownBy w'' v'.ownBlock) (hat : v''.ownBlock = v'.ownBlock \/ v''.ownBlock = some (w'.alloc o).heap.size) : Since S w v w'' v'':=by
 refine h.trans (T:=[]) ⟨(((Only.refl _ w').alloc o).grown hg (fun _ hk _=>by simp [hk])),fun b hb=>?_⟩ (by simp)
 rcases hat with h | h
 ·rw [h] at hb; exact .inl hb
 ·rw [h] at hb; injection hb with hb; subst hb; right; simp
end Since
structure Pushed (wr : World) (B : Nat) (v : Value) (q : List UInt8) (b : UInt8) (w' : World) (v' : Value) : Prop where
 own : w'.ownsRow B 5 1 v' (q.length + 1) (bvals (q ++ [b]))
 since : ∀ S w0 v0,Since S w0 v0 wr v -> Since S w0 v0 w' v'
 only : Only v.ownBlock.toList wr w'
theorem Pushed.has {wr w' : World} {B g : Nat} {v v' : Value} {q : List UInt8} {b : UInt8} {t : TypeId} {cs : Array Value} (h : Pushed wr B v q b w' v') (hg : Has wr g t cs) (hn : some g ≠ v.ownBlock) : Has w' g t cs :=
 hg.only h.only (fun hm=>hn (by cases hv : v.ownBlock with
  | none=>rw [hv] at hm; simp at hm
  | some k=>rw [hv] at hm; simp at hm; rw [hm]))
theorem push_made {w w' : World} {A1 A2 : Option Addr} {n cc1 c2 B : Nat} {q : List UInt8} {b : UInt8} (hq : q.length = n)
 (hown : w'.ownsRow B 5 1 (.slice A2 (n + 1) c2) (n + 1) (bvals q ++ [.int .u8 (b.toNat : Int)])) {o : Obj} (hg : (w.alloc o).grownBy w' (Value.slice A1 n cc1).ownBlock)
 (hat : (Value.slice A2 (n + 1) c2).ownBlock = (Value.slice A1 n cc1).ownBlock \/ (Value.slice A2 (n + 1) c2).ownBlock = some (w.alloc o).heap.size) :
 Pushed w B (.slice A1 n cc1) q b w' (.slice A2 (n + 1) c2):=by
 subst hq
 refine ⟨?_,fun S w0 v0 h=>h.grown hg hat,((Only.refl _ w).alloc o).grown hg (fun _ hk _=>by simp [hk])⟩
 rw [bvals_append]
 exact hown
theorem list_push {ops : Array Oper} {rest : List Oper} {o : Oper} {a : Act} {Q : Exit -> Act -> World -> Prop} (hgd : o.guard = none) (s x : Operand)
 (ho : o.op = .call { callee:=.builtin .append,args:=#[s,x],argTypes:=#[22,22] }) (wr : World) {B : Nat} (hB : B <= wr.heap.size) {A1 : Option Addr} {n cc1 : Nat} {q : List UInt8} (b : UInt8) (hq : q.length = n)
 (hown : wr.ownsRow B 5 1 (.slice A1 n cc1) n (bvals q)) (hn : n + 1 <= 140737488355328) (g : Nat) (hg : g = wr.heap.size) (hs : a.eval s = .slice A1 n cc1) (hx : a.eval x = .slice (some ⟨g,0,none⟩) 1 1)
 (h : ∀ A2 c2 w',Pushed wr B (.slice A1 n cc1) q b w' (.slice A2 (n + 1) c2) -> wpList Tryz.prog ops Q rest (a.put o.dst (.slice A2 (n + 1) c2)) w') :
 wpList Tryz.prog ops Q (o :: rest) a (wr.alloc (.cells #[.int .u8 (b.toNat : Int)] 5)):=by
 subst hg
 obtain ⟨i0,hi0,hz0,hz1,hz2⟩:=info_of u8_info
 exact list_append _ hgd s x 22 ho B 1 1 Tryz.underlying22 hi0 hz0 hz1 hz2 rfl (Nat.zero_lt_one) (hown.alloc _) hs (Holds.lit wr #[.int .u8 (b.toNat : Int)] 5) hx (by simp [Value.oneCell']) (by simpa using hn) (Nat.zero_lt_one) (by simp; omega)
  fun A' c' w' h1 h2 h3=>h A' c' w' (push_made hq h1 h2 h3)
theorem bytes_elem : Tryz.prog.underlying 22 = some (.slice (Tryz.prog.elem 22)):=by kernel_rfl
theorem bytes_size (w : World) : (sizeOf (Tryz.prog.elem 22)).run Tryz.prog w = .ok 1 w:=by kernel_rfl
theorem Holds.from {w : World} {A : Option Addr} {n c : Nat} {l : List UInt8} (h : Holds w 1 A n (bvals l)) (hl : l.length = n) (hn : n <= c) (k : Nat) (hk : k <= n) :
 Holds w 1 (if c = k then A else A.map (·.add (k * 1))) (n - k) (bvals (l.drop k)):=by
 split
 ·have e : n - k = 0:=by omega
  rw [e]
  have e2 : l.drop k = []:=List.drop_eq_nil_of_le (by omega)
  rw [e2]
  exact Holds.empty _ _ _
 ·have:=h.cut (f:=k) (m:=n - k) (by omega)
  have e : ((bvals l).drop (k * 1)).take ((n - k) * 1) = bvals (l.drop k):=by
   rw [Nat.mul_one,Nat.mul_one,bvals_drop]
   exact List.take_of_length_le (by rw [List.length_drop,bvals_length]; omega)
  rw [e] at this
  exact this
theorem Holds.upto {w : World} {A : Option Addr} {n : Nat} {l : List UInt8} (h : Holds w 1 A n (bvals l)) (k : Nat) (hk : k <= n) : Holds w 1 A k (bvals (l.take k)):=by
 have hl:=h.1
 rw [bvals_length] at hl
 refine ⟨by rw [bvals_length,List.length_take]; omega,fun hp=>?_⟩
 obtain ⟨ad,e,hb,hc⟩:=h.2 (by omega)
 refine ⟨ad,e,hb,fun j u hu=>hc j u ?_⟩
 rw [bvals_take,List.getElem?_take] at hu
 split at hu
 ·exact hu
 ·cases hu
theorem run_from {w : World} {A : Option Addr} {n c : Nat} {l : List UInt8} (h : Holds w 1 A n (bvals l)) (hl : l.length = n) (hn : n <= c) (k : Nat) (hk : k <= n) :
 ∃ A' c',(∀ w',(Instr.slice 22 (.slice A n c) (some (.int .i64 k)) none none).run Tryz.prog w' = .ok (.slice A' (n - k) c') w') /\ Holds w 1 A' (n - k) (bvals (l.drop k)) /\ n - k <= c' /\
   (∀ ad',A' = some ad' -> ∃ ad,A = some ad /\ ad'.block = ad.block):=by
 refine ⟨_,c - k,fun w'=>?_,h.from hl hn k hk,by omega,fun ad' he=>?_⟩
 ·rw [run_slice_l (w:=w') 22 A n c bytes_elem .i64 k (by omega) (by omega),bytes_size]
  simp [sliced,Result.andThen]
 ·split at he
  ·exact ⟨ad',he,rfl⟩
  ·obtain ⟨ad,h1,h2⟩:=Option.map_eq_some_iff.1 he
   exact ⟨ad,h1,by rw [<- h2,add_block]⟩
theorem run_upto (A : Option Addr) (n c k : Nat) (hk : k <= c) (w : World) :
 (Instr.slice 22 (.slice A n c) none (some (.int .i64 k)) none).run Tryz.prog w = .ok (.slice A k c) w:=by
 rw [run_slice_h (w:=w) 22 A n c bytes_elem .i64 k (by omega) (by omega),bytes_size]
 cases A with
 | none=>simp [sliced,Result.andThen]
 | some ad=>by_cases hc : c = 0 <;> simp [sliced,Result.andThen,hc,Addr.add]
end Go.Proofs.YtjfjmkkkbcgohaaGreatDoor
namespace Go.Proofs.YtjfjmkkkbcgohaaGreatDoor
open Go
def rev (v : Nat) : Nat -> Nat
 | 0=>0
 | n + 1=>2 * rev v n + v / 2 ^ n % 2
theorem u32_hi (a b k : Nat) (ha : a < 2 ^ k) (hs : a + b * 2 ^ k < 4294967296) : bits .or .u32 ((b * 2 ^ k : Nat) : Int) (a : Int) = ((b * 2 ^ k + a : Nat) : Int):=by
 have e : bits .or .u32 ((b * 2 ^ k : Nat) : Int) (a : Int) = bits .or .u32 (a : Int) ((b * 2 ^ k : Nat) : Int):=by simp only [bits,BitVec.or_comm]
 rw [e,u32_join a b k ha hs,Nat.add_comm]
theorem u32_four (x0 x1 x2 x3 : Nat) (h0 : x0 < 256) (h1 : x1 < 256) (h2 : x2 < 256) (h3 : x3 < 256) :
 bits .or .u32 (bits .or .u32 (bits .or .u32 ((x0 : Int) * 16777216) ((x1 : Int) * 65536)) ((x2 : Int) * 256)) (x3 : Int) = ((x0 * 16777216 + x1 * 65536 + x2 * 256 + x3 : Nat) : Int):=by
 have e1 : bits .or .u32 ((x0 : Int) * 16777216) ((x1 : Int) * 65536) = ((x0 * 16777216 + x1 * 65536 : Nat) : Int):=by
  have:=u32_hi (x1 * 65536) x0 24 (by omega) (by omega)
  simpa using this
 have e2 : bits .or .u32 ((x0 * 16777216 + x1 * 65536 : Nat) : Int) ((x2 : Int) * 256) = ((x0 * 16777216 + x1 * 65536 + x2 * 256 : Nat) : Int):=by
  have:=u32_hi (x2 * 256) (x0 * 256 + x1) 16 (by omega) (by omega)
  have e : (x0 * 256 + x1) * 2 ^ 16 = x0 * 16777216 + x1 * 65536:=by omega
  rw [e] at this
  simpa using this
 have e3 : bits .or .u32 ((x0 * 16777216 + x1 * 65536 + x2 * 256 : Nat) : Int) (x3 : Int) = ((x0 * 16777216 + x1 * 65536 + x2 * 256 + x3 : Nat) : Int):=by
  have:=u32_hi x3 (x0 * 65536 + x1 * 256 + x2) 8 (by omega) (by omega)
  have e : (x0 * 65536 + x1 * 256 + x2) * 2 ^ 8 = x0 * 16777216 + x1 * 65536 + x2 * 256:=by omega
  rw [e] at this
  exact this
 rw [e1,e2,e3]
end Go.Proofs.YtjfjmkkkbcgohaaGreatDoor
