import Derived.WalkKit
import Derived.WalkSpells
import Derived.WalkLawsBesides
import Derived.Deep.Draws
import Derived.Deep.AppendLies
import Derived.Maps.AppendAt
import Derived.OneCell
import Derived.Lib.SlBytesConst
import Derived.Test.YtjfjmkkkbcgohaaGreatDoorProg
import Derived.Deep.QuietTactic
import Derived.BigQuiet
import Derived.StillTail
namespace Go.Proofs.YtjfjmkkkbcgohaaGreatDoor
open Go Go.RowKit
theorem aI {a b : Prop} (h : a) (k : b) : a /\ b := ⟨h, k⟩
theorem hide {p : Prop} (h : p) : Hid p:=h
structure Only (S : List Nat) (w w' : World) : Prop where
 os : w'.os = w.os
 tape : w'.tape = w.tape
 output : w'.output = w.output
 size : w.heap.size <= w'.heap.size
 block : ∀ k,k < w.heap.size -> k ∉ S -> w'.heap[k]? = w.heap[k]?
namespace Only
variable {S T : List Nat} {a w w' : World}
theorem refl (S : List Nat) (w : World) : Only S w w:=⟨rfl,rfl,rfl,Nat.le_refl _,fun _ _ _=>rfl⟩
theorem weak (h : Only S w w') (hS : ∀ k,k ∈ S -> k < w.heap.size -> k ∈ T) : Only T w w' :=
 ⟨h.os,h.tape,h.output,h.size,fun k hk hn=>h.block k hk (fun hs=>hn (hS k hs hk))⟩
theorem of_nil (h : Only [] w w') : Only T w w':=h.weak (by simp)
theorem trans {w'' : World} (h : Only S w w') (k : Only T w' w'') (hT : ∀ i,i ∈ T -> i < w.heap.size -> i ∈ S) : Only S w w'' :=
 ⟨k.os.trans h.os,k.tape.trans h.tape,k.output.trans h.output,Nat.le_trans h.size k.size,
   fun i hi hn=>(k.block i (Nat.lt_of_lt_of_le hi h.size) (fun ht=>hn (hT i ht hi))).trans (h.block i hi hn)⟩
theorem drew (h : Only S a w) : Only S a w.drew:=⟨h.os,h.tape,h.output,h.size,h.block⟩
theorem drewN (h : Only S a w) (n : Nat) : Only S a (w.drewN n):=⟨h.os,h.tape,h.output,h.size,h.block⟩
theorem alloc (h : Only S a w) (o : Obj) : Only S a (w.alloc o) :=
 h.trans (T:=[]) ⟨rfl,rfl,rfl,by simp,fun k hk _=>Below.heap_alloc _ _ _ hk⟩ (by simp)
theorem setCell (h : Only S a w) {p : Addr} (hp : p.block < a.heap.size -> p.block ∈ S) (u : Value) : Only S a (w.setCell p u) :=
 h.trans (T:=[p.block]) ⟨rfl,rfl,rfl,by simp [World.setCell],fun k _ hn=>Below.heap_setCell _ _ _ _ (by simpa using hn)⟩ (by simpa using hp)
theorem setRow (h : Only S a w) {g : Nat} (hg : g < a.heap.size -> g ∈ S) (cs : Array Value) : Only S a (w.setRow g cs):=by
 refine h.trans (T:=[g]) ⟨rfl,rfl,rfl,by simp,fun k _ hn=>?_⟩ (by simpa using hg)
 have hk : ¬ g = k:=fun h=>hn (by simp [h])
 show (w.heap.modify g _)[k]? = _
 rw [Array.getElem?_modify,if_neg hk]
theorem grown (h : Only S a w) {row : Option Nat} (hg : w.grownBy w' row) (hr : ∀ k,row = some k -> k < a.heap.size -> k ∈ S) : Only S a w':=by
 refine h.trans (T:=row.toList) ⟨hg.os,hg.tape,hg.output,hg.size,fun k hk hn=>hg.block k hk (by rintro rfl; simp at hn)⟩ ?_
 intro i hi; cases row with
 | none=>simp at hi
 | some k=>simp at hi; subst hi; exact hr _ rfl
theorem below (h : Only [] w w') : Below w.heap.size w w':=⟨h.os,h.tape,h.output,h.size,fun k hk=>h.block k hk (by simp)⟩
theorem cell (h : Only S w w') {p : Addr} (hp : p.block < w.heap.size) (hn : p.block ∉ S) : w'.cell? p = w.cell? p:=World.cell?_of_block (w:=w) (h.block _ hp hn)
theorem frozen (h : Only S w w') {p : Addr} (hp : p.block < w.heap.size) (hn : p.block ∉ S) : w'.frozen? p = w.frozen? p:=World.frozen?_of_block (w:=w) (h.block _ hp hn)
end Only
def Has (w : World) (g : Nat) (t : TypeId) (cs : Array Value) : Prop:=w.heap[g]? = some (.cells cs t (0,0))
namespace Has
variable {w w' : World} {g : Nat} {t : TypeId} {cs : Array Value} {S : List Nat}
theorem setRow (h : Has w g t cs) (c' : Array Value) : Has (w.setRow g c') g t c':=setRow_heap w g cs c' t _ h
theorem lt (h : Has w g t cs) : g < w.heap.size:=by
 rcases Nat.lt_or_ge g w.heap.size with hlt | hge
 ·exact hlt
 ·unfold Has at h; rw [Array.getElem?_eq_none hge] at h; cases h
theorem cell (h : Has w g t cs) (i : Nat) : w.cell? ⟨g,i,none⟩ = cs[i]?:=cell_of_row w g i cs t (0,0) h
theorem free (h : Has w g t cs) (i : Nat) : w.frozen? ⟨g,i,none⟩ = false:=frozen_of_row w g i cs t h
theorem only (h : Has w g t cs) (ho : Only S w w') (hn : g ∉ S) : Has w' g t cs:=(ho.block g h.lt hn).trans h
theorem new (w : World) (t : TypeId) (cs : Array Value) : Has (w.alloc (.cells cs t)) w.heap.size t cs:=heap_alloc_new w _
theorem drew (h : Has w g t cs) : Has w.drew g t cs:=h
theorem drewN (h : Has w g t cs) (n : Nat) : Has (w.drewN n) g t cs:=h
theorem alloc (h : Has w g t cs) (o : Obj) : Has (w.alloc o) g t cs:=(Below.heap_alloc w o g h.lt).trans h
theorem set (h : Has w g t cs) (i : Nat) (u : Value) : Has (w.setCell ⟨g,i,none⟩ u) g t (cs.setIfInBounds i u):=heap_setCell_same w g i cs t u h
theorem other (h : Has w g t cs) {p : Addr} (hp : g ≠ p.block) (u : Value) : Has (w.setCell p u) g t cs:=(heap_setCell_other w p g u hp).trans h
theorem grown {row : Option Nat} (h : Has w g t cs) (hb : w.grownBy w' row) (hg : some g ≠ row) : Has w' g t cs:=(hb.block g h.lt hg).trans h
end Has
def bvals (l : List UInt8) : List Value:=l.map fun b=>.int .u8 (b.toNat : Int)
@[simp] theorem bvals_length (l : List UInt8) : (bvals l).length = l.length:=by simp [bvals]
theorem bvals_get (l : List UInt8) (i : Nat) (h : i < l.length) : (bvals l)[i]? = some (.int .u8 ((l[i].toNat : Nat) : Int)):=by simp [bvals,h]
theorem bvals_append (l m : List UInt8) : bvals (l ++ m) = bvals l ++ bvals m:=by simp [bvals]
theorem bvals_drop (l : List UInt8) (k : Nat) : bvals (l.drop k) = (bvals l).drop k:=by simp [bvals]
theorem bvals_take (l : List UInt8) (k : Nat) : bvals (l.take k) = (bvals l).take k:=by simp [bvals]
theorem bvals_one (l : List UInt8) : ∀ u ∈ bvals l,u.oneCell' = true:=by
 intro u hu; simp [bvals] at hu; obtain ⟨b,_,rfl⟩:=hu; rfl
def Holds (w : World) (size : Nat) (A : Option Addr) (n : Nat) (xs : List Value) : Prop :=
 xs.length = n * size /\ (0 < n -> ∃ ad,A = some ad /\ ad.block < w.heap.size /\ ∀ j u,xs[j]? = some u -> w.cell? (ad.add j) = some u)
theorem add_block (a : Addr) (n : Nat) : (a.add n).block = a.block:=by unfold Addr.add; split <;> rfl
theorem add_none (b o n : Nat) : (⟨b,o,none⟩ : Addr).add n = ⟨b,o + n,none⟩:=by unfold Addr.add; split <;> simp_all
theorem add_zero_of (b n : Nat) : (⟨b,0,none⟩ : Addr).add n = ⟨b,n,none⟩:=by rw [add_none,Nat.zero_add]
namespace Holds
variable {w w' : World} {size n : Nat} {A : Option Addr} {xs : List Value} {S : List Nat}
theorem empty (w : World) (size : Nat) (A : Option Addr) : Holds w size A 0 []:=⟨by simp,fun h=>absurd h (by omega)⟩
theorem at_ (h : Holds w size A n xs) : ∀ ad,A = some ad -> ∀ j u,xs[j]? = some u -> w.cell? (ad.add j) = some u:=by
 intro ad he j u hu
 rcases Nat.eq_zero_or_pos n with h0 | h0
 ·have : xs.length = 0:=by rw [h.1,h0,Nat.zero_mul]
  rw [List.eq_nil_of_length_eq_zero this] at hu; simp at hu
 ·obtain ⟨ad',he',_,hc⟩:=h.2 h0
  rw [he] at he'; injection he' with he'; subst he'; exact hc j u hu
theorem keep (h : Holds w size A n xs) (ho : Only S w w') (hS : ∀ ad,A = some ad -> ad.block < w.heap.size -> ad.block ∉ S) : Holds w' size A n xs:=by
 refine ⟨h.1,fun hn=>?_⟩
 obtain ⟨ad,e,hb,hc⟩:=h.2 hn
 refine ⟨ad,e,Nat.lt_of_lt_of_le hb ho.size,fun j u hu=>?_⟩
 rw [ho.cell (by rw [add_block]; exact hb) (by rw [add_block]; exact hS ad e hb)]
 exact hc j u hu
theorem keepPos (h : Holds w size A n xs) (ho : Only S w w') (hS : 0 < n -> ∀ ad,A = some ad -> ad.block < w.heap.size -> ad.block ∉ S) : Holds w' size A n xs:=by
 rcases Nat.eq_zero_or_pos n with h0 | h0
 ·exact ⟨h.1,fun hn=>absurd hn (by omega)⟩
 ·exact h.keep ho (hS h0)
theorem blk (h : Holds w size A n xs) (hn : 0 < n) : ∀ ad,A = some ad -> ad.block < w.heap.size:=fun ad ha=>by
 obtain ⟨ad',ha',hlt,_⟩:=h.2 hn
 rw [ha] at ha'; injection ha' with ha'; rw [ha']; exact hlt
theorem cut (h : Holds w size A n xs) {f m : Nat} (hm : f + m <= n) : Holds w size (A.map (·.add (f * size))) m ((xs.drop (f * size)).take (m * size)):=by
 refine ⟨?_,fun hp=>?_⟩
 ·rw [List.length_take,List.length_drop,h.1,<- Nat.sub_mul]
  exact Nat.min_eq_left (Nat.mul_le_mul_right _ (by omega))
 ·obtain ⟨ad,rfl,hb,hc⟩:=h.2 (by omega)
  refine ⟨ad.add (f * size),rfl,by rw [add_block]; exact hb,fun j u hu=>?_⟩
  have hj : (xs.drop (f * size))[j]? = some u:=by
   rw [List.getElem?_take] at hu
   split at hu
   ·exact hu
   ·cases hu
  rw [List.getElem?_drop] at hj
  have e : (ad.add (f * size)).add j = ad.add (f * size + j):=by
   unfold Addr.add
   by_cases h1 : f * size = 0 <;> by_cases h2 : j = 0 <;> simp [h1,h2,Nat.add_assoc]
  rw [e]; exact hc _ _ hj
theorem lit (w : World) (cs : Array Value) (t : TypeId) : Holds (w.alloc (.cells cs t)) 1 (some ⟨w.heap.size,0,none⟩) cs.size cs.toList:=by
 refine ⟨by simp,fun _=>⟨_,rfl,by simp,fun j u hu=>?_⟩⟩
 rw [add_zero_of,World.cell?_alloc_new]
 simpa using hu
theorem lit_mark (w : World) (cs : Array Value) (t : TypeId) (fr : Nat × Nat) (g : Nat) (hg : g = w.heap.size) : Holds (w.alloc (.cells cs t fr)) 1 (some ⟨g,0,none⟩) cs.size cs.toList:=by
 subst hg
 refine ⟨by simp,fun _=>⟨_,rfl,by simp,fun j u hu=>?_⟩⟩
 rw [add_zero_of,World.cell?_alloc_mark]
 simpa using hu
theorem of_own {base e c : Nat} (h : w.ownsRow base e size (.slice A n c) n xs) : Holds w size A n xs:=by
 refine ⟨h.1,fun hn=>?_⟩
 rcases h.2 with ⟨_,h0⟩ | ⟨g,cap,cur,hv,hb,hg,_⟩
 ·omega
 ·injection hv with hA
  subst hA
  exact ⟨_,rfl,Has.lt (cs:=cur) hg,h.cells (g:=g) rfl⟩
end Holds
theorem own_shape {w : World} {base e size n : Nat} {v : Value} {xs : List Value} (h : w.ownsRow base e size v n xs) : ∃ A c,v = .slice A n c /\ n <= c /\ (A = none -> c = 0):=by
 rcases h.2 with ⟨rfl,rfl⟩ | ⟨g,cap,cur,rfl,_,_,hc,_⟩
 ·exact ⟨none,0,rfl,Nat.le_refl _,fun _=>rfl⟩
 ·exact ⟨_,_,rfl,hc,by simp⟩
theorem own_mono {w : World} {base base' e size n : Nat} {v : Value} {xs : List Value} (h : w.ownsRow base e size v n xs) (hb : base' <= base) : w.ownsRow base' e size v n xs:=by
 refine ⟨h.1,?_⟩
 rcases h.2 with h2 | ⟨g,cap,cur,hv,hg,r⟩
 ·exact .inl h2
 ·exact .inr ⟨g,cap,cur,hv,Nat.le_trans hb hg,r⟩
theorem own_keep {w w' : World} {base e size n : Nat} {v : Value} {xs : List Value} {S : List Nat} (h : w.ownsRow base e size v n xs) (ho : Only S w w') (hS : ∀ b,v.ownBlock = some b -> b ∉ S) : w'.ownsRow base e size v n xs:=by
 refine ⟨h.1,?_⟩
 rcases h.2 with h2 | ⟨g,cap,cur,hv,hb,hg,r⟩
 ·exact .inl h2
 ·refine .inr ⟨g,cap,cur,hv,hb,?_,r⟩
  rw [ho.block g (Has.lt (cs:=cur) hg) (hS g (by rw [hv]; rfl))]; exact hg
theorem own_open {w : World} {base e n c : Nat} {A : Option Addr} {xs : List Value} (h : w.ownsRow base e 1 (.slice A n c) n xs) (hn : 0 < n) :
 ∃ g,A = some ⟨g,0,none⟩ /\ base <= g /\ g < w.heap.size /\ (∀ j,w.frozen? ⟨g,j,none⟩ = false) /\ ∀ j u,xs[j]? = some u -> w.cell? ⟨g,j,none⟩ = some u:=by
 rcases h.2 with ⟨_,h0⟩ | ⟨g,cap,cur,hv,hb,hg,_⟩
 ·omega
 ·injection hv with hA
  subst hA
  exact ⟨g,rfl,hb,Has.lt (cs:=cur) hg,fun j=>Has.free (cs:=cur) hg j,fun j u hu=>by rw [<- add_zero_of]; exact h.cells (g:=g) rfl j u hu⟩
theorem own_set {w : World} {base e n c g : Nat} {xs : List Value} (h : w.ownsRow base e 1 (.slice (some ⟨g,0,none⟩) n c) n xs) (i : Nat) (u : Value) :
 (w.setCell ⟨g,i,none⟩ u).ownsRow base e 1 (.slice (some ⟨g,0,none⟩) n c) n (xs.set i u):=by
 refine ⟨by rw [List.length_set]; exact h.1,?_⟩
 rcases h.2 with ⟨hv,_⟩ | ⟨gb,cap,cur,hv,hb,hg,h1,h2,h3,h4⟩
 ·cases hv
 ·injection hv with hA _ hc
  injection hA with hA
  injection hA with hA
  subst hA
  refine .inr ⟨g,cap,cur.setIfInBounds i u,by rw [hc],hb,Has.set (cs:=cur) hg i u,h1,h2,by rw [Array.size_setIfInBounds]; exact h3,?_⟩
  rw [Array.toList_setIfInBounds,<- h4,List.take_set]
theorem bvals_set (l : List UInt8) (i b : Nat) (hb : b < 256) : (bvals l).set i (.int .u8 (b : Int)) = bvals (l.set i (UInt8.ofNat b)):=by
 unfold bvals
 rw [List.map_set]
 congr 2
 rw [UInt8.toNat_ofNat']
 congr 1
 omega
theorem own_ne {w : World} {base e size n g : Nat} {t : TypeId} {cs : Array Value} {v : Value} {xs : List Value} (h : w.ownsRow base e size v n xs) (hg : Has w g t cs) (hne : e ≠ t) : some g ≠ v.ownBlock:=by
 rcases h.2 with ⟨rfl,_⟩ | ⟨gb,cap,cur,rfl,_,hh,_⟩
 ·simp [Value.ownBlock]
 ·intro he
  have he' : g = gb:=by simpa [Value.ownBlock] using he
  subst he'
  unfold Has at hg
  rw [hh] at hg
  injection hg with hg
  injection hg with _ ht
  exact hne ht
section
variable {P : Program} (w : World)
theorem run_append_holds (base : Nat) (t ty e : TypeId) (i : TypeInfo) (z : Value) (size bytes : Nat) (ht : P.underlying t = some (.slice e)) (hi : P.info? e = some i) (hz : i.zero = some z)
 (hsize : i.size = size) (hby : i.bytes = bytes) (hzs : z.cells.size = size) (hsz : 0 < size)
 {v : Value} {n : Nat} {xs : List Value} (hown : w.ownsRow base e size v n xs) {A : Option Addr} {m : Nat} (c : Nat) {news : List Value} (hr : Holds w size A m news)
 (h1 : ∀ u ∈ news,u.oneCell' = true) (h63 : (n + m) * bytes <= 140737488355328) (hbp : 0 < bytes) (hbase : base <= w.heap.size) :
 ∃ v' w',(Builtin.append_ #[t,t] ty #[v,.slice A m c]).run P w = .ok v' w' /\ w'.ownsRow base e size v' (n + m) (xs ++ news) /\ w.grownBy w' v.ownBlock /\ (v'.ownBlock = v.ownBlock \/ v'.ownBlock = some w.heap.size):=by
 have hmax : n + m <= maxLen:=by
  have : n + m <= (n + m) * bytes:=Nat.le_mul_of_pos_right _ hbp
  unfold maxLen; omega
 by_cases hA : ∃ ad,A = some ad
 ·obtain ⟨ad,rfl⟩:=hA
  obtain ⟨v',w',hrun,h2,h3,_,h5⟩:=run_append_own_at (P:=P) w base t ty e i z size bytes ht hi hz hsize hby hzs hsz v n xs hown ad m c news hr.1
   (fun j u hu=>by
     rcases Nat.eq_zero_or_pos m with h0 | h0
     ·have : news.length = 0:=by rw [hr.1,h0,Nat.zero_mul]
      rw [List.eq_nil_of_length_eq_zero this] at hu; simp at hu
     ·obtain ⟨ad',he,_,hc⟩:=hr.2 h0
      injection he with he; subst he; exact hc j u hu) h1 hmax h63 hbase
  exact ⟨v',w',hrun,h2,h3,h5⟩
 ·have h0 : m = 0:=by
   rcases Nat.eq_zero_or_pos m with h0 | h0
   ·exact h0
   ·obtain ⟨ad,he,_⟩:=hr.2 h0; exact absurd ⟨ad,he⟩ hA
  subst h0
  obtain rfl : A = none:=by cases A with
   | none=>rfl
   | some ad=>exact absurd ⟨ad,rfl⟩ hA
  have hnil : news = []:=List.eq_nil_of_length_eq_zero (by rw [hr.1,Nat.zero_mul])
  subst hnil
  refine ⟨v,w,?_,by simpa using hown,⟨rfl,rfl,rfl,Nat.le_refl _,fun _ _ _=>rfl⟩,.inl rfl⟩
  rcases hown.2 with ⟨rfl,rfl⟩ | ⟨g,cap,cur,rfl,_,_,hnc,_⟩
  ·simp [Builtin.append_,run_underlying ht,sizeOf,typeInfo,hi,Builtin.lenOf,Builtin.firstCells]
  ·simp [Builtin.append_,run_underlying ht,sizeOf,typeInfo,hi,Builtin.lenOf,Builtin.firstCells,hnc,storeCells]
theorem op_append {o : Oper} {a : Act} {K : Act -> World -> Prop} {Q : Exit -> Act -> World -> Prop} {s x : Operand} {t : TypeId}
 (ho : o.op = .call { callee:=.builtin .append,args:=#[s,x],argTypes:=#[t,t] })
 (base : Nat) {e : TypeId} {i : TypeInfo} {z : Value} (size bytes : Nat) (ht : P.underlying t = some (.slice e)) (hi : P.info? e = some i) (hz : i.zero = some z)
 (hsize : i.size = size) (hby : i.bytes = bytes) (hzs : z.cells.size = size) (hsz : 0 < size)
 {v : Value} {n : Nat} {xs : List Value} (hown : w.ownsRow base e size v n xs) (hs : a.eval s = v) {A : Option Addr} {m c : Nat} {news : List Value} (hr : Holds w size A m news) (hx : a.eval x = .slice A m c)
 (h1 : ∀ u ∈ news,u.oneCell' = true) (h63 : (n + m) * bytes <= 140737488355328) (hbp : 0 < bytes) (hbase : base <= w.heap.size)
 (h : ∀ A' c' w',w'.ownsRow base e size (.slice A' (n + m) c') (n + m) (xs ++ news) -> w.grownBy w' v.ownBlock -> ((Value.slice A' (n + m) c').ownBlock = v.ownBlock \/ (Value.slice A' (n + m) c').ownBlock = some w.heap.size) -> K (a.put o.dst (.slice A' (n + m) c')) w') : o.wp P a w K Q:=by
 obtain ⟨v',w',hrun,h2,h3,h4⟩:=run_append_holds (P:=P) w base t o.type e i z size bytes ht hi hz hsize hby hzs hsz hown c hr h1 h63 hbp hbase
 obtain ⟨A',c',rfl,_,_⟩:=own_shape h2
 unfold Oper.wp execOp
 simp only [ho,resolve,invoke,builtin,Sem.run_bind,Sem.run_pure,Result.andThen_ok,List.map_toArray,List.map_cons,List.map_nil,hs,hx,hrun]
 exact h A' c' w' h2 h3 h4
theorem list_append {ops : Array Oper} {rest : List Oper} {o : Oper} {a : Act} {Q : Exit -> Act -> World -> Prop} (hgd : o.guard = none) (s x : Operand) (t : TypeId)
 (ho : o.op = .call { callee:=.builtin .append,args:=#[s,x],argTypes:=#[t,t] })
 (base : Nat) {e : TypeId} {i : TypeInfo} {z : Value} (size bytes : Nat) (ht : P.underlying t = some (.slice e)) (hi : P.info? e = some i) (hz : i.zero = some z)
 (hsize : i.size = size) (hby : i.bytes = bytes) (hzs : z.cells.size = size) (hsz : 0 < size)
 {v : Value} {n : Nat} {xs : List Value} (hown : w.ownsRow base e size v n xs) (hs : a.eval s = v) {A : Option Addr} {m c : Nat} {news : List Value} (hr : Holds w size A m news) (hx : a.eval x = .slice A m c)
 (h1 : ∀ u ∈ news,u.oneCell' = true) (h63 : (n + m) * bytes <= 140737488355328) (hbp : 0 < bytes) (hbase : base <= w.heap.size)
 (h : ∀ A' c' w',w'.ownsRow base e size (.slice A' (n + m) c') (n + m) (xs ++ news) -> w.grownBy w' v.ownBlock -> ((Value.slice A' (n + m) c').ownBlock = v.ownBlock \/ (Value.slice A' (n + m) c').ownBlock = some w.heap.size) -> wpList P ops Q rest (a.put o.dst (.slice A' (n + m) c')) w') : wpList P ops Q (o :: rest) a w :=
 wpList_plain hgd fun _ hK=>op_append w ho base size bytes ht hi hz hsize hby hzs hsz hown hs hr hx h1 h63 hbp hbase fun A' c' w' h2 h3 h4=>hK _ _ (h A' c' w' h2 h3 h4)
theorem step_append {ops : Array Oper} {o : Oper} {a : Act} {K : Act -> World -> Prop} {Q : Exit -> Act -> World -> Prop} {E : Prop} (hgd : o.guard = none) (s x : Operand) (t : TypeId)
 (ho : o.op = .call { callee:=.builtin .append,args:=#[s,x],argTypes:=#[t,t] })
 (base : Nat) {e : TypeId} {i : TypeInfo} {z : Value} (size bytes : Nat) (ht : P.underlying t = some (.slice e)) (hi : P.info? e = some i) (hz : i.zero = some z)
 (hsize : i.size = size) (hby : i.bytes = bytes) (hzs : z.cells.size = size) (hsz : 0 < size)
 {v : Value} {n : Nat} {xs : List Value} (hown : w.ownsRow base e size v n xs) (hs : a.eval s = v) {A : Option Addr} {m c : Nat} {news : List Value} (hr : Holds w size A m news) (hx : a.eval x = .slice A m c)
 (h1 : ∀ u ∈ news,u.oneCell' = true) (h63 : (n + m) * bytes <= 140737488355328) (hbp : 0 < bytes) (hbase : base <= w.heap.size)
 (h : ∀ A' c' w',w'.ownsRow base e size (.slice A' (n + m) c') (n + m) (xs ++ news) -> w.grownBy w' v.ownBlock -> ((Value.slice A' (n + m) c').ownBlock = v.ownBlock \/ (Value.slice A' (n + m) c').ownBlock = some w.heap.size) -> K (a.put o.dst (.slice A' (n + m) c')) w') :
 if Region.wanted o (yielded ops a.tmps) = true then Oper.wp P o a w K Q else E:=by
 rw [if_pos (by simp [Region.wanted,hgd])]
 exact op_append w ho base size bytes ht hi hz hsize hby hzs hsz hown hs hr hx h1 h63 hbp hbase h
theorem list_store_row {ops : Array Oper} {rest : List Oper} {o : Oper} {a : Act} {w : World} {Q : Exit -> Act -> World -> Prop} (hgd : o.guard = none) (ty : TypeId) (x y : Operand) (ho : o.op = .store ty x y)
 (g : Nat) (cells : Array Value) (hx : a.eval x = .pointer (some ⟨g,0,none⟩)) (hy : a.eval y = .agg cells) (t : TypeId) (old : Array Value) (hg : Has w g t old) (hi : (P.info? ty).map (·.size) = some cells.size)
 (hold : old.size = cells.size) (h1 : cells.all (·.oneCell') = true)
 (h : wpList P ops Q rest (a.put o.dst undef) (w.setRow g cells)) : wpList P ops Q (o :: rest) a w :=
 wpList_plain hgd fun _ hK=>wp_store_row ty x y ho g cells hx hy t old hg hi hold h1 (hK _ _ h)
theorem list_store_row' {ops : Array Oper} {rest : List Oper} {o : Oper} {a : Act} {w : World} {Q : Exit -> Act -> World -> Prop} (hgd : o.guard = none) (ty : TypeId) (x y : Operand) (ho : o.op = .store ty x y)
 (g : Nat) (cells : Array Value) (hx : a.eval x = .pointer (some ⟨g,0,none⟩)) (hy : a.eval y = .agg cells) (t : TypeId) (old : Array Value) (hg : Has w g t old) (hi : (P.info? ty).map (·.size) = some cells.size)
 (hold : old.size = cells.size) (h1 : cells.all (·.oneCell') = true)
 (h : ∀ w',Has w' g t cells -> Only [g] w w' -> wpList P ops Q rest (a.put o.dst undef) w') : wpList P ops Q (o :: rest) a w :=
 list_store_row hgd ty x y ho g cells hx hy t old hg hi hold h1 (h _ (hg.setRow cells) ((Only.refl _ w).setRow (by simp) cells))
end
theorem Holds.addr {w : World} {size n : Nat} {A : Option Addr} {xs : List Value} (h : Holds w size A n xs) (hp : 0 < xs.length) :
 ∃ b o,A = some ⟨b,o,none⟩ /\ ∀ j u,xs[j]? = some u -> w.cell? ⟨b,o + j,none⟩ = some u:=by
 have hn : 0 < n:=by
  rcases Nat.eq_zero_or_pos n with h0 | h0
  ·have:=h.1; rw [h0,Nat.zero_mul] at this; omega
  ·exact h0
 obtain ⟨⟨b,o,s⟩,rfl,_,hc⟩:=h.2 hn
 have h0:=hc 0 _ (List.getElem?_eq_getElem hp)
 have hs : s = none:=by
  cases s with
  | none=>rfl
  | some k =>
    exfalso
    have e : (⟨b,o,some k⟩ : Addr).add 0 = ⟨b,o,some k⟩:=by simp [Addr.add]
    rw [e] at h0
    unfold World.cell? at h0
    split at h0 <;> simp at h0
 subst hs
 exact ⟨b,o,rfl,fun j u hu=>by rw [<- add_none]; exact hc j u hu⟩
theorem info_of {P : Program} {t : TypeId} {z : Value} {s b : Nat} (h : (P.info? t).map (fun i=>(i.zero,i.size,i.bytes)) = some (some z,s,b)) :
 ∃ i,P.info? t = some i /\ i.zero = some z /\ i.size = s /\ i.bytes = b:=by
 cases hi : P.info? t with
 | none=>rw [hi] at h; simp at h
 | some i=>rw [hi] at h; simp at h; exact ⟨i,rfl,h.1,h.2.1,h.2.2⟩
structure Later (w : World) where
 val : World
 only : Only [] w val
instance later_nonempty (w : World) : Nonempty (Later w):=⟨⟨w,Only.refl [] w⟩⟩
theorem region_later {P : Program} {id : Nat} {Q : Exit -> Act -> World -> Prop} {a : Act} {w : World} {l : List Oper} (hm : P.follows .mixedOrders = true) (hB : Region.lexB .any l.toArray = true)
 (h : wpQuiet P l.toArray (fun w'=>∃ x : Later w,w' = x.val) (fun a'=>∀ w',(∃ x : Later w,w' = x.val) -> Q .normal a' w') l a) : (Code.region id l.toArray true).wp P Q a w :=
 wp_region_quiet (C:=fun w'=>∃ x : Later w,w' = x.val) hm hB ⟨⟨_,(Only.refl [] w).drew⟩,rfl⟩ h
theorem later_of {P : Program} {f : FuncId} {args : Array Value} {w : World} {x : Later w} {v : Value} (h : Calls P f args x.val fun e w'=>e = .returned v /\ Only [] x.val w') :
 Calls P f args x.val fun e w''=>e = .returned v /\ ∃ y : Later w,w'' = y.val :=
 h.mono fun _ w' ⟨he,ho⟩=>⟨he,⟨w',x.only.trans ho (by simp)⟩,rfl⟩
theorem later_cell {w : World} {p : Addr} {u : Value} (h : w.cell? p = some u) : ∀ x : Later w,x.val.cell? p = some u:=fun x=>by
 rw [x.only.cell (World.block_lt_of_cell? w p h) (by simp)]; exact h
section
variable {P : Program} {ops : Array Oper} {md : Region.Mode} {C : World -> Prop}
def HeadQ (P : Program) (md : Region.Mode) (ops : Array Oper) (C : World -> Prop) (n : Nat) (L : Array Bool -> Act -> Prop) : Nat -> Array Bool -> Act -> Prop
 | 0,s,a=>L s a
 | f + 1,s,a=>Region.ready md ops s ≠ [] /\ ∀ i ∈ Region.ready md ops s,i < n /\ qOp P ops C i (HeadQ P md ops C n L f (s.setIfInBounds i true)) a
theorem HeadQ.wp {n g : Nat} {L : Array Bool -> Act -> Prop} {Q : Exit -> Act -> World -> Prop} (hL : ∀ s a w,C w -> L s a -> wpAny P md ops Q g s a w) :
 ∀ (f : Nat) (s : Array Bool) (a : Act) (w : World),C w -> HeadQ P md ops C n L f s a -> wpAny P md ops Q (f + g) s a w:=by
 intro f
 induction f with
 | zero=>intro s a w hw h; rw [Nat.zero_add]; exact hL _ _ _ hw h
 | succ f ih =>
   intro s a w hw h
   rw [Nat.succ_add]
   exact ⟨fun h0=>absurd h0 h.1,fun i hi=>wpOp_of_qOp hw (fun a' w' hw' h'=>ih _ a' w' hw' h') (h.2 i hi).2⟩
theorem HeadQ.first {n i : Nat} {oi : Oper} {v : Value} {L : Array Bool -> Act -> Prop} (hi : ops[i]? = some oi) (hsel : ∀ (j : Nat) (o : Oper) cs b,ops[j]? = some o -> o.op ≠ .select cs b)
 (hs : Region.sinkB md ops n = true) (hc : Region.chainB md ops n = true) (hn : n < ops.size) (hin : i < n) (hdone : ∀ s a,L s a -> ∀ j ∈ Region.ready md ops s,n <= j) :
 ∀ (f : Nat) (s : Array Bool) (a : Act),HeadInv md ops n s ->
   (∀ j oj,ops[j]? = some oj -> j ≠ i -> s.getD j true = false -> (∀ e ∈ oj.after,Region.binds md e = true -> e.on ≠ i) -> oi.apart ops oj = true) ->
   i ∈ Region.ready md ops s -> YieldsIn P ops C oi v a -> HeadQ P md ops C n L f (s.setIfInBounds i true) (a.put oi.dst v) -> HeadQ P md ops C n L (f + 1) s a:=by
 intro f
 induction f with
 | zero =>
   intro s a inv _ hr hy H
   refine ⟨List.ne_nil_of_mem hr,fun j hj=>?_⟩
   have hlt : j < n:=Nat.lt_of_not_le fun h=>tail_waits hs hc hn inv _ i rfl hin (mem_ready.1 hr).1 j h hj
   by_cases e : j = i
   ·subst e; exact ⟨hlt,hy.qOp hi H⟩
   ·have:=hdone _ _ H j (ready_mono hj e); omega
 | succ f ih =>
   intro s a inv hfree hr hy H
   have hun:=(mem_ready.1 hr).1
   refine ⟨List.ne_nil_of_mem hr,fun j hj=>?_⟩
   have hlt : j < n:=Nat.lt_of_not_le fun h=>tail_waits hs hc hn inv _ i rfl hin hun j h hj
   by_cases e : j = i
   ·subst e; exact ⟨hlt,hy.qOp hi H⟩
   ·obtain ⟨hjun,oj,hoj,hall⟩:=mem_ready.1 hj
    have hap:=hfree j oj hoj e hjun fun d hd hb hon=>by
     have:=hall d hd hb
     rw [hon,getD_both hun] at this
     cases this
    refine ⟨hlt,qOp_mono (fun a' h3=>ih _ a' (inv.set hj hlt) (fun k ok hk hki hk0=>hfree k ok hk hki ?_) (ready_mono hr (Ne.symm e)) h3.1 ?_) (qOp_put hoj hap (fun cs b=>hsel i oi cs b hi) (fun cs b=>hsel j oj cs b hoj) hy (H.2 j (ready_mono hj e)).2)⟩
    ·by_cases ejk : j = k
     ·subst ejk; exact hjun
     ·rwa [getD_set_ne true ejk] at hk0
    ·rw [Array.setIfInBounds_comm _ _ e]; exact h3.2
theorem HeadQ.lex {n g : Nat} {R : Act -> Prop} (hsel : Region.noSelect ops = true) (hs : Region.sinkB md ops n = true) (hc : Region.chainB md ops n = true) (hn : n < ops.size) :
 ∀ (l : List Oper) (k : Nat) (s : Array Bool) (a : Act),(∀ j,j < l.length -> l[j]? = ops[k + j]?) -> k + l.length = n -> HeadInv md ops n s ->
 Region.lexHead md ops g l.length k s = true -> wpQuiet P ops C R l a -> HeadQ P md ops C n (fun s' a'=>Region.seqB md ops g n s' = true /\ R a') l.length s a:=by
 intro l
 induction l with
 | nil =>
   intro k s a _ hk _ hB h
   obtain rfl : k = n:=by simpa using hk
   exact ⟨by simpa [Region.lexHead] using hB,h⟩
 | cons o l ih =>
   intro k s a hl hk inv hB h
   have h0 : ops[k]? = some o:=by simpa using (hl 0 (by simp)).symm
   simp only [List.length_cons,Region.lexHead,Bool.and_eq_true] at hB
   obtain ⟨⟨hr,hf⟩,hB'⟩:=hB
   rw [List.length_cons] at hk
   have hr' : k ∈ Region.ready md ops s:=by simpa using hr
   obtain ⟨v,hy,hK⟩:=yieldsIn_of_qOp (K:=wpQuiet P ops C R l) h0 (by unfold qOp; simp only [h0]; exact h)
   refine HeadQ.first h0 (Region.noSelect_spec hsel) hs hc hn (by omega) (fun s' a' hL=>seqB_ready hL.1) l.length s a inv (Region.free_spec h0 hf) hr' hy (ih (k + 1) _ _ (fun j hj=>?_) (by omega) (inv.set hr' (by omega)) hB' hK)
   have:=hl (j + 1) (by simp; omega)
   simpa [Nat.add_assoc,Nat.add_comm 1 j] using this
theorem region_class_tail {id : Nat} {Q : Exit -> Act -> World -> Prop} {a : Act} {w : World} {l : List Oper} (n : Nat) (hm : P.follows .mixedOrders = true) (hB : Region.lexTailB .any l.toArray n = true) (hC : C w.drew)
 (h : wpQuiet P l.toArray C (fun a'=>∀ w',C w' -> wpList P l.toArray Q (l.drop n) a' w') (l.take n) a) : (Code.region id l.toArray true).wp P Q a w:=by
 simp only [Region.lexTailB,Bool.and_eq_true,decide_eq_true_eq] at hB
 obtain ⟨⟨⟨⟨hsel,hn⟩,hs⟩,hc⟩,hlex⟩:=hB
 have hn' : n < l.length:=by simpa using hn
 have htl : (l.take n).length = n:=by simp; omega
 have inv0 : HeadInv .any l.toArray n (Array.replicate l.toArray.size false) :=
  ⟨by simp,fun j oj _ hl=>(by rw [getD_replicate_false] at hl; cases hl),fun t _ ht=>getD_in (by simpa using ht) (getD_replicate_false _ _)⟩
 have H:=HeadQ.lex (md:=.any) (g:=l.toArray.size - n) hsel hs hc hn (l.take n) 0 _ a (fun j hj=>by
  have : j < n:=by rwa [htl] at hj
  simp [this]) (by simpa using htl) inv0 (by rw [htl]; exact hlex) h
 refine wp_region_any hm ?_
 have:=HeadQ.wp (Q:=Q) (g:=l.toArray.size - n) (fun s a' w' hw' hL=>by
  have:=wpAny_of_seq (md:=.any) (Q':=Q) (l.drop n) n s a' w' (fun j=>by simp [List.getElem?_drop]) (by simpa using hL.1) (hL.2 w' hw')
  simpa using this) _ _ _ _ hC H
 rw [htl,show n + (l.toArray.size - n) = l.toArray.size by omega] at this
 exact this
end
theorem region_later_tail {P : Program} {id : Nat} {Q : Exit -> Act -> World -> Prop} {a : Act} {w : World} {l : List Oper} (n : Nat) (hm : P.follows .mixedOrders = true) (hB : Region.lexTailB .any l.toArray n = true)
 (h : wpQuiet P l.toArray (fun w'=>∃ x : Later w,w' = x.val) (fun a'=>∀ w',(∃ x : Later w,w' = x.val) -> wpList P l.toArray Q (l.drop n) a' w') (l.take n) a) : (Code.region id l.toArray true).wp P Q a w :=
 region_class_tail (C:=fun w'=>∃ x : Later w,w' = x.val) n hm hB ⟨⟨_,(Only.refl [] w).drew⟩,rfl⟩ h
end Go.Proofs.YtjfjmkkkbcgohaaGreatDoor
