import Derived.Test.YtjfjmkkkbcgohaaGreatDoorMFiB
import Derived.ChangeKeysEq
import Derived.BigFrame
import Derived.BigRegion
namespace Go.Proofs.YtjfjmkkkbcgohaaGreatDoor
open Go Go.RowKit
def svals (l : List Nat) : List Value:=l.map fun (n : Nat)=>Value.int .i64 (n : Int)
@[simp] theorem svals_length (l : List Nat) : (svals l).length = l.length:=by simp [svals]
theorem svals_get (l : List Nat) (i : Nat) (h : i < l.length) : (svals l)[i]? = some (.int .i64 (l.getD i 0 : Nat)):=by
 simp [svals,h,List.getD_eq_getElem?_getD]
theorem svals_set (l : List Nat) (i x : Nat) : (svals l).set i (.int .i64 (x : Int)) = svals (l.set i x):=by
 unfold svals; rw [List.map_set]
def fillN (p : List Nat) (n : Nat) : List Nat:=p ++ List.replicate (n - p.length) 0
theorem fillN_length (p : List Nat) (n : Nat) (h : p.length <= n) : (fillN p n).length = n:=by unfold fillN; simp; omega
theorem fillN_nil (n : Nat) : fillN [] n = List.replicate n 0:=by simp [fillN]
theorem fillN_all (p : List Nat) (n : Nat) (h : p.length = n) : fillN p n = p:=by simp [fillN,h]
theorem fillN_set (p : List Nat) (n x : Nat) (h : p.length < n) : (fillN p n).set p.length x = fillN (p ++ [x]) n:=by
 unfold fillN
 rw [List.set_append,if_neg (by omega),Nat.sub_self,show n - p.length = (n - (p ++ [x]).length) + 1 by simp; omega,List.replicate_succ,List.set_cons_zero]
 simp
theorem smps_length (l : List UInt8) (d n : Nat) : (smps l d n).length = n:=by simp [smps]
theorem smps_succ (l : List UInt8) (d n : Nat) : smps l d (n + 1) = smps l d n ++ [smp l d n d]:=by simp [smps,List.range_succ]
theorem i64_info : (Tryz.prog.info? 3).map (fun i=>(i.zero,i.size,i.bytes)) = some (some (.int .i64 0),1,8):=by kernel_rfl
theorem zeros_int (m : Nat) : madeCells #[.int .i64 0] m = (svals (List.replicate m 0)).toArray:=by
 apply Array.ext'
 rw [toList_madeCells_one]
 simp [svals]
theorem own_madeN (w : World) (t : TypeId) (l : List Nat) (n : Nat) (hl : l.length = n) (hn : n <= 140737488355328) : (w.alloc (.cells (svals l).toArray t)).ownsRow w.heap.size t 1 (.slice (some ⟨w.heap.size,0,none⟩) n n) n (svals l):=by
 subst hl
 refine ⟨by simp,.inr ⟨w.heap.size,l.length,(svals l).toArray,rfl,Nat.le_refl _,Has.new w t _,Nat.le_refl _,by unfold maxLen; omega,by simp,?_⟩⟩
 exact List.take_of_length_le (by simp)
theorem run_makeN (N : Nat) (hn : N <= 1000000000) (W : World) : (Instr.makeSlice 175 (.int .i64 (N : Int)) (.int .i64 (N : Int))).run Tryz.prog W = .ok (.slice (some ⟨W.heap.size,0,none⟩) N N) (W.alloc (.cells (svals (List.replicate N 0)).toArray 3)):=by
 have h:=run_make_row' (P:=Tryz.prog) 175 3 (.int .i64 0) 8 Tryz.underlying175 i64_info rfl .i64 .i64 N (by omega) (by omega) W
 rw [h,zeros_int]
def smR (l : List UInt8) (d n : Int) : List Nat:=if sErr d n l.length = 0 then smps l d.toNat n.toNat else []
structure SmSt (w : World) (g n j d : Nat) (l : List UInt8) (wr : World) : Prop where
 own : wr.ownsRow w.heap.size 3 1 (.slice (some ⟨g,0,none⟩) n n) n (svals (fillN (smps l d j) n))
 only : Only [] w wr
theorem sample_at (d : Nat) (hd : d = 1 \/ d = 2 \/ d = 4 \/ d = 8 \/ d = 16) (A : Option Addr) (n c i : Nat) (l : List UInt8) (w : World) (hb : Holds w 1 A n (bvals l)) (hl : l.length = n) (hi : i * d + d <= 8 * n) (hn : n <= 100000000) :
 Calls Tryz.prog 132 #[.slice A n c,.int .i64 (d : Int),.int .i64 (i : Int)] w fun e w'=>e = .returned (.int .i64 ((smp l d i d : Nat) : Int)) /\ Only [] w w':=by
 by_cases h : d = 16
 ·subst h
  exact sample16 A n c i l w hb hl (by omega) hn
 ·exact sample8 d (by omega) A n c i l w hb hl hi hn
set_option maxRecDepth 100000 in
set_option maxHeartbeats 4000000 in
theorem samples_any (d n : Int) (A : Option Addr) (m c : Nat) (l : List UInt8) (w : World) (hb : Holds w 1 A m (bvals l)) (hl : l.length = m) (hm : m <= 1000000) :
 Calls Tryz.prog 104 #[.slice A m c,.int .i64 d,.int .i64 n] w fun e w'=>∃ v,e = .returned (.tuple #[v,.int .i64 (sErr d n m : Nat)]) /\ w'.ownsRow w.heap.size 3 1 v (smR l d n).length (svals (smR l d n)) /\ Only [] w w':=by
 have HD:=hide (fun w=>isDepth_any d w)
 by_cases hd : isDep d = true
 ·have hd4:=(isDep_iff d).1 hd
  obtain ⟨x,rfl⟩:=Int.eq_ofNat_of_zero_le (show 0 <= d by omega)
  rw [hd] at HD
  have W1:=hide (wr64 (z:=(m : Int) * 8) (n:=8 * m) (by omega) (by omega))
  have hq : 8 * m / x <= 8 * m:=Nat.div_le_self _ _
  have hq2 : ((8 * m : Nat) : Int).tdiv (x : Int) = ((8 * m / x : Nat) : Int):=(Int.ofNat_tdiv (8 * m) x).symm
  obtain ⟨q,hqe⟩ : ∃ q,q = 8 * m / x:=⟨_,rfl⟩
  have W2:=hide (wr64 (z:=(q : Int)) (n:=q) rfl (by omega))
  obtain ⟨t,ht⟩ : ∃ t,t = 8 * m:=⟨_,rfl⟩
  have x0 : ¬ (x : Int) = 0:=by omega
  have x1 : ((x : Int) == 0) = false:=beq_eq_false_iff_ne.2 x0
  by_cases hn : 0 <= n
  ·obtain ⟨y,rfl⟩:=Int.eq_ofNat_of_zero_le hn
   by_cases hy : y <= q
   ·have hE : sErr (x : Int) (y : Int) m = 0:=by
     unfold sErr
     rw [if_pos ⟨hd,hn⟩,Int.toNat_natCast,Int.toNat_natCast,if_neg (by omega)]
    have hR : smR l (x : Int) (y : Int) = smps l x y:=by unfold smR; rw [hl,hE,if_pos rfl,Int.toNat_natCast,Int.toNat_natCast]
    rw [hE,hR,smps_length]
    have hyx : y * x <= 8 * m:=by
     have h2:=Nat.mul_le_mul_right x hy
     have h3:=Nat.div_mul_le_self (8 * m) x
     rw [<- hqe] at h3
     omega
    have hmk:=run_makeN y (by omega)
    have hd5 : x = 1 \/ x = 2 \/ x = 4 \/ x = 8 \/ x = 16:=by omega
    have HB:=hide (aI hb (aI hl (aI hm (aI hyx (aI hd5 (show y <= 8000000 by omega))))))
    have hyq : ¬ (q : Int) < (y : Int):=by omega
    have dy : decide ((y : Int) < 0) = false:=decide_eq_false (by omega)
    have dq : decide (q < y) = false:=decide_eq_false (by omega)
    rw [<- hqe,<- ht] at hq2
    rw [<- ht] at W1
    clear hb hl hm hyx hd5 hE hR hq hqe hn hy hd hd4 ht
    obtain ⟨v1,u1⟩:=W1.out
    obtain ⟨v2,u2⟩:=W2.out
    clear W1 W2
    go_enter Tryz.func104,Tryz.ntmps104
    go_wp2_with fail
    refine (HD.out _).mono ?_
    rintro e w1 ⟨rfl,rfl⟩
    go_wp2_with fail
    have H0:=hide (show SmSt w1 w1.heap.size y 0 x l (w1.alloc (.cells (svals (List.replicate y 0)).toArray 3)) from ⟨by
     rw [show smps l x 0 = [] from rfl,fillN_nil]
     exact own_madeN w1 3 (List.replicate y 0) y (by simp) (by have:=HB.out.2.2.2.2.2; omega),(Only.refl [] w1).alloc _⟩)
    go_loopw [28] (fun i wr=>∃ j : Nat,j <= y /\ i = .int .i64 j /\ SmSt w1 w1.heap.size y j x l wr) (fun i _=>y - (intOf i).toNat)
    case atStart=>exact ⟨0,Nat.zero_le _,rfl,H0.out⟩
    case round =>
     obtain ⟨j,hj,rfl,S⟩:=hrel
     by_cases hlt : j < y
     ·obtain ⟨hb,hl,hm,hyx,hd5,hy9⟩:=HB.out
      have hjx : j * x + x <= 8 * m:=by
       have h2:=Nat.mul_le_mul_right x (show j + 1 <= y by omega)
       rw [Nat.add_mul] at h2
       omega
      have HS:=hide (sample_at x hd5 A m c j l wr (hb.keep S.only (by simp)) hl hjx (by omega))
      have HQ:=hide (aI S hlt)
      clear hb hl hm hyx hd5 hjx S
      go_wp2_with fail
      refine (HS.out).mono ?_
      rintro e w2 ⟨rfl,ho2⟩
      have S:=HQ.out.1
      have how:=own_keep S.own ho2 (by simp)
      obtain ⟨g',hg',_,_,hfr,hcell⟩:=own_open how (by omega)
      obtain rfl : w1.heap.size = g':=by injection hg' with h; injection h
      have hlen : (fillN (smps l x j) y).length = y:=fillN_length _ _ (by rw [smps_length]; omega)
      obtain ⟨b3,c3⟩ : ∃ b : Nat,w2.cell? ⟨w1.heap.size,j,none⟩ = some (.int .i64 (b : Int)):=⟨_,hcell j _ (svals_get _ j (by rw [hlen]; omega))⟩
      have f3:=hfr j
      have hS : SmSt w1 w1.heap.size y (j + 1) x l (w2.setCell ⟨w1.heap.size,j,none⟩ (.int .i64 ((smp l x j x : Nat) : Int))):=⟨by
       have h:=own_set how j (.int .i64 ((smp l x j x : Nat) : Int))
       have e : (fillN (smps l x j) y).set j (smp l x j x) = fillN (smps l x (j + 1)) y:=by
        have h2:=fillN_set (smps l x j) y (smp l x j x) (by rw [smps_length]; omega)
        rw [smps_length] at h2
        rw [h2,smps_succ]
       rw [svals_set,e] at h
       exact h,(S.only.trans ho2 (S:=[]) (by simp)).setCell (by intro h; exact absurd h (Nat.lt_irrefl _)) _⟩
      have HS2:=hide hS
      generalize smp l x j x = z at *
      clear hfr hcell hlen hS S how hg' ho2
      go_wp2_with fail
      go_roundw
      case rel=>exact ⟨j + 1,HQ.out.2,by go_num,HS2.out⟩
      case measure=>simp [intOf]; omega
     ·obtain rfl : j = y:=by omega
      go_wp2_with fail
      go_ret2
      refine ⟨_,rfl,?_,S.only⟩
      have h:=S.own
      rw [fillN_all _ _ (smps_length _ _ _)] at h
      exact h
   ·have hE : sErr (x : Int) (y : Int) m = 2:=by
     unfold sErr
     rw [if_pos ⟨hd,hn⟩,Int.toNat_natCast,Int.toNat_natCast,if_pos (by omega)]
    have hR : smR l (x : Int) (y : Int) = []:=by unfold smR; rw [hl,hE,if_neg (by omega)]
    rw [hE,hR]
    have hyq : (q : Int) < (y : Int):=by omega
    rw [<- hqe,<- ht] at hq2
    rw [<- ht] at W1
    clear hb hl hm hE hR hq hqe hn hy hd hd4 ht
    obtain ⟨v1,u1⟩:=W1.out
    obtain ⟨v2,u2⟩:=W2.out
    clear W1 W2
    go_enter Tryz.func104,Tryz.ntmps104
    go_wp2_with fail
    refine (HD.out _).mono ?_
    rintro e w1 ⟨rfl,rfl⟩
    go_wp2_with fail
    go_ret2
    exact ⟨_,rfl,⟨rfl,.inl ⟨rfl,rfl⟩⟩,Only.refl [] _⟩
  ·have hE : sErr (x : Int) n m = 1:=by
    unfold sErr
    rw [if_neg (fun h=>hn h.2)]
   have hR : smR l (x : Int) n = []:=by unfold smR; rw [hl,hE,if_neg (by omega)]
   rw [hE,hR]
   clear hb hl hm hE hR hq hq2 hqe hd hd4 ht W1 W2
   go_enter Tryz.func104,Tryz.ntmps104
   go_wp2_with fail
   refine (HD.out _).mono ?_
   rintro e w1 ⟨rfl,rfl⟩
   go_wp2_with fail
   go_ret2
   exact ⟨_,rfl,⟨rfl,.inl ⟨rfl,rfl⟩⟩,Only.refl [] _⟩
 ·have hdf : isDep d = false:=by cases h : isDep d with
   | true=>exact absurd h hd
   | false=>rfl
  rw [hdf] at HD
  have hE : sErr d n m = 1:=by
   unfold sErr
   rw [if_neg (fun h=>hd h.1)]
  have hR : smR l d n = []:=by unfold smR; rw [hl,hE,if_neg (by omega)]
  rw [hE,hR]
  clear hb hl hm hE hR hd hdf
  go_enter Tryz.func104,Tryz.ntmps104
  go_wp2_with fail
  refine (HD.out _).mono ?_
  rintro e w1 ⟨rfl,rfl⟩
  go_wp2_with fail
  go_ret2
  exact ⟨_,rfl,⟨rfl,.inl ⟨rfl,rfl⟩⟩,Only.refl [] _⟩
def allEq (a b : Nat -> Int) (L : List Nat) : Bool:=L.all fun i=>a i == b i
theorem run_equalIn_ints {P : Program} (w : World) (d : Nat) (t e : TypeId) (len : Nat) (k k' : IntKind) (xs ys : Array Value) (a b : Nat -> Int) (ht : P.underlying t = some (.array len e)) (he : P.underlying e = some (.int k')) (hp : P.plainKey e = true)
 (hi : (P.info? e).map (·.size) = some 1)
 (hx : ∀ i,i < len -> xs[i]? = some (.int k (a i))) (hy : ∀ i,i < len -> ys[i]? = some (.int k (b i))) :
 (Op.equalIn (d + 2) t (.agg xs) (.agg ys)).run P w = .ok (allEq a b (List.range' 0 len)) w:=by
 obtain ⟨ie,hie,hsz⟩ : ∃ ie,P.info? e = some ie /\ ie.size = 1:=by
  cases h : P.info? e with
  | none=>rw [h] at hi; simp at hi
  | some ie=>rw [h] at hi; simp at hi; exact ⟨ie,rfl,hi⟩
 have hso : ∀ w,(sizeOf e).run P w = .ok 1 w:=fun w=>by simp [sizeOf,typeInfo,hie,hsz]
 rw [Op.equalIn]
 simp only [Sem.run_bind,run_underlying ht,Result.andThen_ok,hso]
 rw [Std.Legacy.Range.forIn_eq_forIn_range']
 have hL : ∀ i ∈ List.range' 0 len,i < len:=by intro i hi; simp at hi; omega
 simp only [Std.Legacy.Range.size,Nat.sub_zero,Nat.add_sub_cancel,Nat.div_one]
 generalize List.range' 0 len = L at *
 clear ht
 induction L generalizing w with
 | nil=>simp [allEq]
 | cons i L ih =>
   have h1:=hx i (hL i (by simp))
   have h2:=hy i (hL i (by simp))
   have p1 : (part e xs (i * 1)).run P w = .ok (.int k (a i)) w:=run_part_plain w hp (by rw [Nat.mul_one]; exact h1)
   have p2 : (part e ys (i * 1)).run P w = .ok (.int k (b i)) w:=run_part_plain w hp (by rw [Nat.mul_one]; exact h2)
   have p3 : (Op.equalIn (d + 1) e (.int k (a i)) (.int k (b i))).run P w = .ok (a i == b i) w:=run_equalIn_int w d e k k' _ _ he
   simp only [List.forIn_cons,Sem.run_bind,p1,p2,p3,Result.andThen_ok,Sem.run_ite]
   by_cases h : (a i == b i) = true
   ·rw [h]
    simp only [Bool.not_true,Bool.false_eq_true,if_false,Sem.run_pure,Result.andThen_ok]
    rw [ih w (fun j hj=>hL j (by simp [hj]))]
    simp [allEq,h]
   ·have h' : (a i == b i) = false:=by simpa using h
    rw [h']
    simp [allEq,h']
set_option maxRecDepth 100000 in
set_option maxHeartbeats 4000000 in
theorem between_any (p q x y : Nat) (w : World) (hp : p <= 100) (hq : q <= 100) (hx : x = if p < q then 0 else p / 2) (hy : y = if p < q then q / 2 else 0) :
 Calls Tryz.prog 118 #[.agg #[.int .i64 0,.int .i64 0,.int .i64 (p : Int),.int .i64 (q : Int)]] w fun e w'=>e = .returned (.agg #[.int .i64 (x : Int),.int .i64 (y : Int),.int .i64 (p : Int),.int .i64 (q : Int)]) /\ Only [] w w':=by
 have hpt : (p : Int).tdiv 2 = ((p / 2 : Nat) : Int):=(Int.ofNat_tdiv p 2).symm
 have hqt : (q : Int).tdiv 2 = ((q / 2 : Nat) : Int):=(Int.ofNat_tdiv q 2).symm
 have hr : ∀ cs ds : Array Value,Has ((w.alloc (.cells cs 47)).alloc (.cells ds 47)) (w.heap.size + 1) 47 ds:=fun cs ds=>by
  have:=Has.new (w.alloc (.cells cs 47)) 47 ds
  simpa using this
 have HR:=hide hr
 clear hr
 by_cases h : p < q
 ·rw [if_pos h] at hx hy
  subst hx
  rw [<- hy] at hqt
  have W1:=hide (wr64 (z:=(y : Int)) (n:=y) rfl (by omega))
  have hi : (p : Int) < (q : Int):=by omega
  clear hy hpt hp hq
  obtain ⟨v1,u1⟩:=W1.out
  clear W1
  go_enter Tryz.func118,Tryz.ntmps118
  go_wp2_with fail
  exact bodyPost_ret (results_cell_row Tryz.results118 _ _ (w.heap.size + 1) 47 _ (0,0) _ rfl (HR.out _ _) Tryz.underlying47 rfl (by kernel_rfl)) rfl ⟨rfl,((Only.refl [] w).alloc _).alloc _⟩
 ·rw [if_neg h] at hx hy
  subst hy
  rw [<- hx] at hpt
  have W1:=hide (wr64 (z:=(x : Int)) (n:=x) rfl (by omega))
  have hi : ¬ (p : Int) < (q : Int):=by omega
  clear hx hqt hp hq
  obtain ⟨v1,u1⟩:=W1.out
  clear W1
  go_enter Tryz.func118,Tryz.ntmps118
  go_wp2_with fail
  exact bodyPost_ret (results_cell_row Tryz.results118 _ _ (w.heap.size + 1) 47 _ (0,0) _ rfl (HR.out _ _) Tryz.underlying47 rfl (by kernel_rfl)) rfl ⟨rfl,((Only.refl [] w).alloc _).alloc _⟩
def passV (i : Nat) : List Value:=[.int .i64 (adX i),.int .i64 (adY i),.int .i64 (adW i),.int .i64 (adH i)]
def pvals : Nat -> List Value
 | 0=>[]
 | k + 1=>pvals k ++ passV k
theorem pvals_length : ∀ k,(pvals k).length = k * 4
 | 0=>rfl
 | k + 1=>by rw [pvals,List.length_append,pvals_length k,Nat.add_mul]; rfl
theorem holds4 (w : World) (x y p q : Int) (t : TypeId) : Holds (w.alloc (.cells #[.int .i64 x,.int .i64 y,.int .i64 p,.int .i64 q] t)) 4 (some ⟨w.heap.size,0,none⟩) 1 [.int .i64 x,.int .i64 y,.int .i64 p,.int .i64 q]:=by
 have h:=Holds.lit w #[.int .i64 x,.int .i64 y,.int .i64 p,.int .i64 q] t
 exact ⟨rfl,fun _=>h.2 (by simp)⟩
theorem own4 (w : World) (x y p q : Int) : (w.alloc (.cells #[.int .i64 x,.int .i64 y,.int .i64 p,.int .i64 q] 47)).ownsRow w.heap.size 47 4 (.slice (some ⟨w.heap.size,0,none⟩) 1 1) 1 [.int .i64 x,.int .i64 y,.int .i64 p,.int .i64 q] :=
 ⟨rfl,.inr ⟨w.heap.size,1,#[.int .i64 x,.int .i64 y,.int .i64 p,.int .i64 q],rfl,Nat.le_refl _,Has.new w _ _,Nat.le_refl _,by unfold maxLen; omega,rfl,rfl⟩⟩
theorem own_at {w : World} {base e size n b : Nat} {v : Value} {xs : List Value} (h : w.ownsRow base e size v n xs) (hb : v.ownBlock = some b) : base <= b /\ b < w.heap.size:=by
 rcases h.2 with ⟨rfl,_⟩ | ⟨g,cap,cur,rfl,h1,h2,_⟩
 ·simp [Value.ownBlock] at hb
 ·have : g = b:=by simpa [Value.ownBlock] using hb
  subst this
  exact ⟨h1,Has.lt (cs:=cur) h2⟩
theorem pass_info : (Tryz.prog.info? 47).map (fun i=>(i.zero,i.size,i.bytes)) = some (some (.agg #[.int .i64 0,.int .i64 0,.int .i64 0,.int .i64 0]),4,32):=by kernel_rfl
structure PsSt (w : World) (i c : Nat) (A : Option Addr) (wr : World) : Prop where
 own : wr.ownsRow (w.heap.size + 2) 47 4 (.slice A (i + 1) c) (i + 1) (pvals (i + 1))
 kn : Has wr w.heap.size 47 #[.int .i64 0,.int .i64 0,.int .i64 (knW i),.int .i64 (knH i)]
 al : Has wr (w.heap.size + 1) 47 #[.int .i64 0,.int .i64 0,.int .i64 1,.int .i64 1]
 only : Only [] w wr
def fiSlen : Value -> Nat
 | .slice _ n _=>n
 | _=>0
theorem PsSt.next {w w2 w5 : World} {i c c' : Nat} {A A' : Option Addr} {wr : World} (S : PsSt w i c A wr) (ho : Only [] wr w2) (a b p q : Int) (hp : adW (i + 1) = p /\ adH (i + 1) = q /\ adX (i + 1) = a /\ adY (i + 1) = b)
 (hown : w5.ownsRow (w.heap.size + 2) 47 4 (.slice A' (i + 1 + 1) c') (i + 1 + 1) (pvals (i + 1) ++ [.int .i64 a,.int .i64 b,.int .i64 p,.int .i64 q]))
 (hgrow : ((w2.alloc (.cells #[.int .i64 a,.int .i64 b,.int .i64 p,.int .i64 q] 47)).alloc (.cells #[.int .i64 a,.int .i64 b,.int .i64 p,.int .i64 q] 47)).grownBy w5 (Value.slice A (i + 1) c).ownBlock) :
 Has w5 w.heap.size 47 #[.int .i64 0,.int .i64 0,.int .i64 (knW i),.int .i64 (knH i)] /\ Has w5 w2.heap.size 47 #[.int .i64 a,.int .i64 b,.int .i64 p,.int .i64 q] /\
  (w.heap.size < w2.heap.size) /\
  ∀ r s : Int,knW (i + 1) = r -> knH (i + 1) = s -> PsSt w (i + 1) c' A' (((w5.setCell ⟨w.heap.size,2,none⟩ (.int .i64 r)).setCell ⟨w.heap.size,3,none⟩ (.int .i64 s)).drew):=by
 obtain ⟨rfl,rfl,rfl,rfl⟩:=hp
 have ho2 : Only [] wr ((w2.alloc (.cells #[.int .i64 (adX (i + 1)),.int .i64 (adY (i + 1)),.int .i64 (adW (i + 1)),.int .i64 (adH (i + 1))] 47)).alloc (.cells #[.int .i64 (adX (i + 1)),.int .i64 (adY (i + 1)),.int .i64 (adW (i + 1)),.int .i64 (adH (i + 1))] 47)):=(ho.alloc _).alloc _
 have hk:=S.kn.only ho2 (by simp)
 have ha:=S.al.only ho2 (by simp)
 have hP : Has ((w2.alloc (.cells #[.int .i64 (adX (i + 1)),.int .i64 (adY (i + 1)),.int .i64 (adW (i + 1)),.int .i64 (adH (i + 1))] 47)).alloc (.cells #[.int .i64 (adX (i + 1)),.int .i64 (adY (i + 1)),.int .i64 (adW (i + 1)),.int .i64 (adH (i + 1))] 47)) w2.heap.size 47 #[.int .i64 (adX (i + 1)),.int .i64 (adY (i + 1)),.int .i64 (adW (i + 1)),.int .i64 (adH (i + 1))]:=(Has.new w2 _ _).alloc _
 have n0 : some w.heap.size ≠ (Value.slice A (i + 1) c).ownBlock:=fun h=>by have:=(own_at S.own h.symm).1; omega
 have n1 : some (w.heap.size + 1) ≠ (Value.slice A (i + 1) c).ownBlock:=fun h=>by have:=(own_at S.own h.symm).1; omega
 have n2 : some w2.heap.size ≠ (Value.slice A (i + 1) c).ownBlock:=fun h=>by have:=(own_at S.own h.symm).2; have:=ho.size; omega
 have hk5:=hk.grown hgrow n0
 have ha5:=ha.grown hgrow n1
 have hP5:=hP.grown hgrow n2
 have hsz : w.heap.size < w2.heap.size:=by have:=S.kn.lt; have:=ho.size; omega
 refine ⟨hk5,hP5,hsz,?_⟩
 rintro r s rfl rfl
 have o5 : Only [] w w5:=(S.only.trans ho2 (S:=[]) (by simp)).grown hgrow (fun k hk hlt=>by have:=(own_at S.own hk).1; omega)
 have hb5 : ∀ b,(Value.slice A' (i + 1 + 1) c').ownBlock = some b -> b ∉ [w.heap.size]:=fun b hb=>by have:=(own_at hown hb).1; simp; omega
 have os : Only [w.heap.size] w5 (((w5.setCell ⟨w.heap.size,2,none⟩ (.int .i64 (knW (i + 1)))).setCell ⟨w.heap.size,3,none⟩ (.int .i64 (knH (i + 1)))).drew):=(((Only.refl _ w5).setCell (by simp) _).setCell (by simp) _).drew
 refine ⟨own_keep hown os hb5,?_,ha5.only os (by simp),?_⟩
 ·exact (hk5.set 2 (.int .i64 (knW (i + 1)))).set 3 (.int .i64 (knH (i + 1)))
 ·exact o5.trans os (by intro k hk hlt; simp at hk; omega)
set_option maxRecDepth 100000 in
set_option maxHeartbeats 8000000 in
theorem passes_any (w : World) : Calls Tryz.prog 74 #[] w fun e w'=>∃ v,e = .returned v /\ w'.ownsRow w.heap.size 47 4 v 7 (pvals 7) /\ Only [] w w':=by
 obtain ⟨i0,hi0,hz0,hz1,hz2⟩:=info_of pass_info
 have hS : PsSt w 0 1 (some ⟨w.heap.size + 2,0,none⟩) (((w.alloc (.cells #[.int .i64 0,.int .i64 0,.int .i64 8,.int .i64 8] 47)).alloc (.cells #[.int .i64 0,.int .i64 0,.int .i64 1,.int .i64 1] 47)).alloc (.cells #[.int .i64 0,.int .i64 0,.int .i64 8,.int .i64 8] 47)):=by
  have h1:=own4 ((w.alloc (.cells #[.int .i64 0,.int .i64 0,.int .i64 8,.int .i64 8] 47)).alloc (.cells #[.int .i64 0,.int .i64 0,.int .i64 1,.int .i64 1] 47)) 0 0 8 8
  have e : ((w.alloc (.cells #[.int .i64 0,.int .i64 0,.int .i64 8,.int .i64 8] 47)).alloc (.cells #[.int .i64 0,.int .i64 0,.int .i64 1,.int .i64 1] 47)).heap.size = w.heap.size + 2:=by simp
  rw [e] at h1
  have h2:=Has.new (w.alloc (.cells #[.int .i64 0,.int .i64 0,.int .i64 8,.int .i64 8] 47)) 47 #[.int .i64 0,.int .i64 0,.int .i64 1,.int .i64 1]
  rw [World.size_alloc] at h2
  exact ⟨h1,((Has.new w _ _).alloc _).alloc _,h2.alloc _,(((Only.refl [] w).alloc _).alloc _).alloc _⟩
 have H0:=hide hS
 clear hS
 go_enter Tryz.func74,Tryz.ntmps74
 go_wp2_with fail
 go_loopw [3] (fun v wr=>∃ (i : Nat) (A : Option Addr) (c : Nat),i <= 6 /\ v = .slice A (i + 1) c /\ PsSt w i c A wr) (fun v _=>7 - fiSlen v)
 case atStart=>exact ⟨0,_,_,by omega,rfl,H0.out⟩
 case round =>
  obtain ⟨i,A,c,hi,rfl,S⟩:=hrel
  by_cases hlt : i < 6
  ·rcases (show i = 0 \/ i = 1 \/ i = 2 \/ i = 3 \/ i = 4 \/ i = 5 by omega) with rfl | rfl | rfl | rfl | rfl | rfl
   ·have k2:=S.kn
    have k3:=S.al
    rw [show knW 0 = 8 from rfl,show knH 0 = 8 from rfl] at k2
    have a0:=k2.cell 0
    have a1:=k2.cell 1
    have a2:=k2.cell 2
    have a3:=k2.cell 3
    have b0:=k3.cell 0
    have b1:=k3.cell 1
    have b2:=k3.cell 2
    have b3:=k3.cell 3
    simp only [List.getElem?_toArray,List.getElem?_cons_zero,List.getElem?_cons_succ] at a0 a1 a2 a3 b0 b1 b2 b3
    have HB : Hid (∀ w,Calls Tryz.prog 118 #[.agg #[.int .i64 0,.int .i64 0,.int .i64 8,.int .i64 8]] w fun e w'=>e = .returned (.agg #[.int .i64 4,.int .i64 0,.int .i64 8,.int .i64 8]) /\ Only [] w w'):=hide (fun w=>between_any 8 8 4 0 w (by omega) (by omega) rfl rfl)
    have HS:=hide S
    clear k2 k3 S
    go_wp2_with fail
    refine (HB.out _).mono ?_
    rintro e w2 ⟨rfl,ho⟩
    have HO:=hide ho
    have h4:=holds4 (w2.alloc (.cells #[.int .i64 4,.int .i64 0,.int .i64 8,.int .i64 8] 47)) 4 0 8 8 47
    rw [World.size_alloc] at h4
    have how : ((w2.alloc (.cells #[.int .i64 4,.int .i64 0,.int .i64 8,.int .i64 8] 47)).alloc (.cells #[.int .i64 4,.int .i64 0,.int .i64 8,.int .i64 8] 47)).ownsRow (w.heap.size + 2) 47 4 (.slice A (0 + 1) c) (0 + 1) (pvals (0 + 1)):=own_keep HS.out.own ((ho.alloc _).alloc _) (by simp)
    have hbase : w.heap.size + 2 <= ((w2.alloc (.cells #[.int .i64 4,.int .i64 0,.int .i64 8,.int .i64 8] 47)).alloc (.cells #[.int .i64 4,.int .i64 0,.int .i64 8,.int .i64 8] 47)).heap.size:=by
     have:=HS.out.al.lt
     have:=ho.size
     simp
     omega
    have H4:=hide (aI h4 (aI how hbase))
    clear h4 how hbase ho a0 a1 a2 a3 b0 b1 b2 b3
    go_wp2_with (at_builtin; refine list_append _ rfl (.tmp 14) (.tmp 16) 87 rfl (w.heap.size + 2) 4 32 Tryz.underlying87 hi0 hz0 hz1 hz2 rfl (by omega) H4.out.2.1 rfl H4.out.1 rfl (by simp [Value.oneCell']) (by omega) (by omega) H4.out.2.2 ?_; intro A' c' w5 hown hgrow hat; obtain ⟨n1,n2,n3,n4⟩:=HS.out.next HO.out 4 0 8 8 ⟨rfl,rfl,rfl,rfl⟩ hown hgrow; have a2:=n1.cell 2; have a3:=n1.cell 3; have f2:=n1.free 2; have f3:=n1.free 3; have b0:=n2.cell 0; have b1:=n2.cell 1; have b2:=n2.cell 2; have b3:=n2.cell 3; simp only [List.getElem?_toArray,List.getElem?_cons_zero,List.getElem?_cons_succ] at a2 a3 b0 b1 b2 b3; have HN:=hide (n4 4 8 rfl rfl); clear n1 n2 n4 hown hgrow hat)
    go_region
    go_wp2_with fail
    go_roundw
    case rel=>exact ⟨0 + 1,A',c',by omega,rfl,HN.out⟩
    case measure=>simp [fiSlen]
   ·have k2:=S.kn
    have k3:=S.al
    rw [show knW 1 = 4 from rfl,show knH 1 = 8 from rfl] at k2
    have a0:=k2.cell 0
    have a1:=k2.cell 1
    have a2:=k2.cell 2
    have a3:=k2.cell 3
    have b0:=k3.cell 0
    have b1:=k3.cell 1
    have b2:=k3.cell 2
    have b3:=k3.cell 3
    simp only [List.getElem?_toArray,List.getElem?_cons_zero,List.getElem?_cons_succ] at a0 a1 a2 a3 b0 b1 b2 b3
    have HB : Hid (∀ w,Calls Tryz.prog 118 #[.agg #[.int .i64 0,.int .i64 0,.int .i64 4,.int .i64 8]] w fun e w'=>e = .returned (.agg #[.int .i64 0,.int .i64 4,.int .i64 4,.int .i64 8]) /\ Only [] w w'):=hide (fun w=>between_any 4 8 0 4 w (by omega) (by omega) rfl rfl)
    have HS:=hide S
    clear k2 k3 S
    go_wp2_with fail
    refine (HB.out _).mono ?_
    rintro e w2 ⟨rfl,ho⟩
    have HO:=hide ho
    have h4:=holds4 (w2.alloc (.cells #[.int .i64 0,.int .i64 4,.int .i64 4,.int .i64 8] 47)) 0 4 4 8 47
    rw [World.size_alloc] at h4
    have how : ((w2.alloc (.cells #[.int .i64 0,.int .i64 4,.int .i64 4,.int .i64 8] 47)).alloc (.cells #[.int .i64 0,.int .i64 4,.int .i64 4,.int .i64 8] 47)).ownsRow (w.heap.size + 2) 47 4 (.slice A (1 + 1) c) (1 + 1) (pvals (1 + 1)):=own_keep HS.out.own ((ho.alloc _).alloc _) (by simp)
    have hbase : w.heap.size + 2 <= ((w2.alloc (.cells #[.int .i64 0,.int .i64 4,.int .i64 4,.int .i64 8] 47)).alloc (.cells #[.int .i64 0,.int .i64 4,.int .i64 4,.int .i64 8] 47)).heap.size:=by
     have:=HS.out.al.lt
     have:=ho.size
     simp
     omega
    have H4:=hide (aI h4 (aI how hbase))
    clear h4 how hbase ho a0 a1 a2 a3 b0 b1 b2 b3
    go_wp2_with (at_builtin; refine list_append _ rfl (.tmp 14) (.tmp 16) 87 rfl (w.heap.size + 2) 4 32 Tryz.underlying87 hi0 hz0 hz1 hz2 rfl (by omega) H4.out.2.1 rfl H4.out.1 rfl (by simp [Value.oneCell']) (by omega) (by omega) H4.out.2.2 ?_; intro A' c' w5 hown hgrow hat; obtain ⟨n1,n2,n3,n4⟩:=HS.out.next HO.out 0 4 4 8 ⟨rfl,rfl,rfl,rfl⟩ hown hgrow; have a2:=n1.cell 2; have a3:=n1.cell 3; have f2:=n1.free 2; have f3:=n1.free 3; have b0:=n2.cell 0; have b1:=n2.cell 1; have b2:=n2.cell 2; have b3:=n2.cell 3; simp only [List.getElem?_toArray,List.getElem?_cons_zero,List.getElem?_cons_succ] at a2 a3 b0 b1 b2 b3; have HN:=hide (n4 4 4 rfl rfl); clear n1 n2 n4 hown hgrow hat)
    go_region
    go_wp2_with fail
    go_roundw
    case rel=>exact ⟨1 + 1,A',c',by omega,rfl,HN.out⟩
    case measure=>simp [fiSlen]
   ·have k2:=S.kn
    have k3:=S.al
    rw [show knW 2 = 4 from rfl,show knH 2 = 4 from rfl] at k2
    have a0:=k2.cell 0
    have a1:=k2.cell 1
    have a2:=k2.cell 2
    have a3:=k2.cell 3
    have b0:=k3.cell 0
    have b1:=k3.cell 1
    have b2:=k3.cell 2
    have b3:=k3.cell 3
    simp only [List.getElem?_toArray,List.getElem?_cons_zero,List.getElem?_cons_succ] at a0 a1 a2 a3 b0 b1 b2 b3
    have HB : Hid (∀ w,Calls Tryz.prog 118 #[.agg #[.int .i64 0,.int .i64 0,.int .i64 4,.int .i64 4]] w fun e w'=>e = .returned (.agg #[.int .i64 2,.int .i64 0,.int .i64 4,.int .i64 4]) /\ Only [] w w'):=hide (fun w=>between_any 4 4 2 0 w (by omega) (by omega) rfl rfl)
    have HS:=hide S
    clear k2 k3 S
    go_wp2_with fail
    refine (HB.out _).mono ?_
    rintro e w2 ⟨rfl,ho⟩
    have HO:=hide ho
    have h4:=holds4 (w2.alloc (.cells #[.int .i64 2,.int .i64 0,.int .i64 4,.int .i64 4] 47)) 2 0 4 4 47
    rw [World.size_alloc] at h4
    have how : ((w2.alloc (.cells #[.int .i64 2,.int .i64 0,.int .i64 4,.int .i64 4] 47)).alloc (.cells #[.int .i64 2,.int .i64 0,.int .i64 4,.int .i64 4] 47)).ownsRow (w.heap.size + 2) 47 4 (.slice A (2 + 1) c) (2 + 1) (pvals (2 + 1)):=own_keep HS.out.own ((ho.alloc _).alloc _) (by simp)
    have hbase : w.heap.size + 2 <= ((w2.alloc (.cells #[.int .i64 2,.int .i64 0,.int .i64 4,.int .i64 4] 47)).alloc (.cells #[.int .i64 2,.int .i64 0,.int .i64 4,.int .i64 4] 47)).heap.size:=by
     have:=HS.out.al.lt
     have:=ho.size
     simp
     omega
    have H4:=hide (aI h4 (aI how hbase))
    clear h4 how hbase ho a0 a1 a2 a3 b0 b1 b2 b3
    go_wp2_with (at_builtin; refine list_append _ rfl (.tmp 14) (.tmp 16) 87 rfl (w.heap.size + 2) 4 32 Tryz.underlying87 hi0 hz0 hz1 hz2 rfl (by omega) H4.out.2.1 rfl H4.out.1 rfl (by simp [Value.oneCell']) (by omega) (by omega) H4.out.2.2 ?_; intro A' c' w5 hown hgrow hat; obtain ⟨n1,n2,n3,n4⟩:=HS.out.next HO.out 2 0 4 4 ⟨rfl,rfl,rfl,rfl⟩ hown hgrow; have a2:=n1.cell 2; have a3:=n1.cell 3; have f2:=n1.free 2; have f3:=n1.free 3; have b0:=n2.cell 0; have b1:=n2.cell 1; have b2:=n2.cell 2; have b3:=n2.cell 3; simp only [List.getElem?_toArray,List.getElem?_cons_zero,List.getElem?_cons_succ] at a2 a3 b0 b1 b2 b3; have HN:=hide (n4 2 4 rfl rfl); clear n1 n2 n4 hown hgrow hat)
    go_region
    go_wp2_with fail
    go_roundw
    case rel=>exact ⟨2 + 1,A',c',by omega,rfl,HN.out⟩
    case measure=>simp [fiSlen]
   ·have k2:=S.kn
    have k3:=S.al
    rw [show knW 3 = 2 from rfl,show knH 3 = 4 from rfl] at k2
    have a0:=k2.cell 0
    have a1:=k2.cell 1
    have a2:=k2.cell 2
    have a3:=k2.cell 3
    have b0:=k3.cell 0
    have b1:=k3.cell 1
    have b2:=k3.cell 2
    have b3:=k3.cell 3
    simp only [List.getElem?_toArray,List.getElem?_cons_zero,List.getElem?_cons_succ] at a0 a1 a2 a3 b0 b1 b2 b3
    have HB : Hid (∀ w,Calls Tryz.prog 118 #[.agg #[.int .i64 0,.int .i64 0,.int .i64 2,.int .i64 4]] w fun e w'=>e = .returned (.agg #[.int .i64 0,.int .i64 2,.int .i64 2,.int .i64 4]) /\ Only [] w w'):=hide (fun w=>between_any 2 4 0 2 w (by omega) (by omega) rfl rfl)
    have HS:=hide S
    clear k2 k3 S
    go_wp2_with fail
    refine (HB.out _).mono ?_
    rintro e w2 ⟨rfl,ho⟩
    have HO:=hide ho
    have h4:=holds4 (w2.alloc (.cells #[.int .i64 0,.int .i64 2,.int .i64 2,.int .i64 4] 47)) 0 2 2 4 47
    rw [World.size_alloc] at h4
    have how : ((w2.alloc (.cells #[.int .i64 0,.int .i64 2,.int .i64 2,.int .i64 4] 47)).alloc (.cells #[.int .i64 0,.int .i64 2,.int .i64 2,.int .i64 4] 47)).ownsRow (w.heap.size + 2) 47 4 (.slice A (3 + 1) c) (3 + 1) (pvals (3 + 1)):=own_keep HS.out.own ((ho.alloc _).alloc _) (by simp)
    have hbase : w.heap.size + 2 <= ((w2.alloc (.cells #[.int .i64 0,.int .i64 2,.int .i64 2,.int .i64 4] 47)).alloc (.cells #[.int .i64 0,.int .i64 2,.int .i64 2,.int .i64 4] 47)).heap.size:=by
     have:=HS.out.al.lt
     have:=ho.size
     simp
     omega
    have H4:=hide (aI h4 (aI how hbase))
    clear h4 how hbase ho a0 a1 a2 a3 b0 b1 b2 b3
    go_wp2_with (at_builtin; refine list_append _ rfl (.tmp 14) (.tmp 16) 87 rfl (w.heap.size + 2) 4 32 Tryz.underlying87 hi0 hz0 hz1 hz2 rfl (by omega) H4.out.2.1 rfl H4.out.1 rfl (by simp [Value.oneCell']) (by omega) (by omega) H4.out.2.2 ?_; intro A' c' w5 hown hgrow hat; obtain ⟨n1,n2,n3,n4⟩:=HS.out.next HO.out 0 2 2 4 ⟨rfl,rfl,rfl,rfl⟩ hown hgrow; have a2:=n1.cell 2; have a3:=n1.cell 3; have f2:=n1.free 2; have f3:=n1.free 3; have b0:=n2.cell 0; have b1:=n2.cell 1; have b2:=n2.cell 2; have b3:=n2.cell 3; simp only [List.getElem?_toArray,List.getElem?_cons_zero,List.getElem?_cons_succ] at a2 a3 b0 b1 b2 b3; have HN:=hide (n4 2 2 rfl rfl); clear n1 n2 n4 hown hgrow hat)
    go_region
    go_wp2_with fail
    go_roundw
    case rel=>exact ⟨3 + 1,A',c',by omega,rfl,HN.out⟩
    case measure=>simp [fiSlen]
   ·have k2:=S.kn
    have k3:=S.al
    rw [show knW 4 = 2 from rfl,show knH 4 = 2 from rfl] at k2
    have a0:=k2.cell 0
    have a1:=k2.cell 1
    have a2:=k2.cell 2
    have a3:=k2.cell 3
    have b0:=k3.cell 0
    have b1:=k3.cell 1
    have b2:=k3.cell 2
    have b3:=k3.cell 3
    simp only [List.getElem?_toArray,List.getElem?_cons_zero,List.getElem?_cons_succ] at a0 a1 a2 a3 b0 b1 b2 b3
    have HB : Hid (∀ w,Calls Tryz.prog 118 #[.agg #[.int .i64 0,.int .i64 0,.int .i64 2,.int .i64 2]] w fun e w'=>e = .returned (.agg #[.int .i64 1,.int .i64 0,.int .i64 2,.int .i64 2]) /\ Only [] w w'):=hide (fun w=>between_any 2 2 1 0 w (by omega) (by omega) rfl rfl)
    have HS:=hide S
    clear k2 k3 S
    go_wp2_with fail
    refine (HB.out _).mono ?_
    rintro e w2 ⟨rfl,ho⟩
    have HO:=hide ho
    have h4:=holds4 (w2.alloc (.cells #[.int .i64 1,.int .i64 0,.int .i64 2,.int .i64 2] 47)) 1 0 2 2 47
    rw [World.size_alloc] at h4
    have how : ((w2.alloc (.cells #[.int .i64 1,.int .i64 0,.int .i64 2,.int .i64 2] 47)).alloc (.cells #[.int .i64 1,.int .i64 0,.int .i64 2,.int .i64 2] 47)).ownsRow (w.heap.size + 2) 47 4 (.slice A (4 + 1) c) (4 + 1) (pvals (4 + 1)):=own_keep HS.out.own ((ho.alloc _).alloc _) (by simp)
    have hbase : w.heap.size + 2 <= ((w2.alloc (.cells #[.int .i64 1,.int .i64 0,.int .i64 2,.int .i64 2] 47)).alloc (.cells #[.int .i64 1,.int .i64 0,.int .i64 2,.int .i64 2] 47)).heap.size:=by
     have:=HS.out.al.lt
     have:=ho.size
     simp
     omega
    have H4:=hide (aI h4 (aI how hbase))
    clear h4 how hbase ho a0 a1 a2 a3 b0 b1 b2 b3
    go_wp2_with (at_builtin; refine list_append _ rfl (.tmp 14) (.tmp 16) 87 rfl (w.heap.size + 2) 4 32 Tryz.underlying87 hi0 hz0 hz1 hz2 rfl (by omega) H4.out.2.1 rfl H4.out.1 rfl (by simp [Value.oneCell']) (by omega) (by omega) H4.out.2.2 ?_; intro A' c' w5 hown hgrow hat; obtain ⟨n1,n2,n3,n4⟩:=HS.out.next HO.out 1 0 2 2 ⟨rfl,rfl,rfl,rfl⟩ hown hgrow; have a2:=n1.cell 2; have a3:=n1.cell 3; have f2:=n1.free 2; have f3:=n1.free 3; have b0:=n2.cell 0; have b1:=n2.cell 1; have b2:=n2.cell 2; have b3:=n2.cell 3; simp only [List.getElem?_toArray,List.getElem?_cons_zero,List.getElem?_cons_succ] at a2 a3 b0 b1 b2 b3; have HN:=hide (n4 1 2 rfl rfl); clear n1 n2 n4 hown hgrow hat)
    go_region
    go_wp2_with fail
    go_roundw
    case rel=>exact ⟨4 + 1,A',c',by omega,rfl,HN.out⟩
    case measure=>simp [fiSlen]
   ·have k2:=S.kn
    have k3:=S.al
    rw [show knW 5 = 1 from rfl,show knH 5 = 2 from rfl] at k2
    have a0:=k2.cell 0
    have a1:=k2.cell 1
    have a2:=k2.cell 2
    have a3:=k2.cell 3
    have b0:=k3.cell 0
    have b1:=k3.cell 1
    have b2:=k3.cell 2
    have b3:=k3.cell 3
    simp only [List.getElem?_toArray,List.getElem?_cons_zero,List.getElem?_cons_succ] at a0 a1 a2 a3 b0 b1 b2 b3
    have HB : Hid (∀ w,Calls Tryz.prog 118 #[.agg #[.int .i64 0,.int .i64 0,.int .i64 1,.int .i64 2]] w fun e w'=>e = .returned (.agg #[.int .i64 0,.int .i64 1,.int .i64 1,.int .i64 2]) /\ Only [] w w'):=hide (fun w=>between_any 1 2 0 1 w (by omega) (by omega) rfl rfl)
    have HS:=hide S
    clear k2 k3 S
    go_wp2_with fail
    refine (HB.out _).mono ?_
    rintro e w2 ⟨rfl,ho⟩
    have HO:=hide ho
    have h4:=holds4 (w2.alloc (.cells #[.int .i64 0,.int .i64 1,.int .i64 1,.int .i64 2] 47)) 0 1 1 2 47
    rw [World.size_alloc] at h4
    have how : ((w2.alloc (.cells #[.int .i64 0,.int .i64 1,.int .i64 1,.int .i64 2] 47)).alloc (.cells #[.int .i64 0,.int .i64 1,.int .i64 1,.int .i64 2] 47)).ownsRow (w.heap.size + 2) 47 4 (.slice A (5 + 1) c) (5 + 1) (pvals (5 + 1)):=own_keep HS.out.own ((ho.alloc _).alloc _) (by simp)
    have hbase : w.heap.size + 2 <= ((w2.alloc (.cells #[.int .i64 0,.int .i64 1,.int .i64 1,.int .i64 2] 47)).alloc (.cells #[.int .i64 0,.int .i64 1,.int .i64 1,.int .i64 2] 47)).heap.size:=by
     have:=HS.out.al.lt
     have:=ho.size
     simp
     omega
    have H4:=hide (aI h4 (aI how hbase))
    clear h4 how hbase ho a0 a1 a2 a3 b0 b1 b2 b3
    go_wp2_with (at_builtin; refine list_append _ rfl (.tmp 14) (.tmp 16) 87 rfl (w.heap.size + 2) 4 32 Tryz.underlying87 hi0 hz0 hz1 hz2 rfl (by omega) H4.out.2.1 rfl H4.out.1 rfl (by simp [Value.oneCell']) (by omega) (by omega) H4.out.2.2 ?_; intro A' c' w5 hown hgrow hat; obtain ⟨n1,n2,n3,n4⟩:=HS.out.next HO.out 0 1 1 2 ⟨rfl,rfl,rfl,rfl⟩ hown hgrow; have a2:=n1.cell 2; have a3:=n1.cell 3; have f2:=n1.free 2; have f3:=n1.free 3; have b0:=n2.cell 0; have b1:=n2.cell 1; have b2:=n2.cell 2; have b3:=n2.cell 3; simp only [List.getElem?_toArray,List.getElem?_cons_zero,List.getElem?_cons_succ] at a2 a3 b0 b1 b2 b3; have HN:=hide (n4 1 1 rfl rfl); clear n1 n2 n4 hown hgrow hat)
    go_region
    go_wp2_with fail
    go_roundw
    case rel=>exact ⟨5 + 1,A',c',by omega,rfl,HN.out⟩
    case measure=>simp [fiSlen]
  ·obtain rfl : i = 6:=by omega
   have k2:=S.kn
   have k3:=S.al
   rw [show knW 6 = 1 from rfl,show knH 6 = 1 from rfl] at k2
   have a0:=k2.cell 0
   have a1:=k2.cell 1
   have a2:=k2.cell 2
   have a3:=k2.cell 3
   have b0:=k3.cell 0
   have b1:=k3.cell 1
   have b2:=k3.cell 2
   have b3:=k3.cell 3
   simp only [List.getElem?_toArray,List.getElem?_cons_zero,List.getElem?_cons_succ] at a0 a1 a2 a3 b0 b1 b2 b3
   have HS:=hide S
   clear k2 k3 S
   go_wp2_with fail
   go_ret
   exact ⟨_,rfl,own_mono HS.out.own (by omega),HS.out.only⟩
end Go.Proofs.YtjfjmkkkbcgohaaGreatDoor
