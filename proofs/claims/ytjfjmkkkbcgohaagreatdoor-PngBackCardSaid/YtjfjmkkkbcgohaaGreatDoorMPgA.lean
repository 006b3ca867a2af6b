import Derived.Test.YtjfjmkkkbcgohaaGreatDoorMFiH
import Derived.OwnWalk
import Derived.Test.YtjfjmkkkbcgohaaGreatDoorMFrm
namespace Go.Proofs.YtjfjmkkkbcgohaaGreatDoor
open Go Go.RowKit
def smpV (c : Int) : Int:=if c = 0 \/ c = 3 then 1 else if c = 2 then 3 else if c = 4 then 2 else if c = 6 then 4 else 0
theorem smpV_cases (c : Int) : (c = 0 /\ smpV c = 1) \/ (c = 3 /\ smpV c = 1) \/ (c = 2 /\ smpV c = 3) \/ (c = 4 /\ smpV c = 2) \/ (c = 6 /\ smpV c = 4) \/ (¬ c = 0 /\ ¬ c = 2 /\ ¬ c = 3 /\ ¬ c = 4 /\ ¬ c = 6 /\ smpV c = 0):=by
 unfold smpV
 by_cases h0 : c = 0
 ·exact .inl ⟨h0,if_pos (.inl h0)⟩
 by_cases h3 : c = 3
 ·exact .inr (.inl ⟨h3,if_pos (.inr h3)⟩)
 by_cases h2 : c = 2
 ·exact .inr (.inr (.inl ⟨h2,by rw [if_neg (by omega),if_pos h2]⟩))
 by_cases h4 : c = 4
 ·exact .inr (.inr (.inr (.inl ⟨h4,by rw [if_neg (by omega),if_neg h2,if_pos h4]⟩)))
 by_cases h6 : c = 6
 ·exact .inr (.inr (.inr (.inr (.inl ⟨h6,by rw [if_neg (by omega),if_neg h2,if_neg h4,if_pos h6]⟩))))
 exact .inr (.inr (.inr (.inr (.inr ⟨h0,h2,h3,h4,h6,by rw [if_neg (by omega),if_neg h2,if_neg h4,if_neg h6]⟩))))
set_option maxRecDepth 100000 in
theorem pSamples_any (c : Int) (w : World) : Calls Tryz.prog 11 #[.int .i64 c] w fun e w'=>e = .returned (.int .i64 (smpV c)) /\ w' = w:=by
 rcases smpV_cases c with ⟨rfl,e⟩ | ⟨rfl,e⟩ | ⟨rfl,e⟩ | ⟨rfl,e⟩ | ⟨rfl,e⟩ | ⟨h0,h2,h3,h4,h6,e⟩
 all_goals
  rw [e]
  clear e
  go_enter Tryz.func11,Tryz.ntmps11
  go_wp2_with fail
  go_ret
  exact ⟨rfl,rfl⟩
def pgSide (n : Int) : Bool:=decide (1 <= n /\ n <= 16384)
set_option maxRecDepth 100000 in
theorem pSide_any (n : Int) (w : World) : Calls Tryz.prog 113 #[.int .i64 n] w fun e w'=>e = .returned (.bool (pgSide n)) /\ w' = w:=by
 have hyes : 1 <= n /\ n <= 16384 -> pgSide n = true:=fun h=>decide_eq_true h
 have hno : ¬ (1 <= n /\ n <= 16384) -> pgSide n = false:=fun h=>decide_eq_false h
 generalize pgSide n = x at *
 by_cases h1 : 1 <= n
 ·by_cases h2 : n <= 16384
  ·obtain rfl:=hyes ⟨h1,h2⟩
   clear hyes hno
   go_enter Tryz.func113,Tryz.ntmps113
   go_wp2_with fail
   go_ret
   exact ⟨rfl,rfl⟩
  ·obtain rfl:=hno (fun h=>h2 h.2)
   clear hyes hno
   go_enter Tryz.func113,Tryz.ntmps113
   go_wp2_with fail
   go_ret
   exact ⟨rfl,rfl⟩
 ·obtain rfl:=hno (fun h=>h1 h.1)
  clear hyes hno
  go_enter Tryz.func113,Tryz.ntmps113
  go_wp2_with fail
  go_ret
  exact ⟨rfl,rfl⟩
def pgMay (c d : Int) : Bool :=
 if d = 1 \/ d = 2 \/ d = 4 then decide (c = 0 \/ c = 3) else if d = 8 then decide (0 < smpV c) else if d = 16 then decide (0 < smpV c /\ c ≠ 3) else false
theorem smpV_nn (c : Int) : 0 <= smpV c /\ smpV c <= 4:=by
 rcases smpV_cases c with ⟨_,e⟩ | ⟨_,e⟩ | ⟨_,e⟩ | ⟨_,e⟩ | ⟨_,e⟩ | ⟨_,_,_,_,_,e⟩
 all_goals rw [e]; omega
set_option maxRecDepth 100000 in
theorem pMay_any (c d : Int) (w : World) : Calls Tryz.prog 114 #[.int .i64 c,.int .i64 d] w fun e w'=>e = .returned (.bool (pgMay c d)) /\ w' = w:=by
 by_cases h : d = 1 \/ d = 2 \/ d = 4
 ·have e : pgMay c d = decide (c = 0 \/ c = 3):=if_pos h
  rw [e]
  clear e
  by_cases h0 : c = 0
  ·subst h0
   rcases h with rfl | rfl | rfl
   all_goals
    go_enter Tryz.func114,Tryz.ntmps114
    go_wp2_with fail
    go_ret
    first | exact ⟨rfl,rfl⟩ | (refine ⟨?_,rfl⟩; simp [*]; done) | (refine ⟨?_,rfl⟩; simp; omega)
  ·by_cases h3 : c = 3
   ·subst h3
    clear h0
    rcases h with rfl | rfl | rfl
    all_goals
     go_enter Tryz.func114,Tryz.ntmps114
     go_wp2_with fail
     go_ret
     first | exact ⟨rfl,rfl⟩ | (refine ⟨?_,rfl⟩; simp [*]; done) | (refine ⟨?_,rfl⟩; simp; omega)
   ·rw [show decide (c = 0 \/ c = 3) = false from decide_eq_false (by omega)]
    rcases h with rfl | rfl | rfl
    all_goals
     go_enter Tryz.func114,Tryz.ntmps114
     go_wp2_with fail
     go_ret
     first | exact ⟨rfl,rfl⟩ | (refine ⟨?_,rfl⟩; simp [*]; done) | (refine ⟨?_,rfl⟩; simp; omega)
 ·have hs:=hide (pSamples_any c w)
  by_cases h8 : d = 8
  ·have e : pgMay c d = decide (0 < smpV c):=by unfold pgMay; rw [if_neg h,if_pos h8]
   rw [e]
   clear e h
   subst h8
   have hn:=smpV_nn c
   generalize smpV c = s at *
   by_cases hp : 0 < s
   ·rw [show decide (0 < s) = true from decide_eq_true hp]
    go_enter Tryz.func114,Tryz.ntmps114
    go_wp2_with (go_at_call 11; refine (hs.out).mono ?_; rintro e w' ⟨rfl,rfl⟩)
    go_ret
    first | exact ⟨rfl,rfl⟩ | (refine ⟨?_,rfl⟩; simp [*]; done) | (refine ⟨?_,rfl⟩; simp; omega)
   ·rw [show decide (0 < s) = false from decide_eq_false hp]
    go_enter Tryz.func114,Tryz.ntmps114
    go_wp2_with (go_at_call 11; refine (hs.out).mono ?_; rintro e w' ⟨rfl,rfl⟩)
    go_ret
    first | exact ⟨rfl,rfl⟩ | (refine ⟨?_,rfl⟩; simp [*]; done) | (refine ⟨?_,rfl⟩; simp; omega)
  ·by_cases h16 : d = 16
   ·have e : pgMay c d = decide (0 < smpV c /\ c ≠ 3):=by unfold pgMay; rw [if_neg h,if_neg h8,if_pos h16]
    rw [e]
    clear e h h8
    subst h16
    have hn:=smpV_nn c
    generalize smpV c = s at *
    by_cases hp : 0 < s
    ·by_cases h3 : c = 3
     ·rw [show decide (0 < s /\ c ≠ 3) = false from decide_eq_false (fun h=>h.2 h3)]
      subst h3
      go_enter Tryz.func114,Tryz.ntmps114
      go_wp2_with (go_at_call 11; refine (hs.out).mono ?_; rintro e w' ⟨rfl,rfl⟩)
      go_ret
      first | exact ⟨rfl,rfl⟩ | (refine ⟨?_,rfl⟩; simp [*]; done) | (refine ⟨?_,rfl⟩; simp; omega)
     ·rw [show decide (0 < s /\ c ≠ 3) = true from decide_eq_true ⟨hp,h3⟩]
      go_enter Tryz.func114,Tryz.ntmps114
      go_wp2_with (go_at_call 11; refine (hs.out).mono ?_; rintro e w' ⟨rfl,rfl⟩)
      go_ret
      first | exact ⟨rfl,rfl⟩ | (refine ⟨?_,rfl⟩; simp [*]; done) | (refine ⟨?_,rfl⟩; simp; omega)
    ·rw [show decide (0 < s /\ c ≠ 3) = false from decide_eq_false (fun h=>hp h.1)]
     go_enter Tryz.func114,Tryz.ntmps114
     go_wp2_with (go_at_call 11; refine (hs.out).mono ?_; rintro e w' ⟨rfl,rfl⟩)
     go_ret
     first | exact ⟨rfl,rfl⟩ | (refine ⟨?_,rfl⟩; simp [*]; done) | (refine ⟨?_,rfl⟩; simp; omega)
   ·have e : pgMay c d = false:=by unfold pgMay; rw [if_neg h,if_neg h8,if_neg h16]
    rw [e]
    have h1 : ¬ d = 1:=by omega
    have h2 : ¬ d = 2:=by omega
    have h4 : ¬ d = 4:=by omega
    clear e h hs
    go_enter Tryz.func114,Tryz.ntmps114
    go_wp2_with fail
    go_ret
    first | exact ⟨rfl,rfl⟩ | (refine ⟨?_,rfl⟩; simp [*]; done) | (refine ⟨?_,rfl⟩; simp; omega)
def pgN (l : Int) : Nat:=if l = 0 then 1 else 7
def pgPs (l : Int) : List Value:=if l = 0 then [.int .i64 0,.int .i64 0,.int .i64 1,.int .i64 1] else pvals 7
set_option maxRecDepth 100000 in
set_option maxHeartbeats 1000000 in
theorem pgPasses_any (W H d c l : Int) (w : World) :
 Calls Tryz.prog 39 #[.agg #[.int .i64 W,.int .i64 H,.int .i64 d,.int .i64 c,.int .i64 l]] w fun e w'=>∃ v,e = .returned v /\ w'.ownsRow w.heap.size 47 4 v (pgN l) (pgPs l) /\ Only [] w w':=by
 have ho:=(Only.refl [] w).alloc (.cells #[.int .i64 W,.int .i64 H,.int .i64 d,.int .i64 c,.int .i64 l] 36)
 by_cases h : l = 0
 ·rw [show pgN l = 1 from if_pos h,show pgPs l = _ from if_pos h]
  subst h
  have h4:=own4 (w.alloc (.cells #[.int .i64 W,.int .i64 H,.int .i64 d,.int .i64 c,.int .i64 0] 36)) 0 0 1 1
  rw [World.size_alloc] at h4
  have HH:=hide (aI ho h4)
  clear ho h4
  go_enter Tryz.func39,Tryz.ntmps39
  go_wp2_with fail
  go_ret
  exact ⟨_,rfl,own_mono HH.out.2 (Nat.le_succ _),HH.out.1.alloc _⟩
 ·rw [show pgN l = 7 from if_neg h,show pgPs l = _ from if_neg h]
  have hp:=passes_any (w.alloc (.cells #[.int .i64 W,.int .i64 H,.int .i64 d,.int .i64 c,.int .i64 l] 36))
  have HH:=hide (aI ho hp)
  clear ho hp
  go_enter Tryz.func39,Tryz.ntmps39
  go_wp2_with fail
  refine (HH.out.2).mono ?_
  rintro e w1 ⟨v,rfl,h1,h2⟩
  have H1:=hide (aI h1 h2)
  clear h1 h2
  go_wp2_with fail
  go_ret
  exact ⟨_,rfl,own_mono H1.out.1 HH.out.1.size,HH.out.1.trans H1.out.2 (by simp)⟩
set_option maxRecDepth 100000 in
set_option maxHeartbeats 1000000 in
theorem pgStep_any (W H d c l : Int) (w : World) :
 Calls Tryz.prog 37 #[.agg #[.int .i64 W,.int .i64 H,.int .i64 d,.int .i64 c,.int .i64 l]] w fun e w'=>e = .returned (.int .i64 (rowI 1 (smpV c) d)) /\ Only [] w w':=by
 have hz:=Has.new w 36 #[.int .i64 W,.int .i64 H,.int .i64 d,.int .i64 c,.int .i64 l]
 have HO:=hide ((Only.refl [] w).alloc (.cells #[.int .i64 W,.int .i64 H,.int .i64 d,.int .i64 c,.int .i64 l] 36))
 have hs:=hide (fun w=>(pSamples_any c w).mono (R':=fun e w'=>e = .returned (.int .i64 (smpV c)) /\ Only [] w w') fun e w' h=>⟨h.1,by rw [h.2]; exact Only.refl [] w⟩)
 have hr:=hide (fun w=>(row_len 1 (smpV c) d w).mono (R':=fun e w'=>e = .returned (.int .i64 (rowI 1 (smpV c) d)) /\ Only [] w w') fun e w' h=>⟨h.1,by rw [h.2]; exact Only.refl [] w⟩)
 have d3:=later_cell (hz.cell 3)
 have d2:=later_cell (hz.cell 2)
 clear hz
 go_enter Tryz.func37,Tryz.ntmps37
 go_wp2_with fail
 refine region_later (by kernel_rfl) (by kernel_rfl) ?_
 iterate 2 (go_big_quiet_step (fail))
 go_big_quiet_step ((go_at_call 11; refine later_of (hs.out _)))
 iterate 2 (go_big_quiet_step (fail))
 go_big_quiet_step ((go_at_call 70; refine later_of (hr.out _)))
 go_big_quiet_step (fail)
 refine wpQuiet_nil ?_
 rintro _ ⟨x,rfl⟩
 go_wp2_with fail
 go_ret
 exact ⟨rfl,HO.out.trans x.only (by simp)⟩
set_option maxRecDepth 100000 in
set_option maxHeartbeats 1000000 in
theorem pgSize_any (X Y DX DY y n W H d c l : Int) (w : World) :
 Calls Tryz.prog 33 #[.agg #[.int .i64 X,.int .i64 Y,.int .i64 DX,.int .i64 DY,.int .i64 y,.int .i64 n],.agg #[.int .i64 W,.int .i64 H,.int .i64 d,.int .i64 c,.int .i64 l]] w fun e w'=>e = .returned (.int .i64 (rowI n (smpV c) d)) /\ Only [] w w':=by
 have hz0:=Has.new w 49 #[.int .i64 X,.int .i64 Y,.int .i64 DX,.int .i64 DY,.int .i64 y,.int .i64 n]
 have ho0:=(Only.refl [] w).alloc (.cells #[.int .i64 X,.int .i64 Y,.int .i64 DX,.int .i64 DY,.int .i64 y,.int .i64 n] 49)
 have hz:=Has.new (w.alloc (.cells #[.int .i64 X,.int .i64 Y,.int .i64 DX,.int .i64 DY,.int .i64 y,.int .i64 n] 49)) 36 #[.int .i64 W,.int .i64 H,.int .i64 d,.int .i64 c,.int .i64 l]
 have hz1:=hz0.only ((Only.refl [] _).alloc (.cells #[.int .i64 W,.int .i64 H,.int .i64 d,.int .i64 c,.int .i64 l] 36)) (by simp)
 have HO:=hide (ho0.alloc (.cells #[.int .i64 W,.int .i64 H,.int .i64 d,.int .i64 c,.int .i64 l] 36))
 have hs:=hide (fun w=>(pSamples_any c w).mono (R':=fun e w'=>e = .returned (.int .i64 (smpV c)) /\ Only [] w w') fun e w' h=>⟨h.1,by rw [h.2]; exact Only.refl [] w⟩)
 have hr:=hide (fun w=>(row_len n (smpV c) d w).mono (R':=fun e w'=>e = .returned (.int .i64 (rowI n (smpV c) d)) /\ Only [] w w') fun e w' h=>⟨h.1,by rw [h.2]; exact Only.refl [] w⟩)
 rw [World.size_alloc] at hz
 have d3:=later_cell (hz.cell 3)
 have d2:=later_cell (hz.cell 2)
 have d5:=later_cell (hz1.cell 5)
 clear hz hz0 hz1 ho0
 go_enter Tryz.func33,Tryz.ntmps33
 go_wp2_with fail
 refine region_later (by kernel_rfl) (by kernel_rfl) ?_
 iterate 4 (go_big_quiet_step (fail))
 go_big_quiet_step ((go_at_call 11; refine later_of (hs.out _)))
 iterate 2 (go_big_quiet_step (fail))
 go_big_quiet_step ((go_at_call 70; refine later_of (hr.out _)))
 go_big_quiet_step (fail)
 refine wpQuiet_nil ?_
 rintro _ ⟨x,rfl⟩
 go_wp2_with fail
 go_ret
 exact ⟨rfl,HO.out.trans x.only (by simp)⟩
end Go.Proofs.YtjfjmkkkbcgohaaGreatDoor
namespace Go.Proofs.YtjfjmkkkbcgohaaGreatDoor
open Go Go.RowKit Go.Shelf
attribute [local go_sem] Oper.semAt_some
structure Rw where
 X : Int
 Y : Int
 DX : Int
 DY : Int
 y : Nat
 w : Int
def Rw.val (r : Rw) : Value:=.agg #[.int .i64 r.X,.int .i64 r.Y,.int .i64 r.DX,.int .i64 r.DY,.int .i64 (r.y : Int),.int .i64 r.w]
def psX (l : Int) (i : Nat) : Int:=if l = 0 then 0 else adX i
def psY (l : Int) (i : Nat) : Int:=if l = 0 then 0 else adY i
def psDX (l : Int) (i : Nat) : Int:=if l = 0 then 1 else adW i
def psDY (l : Int) (i : Nat) : Int:=if l = 0 then 1 else adH i
def psW (W H l : Int) (i : Nat) : Int:=sizeW (psX l i) (psY l i) (psDX l i) (psDY l i) W H
def psH (W H l : Int) (i : Nat) : Nat:=(sizeH (psX l i) (psY l i) (psDX l i) (psDY l i) W H).toNat
def rowOf (W H l : Int) (i m : Nat) : Rw:=⟨psX l i,psY l i,psDX l i,psDY l i,m,psW W H l i⟩
def rowsP (W H l : Int) (i : Nat) : List Rw:=(List.range (psH W H l i)).map (rowOf W H l i)
def rowsTo (W H l : Int) (k : Nat) : List Rw:=(List.range k).flatMap (rowsP W H l)
def rowsL (W H l : Int) : List Rw:=rowsTo W H l (pgN l)
theorem rowsTo_succ (W H l : Int) (k : Nat) : rowsTo W H l (k + 1) = rowsTo W H l k ++ rowsP W H l k:=by simp [rowsTo,List.range_succ]
theorem rowsP_length (W H l : Int) (i : Nat) : (rowsP W H l i).length = psH W H l i:=by simp [rowsP]
theorem rowsP_take (W H l : Int) (i m : Nat) (h : m < psH W H l i) : (rowsP W H l i).take (m + 1) = (rowsP W H l i).take m ++ [rowOf W H l i m]:=by
 rw [List.take_succ_eq_append_getElem (by rw [rowsP_length]; exact h)]
 simp [rowsP]
theorem rowsTo_front (W H l : Int) {k n : Nat} (h : k <= n) : rowsTo W H l k <+: rowsTo W H l n:=by
 obtain ⟨d,rfl⟩:=Nat.exists_eq_add_of_le h
 induction d with
 | zero=>exact List.prefix_refl _
 | succ d ih=>exact (ih (by omega)).trans ⟨rowsP W H l (k + d),by rw [<- rowsTo_succ]; rfl⟩
theorem rows_front (W H l : Int) {k m : Nat} (hk : k < pgN l) : rowsTo W H l k ++ (rowsP W H l k).take m <+: rowsL W H l:=by
 have h1 : rowsTo W H l k ++ (rowsP W H l k).take m <+: rowsTo W H l (k + 1):=by
  rw [rowsTo_succ]
  exact List.prefix_append_right_inj _ |>.2 (List.take_prefix _ _)
 exact h1.trans (rowsTo_front W H l hk)
theorem ps_small (l : Int) (i : Nat) : psX l i <= 8 /\ psY l i <= 8 /\ psDX l i <= 8 /\ psDY l i <= 8:=by
 unfold psX psY psDX psDY adX adY adW adH
 refine ⟨?_,?_,?_,?_⟩ <;> (repeat' split) <;> omega
theorem pvals_get (k : Nat) : ∀ i,i < k -> ∀ j,j < 4 -> (pvals k)[i * 4 + j]? = (passV i)[j]?:=by
 induction k with
 | zero=>intro i hi; omega
 | succ k ih =>
   intro i hi j hj
   rw [pvals]
   by_cases h : i < k
   ·rw [List.getElem?_append_left (by rw [pvals_length]; omega)]
    exact ih i h j hj
   ·obtain rfl : i = k:=by omega
    rw [List.getElem?_append_right (by rw [pvals_length]; omega),pvals_length]
    congr 1
    omega
theorem pgPs_get (l : Int) (i : Nat) (hi : i < pgN l) : (pgPs l)[i * 4]? = some (.int .i64 (psX l i)) /\ (pgPs l)[i * 4 + 1]? = some (.int .i64 (psY l i)) /\ (pgPs l)[i * 4 + 2]? = some (.int .i64 (psDX l i)) /\ (pgPs l)[i * 4 + 3]? = some (.int .i64 (psDY l i)):=by
 unfold pgPs psX psY psDX psDY
 by_cases h : l = 0
 ·have : i = 0:=by unfold pgN at hi; rw [if_pos h] at hi; omega
  subst this
  simp [h]
 ·have h7 : i < 7:=by unfold pgN at hi; rw [if_neg h] at hi; exact hi
  simp only [if_neg h]
  exact ⟨pvals_get 7 i h7 0 (by omega),pvals_get 7 i h7 1 (by omega),pvals_get 7 i h7 2 (by omega),pvals_get 7 i h7 3 (by omega)⟩
def RowsK (W W' : World) : Prop:=∀ g cs t,(t = 47 \/ t = 36) -> Has W g t cs -> Has W' g t cs
theorem RowsK.trans {A B C : World} (h : RowsK A B) (k : RowsK B C) : RowsK A C:=fun g cs t ht hh=>k g cs t ht (h g cs t ht hh)
theorem RowsK.put (W : World) (l : Nat) (o o' : Obj) (h : W.heap[l]? = some o) (ho : o.isCells = false) : RowsK W (W.putObj l o'):=fun g cs t _ hh=>by
 unfold Has at hh ⊢
 rw [World.putObj_heap_other (fun e=>?_)]
 ·exact hh
 ·subst e
  rw [hh] at h
  injection h with h
  subst h
  cases ho
theorem RowsK.only {S : List Nat} {W W' : World} (h : Only S W W') (hS : ∀ g,g ∈ S -> ∃ cs t,Has W g t cs /\ t ≠ 47 /\ t ≠ 36) : RowsK W W':=fun g cs t ht hh=>hh.only h fun hm=>by
 obtain ⟨cs',t',h1,h2,h3⟩:=hS g hm
 unfold Has at hh h1
 rw [hh] at h1
 injection h1 with h1
 injection h1 with _ h1
 subst h1
 rcases ht with rfl | rfl
 ·exact h2 rfl
 ·exact h3 rfl
theorem Only.grow {W W' : World} (h : Only [] W W') : W.grownBy W' none:=⟨h.os,h.tape,h.output,h.size,fun k hk _=>h.block k hk (by simp)⟩
theorem abides_only {α : Type} {B : Nat} {J : List α -> World -> Prop} (hJ : AbidesFrom B J) {s : List α} {W W' : World} (h : J s W) (ho : Only [] W W') : J s W':=hJ s W W' none h ho.grow (fun r e=>by cases e)
theorem psH_int (W H l : Int) (i : Nat) : sizeH (psX l i) (psY l i) (psDX l i) (psDY l i) W H = ((psH W H l i : Nat) : Int):=by
 unfold psH
 have:=(size_range (psX l i) (psY l i) (psDX l i) (psDY l i) W H).2.1
 omega
theorem pgN_pos (l : Int) : 0 < pgN l /\ pgN l <= 7:=by unfold pgN; split <;> omega
theorem psH_le (W H l : Int) (i : Nat) : psH W H l i <= 16384:=by
 unfold psH
 have:=(size_range (psX l i) (psY l i) (psDX l i) (psDY l i) W H).2.2
 omega
structure RiSt (g0 gp : Nat) (W H d c l : Int) (cur : Array Value) (wr : World) : Prop where
 head : Has wr g0 36 #[.int .i64 W,.int .i64 H,.int .i64 d,.int .i64 c,.int .i64 l]
 ps : Has wr gp 47 cur
 get : ∀ (j : Nat) (u : Value),(pgPs l)[j]? = some u -> cur[j]? = some u
theorem RiSt.keep {g0 gp : Nat} {W H d c l : Int} {cur : Array Value} {wr w' : World} (S : RiSt g0 gp W H d c l cur wr) (h : RowsK wr w') : RiSt g0 gp W H d c l cur w' :=
 ⟨h _ _ _ (.inr rfl) S.head,h _ _ _ (.inl rfl) S.ps,S.get⟩
theorem RiSt.only {g0 gp : Nat} {W H d c l : Int} {cur : Array Value} {wr w' : World} (S : RiSt g0 gp W H d c l cur wr) (h : Only [] wr w') : RiSt g0 gp W H d c l cur w' :=
 ⟨S.head.only h (by simp),S.ps.only h (by simp),S.get⟩
theorem own_has {w : World} {base e size n c : Nat} {A : Option Addr} {xs : List Value} (h : w.ownsRow base e size (.slice A n c) n xs) (hn : 0 < n) :
 ∃ g cur,A = some ⟨g,0,none⟩ /\ base <= g /\ Has w g e cur /\ ∀ (j : Nat) (u : Value),xs[j]? = some u -> cur[j]? = some u:=by
 rcases h.2 with ⟨_,h0⟩ | ⟨g,cap,cur,hv,hb,hg,_,_,_,h4⟩
 ·omega
 ·injection hv with hA
  subst hA
  refine ⟨g,cur,rfl,hb,hg,fun j u hu=>?_⟩
  rw [<- h4,List.getElem?_take] at hu
  split at hu
  ·rwa [Array.getElem?_toList] at hu
  ·cases hu
set_option maxRecDepth 100000 in
set_option maxHeartbeats 8000000 in
theorem rows_pre (W H d c l : Int) (g0 : Nat) (w : World) (hh : Has w g0 36 #[.int .i64 W,.int .i64 H,.int .i64 d,.int .i64 c,.int .i64 l]) :
 SeqPre Tryz.prog 38 #[.pointer (some ⟨g0,0,none⟩)] (rowsL W H l) Rw.val RowsK w:=fun la J Jx W1 hW hJ hJx hY h0=>by
 have hH : Has W1 g0 36 #[.int .i64 W,.int .i64 H,.int .i64 d,.int .i64 c,.int .i64 l]:=(hW.block g0 hh.lt).trans hh
 have q0:=hH.cell 0
 have q1:=hH.cell 1
 have q2:=hH.cell 2
 have q3:=hH.cell 3
 have q4:=hH.cell 4
 simp only [List.getElem?_toArray,List.getElem?_cons_zero,List.getElem?_cons_succ] at q0 q1 q2 q3 q4
 have HP:=hide (pgPasses_any W H d c l W1)
 have HH:=hide (aI hH h0)
 have HJ:=hide (aI hJ (aI hJx hY))
 clear hJ hJx hY hH h0 hh hW
 refine callsIn_of_wp Tryz.func38 rfl trivial ?_ rfl
 simp only [Tryz.ntmps38,List.size_toArray,List.length_cons,List.length_nil,Nat.reduceAdd,Nat.reduceSub,Array.replicate_succ,Array.replicate_zero,List.push_toArray,List.append_toArray,List.nil_append,List.cons_append]
 gi_wp2_with (refine ⟨trivial,?_⟩; gi_at_call 39; refine (callsIn_wide.2 HP.out).mono ?_; rintro e w' ⟨v,rfl,hown,ho⟩; obtain ⟨Ap,cp,rfl,_,_⟩:=own_shape hown; have HO:=hide (aI hown ho); clear hown ho)
 obtain ⟨gp,cur,rfl,_,hgp,hget⟩:=own_has HO.out.1 (pgN_pos l).1
 have S0 : RiSt g0 gp W H d c l cur w':=⟨HH.out.1.only HO.out.2 (by simp),hgp,hget⟩
 have J0 : J [] w':=abides_only HJ.out.1 HH.out.2 HO.out.2
 have HS0:=hide (aI S0 J0)
 have hN7:=(pgN_pos l).2
 clear S0 J0 hgp hget HP q0 q1 q2 q3 q4
 gi_loopw [11] (fun i wr=>∃ k : Nat,k <= pgN l /\ i = .int .i64 (k : Int) /\ J (rowsTo W H l k) wr /\ RiSt g0 gp W H d c l cur wr) (fun i _=>pgN l - (intOf i).toNat)
 case atStart=>exact ⟨0,Nat.zero_le _,rfl,HS0.out.2,HS0.out.1⟩
 case round =>
  obtain ⟨k,hk,rfl,hJk,S⟩:=hrel
  obtain ⟨wo,hwo⟩ : ∃ wo,wo = wr:=⟨_,rfl⟩
  subst hwo
  by_cases hlt : k < pgN l
  ·have hlt' : (k : Int) < ((pgN l : Nat) : Int):=by omega
   obtain ⟨r0,r1,r2,r3⟩:=pgPs_get l k hlt
   have c0:=(S.ps.cell (k * 4)).trans (S.get _ _ r0)
   have c1:=(S.ps.cell (k * 4 + 1)).trans (S.get _ _ r1)
   have c2:=(S.ps.cell (k * 4 + 2)).trans (S.get _ _ r2)
   have c3:=(S.ps.cell (k * 4 + 3)).trans (S.get _ _ r3)
   obtain ⟨s0,s1,s2,s3⟩:=ps_small l k
   have HZ:=hide (fun w=>size_any (psX l k) (psY l k) (psDX l k) (psDY l k) W H w (by omega) (by omega) (by omega) (by omega))
   have hH1:=S.head.alloc (.cells #[.int .i64 (psX l k),.int .i64 (psY l k),.int .i64 (psDX l k),.int .i64 (psDY l k)] 47)
   have d0:=hH1.cell 0
   have d1:=hH1.cell 1
   simp only [List.getElem?_toArray,List.getElem?_cons_zero,List.getElem?_cons_succ] at d0 d1
   have hsh:=psH_int W H l k
   have hsl:=psH_le W H l k
   have HS:=hide (aI S (aI hJk hsh))
   clear S hJk r0 r1 r2 r3 s0 s1 s2 s3 hH1 hsh
   gi_wp2_with (refine ⟨trivial,?_⟩; gi_at_call 40; refine (callsIn_wide.2 (HZ.out _)).mono ?_; rintro e w2 ⟨rfl,ho2⟩; rw [HS.out.2.2]; have HO2:=hide ho2; clear ho2)
   have hbx:=((Has.new wo 47 #[.int .i64 (psX l k),.int .i64 (psY l k),.int .i64 (psDX l k),.int .i64 (psDY l k)]).only HO2.out (by simp))
   have oA : Only [] wo w2:=((Only.refl [] wo).alloc _).trans HO2.out (by simp)
   have HI:=hide (aI hbx (aI (HS.out.1.only oA) (abides_only HJ.out.1 HS.out.2.1 oA)))
   clear hbx oA c0 c1 c2 c3 d0 d1 HZ
   gi_loopw [25] (fun i wr=>∃ m : Nat,m <= psH W H l k /\ i = .int .i64 (m : Int) /\ J (rowsTo W H l k ++ (rowsP W H l k).take m) wr /\ RiSt g0 gp W H d c l cur wr /\ Has wr wo.heap.size 47 #[.int .i64 (psX l k),.int .i64 (psY l k),.int .i64 (psDX l k),.int .i64 (psDY l k)]) (fun i _=>psH W H l k - (intOf i).toNat)
   case atStart=>exact ⟨0,Nat.zero_le _,rfl,by rw [List.take_zero,List.append_nil]; exact HI.out.2.2,HI.out.2.1,HI.out.1⟩
   case round =>
    obtain ⟨m,hm,rfl,hJm,S2,hb2⟩:=hrel
    by_cases hmt : m < psH W H l k
    ·have hmt' : (m : Int) < ((psH W H l k : Nat) : Int):=by omega
     have hpre:=rows_front W H l (m:=m + 1) hlt
     rw [rowsP_take W H l k m hmt,<- List.append_assoc] at hpre
     obtain ⟨fn,tmps,assign,body,hy,hR⟩:=HJ.out.2.2 _ (rowOf W H l k m) wr hJm hpre
     dsimp only [Rw.val,rowOf,psW] at hy
     have e0:=hb2.cell 0
     have e1:=hb2.cell 1
     have e2:=hb2.cell 2
     have e3:=hb2.cell 3
     simp only [List.getElem?_toArray,List.getElem?_cons_zero,List.getElem?_cons_succ] at e0 e1 e2 e3
     have HR:=hide hR
     have HS2:=hide (aI S2 hb2)
     have HPre:=hide hpre
     clear hR S2 hb2 hJm hpre
     gi_wp2
     refine (HR.out).mono ?_
     rintro e w4 (⟨rfl,hJ4,hK4⟩ | ⟨rfl,hJ4⟩)
     ·have hb4:=hK4 _ _ _ (.inl rfl) HS2.out.2
      have H4:=hide (aI hJ4 (aI (HS2.out.1.keep hK4) hb4))
      clear hJ4 hK4 hb4
      gi_wp2
      go_roundw
      case rel=>exact ⟨m + 1,hmt,by go_num,by rw [rowsP_take W H l k m hmt,<- List.append_assoc]; exact H4.out.1,H4.out.2.1,H4.out.2.2⟩
      case measure=>simp [intOf]; omega
     ·have H4:=hide hJ4
      clear hJ4
      gi_wp2
      refine bodyPost_ret (results_none rfl _ _ _) rfl ?_
      exact ⟨⟨_,rfl⟩,.inr ⟨_,HPre.out,H4.out⟩⟩
    ·obtain rfl : m = psH W H l k:=by omega
     have hmt' : ¬ ((psH W H l k : Nat) : Int) < ((psH W H l k : Nat) : Int):=by omega
     have H4:=hide (aI hJm S2)
     clear hJm S2 hb2
     gi_wp2
     go_roundw
     case rel =>
      refine ⟨k + 1,hlt,by go_num,?_,H4.out.2⟩
      have:=H4.out.1
      rw [List.take_of_length_le (by rw [rowsP_length]; exact Nat.le_refl _)] at this
      rw [rowsTo_succ]
      exact this
     case measure=>simp [intOf]; omega
  ·obtain rfl : k = pgN l:=by omega
   have hlt' : ¬ ((pgN l : Nat) : Int) < ((pgN l : Nat) : Int):=by omega
   have H4:=hide hJk
   clear hJk S
   gi_wp2
   go_end0
   exact ⟨⟨_,rfl⟩,.inl H4.out⟩
end Go.Proofs.YtjfjmkkkbcgohaaGreatDoor
namespace Go.Proofs.YtjfjmkkkbcgohaaGreatDoor
open Go Go.RowKit
set_option maxHeartbeats 400000 in
theorem lowest_any (v : Int) (V n : Nat) (w : World) (hV : v = V) (hv : V < 18446744073709551616) (hn : n <= 32) :
 Calls Tryz.prog 124 #[.int .u64 v,.int .i64 n] w fun e w'=>e = .returned (.int .u64 ((V % 2 ^ n : Nat) : Int)) /\ w = w':=by
 subst hV
 go_enter Tryz.func124,Tryz.ntmps124
 go_wp2
 go_ret
 exact ⟨ret_int (u64_low V n hv hn),rfl⟩
set_option maxHeartbeats 400000 in
theorem at_any (g : Nat) (v : Value) (k : Int) (w : World) (h : Has w g 250 #[v,.int .i64 k]) :
 Calls Tryz.prog 163 #[.pointer (some ⟨g,0,none⟩)] w fun e w'=>e = .returned (.int .i64 k) /\ w = w':=by
 have c1 : w.cell? ⟨g,1,none⟩ = some (.int .i64 k):=h.cell 1
 have c0 : w.cell? ⟨g,0,none⟩ = some v:=h.cell 0
 clear h
 go_enter Tryz.func163,Tryz.ntmps163
 go_wp2
 go_ret
 exact ⟨rfl,rfl⟩
set_option maxHeartbeats 400000 in
theorem left_any (g n c : Nat) (A : Option Addr) (k : Nat) (w : World) (h : Has w g 250 #[.slice A n c,.int .i64 k]) (hn : n <= 140737488355328) (hk : k <= 8 * n) :
 Calls Tryz.prog 166 #[.pointer (some ⟨g,0,none⟩)] w fun e w'=>e = .returned (.int .i64 ((8 * n - k : Nat) : Int)) /\ ∃ m,w' = w.drewN m:=by
 have c1 : w.cell? ⟨g,1,none⟩ = some (.int .i64 (k : Int)):=h.cell 1
 have c0 : w.cell? ⟨g,0,none⟩ = some (.slice A n c):=h.cell 0
 clear h
 go_enter Tryz.func166,Tryz.ntmps166
 go_wp2
 go_quiet (fail)
 go_wp2
 go_ret
 exact ⟨ret_int (by omega),_,rfl⟩
set_option maxHeartbeats 400000 in
theorem peek_no (g len c : Nat) (A : Option Addr) (k : Nat) (n : Int) (w : World) (h : Has w g 250 #[.slice A len c,.int .i64 k]) (hl : len <= 140737488355328) (hk : k <= 8 * len)
 (hn : n < 0 \/ 32 < n \/ (8 * len - k : Nat) < n) :
 Calls Tryz.prog 164 #[.pointer (some ⟨g,0,none⟩),.int .i64 n] w fun e w'=>e = .returned (.tuple #[.int .u32 0,.bool false]) /\ ∃ m,w' = w.drewN m:=by
 by_cases h1 : n < 0
 ·go_enter Tryz.func164,Tryz.ntmps164
  go_wp2
  go_ret2
  exact ⟨rfl,0,rfl⟩
 ·by_cases h2 : 32 < n
  ·go_enter Tryz.func164,Tryz.ntmps164
   go_wp2
   go_ret2
   exact ⟨rfl,0,rfl⟩
  ·have h3 : ((8 * len - k : Nat) : Int) < n:=by omega
   go_enter Tryz.func164,Tryz.ntmps164
   go_wp2_with fail
   refine (left_any g len c A k _ h hl hk).mono ?_
   rintro e w' ⟨rfl,m,rfl⟩
   go_wp2
   go_ret2
   exact ⟨rfl,m,rfl⟩
set_option maxHeartbeats 1000000 in
theorem peek_yes (g len c gb off : Nat) (l : List UInt8) (k n : Nat) (w : World) (h : Has w g 250 #[.slice (some ⟨gb,off,none⟩) len c,.int .i64 k])
 (hlen : l.length = len) (hl : len <= 140737488355328) (hc : len <= c)
 (hcell : ∀ i,(hi : i < l.length) -> w.cell? ⟨gb,off + i,none⟩ = some (.int .u8 (l[i].toNat : Int)))
 (hn : n <= 32) (hk : k + n <= 8 * len) (hz : ¬ (k + n + 7) / 8 = k / 8) :
 Calls Tryz.prog 164 #[.pointer (some ⟨g,0,none⟩),.int .i64 n] w fun e w' =>
  e = .returned (.tuple #[.int .u32 (bitsOf (num l) k n : Nat),.bool true]) /\ ∃ m,w' = w.drewN m:=by
 have c1 : w.cell? ⟨g,1,none⟩ = some (.int .i64 (k : Int)):=h.cell 1
 have c0 : w.cell? ⟨g,0,none⟩ = some (.slice (some ⟨gb,off,none⟩) len c):=h.cell 0
 have h3 : ¬ ((8 * len - k : Nat) : Int) < n:=by omega
 clear h3
 go_enter Tryz.func164,Tryz.ntmps164
 go_wp2_with fail
 refine (left_any g len c _ k _ h hl (by omega)).mono ?_
 rintro e w' ⟨rfl,m,rfl⟩
 go_wp2
 go_quiet (fail)
 go_wp2
 go_loop [8,9,10,45] (fun v _ _ i=>∃ j : Nat,j <= (k + n + 7) / 8 - k / 8 /\ i = .int .i64 j /\ v = .int .u64 (num ((l.drop (k / 8)).take j) : Nat)) (fun _ _ _ i=>(k + n + 7) / 8 - k / 8 - (intOf i).toNat)
 case atStart=>exact ⟨0,Nat.zero_le _,rfl,rfl⟩
 case round =>
  obtain ⟨j,hj,rfl,rfl⟩:=hrel
  by_cases hlt : j < (k + n + 7) / 8 - k / 8
  ·have hce : w.cell? ⟨gb,off + k / 8 + j,none⟩ = some (.int .u8 ((l[k / 8 + j]'(by omega)).toNat : Int)):=by
    rw [Nat.add_assoc]; exact hcell _ (by omega)
   have hst:=u64_byte (l.drop (k / 8)) j (by omega) (by rw [List.length_drop]; omega)
   rw [List.getElem_drop] at hst
   have Hst:=hide hst
   clear hst
   go_wp2
   go_round
   case rel=>exact ⟨j + 1,hlt,by go_num,by rw [Hst.out]⟩
   case measure=>simp [intOf]; omega
  ·obtain rfl : j = (k + n + 7) / 8 - k / 8:=by omega
   clear hlt
   have e7 : bits BinOp.and IntKind.i64 (k : Int) 7 = ((k % 8 : Nat) : Int):=by rw [i64_and7]; rfl
   have hb:=num_lt ((l.drop (k / 8)).take ((k + n + 7) / 8 - k / 8))
   have hl5 : ((l.drop (k / 8)).take ((k + n + 7) / 8 - k / 8)).length <= 5:=by rw [List.length_take]; omega
   have hb5 : num ((l.drop (k / 8)).take ((k + n + 7) / 8 - k / 8)) < 1099511627776 :=
    Nat.lt_of_lt_of_le hb (by rw [pow_256]; exact pow_le40 (by omega))
   have hd:=Nat.div_le_self (num ((l.drop (k / 8)).take ((k + n + 7) / 8 - k / 8))) (2 ^ (k % 8))
   obtain ⟨X,hX⟩ : ∃ X,X = bitsOf (num l) k n:=⟨_,rfl⟩
   have hlt : X < 4294967296:=by rw [hX]; exact bitsOf_lt32 _ _ _ hn
   have hcut : num ((l.drop (k / 8)).take ((k + n + 7) / 8 - k / 8)) / 2 ^ (k % 8) % 2 ^ n = X:=by
    rw [hX]; exact bitsOf_cut l k n (k / 8) ((k + n + 7) / 8) rfl rfl
   have HX:=hide hX
   clear hX
   generalize num ((l.drop (k / 8)).take ((k + n + 7) / 8 - k / 8)) = V at *
   have Hcut:=hide hcut
   clear hcut hb hl5
   go_wp2_with fail
   refine (lowest_any _ (V / 2 ^ (k % 8)) n _ (by simp) (by omega) hn).mono ?_
   rintro e w' ⟨rfl,rfl⟩
   rw [Hcut.out]
   go_wp2
   go_ret2
   exact ⟨ret_int_bool (by rw [HX.out]) rfl,_,rfl⟩
set_option maxHeartbeats 1000000 in
theorem peek_zero (g len c : Nat) (A : Option Addr) (k : Nat) (w : World) (h : Has w g 250 #[.slice A len c,.int .i64 k])
 (hl : len <= 140737488355328) (hc : len <= c) (hA : A = none -> c = 0) (hk : k <= 8 * len) (h8 : k % 8 = 0) :
 Calls Tryz.prog 164 #[.pointer (some ⟨g,0,none⟩),.int .i64 0] w fun e w' =>
  e = .returned (.tuple #[.int .u32 0,.bool true]) /\ ∃ m,w' = w.drewN m:=by
 have c1 : w.cell? ⟨g,1,none⟩ = some (.int .i64 (k : Int)):=h.cell 1
 have c0 : w.cell? ⟨g,0,none⟩ = some (.slice A len c):=h.cell 0
 have hz : (k + 7) / 8 = k / 8:=by omega
 have e7 : bits BinOp.and IntKind.i64 (k : Int) 7 = 0:=by rw [i64_and7]; omega
 rcases A with _ | ad
 ·obtain rfl:=hA rfl
  obtain rfl : len = 0:=by omega
  obtain rfl : k = 0:=by omega
  clear hA e7
  have e7 : bits BinOp.and IntKind.i64 0 7 = 0:=i64_and7 0
  go_enter Tryz.func164,Tryz.ntmps164
  go_wp2_with fail
  refine (left_any g 0 0 none 0 _ h hl (by omega)).mono ?_
  rintro e w' ⟨rfl,m,rfl⟩
  go_wp2
  go_quiet (fail)
  go_wp2
  go_loop [8,9,10,45] (fun v _ _ i=>v = .int .u64 0 /\ i = .int .i64 0) (fun _ _ _ _=>0)
  case atStart=>exact ⟨rfl,rfl⟩
  case round =>
   obtain ⟨rfl,rfl⟩:=hrel
   go_wp2_with fail
   refine (lowest_any _ 0 0 _ (by simp) (by omega) (by omega)).mono ?_
   rintro e w' ⟨rfl,rfl⟩
   go_wp2
   go_ret2
   exact ⟨rfl,_,rfl⟩
 ·clear hA
  go_enter Tryz.func164,Tryz.ntmps164
  go_wp2_with fail
  refine (left_any g len c (some ad) k _ h hl (by omega)).mono ?_
  rintro e w' ⟨rfl,m,rfl⟩
  go_wp2
  go_quiet (fail)
  go_wp2
  go_loop [8,9,10,45] (fun v _ _ i=>v = .int .u64 0 /\ i = .int .i64 0) (fun _ _ _ _=>0)
  case atStart=>exact ⟨rfl,rfl⟩
  case round =>
   obtain ⟨rfl,rfl⟩:=hrel
   go_wp2_with fail
   refine (lowest_any _ 0 0 _ (by simp) (by omega) (by omega)).mono ?_
   rintro e w' ⟨rfl,rfl⟩
   go_wp2
   go_ret2
   exact ⟨rfl,_,rfl⟩
def Rd (w : World) (g : Nat) (v : Value) (l : List UInt8) (k : Nat) : Prop :=
 Has w g 250 #[v,.int .i64 k] /\ w.ownsRow 0 5 1 v l.length (bvals l) /\ l.length <= 140737488355328 /\ k <= 8 * l.length
theorem own_cells {w : World} {base e c n : Nat} {A : Option Addr} {l : List UInt8} (h : w.ownsRow base e 1 (.slice A n c) n (bvals l)) {i : Nat} (hi : i < l.length) :
 ∃ gb,A = some ⟨gb,0,none⟩ /\ ∀ j,(hj : j < l.length) -> w.cell? ⟨gb,0 + j,none⟩ = some (.int .u8 (l[j].toNat : Int)):=by
 rcases h.2 with ⟨hv,rfl⟩ | ⟨g,cap,cur,hv,hb,hg,hc,hm,hs,ht⟩
 ·have:=h.1; rw [bvals_length] at this; omega
 ·injection hv with hA hn hcap
  subst hA
  refine ⟨g,rfl,fun j hj=>?_⟩
  rw [cell_of_row w g (0 + j) cur e (0,0) hg]
  have hl:=h.1; rw [bvals_length] at hl
  have h1 : (cur.toList.take (n * 1))[j]? = (bvals l)[j]?:=by rw [ht]
  rw [List.getElem?_take_of_lt (by omega),bvals_get l j hj] at h1
  simpa using h1
theorem Rd.only {w w' : World} {g : Nat} {v : Value} {l : List UInt8} {k : Nat} {S : List Nat} (h : Rd w g v l k) (ho : Only S w w') (hg : g ∉ S) (hv : ∀ b,v.ownBlock = some b -> b ∉ S) : Rd w' g v l k:=by
 refine ⟨h.1.only ho hg,?_,h.2.2⟩
 obtain ⟨h1,h2⟩:=h.2.1
 refine ⟨h1,?_⟩
 rcases h2 with h2 | ⟨gb,cap,cur,hv',hb,hgb,r⟩
 ·exact .inl h2
 ·refine .inr ⟨gb,cap,cur,hv',hb,?_,r⟩
  have hlt : gb < w.heap.size:=Has.lt (cs:=cur) hgb
  rw [ho.block gb hlt (hv gb (by rw [hv']; rfl))]; exact hgb
def okBits (len k : Nat) (n : Int) : Bool:=decide (0 <= n /\ n <= 32 /\ n <= ((8 * len - k : Nat) : Int))
def gotBits (l : List UInt8) (k : Nat) (n : Int) : Nat:=if okBits l.length k n then bitsOf (num l) k n.toNat else 0
theorem peek_any (g : Nat) (v : Value) (l : List UInt8) (k : Nat) (n : Int) (w : World) (h : Rd w g v l k) :
 Calls Tryz.prog 164 #[.pointer (some ⟨g,0,none⟩),.int .i64 n] w fun e w' =>
  e = .returned (.tuple #[.int .u32 (gotBits l k n : Nat),.bool (okBits l.length k n)]) /\ ∃ m,w' = w.drewN m:=by
 obtain ⟨hh,hown,hl,hk⟩:=h
 obtain ⟨A,c,rfl,hc,hA⟩:=own_shape hown
 unfold gotBits
 by_cases hok : 0 <= n /\ n <= 32 /\ n <= ((8 * l.length - k : Nat) : Int)
 ·have hb : okBits l.length k n = true:=by simp only [okBits,decide_eq_true_eq]; exact hok
  rw [hb,if_pos rfl]
  obtain ⟨h0,h1,h2⟩:=hok
  obtain ⟨n,rfl⟩:=Int.eq_ofNat_of_zero_le h0
  rw [Int.toNat_natCast]
  by_cases hz : (k + n + 7) / 8 = k / 8
  ·obtain rfl : n = 0:=by omega
   rw [bitsOf_zero]
   exact peek_zero g l.length c A k w hh hl hc hA hk (by omega)
  ·obtain ⟨gb,rfl,hcell⟩:=own_cells hown (i:=0) (by omega)
   exact peek_yes g l.length c gb 0 l k n w hh rfl hl hc hcell (by omega) (by omega) hz
 ·have hb : okBits l.length k n = false:=by simp only [okBits,decide_eq_false_iff_not]; exact hok
  rw [hb,if_neg (by simp)]
  exact peek_no g l.length c A k n w hh hl hk (by omega)
theorem Rd.drewN {w : World} {g : Nat} {v : Value} {l : List UInt8} {k : Nat} (h : Rd w g v l k) (m : Nat) : Rd (w.drewN m) g v l k:=h
theorem Rd.set {w : World} {g : Nat} {v : Value} {l : List UInt8} {k j : Nat} (h : Rd w g v l k) (hj : j <= 8 * l.length) : Rd (w.setCell ⟨g,1,none⟩ (.int .i64 j)) g v l j:=by
 refine ⟨by simpa using h.1.set 1 (.int .i64 j),?_,h.2.2.1,hj⟩
 refine ownsRow_setCell_other h.2.1 ?_ _
 intro hb
 obtain ⟨_,h2⟩:=h.2.1
 rcases h2 with ⟨rfl,_⟩ | ⟨gb,cap,cur,rfl,_,hg,_⟩
 ·cases hb
 ·have : gb = g:=by simpa [Value.ownBlock] using hb
  subst this
  have h1:=h.1
  unfold Has at h1
  rw [hg] at h1
  injection h1 with h1
  injection h1 with _ ht
  exact absurd ht (by decide)
set_option maxHeartbeats 400000 in
theorem bits_any (g : Nat) (v : Value) (l : List UInt8) (k : Nat) (n : Int) (w : World) (hR : Rd w g v l k) :
 Calls Tryz.prog 161 #[.pointer (some ⟨g,0,none⟩),.int .i64 n] w fun e w' =>
  e = .returned (.tuple #[.int .u32 (gotBits l k n : Nat),.bool (okBits l.length k n)]) /\ Only [g] w w' /\ Rd w' g v l (if okBits l.length k n then k + n.toNat else k):=by
 have hk : k <= 8 * l.length:=hR.2.2.2
 have hl : l.length <= 140737488355328:=hR.2.2.1
 by_cases hok : 0 <= n /\ n <= 32 /\ n <= ((8 * l.length - k : Nat) : Int)
 ·have hb : okBits l.length k n = true:=by simp only [okBits,decide_eq_true_eq]; exact hok
  have HP:=hide (peek_any g v l k n w hR)
  rw [hb] at HP ⊢
  obtain ⟨h0,h1,h2⟩:=hok
  obtain ⟨n,rfl⟩:=Int.eq_ofNat_of_zero_le h0
  have c1 : w.cell? ⟨g,1,none⟩ = some (.int .i64 (k : Int)):=hR.1.cell 1
  have f1 : w.frozen? ⟨g,1,none⟩ = false:=hR.1.free 1
  clear hb
  go_enter Tryz.func161,Tryz.ntmps161
  go_wp2_with fail
  refine (HP.out).mono ?_
  rintro e w' ⟨rfl,m,rfl⟩
  go_wp2
  go_ret2
  refine ⟨rfl,((Only.refl _ _).drewN m).setCell (by simp) _,?_⟩
  exact (hR.drewN m).set (j:=k + n) (by omega)
 ·have hb : okBits l.length k n = false:=by simp only [okBits,decide_eq_false_iff_not]; exact hok
  have HP:=hide (peek_any g v l k n w hR)
  rw [hb] at HP ⊢
  clear hb hok
  go_enter Tryz.func161,Tryz.ntmps161
  go_wp2_with fail
  refine (HP.out).mono ?_
  rintro e w' ⟨rfl,m,rfl⟩
  go_wp2
  go_ret2
  exact ⟨rfl,(Only.refl _ _).drewN m,hR.drewN m⟩
theorem u8_info : (Tryz.prog.info? 5).map (fun i=>(i.zero,i.size,i.bytes)) = some (some (.int .u8 0),1,1):=by kernel_rfl
set_option maxHeartbeats 400000 in
theorem clone_nil (w : World) : Calls Tryz.prog 121 #[.slice none 0 0] w fun e w'=>e = .returned (.slice none 0 0) /\ w = w':=by
 have hn : (binOp .eql 22 (.slice none 0 0) (.slice none 0 0)).run Tryz.prog w = .ok (.bool true) w:=by kernel_rfl
 go_enter Tryz.func121,Tryz.ntmps121
 go_wp2_with fail
 go_ret
 exact ⟨rfl,rfl⟩
set_option maxHeartbeats 400000 in
theorem clone_some (ad : Addr) (n c : Nat) (l : List UInt8) (w : World) (h : Holds w 1 (some ad) n (bvals l)) (hn : n <= 140737488355328) :
 Calls Tryz.prog 121 #[.slice (some ad) n c] w fun e w' =>
  ∃ v,e = .returned v /\ w'.ownsRow w.heap.size 5 1 v n (bvals l) /\ Only [] w w':=by
 obtain ⟨i0,hi0,hz0,hz1,hz2⟩:=info_of u8_info
 have hne : ∀ w : World,(binOp .eql 22 (.slice (some ad) n c) (.slice none 0 0)).run Tryz.prog w = .ok (.bool false) w:=fun w=>by
  have:=Lib.run_eql_slice_nil (P:=Tryz.prog) w 22 5 (some ad) n c 0 0 Tryz.underlying22
  simpa using this
 go_enter Tryz.func121,Tryz.ntmps121
 have hempty : (w.alloc (.cells #[] 5)).ownsRow w.heap.size 5 1 (.slice (some ⟨w.heap.size,0,none⟩) 0 0) 0 [] :=
  World.ownsRow_made w #[] 0 (Nat.le_refl _) (by simp [maxLen]) rfl
 go_wp2_with (at_builtin; refine list_append _ rfl (.tmp 5) (.tmp 6) 22 rfl w.heap.size 1 1 Tryz.underlying22 hi0 hz0 hz1 hz2 rfl (by omega) hempty rfl (h.keep ((Only.refl [] w).alloc _) (by simp)) rfl (bvals_one l) (by omega) (by omega) (by simp) ?_; intro A1 c1 w1 hown1 hg1 hat1)
 go_ret
 refine ⟨_,rfl,by simpa using hown1,((Only.refl [] w).alloc _).grown hg1 ?_⟩
 intro k hk hlt
 have hk' : w.heap.size = k:=by injection hk
 omega
theorem clone_any (A : Option Addr) (n c : Nat) (l : List UInt8) (w : World) (h : Holds w 1 A n (bvals l)) (hn : n <= 140737488355328) (hA : A = none -> c = 0 /\ n = 0) :
 Calls Tryz.prog 121 #[.slice A n c] w fun e w' =>
  ∃ v,e = .returned v /\ w'.ownsRow w.heap.size 5 1 v n (bvals l) /\ Only [] w w':=by
 rcases A with _ | ad
 ·obtain ⟨rfl,rfl⟩:=hA rfl
  refine (clone_nil w).mono ?_
  rintro e w' ⟨rfl,rfl⟩
  have : bvals l = []:=List.eq_nil_of_length_eq_zero (by rw [h.1])
  rw [this]
  exact ⟨_,rfl,World.ownsRow_nil _ _ _ _,Only.refl _ _⟩
 ·exact clone_some ad n c l w h hn
end Go.Proofs.YtjfjmkkkbcgohaaGreatDoor
