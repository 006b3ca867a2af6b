import Derived.Test.YtmfoeihapalkpaaGreatDoorMHBits
import Derived.Laws.Tables
import Derived.Laws.StructEq
namespace Go.Proofs.YtmfoeihapalkpaaGreatDoor
open Go Go.RowKit
def tcells (c : Nat -> Nat) : Array Value:=((List.range 16).map fun i=>Value.int .i64 (c i : Int)).toArray
theorem tcells_size (c : Nat -> Nat) : (tcells c).size = 16:=by simp [tcells]
theorem tcells_get (c : Nat -> Nat) {i : Nat} (hi : i < 16) : (tcells c)[i]? = some (.int .i64 (c i : Int)):=by simp [tcells,hi]
theorem tcells_congr {c d : Nat -> Nat} (h : ∀ i,i < 16 -> c i = d i) : tcells c = tcells d:=by
 apply Array.ext_getElem?
 intro i
 by_cases hi : i < 16
 ·rw [tcells_get c hi,tcells_get d hi,h i hi]
 ·rw [Array.getElem?_eq_none (by rw [tcells_size]; omega),Array.getElem?_eq_none (by rw [tcells_size]; omega)]
theorem tcells_set (c d : Nat -> Nat) (n x : Nat) (hn : n < 16) (h1 : d n = x) (h2 : ∀ i,i < 16 -> i ≠ n -> d i = c i) : (tcells c).setIfInBounds n (.int .i64 (x : Int)) = tcells d:=by
 apply Array.ext_getElem?
 intro i
 rw [Array.getElem?_setIfInBounds,tcells_size]
 by_cases hi : i < 16
 ·rw [tcells_get c hi,tcells_get d hi]
  by_cases h : n = i
  ·subst h; rw [if_pos rfl,if_pos hi,h1]
  ·rw [if_neg h,h2 i hi (fun e=>h e.symm)]
 ·rw [Array.getElem?_eq_none (by rw [tcells_size]; omega),Array.getElem?_eq_none (by rw [tcells_size]; omega)]
  rw [if_neg (by omega)]
theorem tcells_one (c : Nat -> Nat) : (tcells c).all (·.oneCell') = true:=by
 rw [Array.all_eq_true_iff_forall_mem]
 intro v hv
 simp [tcells] at hv
 obtain ⟨a,_,rfl⟩:=hv
 rfl
theorem tooLong_any (b : Nat) (w : World) : Calls Tryz.prog 175 #[.int .u8 (b : Int)] w fun e w'=>e = .returned (.bool (decide (15 < b))) /\ w = w':=by
 go_enter Tryz.func175,Tryz.ntmps175
 go_wp2
 go_ret
 exact ⟨ret_bool (by simp; omega),rfl⟩
set_option maxHeartbeats 1000000 in
theorem count_any (A : Option Addr) (n c : Nat) (l : List UInt8) (w : World) (hb : Holds w 1 A n (bvals l)) (hl : l.length = n) (hn : n <= 140737488355328) :
 Calls Tryz.prog 176 #[.slice A n c] w fun e w'=>e = .returned (.agg (tcells (cn l))) /\ Only [] w w':=by
 subst hl
 have HT:=hide tooLong_any
 have HB:=hide hb
 clear hb
 go_enter Tryz.func176,Tryz.ntmps176
 go_wp2
 go_loopw [8] (fun i wr=>∃ (j : Nat) (old : Array Value),j <= l.length /\ i = .int .i64 j /\ old.size = 16 /\ Has wr w.heap.size 236 old /\ Has wr (w.heap.size + 1) 236 (tcells (rk l j)) /\ Only [] w wr) (fun i _=>l.length - (intOf i).toNat)
 case atStart =>
  refine ⟨0,_,Nat.zero_le _,rfl,?_,(Has.new w _ _).alloc _,?_,((Only.refl [] w).alloc _).alloc _⟩
  ·rfl
  ·have:=Has.new (w.alloc (.cells #[.int .i64 0,.int .i64 0,.int .i64 0,.int .i64 0,.int .i64 0,.int .i64 0,.int .i64 0,.int .i64 0,.int .i64 0,.int .i64 0,.int .i64 0,.int .i64 0,.int .i64 0,.int .i64 0,.int .i64 0,.int .i64 0] 236)) 236 (tcells fun _=>0)
   rw [World.size_alloc] at this
   rw [tcells_congr (c:=rk l 0) (d:=fun _=>0) (fun i _=>rk_zero l i)]
   exact this
 case round =>
  obtain ⟨j,old,hj,rfl,hos,h0,h1,ho⟩:=hrel
  by_cases hlt : j < l.length
  ·obtain ⟨b,o,rfl,hc2⟩:=(HB.out.keep ho (by simp)).addr (by simpa using (show 0 < l.length by omega))
   have hcell : wr.cell? ⟨b,o + j,none⟩ = some (.int .u8 (l[j].toNat : Int)):=hc2 j _ (bvals_get l j hlt)
   have hx:=l[j].toNat_lt
   have hR:=fun m=>rk_succ (l:=l) hlt m
   rw [ln_get hlt] at hR
   clear hc2
   generalize l[j].toNat = x at *
   have HR:=hide hR
   clear hR
   by_cases hx0 : x = 0
   ·subst hx0
    have e : tcells (rk l (j + 1)) = tcells (rk l j):=tcells_congr (fun i _=>by rw [HR.out,if_neg (by omega)]; rfl)
    have H1:=hide (aI h0 (aI h1 ho))
    have HE:=hide e
    clear h0 h1 ho e HR
    go_wp2_with fail
    go_roundw
    case rel=>exact ⟨j + 1,old,hlt,by go_num,hos,H1.out.1,by rw [HE.out]; exact H1.out.2.1,H1.out.2.2⟩
    case measure=>simp [intOf]; omega
   ·have hx1 : 0 < x:=by omega
    by_cases hx15 : 15 < x
    ·have e : tcells (rk l (j + 1)) = tcells (rk l j):=tcells_congr (fun i _=>by rw [HR.out,if_neg (by omega)]; rfl)
     have H1:=hide (aI h0 (aI h1 ho))
     have HE:=hide e
     have hd : decide (15 < x) = true:=by simpa using hx15
     clear h0 h1 ho e HR
     go_wp2_with fail
     refine (HT.out x wr).mono ?_
     rintro e w1 ⟨rfl,rfl⟩
     rw [hd]
     go_wp2_with fail
     go_roundw
     case rel=>exact ⟨j + 1,old,hlt,by go_num,hos,H1.out.1,by rw [HE.out]; exact H1.out.2.1,H1.out.2.2⟩
     case measure=>simp [intOf]; omega
    ·have hx16 : x < 16:=by omega
     have hd : decide (15 < x) = false:=by simpa using hx15
     have c1 : wr.cell? ⟨w.heap.size + 1,x,none⟩ = some (.int .i64 (rk l j x : Nat)):=by rw [h1.cell,tcells_get _ hx16]
     have f1 : wr.frozen? ⟨w.heap.size + 1,x,none⟩ = false:=h1.free x
     have hr1 : rk l j x <= l.length:=by
      have h2:=rk_mono (l:=l) hj x
      rw [rk_all (Nat.le_refl _)] at h2
      have h3 : cn l x <= l.length:=by unfold cn; split; exact Nat.zero_le _; exact List.countP_le_length
      omega
     have e : (tcells (rk l j)).setIfInBounds x (.int .i64 ((rk l j x + 1 : Nat) : Int)) = tcells (rk l (j + 1)) :=
      tcells_set _ _ x _ hx16 (by rw [HR.out,if_pos ⟨rfl,hx0⟩]) (fun i _ hne=>by rw [HR.out,if_neg (by omega)]; rfl)
     have a:=h1.set x (.int .i64 ((rk l j x + 1 : Nat) : Int))
     rw [e] at a
     have a0:=h0.other (p:=⟨w.heap.size + 1,x,none⟩) (by simp) (.int .i64 ((rk l j x + 1 : Nat) : Int))
     have ao:=ho.setCell (p:=⟨w.heap.size + 1,x,none⟩) (by simp) (.int .i64 ((rk l j x + 1 : Nat) : Int))
     have H1:=hide (aI a0 (aI a ao))
     clear h0 h1 ho e HR a a0 ao
     generalize rk l j x = y at *
     go_wp2_with fail
     refine (HT.out x wr).mono ?_
     rintro e w1 ⟨rfl,rfl⟩
     rw [hd]
     go_wp2_with fail
     go_roundw
     case rel=>exact ⟨j + 1,old,hlt,by go_num,hos,H1.out.1,H1.out.2.1,H1.out.2.2⟩
     case measure=>simp [intOf]; omega
  ·obtain rfl : j = l.length:=by omega
   rw [tcells_congr (c:=rk l l.length) (d:=cn l) (fun i _=>rk_all (Nat.le_refl _) i)] at h1
   have H1:=hide h1
   have H0:=hide h0
   have HO:=hide ho
   clear h0 h1 ho hlt
   go_wp2_with (first
    | (refine wpList_load_row rfl 236 (.tmp 3) rfl (w.heap.size + 1) rfl 236 (tcells (cn l)) (0,0) _ H1.out Tryz.underlying236 rfl (by kernel_rfl) ?_)
    | (refine list_store_row rfl 236 (.tmp 2) (.tmp 25) rfl w.heap.size (tcells (cn l)) rfl rfl 236 old H0.out (by kernel_rfl) (by rw [tcells_size]; exact hos) (tcells_one _) ?_))
   have hr:=H0.out.setRow (tcells (cn l))
   refine bodyPost_ret (results_cell_row Tryz.results176 _ _ w.heap.size 236 (tcells (cn l)) (0,0) _ rfl hr Tryz.underlying236 rfl (by kernel_rfl)) rfl ⟨rfl,HO.out.setRow (by simp) _⟩
theorem index_tcells (c : Nat -> Nat) (i : Nat) (hi : i < 16) (w : World) : (Instr.index 236 (.agg (tcells c)) (.int .i64 i)).run Tryz.prog w = .ok (.int .i64 (c i : Int)) w:=by
 rcases (show i = 0 \/ i = 1 \/ i = 2 \/ i = 3 \/ i = 4 \/ i = 5 \/ i = 6 \/ i = 7 \/ i = 8 \/ i = 9 \/ i = 10 \/ i = 11 \/ i = 12 \/ i = 13 \/ i = 14 \/ i = 15 by omega) with rfl | rfl | rfl | rfl | rfl | rfl | rfl | rfl | rfl | rfl | rfl | rfl | rfl | rfl | rfl | rfl <;> kernel_rfl
def tEq (c d : Nat -> Nat) : Bool:=(List.range' 0 16).all fun i=>c i == d i
theorem tEq_iff (c d : Nat -> Nat) : tEq c d = true ↔ ∀ i,i < 16 -> c i = d i:=by
 simp only [tEq,List.all_eq_true,List.mem_range',beq_iff_eq]
 constructor
 ·intro h i hi
  exact h i ⟨i,hi,by omega⟩
 ·rintro h i ⟨j,hj,rfl⟩
  exact h (0 + 1 * j) (by omega)
theorem eql_tcells (c d : Nat -> Nat) (w : World) : (binOp .eql 236 (.agg (tcells c)) (.agg (tcells d))).run Tryz.prog w = .ok (.bool (tEq c d)) w:=by
 rw [run_eql_struct,run_equalIn_ints w 9998 236 3 16 .i64 .i64 (tcells c) (tcells d) (fun i=>(c i : Int)) (fun i=>(d i : Int)) Tryz.underlying236 Tryz.underlying3 (by kernel_rfl) (by kernel_rfl)
  (fun i hi=>tcells_get c hi) (fun i hi=>tcells_get d hi)]
 simp only [Result.andThen_ok]
 congr 2
 unfold allEq tEq
 congr 1
 funext i
 show ((c i : Int) == (d i : Int)) = (c i == d i)
 rw [Bool.eq_iff_iff,beq_iff_eq,beq_iff_eq]
 exact Int.ofNat_inj
theorem isNaN_any (x : Int) (w : World) : Calls Tryz.prog 206 #[.int .i64 x] w fun e w'=>e = .returned (.bool false) /\ w = w':=by
 go_enter Tryz.func206,Tryz.ntmps206
 go_wp2
 go_ret
 exact ⟨rfl,rfl⟩
def cmpI (x y : Int) : Int:=if x < y then -1 else if y < x then 1 else 0
set_option maxHeartbeats 1000000 in
theorem cmp_any (x y : Int) (w : World) : Calls Tryz.prog 199 #[.int .i64 x,.int .i64 y] w fun e w'=>e = .returned (.int .i64 (cmpI x y)) /\ w = w':=by
 have H:=hide isNaN_any
 unfold cmpI
 by_cases h1 : x < y
 ·rw [if_pos h1]
  go_enter Tryz.func199,Tryz.ntmps199
  go_wp2_with fail
  refine (H.out x w).mono ?_
  rintro e w1 ⟨rfl,rfl⟩
  go_wp2_with fail
  refine (H.out y w).mono ?_
  rintro e w1 ⟨rfl,rfl⟩
  go_wp2_with fail
  go_ret
  exact ⟨rfl,rfl⟩
 ·rw [if_neg h1]
  by_cases h2 : y < x
  ·rw [if_pos h2]
   go_enter Tryz.func199,Tryz.ntmps199
   go_wp2_with fail
   refine (H.out x w).mono ?_
   rintro e w1 ⟨rfl,rfl⟩
   go_wp2_with fail
   refine (H.out y w).mono ?_
   rintro e w1 ⟨rfl,rfl⟩
   go_wp2_with fail
   go_ret
   exact ⟨rfl,rfl⟩
  ·rw [if_neg h2]
   go_enter Tryz.func199,Tryz.ntmps199
   go_wp2_with fail
   refine (H.out x w).mono ?_
   rintro e w1 ⟨rfl,rfl⟩
   go_wp2_with fail
   refine (H.out y w).mono ?_
   rintro e w1 ⟨rfl,rfl⟩
   go_wp2_with fail
   go_ret
   exact ⟨rfl,rfl⟩
set_option maxHeartbeats 1000000 in
theorem compare_any (c : Nat -> Nat) (w : World) (hc : Sm c 16 <= 4611686018427387904) :
 Calls Tryz.prog 190 #[.agg (tcells c)] w fun e w'=>e = .returned (.int .i64 (cmpI (Sm c 16 : Nat) 32768)) /\ Only [] w w':=by
 have HI:=hide (index_tcells c)
 have HC:=hide cmp_any
 have HN:=Has.new w 236 (tcells c)
 go_enter Tryz.func190,Tryz.ntmps190
 go_wp2_with (refine wpList_load_row rfl 236 (.tmp 1) rfl w.heap.size rfl 236 (tcells c) (0,0) _ HN Tryz.underlying236 rfl (by kernel_rfl) ?_)
 go_loop [3,7] (fun v i=>∃ j : Nat,j <= 16 /\ i = .int .i64 j /\ v = .int .i64 (Sm c j : Nat)) (fun _ i=>16 - (intOf i).toNat)
 case atStart=>exact ⟨0,Nat.zero_le _,rfl,rfl⟩
 case round =>
  obtain ⟨j,hj,rfl,rfl⟩:=hrel
  by_cases hlt : j < 16
  ·have e : Sm c (j + 1) = Sm c j + c j * 2 ^ (15 - j):=rfl
   have hm:=Sm_mono c (show j + 1 <= 16 by omega)
   have hx:=HI.out j hlt
   obtain ⟨q,hq⟩ : ∃ q,q = 15 - j:=⟨_,rfl⟩
   rw [<- hq] at e
   have hq2 : (15 : Int) - (j : Int) = (q : Int):=by omega
   have hp : ((c j : Int) * 2 ^ q) = ((c j * 2 ^ q : Nat) : Int):=by rw [Int.natCast_mul,two_pow_cast]
   have HE:=hide e
   have hb : Sm c j + c j * 2 ^ q <= 4611686018427387904:=by omega
   clear e hm
   generalize Sm c j = s at *
   generalize c j * 2 ^ q = p at *
   have hq15 : q <= 15:=by omega
   clear hq
   go_wp2_with fail
   go_round
   case rel=>exact ⟨j + 1,hlt,by go_num,by rw [HE.out,Int.natCast_add]⟩
   case measure=>simp [intOf]; omega
  ·obtain rfl : j = 16:=by omega
   go_wp2_with fail
   refine (HC.out _ _ _).mono ?_
   rintro e w1 ⟨rfl,rfl⟩
   go_wp2_with fail
   go_ret
   exact ⟨rfl,(Only.refl [] w).alloc _⟩
theorem eql_none (c : Nat -> Nat) (w : World) : (binOp .eql 236 (.agg (tcells c)) (.agg #[.int .i64 0,.int .i64 0,.int .i64 0,.int .i64 0,.int .i64 0,.int .i64 0,.int .i64 0,.int .i64 0,.int .i64 0,.int .i64 0,.int .i64 0,.int .i64 0,.int .i64 0,.int .i64 0,.int .i64 0,.int .i64 0])).run Tryz.prog w = .ok (.bool (tEq c fun _=>0)) w:=eql_tcells c (fun _=>0) w
theorem eql_one (c : Nat -> Nat) (w : World) : (binOp .eql 236 (.agg (tcells c)) (.agg #[.int .i64 0,.int .i64 1,.int .i64 0,.int .i64 0,.int .i64 0,.int .i64 0,.int .i64 0,.int .i64 0,.int .i64 0,.int .i64 0,.int .i64 0,.int .i64 0,.int .i64 0,.int .i64 0,.int .i64 0,.int .i64 0])).run Tryz.prog w = .ok (.bool (tEq c fun i=>if i = 1 then 1 else 0)) w:=eql_tcells c (fun i=>if i = 1 then 1 else 0) w
theorem cmpI_zero (x : Nat) : (cmpI (x : Int) 32768 == 0) = decide (x = 32768):=by
 unfold cmpI
 rcases Nat.lt_trichotomy x 32768 with h | h | h
 ·rw [if_pos (by omega)]
  have : x ≠ 32768:=by omega
  simp [this]
 ·subst h; rfl
 ·rw [if_neg (by omega),if_pos (by omega)]
  have : x ≠ 32768:=by omega
  simp [this]
def mayBe (c : Nat -> Nat) : Bool:=decide (Sm c 16 = 32768) || tEq c (fun _=>0) || tEq c (fun i=>if i = 1 then 1 else 0)
theorem load_row_g {P : Program} {ops : Array Oper} {rest : List Oper} {o : Oper} {a : Act} {w : World} {Q : Exit -> Act -> World -> Prop} (k : Nat) (_ : o.dst = some k) (hw : Region.wanted o (yielded ops a.tmps) = true) (ty : TypeId) (x : Operand) (ho : o.op = .load ty x)
 (g : Nat) (hx : a.eval x = .pointer (some ⟨g,0,none⟩)) (t : TypeId) (cs : Array Value) (fr : Nat × Nat) (d : TypeDesc) (hg : w.heap[g]? = some (.cells cs t fr))
 (hu : P.underlying ty = some d) (hd : (match d with | .struct _ | .array _ _=>true | _=>false) = true) (hi : (P.info? ty).map (·.size) = some cs.size)
 (h : wpList P ops Q rest (a.put o.dst (.agg cs)) w) : wpList P ops Q (o :: rest) a w :=
 BigFrame.wpList_want hw fun _ hK=>wp_load_row ty x ho g hx t cs fr d hg hu hd hi (hK _ _ h)
set_option maxRecDepth 20000 in
set_option maxHeartbeats 1000000 in
theorem allowed_any (c : Nat -> Nat) (w : World) (hc : Sm c 16 <= 4611686018427387904) :
 Calls Tryz.prog 177 #[.agg (tcells c)] w fun e w'=>e = .returned (.bool (mayBe c)) /\ Only [] w w':=by
 have HN:=Has.new w 236 (tcells c)
 have HC:=hide (compare_any c (w.alloc (.cells (tcells c) 236)) hc)
 have e1:=cmpI_zero (Sm c 16)
 have q1:=eql_none c
 have q2:=eql_one c
 unfold mayBe
 generalize cmpI (Sm c 16 : Nat) 32768 = r at *
 generalize decide (Sm c 16 = 32768) = d1 at *
 generalize hd2 : tEq c (fun _=>0) = d2 at *
 generalize hd3 : tEq c (fun i=>if i = 1 then 1 else 0) = d3 at *
 clear hd2 hd3
 have HO:=(Only.refl [] w).alloc (.cells (tcells c) 236)
 have HOO:=hide HO
 clear HO
 go_enter Tryz.func177,Tryz.ntmps177
 cases d1 with
 | true =>
   go_wp2_with (first | (refine wpList_load_row rfl 236 (.tmp 1) rfl w.heap.size rfl 236 (tcells c) (0,0) _ HN Tryz.underlying236 rfl (by kernel_rfl) ?_))
   refine (HC.out).mono ?_
   rintro e w1 ⟨rfl,ho⟩
   have HO1:=hide ho
   clear ho
   go_wp2_with fail
   go_ret
   exact ⟨rfl,HOO.out.trans HO1.out (by simp)⟩
 | false =>
   go_wp2_with (first | (refine wpList_load_row rfl 236 (.tmp 1) rfl w.heap.size rfl 236 (tcells c) (0,0) _ HN Tryz.underlying236 rfl (by kernel_rfl) ?_))
   refine (HC.out).mono ?_
   rintro e w1 ⟨rfl,ho⟩
   have HN1:=HN.only ho (by simp)
   have HO1:=hide ho
   clear ho
   cases d2 with
   | true =>
     go_wp2_with (refine load_row_g 7 rfl (by kernel_rfl) 236 (.tmp 1) rfl w.heap.size rfl 236 (tcells c) (0,0) _ HN1 Tryz.underlying236 rfl (by kernel_rfl) ?_)
     go_ret
     exact ⟨rfl,HOO.out.trans HO1.out (by simp)⟩
   | false =>
     cases d3
     all_goals
      go_wp2_with (first | (refine load_row_g 7 rfl (by kernel_rfl) 236 (.tmp 1) rfl w.heap.size rfl 236 (tcells c) (0,0) _ HN1 Tryz.underlying236 rfl (by kernel_rfl) ?_) | (refine load_row_g 12 rfl (by kernel_rfl) 236 (.tmp 1) rfl w.heap.size rfl 236 (tcells c) (0,0) _ HN1 Tryz.underlying236 rfl (by kernel_rfl) ?_))
      go_ret
      exact ⟨rfl,HOO.out.trans HO1.out (by simp)⟩
structure TF where
 len : Nat -> Nat
 code : Nat -> Nat
 sym : Nat -> Nat
 cnt : Nat -> Nat
 fst : Nat -> Nat
 bef : Nat -> Nat
 lng : Nat
def TF.at (f : TF) (i : Nat) : Value :=
 if i < 320 then .int .u8 (f.len i : Int) else if i < 640 then .int .u16 (f.code (i - 320) : Int) else if i < 960 then .int .i16 (f.sym (i - 640) : Int)
 else if i < 976 then .int .i64 (f.cnt (i - 960) : Int) else if i < 992 then .int .i64 (f.fst (i - 976) : Int) else if i < 1008 then .int .i64 (f.bef (i - 992) : Int) else .int .i64 (f.lng : Int)
def TF.cells (f : TF) : Array Value:=((List.range 1009).map f.at).toArray
def upd (f : Nat -> Nat) (n x : Nat) : Nat -> Nat:=fun i=>if i = n then x else f i
namespace TF
variable (f : TF)
theorem cells_size : f.cells.size = 1009:=by simp [cells]
theorem cells_get {i : Nat} (hi : i < 1009) : f.cells[i]? = some (f.at i):=by simp [cells,hi]
theorem at_len {i : Nat} (h : i < 320) : f.at i = .int .u8 (f.len i : Int):=by unfold TF.at; rw [if_pos h]
theorem at_code {i : Nat} (h : i < 320) : f.at (320 + i) = .int .u16 (f.code i : Int):=by
 unfold TF.at; rw [if_neg (by omega),if_pos (by omega),Nat.add_sub_cancel_left]
theorem at_sym {i : Nat} (h : i < 320) : f.at (640 + i) = .int .i16 (f.sym i : Int):=by
 unfold TF.at; rw [if_neg (by omega),if_neg (by omega),if_pos (by omega),Nat.add_sub_cancel_left]
theorem at_cnt {i : Nat} (h : i < 16) : f.at (960 + i) = .int .i64 (f.cnt i : Int):=by
 unfold TF.at; rw [if_neg (by omega),if_neg (by omega),if_neg (by omega),if_pos (by omega),Nat.add_sub_cancel_left]
theorem at_fst {i : Nat} (h : i < 16) : f.at (976 + i) = .int .i64 (f.fst i : Int):=by
 unfold TF.at; rw [if_neg (by omega),if_neg (by omega),if_neg (by omega),if_neg (by omega),if_pos (by omega),Nat.add_sub_cancel_left]
theorem at_bef {i : Nat} (h : i < 16) : f.at (992 + i) = .int .i64 (f.bef i : Int):=by
 unfold TF.at; rw [if_neg (by omega),if_neg (by omega),if_neg (by omega),if_neg (by omega),if_neg (by omega),if_pos (by omega),Nat.add_sub_cancel_left]
theorem at_end {i : Nat} (h : 1008 <= i) : f.at i = .int .i64 (f.lng : Int):=by
 unfold TF.at; rw [if_neg (by omega),if_neg (by omega),if_neg (by omega),if_neg (by omega),if_neg (by omega),if_neg (by omega)]
theorem at_lng : f.at 1008 = .int .i64 (f.lng : Int):=at_end f (Nat.le_refl _)
theorem rng (i : Nat) : i < 320 \/ (∃ k,k < 320 /\ i = 320 + k) \/ (∃ k,k < 320 /\ i = 640 + k) \/ (∃ k,k < 16 /\ i = 960 + k) \/ (∃ k,k < 16 /\ i = 976 + k) \/ (∃ k,k < 16 /\ i = 992 + k) \/ 1008 <= i:=by
 rcases (show i < 320 \/ (320 <= i /\ i < 640) \/ (640 <= i /\ i < 960) \/ (960 <= i /\ i < 976) \/ (976 <= i /\ i < 992) \/ (992 <= i /\ i < 1008) \/ 1008 <= i by omega) with h | h | h | h | h | h | h
 ·exact .inl h
 ·exact .inr (.inl ⟨i - 320,by omega,by omega⟩)
 ·exact .inr (.inr (.inl ⟨i - 640,by omega,by omega⟩))
 ·exact .inr (.inr (.inr (.inl ⟨i - 960,by omega,by omega⟩)))
 ·exact .inr (.inr (.inr (.inr (.inl ⟨i - 976,by omega,by omega⟩))))
 ·exact .inr (.inr (.inr (.inr (.inr (.inl ⟨i - 992,by omega,by omega⟩)))))
 ·exact .inr (.inr (.inr (.inr (.inr (.inr h)))))
theorem at_other {f f' : TF} (i : Nat) (h1 : i < 320 -> f'.len i = f.len i) (h2 : ∀ k,k < 320 -> i = 320 + k -> f'.code k = f.code k) (h3 : ∀ k,k < 320 -> i = 640 + k -> f'.sym k = f.sym k)
 (h4 : ∀ k,k < 16 -> i = 960 + k -> f'.cnt k = f.cnt k) (h5 : ∀ k,k < 16 -> i = 976 + k -> f'.fst k = f.fst k) (h6 : ∀ k,k < 16 -> i = 992 + k -> f'.bef k = f.bef k) (h7 : 1008 <= i -> f'.lng = f.lng) : f'.at i = f.at i:=by
 rcases rng i with h | ⟨k,hk,rfl⟩ | ⟨k,hk,rfl⟩ | ⟨k,hk,rfl⟩ | ⟨k,hk,rfl⟩ | ⟨k,hk,rfl⟩ | h
 ·rw [at_len _ h,at_len _ h,h1 h]
 ·rw [at_code _ hk,at_code _ hk,h2 k hk rfl]
 ·rw [at_sym _ hk,at_sym _ hk,h3 k hk rfl]
 ·rw [at_cnt _ hk,at_cnt _ hk,h4 k hk rfl]
 ·rw [at_fst _ hk,at_fst _ hk,h5 k hk rfl]
 ·rw [at_bef _ hk,at_bef _ hk,h6 k hk rfl]
 ·rw [at_end _ h,at_end _ h,h7 h]
theorem ext {f f' : TF} (h1 : ∀ i,i < 320 -> f'.len i = f.len i) (h2 : ∀ k,k < 320 -> f'.code k = f.code k) (h3 : ∀ k,k < 320 -> f'.sym k = f.sym k)
 (h4 : ∀ k,k < 16 -> f'.cnt k = f.cnt k) (h5 : ∀ k,k < 16 -> f'.fst k = f.fst k) (h6 : ∀ k,k < 16 -> f'.bef k = f.bef k) (h7 : f'.lng = f.lng) : f'.cells = f.cells:=by
 unfold cells
 congr 2
 funext i
 exact at_other i (h1 i) (fun k hk _=>h2 k hk) (fun k hk _=>h3 k hk) (fun k hk _=>h4 k hk) (fun k hk _=>h5 k hk) (fun k hk _=>h6 k hk) (fun _=>h7)
theorem cells_set {f f' : TF} {p : Nat} {v : Value} (hp : p < 1009) (h1 : f'.at p = v) (h2 : ∀ i,i < 1009 -> i ≠ p -> f'.at i = f.at i) : f.cells.setIfInBounds p v = f'.cells:=by
 apply Array.ext_getElem?
 intro i
 rw [Array.getElem?_setIfInBounds,cells_size]
 by_cases hi : i < 1009
 ·rw [cells_get f hi,cells_get f' hi]
  by_cases h : p = i
  ·subst h; rw [if_pos rfl,if_pos hp,h1]
  ·rw [if_neg h,h2 i hi (fun e=>h e.symm)]
 ·rw [Array.getElem?_eq_none (by rw [cells_size]; omega),Array.getElem?_eq_none (by rw [cells_size]; omega)]
  rw [if_neg (by omega)]
theorem upd_ne (g : Nat -> Nat) {n x i : Nat} (h : i ≠ n) : upd g n x i = g i:=if_neg h
theorem upd_eq (g : Nat -> Nat) (n x : Nat) : upd g n x n = x:=if_pos rfl
theorem set_len {n : Nat} (hn : n < 320) (x : Nat) : f.cells.setIfInBounds n (.int .u8 (x : Int)) = { f with len:=upd f.len n x }.cells :=
 cells_set (by omega) (by rw [at_len _ hn]; exact congrArg (fun y : Nat=>Value.int .u8 (y : Int)) (upd_eq _ _ _)) (fun i _ hne=>at_other i (fun _=>upd_ne _ hne) (fun _ _ _=>rfl) (fun _ _ _=>rfl) (fun _ _ _=>rfl) (fun _ _ _=>rfl) (fun _ _ _=>rfl) (fun _=>rfl))
theorem set_code {n : Nat} (hn : n < 320) (x : Nat) : f.cells.setIfInBounds (320 + n) (.int .u16 (x : Int)) = { f with code:=upd f.code n x }.cells :=
 cells_set (by omega) (by rw [at_code _ hn]; exact congrArg (fun y : Nat=>Value.int .u16 (y : Int)) (upd_eq _ _ _)) (fun i _ hne=>at_other i (fun _=>rfl) (fun k _ hk=>upd_ne _ (by omega)) (fun _ _ _=>rfl) (fun _ _ _=>rfl) (fun _ _ _=>rfl) (fun _ _ _=>rfl) (fun _=>rfl))
theorem set_sym {n : Nat} (hn : n < 320) (x : Nat) : f.cells.setIfInBounds (640 + n) (.int .i16 (x : Int)) = { f with sym:=upd f.sym n x }.cells :=
 cells_set (by omega) (by rw [at_sym _ hn]; exact congrArg (fun y : Nat=>Value.int .i16 (y : Int)) (upd_eq _ _ _)) (fun i _ hne=>at_other i (fun _=>rfl) (fun _ _ _=>rfl) (fun k _ hk=>upd_ne _ (by omega)) (fun _ _ _=>rfl) (fun _ _ _=>rfl) (fun _ _ _=>rfl) (fun _=>rfl))
theorem set_fst {n : Nat} (hn : n < 16) (x : Nat) : f.cells.setIfInBounds (976 + n) (.int .i64 (x : Int)) = { f with fst:=upd f.fst n x }.cells :=
 cells_set (by omega) (by rw [at_fst _ hn]; exact congrArg (fun y : Nat=>Value.int .i64 (y : Int)) (upd_eq _ _ _)) (fun i _ hne=>at_other i (fun _=>rfl) (fun _ _ _=>rfl) (fun _ _ _=>rfl) (fun _ _ _=>rfl) (fun k _ hk=>upd_ne _ (by omega)) (fun _ _ _=>rfl) (fun _=>rfl))
theorem set_bef {n : Nat} (hn : n < 16) (x : Nat) : f.cells.setIfInBounds (992 + n) (.int .i64 (x : Int)) = { f with bef:=upd f.bef n x }.cells :=
 cells_set (by omega) (by rw [at_bef _ hn]; exact congrArg (fun y : Nat=>Value.int .i64 (y : Int)) (upd_eq _ _ _)) (fun i _ hne=>at_other i (fun _=>rfl) (fun _ _ _=>rfl) (fun _ _ _=>rfl) (fun _ _ _=>rfl) (fun _ _ _=>rfl) (fun k _ hk=>upd_ne _ (by omega)) (fun _=>rfl))
theorem set_lng (x : Nat) : f.cells.setIfInBounds 1008 (.int .i64 (x : Int)) = { f with lng:=x }.cells :=
 cells_set (by omega) (at_lng _) (fun i hi hne=>at_other i (fun _=>rfl) (fun _ _ _=>rfl) (fun _ _ _=>rfl) (fun _ _ _=>rfl) (fun _ _ _=>rfl) (fun _ _ _=>rfl) (fun _=>by omega))
end TF
def TF.new (c : Nat -> Nat) : TF:=⟨fun _=>0,fun _=>0,fun _=>0,c,fun _=>0,fun _=>0,0⟩
set_option maxRecDepth 100000 in
theorem built_table (c : Nat -> Nat) : Tryz.prog.built 238 [(3,.agg (tcells c))] = some (TF.new c).cells:=by kernel_rfl
def TF.ord (c : Nat -> Nat) (k : Nat) : TF:={ TF.new c with fst:=fun i=>if i <= k then Fs c i else 0,bef:=fun i=>if i <= k then Bf c i else 0,lng:=Lg c k }
def Tbl (w : World) (g : Nat) (f : TF) : Prop:=Has w g 238 f.cells
theorem Tbl.cell {w : World} {g : Nat} {f : TF} (h : Tbl w g f) {i : Nat} (hi : i < 1009) : w.cell? ⟨g,i,none⟩ = some (f.at i):=by rw [Has.cell h,f.cells_get hi]
theorem Tbl.set {w : World} {g : Nat} {f f' : TF} {p : Nat} {v : Value} (h : Tbl w g f) (e : f.cells.setIfInBounds p v = f'.cells) : Tbl (w.setCell ⟨g,p,none⟩ v) g f':=by
 have:=Has.set h p v
 rw [e] at this
 exact this
theorem Tbl.only {w w' : World} {g : Nat} {f : TF} {S : List Nat} (h : Tbl w g f) (ho : Only S w w') (hg : g ∉ S) : Tbl w' g f:=Has.only h ho hg
theorem Tbl.drew {w : World} {g : Nat} {f : TF} (h : Tbl w g f) : Tbl w.drew g f:=h
theorem ord_step (c : Nat -> Nat) (k : Nat) (B F : Nat) (hB : Bf c (k + 1) = B) (hF : Fs c (k + 1) = F) (L : Nat) (hL : Lg c (k + 1) = L) :
 TF.cells { TF.ord c k with fst:=upd (TF.ord c k).fst (k + 1) F,bef:=upd (TF.ord c k).bef (k + 1) B,lng:=L } = (TF.ord c (k + 1)).cells:=by
 subst hB hF hL
 refine TF.ext (f:=TF.ord c (k + 1)) (f':={ TF.ord c k with fst:=upd (TF.ord c k).fst (k + 1) (Fs c (k + 1)),bef:=upd (TF.ord c k).bef (k + 1) (Bf c (k + 1)),lng:=Lg c (k + 1) })
  (fun _ _=>rfl) (fun _ _=>rfl) (fun _ _=>rfl) (fun _ _=>rfl) (fun i _=>?_) (fun i _=>?_) rfl
 ·show (if i = k + 1 then Fs c (k + 1) else if i <= k then Fs c i else 0) = if i <= k + 1 then Fs c i else 0
  by_cases h : i = k + 1
  ·subst h; rw [if_pos rfl,if_pos (Nat.le_refl _)]
  ·rw [if_neg h]
   by_cases h2 : i <= k
   ·rw [if_pos h2,if_pos (by omega)]
   ·rw [if_neg h2,if_neg (by omega)]
 ·show (if i = k + 1 then Bf c (k + 1) else if i <= k then Bf c i else 0) = if i <= k + 1 then Bf c i else 0
  by_cases h : i = k + 1
  ·subst h; rw [if_pos rfl,if_pos (Nat.le_refl _)]
  ·rw [if_neg h]
   by_cases h2 : i <= k
   ·rw [if_pos h2,if_pos (by omega)]
   ·rw [if_neg h2,if_neg (by omega)]
theorem wrap64 {z : Int} {n : Nat} (h1 : z = n) (h2 : n <= 9223372036854775807) : IntKind.i64.wrap z = (n : Int):=by
 rw [IntKind.wrap_i64]; omega
theorem Bf_le_of (c : Nat -> Nat) (hc : ∀ i,i < 16 -> c i <= 65536) {k : Nat} (hk : k <= 16) : Bf c k <= 65536 * k:=by
 induction k with
 | zero=>simp [Bf]
 | succ k ih =>
   rw [Bf_succ]
   have:=ih (by omega)
   have:=hc k (by omega)
   omega
set_option maxRecDepth 100000 in
set_option maxHeartbeats 2000000 in
theorem order_any (g : Nat) (c : Nat -> Nat) (w : World) (h : Tbl w g (TF.new c)) (_ : c 0 = 0) (hc : ∀ i,i < 16 -> c i <= 65536) (hS : Sm c 16 <= 32768) :
 Calls Tryz.prog 178 #[.pointer (some ⟨g,0,none⟩)] w fun e w'=>e = .returned (.tuple #[]) /\ Tbl w' g (TF.ord c 15) /\ Only [g] w w':=by
 have HH:=hide h
 clear h
 go_enter Tryz.func178,Tryz.ntmps178
 go_wp2_with fail
 go_loopw [2] (fun n wr=>∃ k : Nat,k <= 15 /\ n = .int .i64 ((k + 1 : Nat) : Int) /\ Tbl wr g (TF.ord c k) /\ Only [g] w wr) (fun n _=>17 - (intOf n).toNat)
 case atStart =>
  refine ⟨0,by omega,rfl,?_,Only.refl _ _⟩
  have : TF.cells (TF.ord c 0) = TF.cells (TF.new c):=TF.ext (f:=TF.new c) (f':=TF.ord c 0) (fun _ _=>rfl) (fun _ _=>rfl) (fun _ _=>rfl) (fun _ _=>rfl)
   (fun i _=>by
     show (if i <= 0 then Fs c i else 0) = 0
     by_cases hi : i <= 0
     ·obtain rfl : i = 0:=by omega
      rfl
     ·rw [if_neg hi])
   (fun i _=>by
     show (if i <= 0 then Bf c i else 0) = 0
     by_cases hi : i <= 0
     ·obtain rfl : i = 0:=by omega
      rfl
     ·rw [if_neg hi]) rfl
  unfold Tbl
  rw [this]; exact HH.out
 case round =>
  obtain ⟨k,hk,rfl,hT,ho⟩:=hrel
  by_cases hlt : k < 15
  ·have a1 : wr.cell? ⟨g,976 + k,none⟩ = some (.int .i64 (Fs c k : Nat)):=by
    rw [hT.cell (by omega),TF.at_fst _ (by omega)]; show some (Value.int .i64 ((if k <= k then Fs c k else 0 : Nat) : Int)) = _; rw [if_pos (Nat.le_refl _)]
   have a2 : wr.cell? ⟨g,960 + k,none⟩ = some (.int .i64 (c k : Nat)):=by rw [hT.cell (by omega),TF.at_cnt _ (by omega)]; rfl
   have a3 : wr.cell? ⟨g,976 + (k + 1),none⟩ = some (.int .i64 0):=by
    rw [hT.cell (by omega),TF.at_fst _ (by omega)]; show some (Value.int .i64 ((if k + 1 <= k then Fs c (k + 1) else 0 : Nat) : Int)) = _; rw [if_neg (by omega)]; rfl
   have f3 : wr.frozen? ⟨g,976 + (k + 1),none⟩ = false:=Has.free hT _
   have b1:=Fs_le c k (by omega) hS
   have b2:=Nat.pow_le_pow_right (n:=2) (by decide) (show k <= 14 by omega)
   have e1 : ((k + 1 : Nat) : Int) - 1 = (k : Int):=by omega
   have e2 : ((k + 1 : Nat) : Int) <= 15:=by omega
   have e4 : ((k + 1 : Nat) : Int) < 16:=by omega
   have e3 : (0 : Int) <= ((k + 1 : Nat) : Int):=by omega
   have q0 : (0 : Int) <= (k : Int):=by omega
   have q1 : (k : Int) < 16:=by omega
   have b3 : Fs c k + c k <= 16384:=Nat.le_trans b1 b2
   have hF:=Fs_succ c k
   have w1 : IntKind.i64.wrap (k : Int) = (k : Int):=wrap64 rfl (by omega)
   have w2 : IntKind.i64.wrap ((Fs c k : Int) + (c k : Int)) = ((Fs c k + c k : Nat) : Int):=wrap64 (by omega) (by omega)
   have hst:=ord_step c k (Bf c k + c k) (2 * (Fs c k + c k)) rfl rfl
   have hBk:=Bf_le_of c hc (show k <= 16 by omega)
   have hck2:=hc k (by omega)
   have hcn:=hc (k + 1) (by omega)
   have b4 : wr.cell? ⟨g,992 + k,none⟩ = some (.int .i64 (Bf c k : Nat)):=by
    rw [hT.cell (by omega),TF.at_bef _ (by omega)]; show some (Value.int .i64 ((if k <= k then Bf c k else 0 : Nat) : Int)) = _; rw [if_pos (Nat.le_refl _)]
   have b5 : wr.cell? ⟨g,992 + (k + 1),none⟩ = some (.int .i64 0):=by
    rw [hT.cell (by omega),TF.at_bef _ (by omega)]; show some (Value.int .i64 ((if k + 1 <= k then Bf c (k + 1) else 0 : Nat) : Int)) = _; rw [if_neg (by omega)]; rfl
   have b6 : wr.cell? ⟨g,960 + (k + 1),none⟩ = some (.int .i64 (c (k + 1) : Nat)):=by rw [hT.cell (by omega),TF.at_cnt _ (by omega)]; rfl
   have b7 : wr.cell? ⟨g,1008,none⟩ = some (.int .i64 (Lg c k : Nat)):=by rw [hT.cell (by omega),TF.at_lng]; rfl
   have w3 : IntKind.i64.wrap ((Bf c k : Int) + (c k : Int)) = ((Bf c k + c k : Nat) : Int):=wrap64 (by omega) (by omega)
   have hb5 : Bf c k + c k <= 4611686018427387904:=by omega
   have hLs : Lg c (k + 1) = if 0 < c (k + 1) then k + 1 else Lg c k:=rfl
   have fr : ∀ i,wr.frozen? ⟨g,i,none⟩ = false:=fun i=>Has.free hT i
   clear hBk hck2
   have HR:=hide (aI hT (aI ho (aI hst (aI fr hLs))))
   have HB:=hide (aI b4 (aI b5 (aI b6 b7)))
   clear hT ho b1 b2 hst hLs fr b4 b5 b6 b7
   generalize hFk : Fs c k = F at *
   generalize hck : c k = C at *
   generalize hBk : Bf c k = B at *
   generalize hcn2 : c (k + 1) = D at *
   generalize hLk : Lg c k = L at *
   generalize hn : k + 1 = n at *
   have HZ:=hide (aI hFk (aI hck (aI hBk (aI hcn2 (aI hLk hn)))))
   have hnk : k < n:=by omega
   clear hFk hck hBk hcn2 hLk hn
   go_wp2_with fail
   go_still_tail 21,(by kernel_rfl)
   change wpList _ _ _ _ _ wr.drew
   go_wp2_with fail
   have T1:=(HR.out.1.set (TF.set_fst _ (show n < 16 by omega) (2 * (F + C)))).drew
   have O1:=(HR.out.2.1.setCell (p:=⟨g,976 + n,none⟩) (by simp) (.int .i64 ((2 * (F + C) : Nat) : Int))).drew
   rw [show ((2 * (F + C) : Nat) : Int) = ((F : Int) + (C : Int)) * 2 by omega] at T1 O1
   generalize (wr.setCell ⟨g,976 + n,none⟩ (.int .i64 (((F : Int) + (C : Int)) * 2))).drew = wa at *
   clear a1 a2 a3 f3
   have a1 : wa.cell? ⟨g,992 + k,none⟩ = some (.int .i64 (B : Int)):=by
    rw [T1.cell (by omega),TF.at_bef _ (by omega)]
    have:=HB.out.1; rw [HR.out.1.cell (by omega),TF.at_bef _ (by omega)] at this; exact this
   have a2 : wa.cell? ⟨g,960 + k,none⟩ = some (.int .i64 (C : Int)):=by rw [T1.cell (by omega),TF.at_cnt _ (by omega)]; show some (Value.int .i64 ((c k : Nat) : Int)) = _; rw [HZ.out.2.1]
   have a3 : wa.cell? ⟨g,992 + n,none⟩ = some (.int .i64 0):=by
    rw [T1.cell (by omega),TF.at_bef _ (by omega)]
    have:=HB.out.2.1; rw [HR.out.1.cell (by omega),TF.at_bef _ (by omega)] at this; exact this
   have f3 : wa.frozen? ⟨g,992 + n,none⟩ = false:=Has.free T1 _
   have a4 : wa.cell? ⟨g,960 + n,none⟩ = some (.int .i64 (D : Int)):=by rw [T1.cell (by omega),TF.at_cnt _ (by omega)]; show some (Value.int .i64 ((c n : Nat) : Int)) = _; rw [HZ.out.2.2.2.1]
   have a5 : wa.cell? ⟨g,1008,none⟩ = some (.int .i64 (L : Int)):=by rw [T1.cell (by omega),TF.at_lng]; show some (Value.int .i64 ((Lg c k : Nat) : Int)) = _; rw [HZ.out.2.2.2.2.1]
   have f5 : wa.frozen? ⟨g,1008,none⟩ = false:=Has.free T1 _
   have HT1:=hide (aI T1 O1)
   clear T1 O1
   have HE : (Lg c n = n /\ 0 < D) \/ (Lg c n = L /\ D = 0):=by
    have:=HR.out.2.2.2.2
    by_cases hD : 0 < D
    ·rw [if_pos hD] at this; exact .inl ⟨this,hD⟩
    ·rw [if_neg hD] at this; exact .inr ⟨this,by omega⟩
   rcases HE with ⟨hL,hD⟩ | ⟨hL,rfl⟩
   ·have HL:=hide hL
    clear hL
    go_still_tail 20,(by kernel_rfl)
    change wpList _ _ _ _ _ wa.drew
    go_wp2_with fail
    go_roundw
    case rel =>
     have T2:=((HT1.out.1.set (TF.set_bef _ (show n < 16 by omega) (B + C))).set (TF.set_lng _ n)).drew
     have O2:=((HT1.out.2.setCell (p:=⟨g,992 + n,none⟩) (by simp) (.int .i64 ((B + C : Nat) : Int))).setCell (p:=⟨g,1008,none⟩) (by simp) (.int .i64 (n : Int))).drew
     rw [Int.natCast_add] at T2 O2
     refine ⟨n,by omega,by go_num,?_,O2⟩
     unfold Tbl
     rw [<- HR.out.2.2.1 n HL.out]
     exact T2
    case measure=>simp [intOf]; omega
   ·have HL:=hide hL
    clear hL
    go_still_tail 20,(by kernel_rfl)
    change wpList _ _ _ _ _ wa.drew
    go_wp2_with fail
    go_roundw
    case rel =>
     have T2:=(HT1.out.1.set (TF.set_bef _ (show n < 16 by omega) (B + C))).drew
     have O2:=(HT1.out.2.setCell (p:=⟨g,992 + n,none⟩) (by simp) (.int .i64 ((B + C : Nat) : Int))).drew
     rw [Int.natCast_add] at T2 O2
     refine ⟨n,by omega,by go_num,?_,O2⟩
     unfold Tbl
     rw [<- HR.out.2.2.1 L HL.out]
     have e : (TF.ord c k).lng = L:=HZ.out.2.2.2.2.1
     rw [<- e]
     exact T2
    case measure=>simp [intOf]; omega
  ·obtain rfl : k = 15:=by omega
   go_wp2_with fail
   go_end0
   exact ⟨rfl,hT,ho⟩
end Go.Proofs.YtmfoeihapalkpaaGreatDoor
