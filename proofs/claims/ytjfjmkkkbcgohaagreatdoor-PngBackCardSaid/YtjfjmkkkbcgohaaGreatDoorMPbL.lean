import Derived.Test.YtjfjmkkkbcgohaaGreatDoorMPbA
import Derived.Deep.DeepCutAuto
namespace Go.Proofs.YtjfjmkkkbcgohaaGreatDoor
open Go Go.RowKit
theorem list_more {ops : Array Oper} {rest : List Oper} {o : Oper} {a : Act} {Q : Exit -> Act -> World -> Prop} (hgd : o.guard = none) (s x : Operand)
 (ho : o.op = .call { callee:=.builtin .append,args:=#[s,x],argTypes:=#[22,22] }) (w0 w : World) {A A1 : Option Addr} {n c n1 c1 : Nat} {l l1 : List UInt8} (_ : l.length = n) (hb : Holds w 1 A n (bvals l)) (hn : n1 + n <= 140737488355328)
 (hown : w.ownsRow w0.heap.size 5 1 (.slice A1 n1 c1) n1 (bvals l1)) (ho0 : Only [] w0 w) (hs : a.eval s = .slice A1 n1 c1) (hx : a.eval x = .slice A n c)
 (h : ∀ A' c' w',w'.ownsRow w0.heap.size 5 1 (.slice A' (n1 + n) c') (n1 + n) (bvals (l1 ++ l)) -> Only [] w0 w' -> wpList Tryz.prog ops Q rest (a.put o.dst (.slice A' (n1 + n) c')) w') :
 wpList Tryz.prog ops Q (o :: rest) a w:=by
 obtain ⟨i0,hi0,hz0,hz1,hz2⟩:=info_of u8_info
 refine list_append _ hgd s x 22 ho w0.heap.size 1 1 Tryz.underlying22 hi0 hz0 hz1 hz2 rfl (Nat.zero_lt_one) hown hs hb hx (bvals_one l) (by omega) (Nat.zero_lt_one) ho0.size fun A' c' w' h1 h2 _=>?_
 exact h A' c' w' (by rw [bvals_append]; exact h1) (ho0.grown h2 (fun k hk hlt=>by have:=(hown.lt k hk).1; omega))
theorem run_whole (A : Option Addr) (n c : Nat) (hc : n <= c) (w : World) : (Instr.slice 22 (.slice A n c) (some (.int .i64 0)) (some (.int .i64 (n : Int))) none).run Tryz.prog w = .ok (.slice A n c) w:=by
 rw [run_slice_lh (w:=w) 22 A n c bytes_elem .i64 .i64 0 n (by omega) (by omega) (by omega),bytes_size]
 cases A with
 | none=>simp [sliced,Result.andThen]
 | some ad=>by_cases h0 : c = 0 <;> simp [sliced,Result.andThen,h0,Addr.add]
theorem flip8 (n : Nat) (h : n < 256) : bits .xor .u8 255 (n : Int) = ((255 - n : Nat) : Int):=by
 have key : ∀ n : Fin 256,bits .xor .u8 255 ((n.val : Nat) : Int) = ((255 - n.val : Nat) : Int):=by decide +kernel
 exact key ⟨n,h⟩
set_option maxRecDepth 100000 in
set_option maxHeartbeats 4000000 in
theorem tStore_any (A : Option Addr) (n c : Nat) (b : List UInt8) (w : World) (hb : Holds w 1 A n (bvals b)) (hl : b.length = n) (hn : n < 65536) (hc : n <= c) :
 Calls Tryz.prog 62 #[.slice A n c] w fun e w'=>∃ v,e = .returned v /\ w'.ownsRow w.heap.size 5 1 v (storeB true b).length (bvals (storeB true b)) /\ Only [] w w':=by
 subst hl
 have hn2 : ¬ (65535 : Int) < (b.length : Int):=by omega
 obtain ⟨l0,hl0⟩ : ∃ x,x = b.length % 256:=⟨_,rfl⟩
 obtain ⟨l1,hl1⟩ : ∃ x,x = b.length / 256:=⟨_,rfl⟩
 obtain ⟨m0,hm0⟩ : ∃ x,x = 255 - l0:=⟨_,rfl⟩
 obtain ⟨m1,hm1⟩ : ∃ x,x = 255 - l1:=⟨_,rfl⟩
 have c1 : IntKind.u8.wrap (b.length : Int) = (l0 : Int):=by rw [IntKind.wrap_u8,hl0]; omega
 have c2 : IntKind.u8.wrap ((b.length : Int) / 256) = (l1 : Int):=by rw [IntKind.wrap_u8,hl1]; omega
 have c3 : (b.length : Int) % 256 = (l0 : Int):=by rw [hl0]; omega
 have c4 : (b.length : Int) / 256 % 256 = (l1 : Int):=by rw [hl1]; omega
 have e0 : bits .xor .u8 IntKind.u8.max (l0 : Int) = (m0 : Int):=by rw [hm0]; exact flip8 l0 (by omega)
 have e1 : bits .xor .u8 IntKind.u8.max (l1 : Int) = (m1 : Int):=by rw [hm1]; exact flip8 l1 (by omega)
 have e5 : (if IntKind.u8.signed = true then -1 else IntKind.u8.max) = IntKind.u8.max:=by decide
 obtain ⟨i0,hi0,hz0,hz1,hz2⟩:=info_of u8_info
 have HL:=hide (aI hl0 (aI hl1 (aI hm0 hm1)))
 have HB:=hide (aI hb (aI hn hc))
 clear hb hn hc hl0 hl1 hm0 hm1
 go_enter Tryz.func62,Tryz.ntmps62
 go_wp2_with fail
 go_loopw [3,4] (fun o i wr=>o = .slice none 0 0 /\ i = .int .i64 0 /\ wr = w) (fun _ _ _=>0)
 case atStart=>exact ⟨rfl,rfl,rfl⟩
 case round =>
  obtain ⟨rfl,rfl,rfl⟩:=hrel
  have hlit:=Holds.lit wr #[.int .u8 1,.int .u8 (l0 : Int),.int .u8 (l1 : Int),.int .u8 (m0 : Int),.int .u8 (m1 : Int)] 5
  have hnil:=World.ownsRow_nil (wr.alloc (.cells #[.int .u8 1,.int .u8 (l0 : Int),.int .u8 (l1 : Int),.int .u8 (m0 : Int),.int .u8 (m1 : Int)] 5)) wr.heap.size 5 1
  have hsl:=run_whole A b.length c HB.out.2.2
  have hbl : (5 + b.length) * 1 <= 140737488355328:=by have:=HB.out.2.1; omega
  have hone:=bvals_one b
  have oa : Only [] wr (wr.alloc (.cells #[.int .u8 1,.int .u8 (l0 : Int),.int .u8 (l1 : Int),.int .u8 (m0 : Int),.int .u8 (m1 : Int)] 5)):=(Only.refl [] wr).alloc _
  have HA:=hide oa
  clear oa
  have hone5 : ∀ u ∈ [Value.int .u8 1,.int .u8 (l0 : Int),.int .u8 (l1 : Int),.int .u8 (m0 : Int),.int .u8 (m1 : Int)],u.oneCell' = true:=by simp [Value.oneCell']
  have hlen5 : (0 + (#[Value.int .u8 1,.int .u8 (l0 : Int),.int .u8 (l1 : Int),.int .u8 (m0 : Int),.int .u8 (m1 : Int)] : Array Value).size) * 1 <= 140737488355328:=by simp
  have hb5:=HA.out.size
  go_upto_region 10 with (at_builtin; refine list_append _ rfl (.tmp 15) (.tmp 29) 22 rfl wr.heap.size 1 1 Tryz.underlying22 hi0 hz0 hz1 hz2 rfl (Nat.zero_lt_one) hnil rfl hlit rfl hone5 hlen5 (Nat.zero_lt_one) hb5 ?_; intro A4 c4' w4 hown4 hgr4 hat4)
  have hown4' : w4.ownsRow wr.heap.size 5 1 (.slice A4 5 c4') 5 [.int .u8 1,.int .u8 (l0 : Int),.int .u8 (l1 : Int),.int .u8 (m0 : Int),.int .u8 (m1 : Int)]:=hown4
  have o04 : Only [] wr w4:=HA.out.grown hgr4 (fun k hk _=>by simp [Value.ownBlock] at hk)
  have hbw : Holds w4 1 A b.length (bvals b):=HB.out.1.keep o04 (by simp)
  have hB4:=o04.size
  have hhd : ([.int .u8 1,.int .u8 (l0 : Int),.int .u8 (l1 : Int),.int .u8 (m0 : Int),.int .u8 (m1 : Int)] : List Value) ++ bvals b = bvals (storeB true b):=by
   have h:=HL.out
   have hn:=HB.out.2.1
   unfold storeB
   rw [bvals_append]
   congr 1
   have u1 : (UInt8.ofNat b.length).toNat = l0:=by rw [UInt8.toNat_ofNat']; omega
   have u2 : (UInt8.ofNat (b.length / 256)).toNat = l1:=by rw [UInt8.toNat_ofNat']; omega
   have u3 : (UInt8.ofNat (255 - b.length % 256)).toNat = m0:=by rw [UInt8.toNat_ofNat']; omega
   have u4 : (UInt8.ofNat (255 - b.length / 256)).toNat = m1:=by rw [UInt8.toNat_ofNat']; omega
   simp [hdr,bvals,u1,u2,u3,u4]
  have HO4:=hide (aI o04 hhd)
  clear hown4 hgr4 hat4 hlit hnil hone5 hlen5 hb5 o04 hhd
  go_wp2_with (at_builtin; refine list_append _ rfl (.tmp 31) (.tmp 37) 22 rfl wr.heap.size 1 1 Tryz.underlying22 hi0 hz0 hz1 hz2 rfl (Nat.zero_lt_one) hown4' rfl hbw rfl hone hbl (Nat.zero_lt_one) hB4 ?_; intro A5 c5' w5 hown5 hgr5 hat5)
  go_ret
  have hlt:=hown4'.lt
  have o05 : Only [] wr w5:=HO4.out.1.trans ((Only.refl (Value.slice A4 5 c4').ownBlock.toList w4).grown hgr5 (fun k hk _=>mem_own.2 hk)) (fun i hi hl=>by
   have:=(hlt i (mem_own.1 hi)).1
   omega)
  refine ⟨_,rfl,?_,o05⟩
  rw [storeB_length,<- HO4.out.2]
  exact hown5
theorem own_lit2 (w : World) : (w.alloc (.cells #[.int .u8 120,.int .u8 1] 5)).ownsRow w.heap.size 5 1 (.slice (some ⟨w.heap.size,0,none⟩) 2 2) 2 (bvals [0x78,0x01]) :=
 ⟨rfl,.inr ⟨w.heap.size,2,_,rfl,Nat.le_refl _,Has.new w _ _,Nat.le_refl _,by unfold maxLen; omega,rfl,rfl⟩⟩
set_option maxRecDepth 100000 in
set_option maxHeartbeats 8000000 in
theorem packRs (A : Option Addr) (n c : Nat) (b : List UInt8) (w : World) (hb : Holds w 1 A n (bvals b)) (hl : b.length = n) (hc : n <= c) (hn : n <= 60000) :
 Calls Tryz.prog 28 #[.slice A n c,.bool false] w fun e w'=>∃ v,e = .returned v /\ w'.ownsRow w.heap.size 5 1 v ([0x78,0x01] ++ storeB true b ++ bigN (adWord (adOf b))).length (bvals ([0x78,0x01] ++ storeB true b ++ bigN (adWord (adOf b)))) /\ Only [] w w':=by
 obtain ⟨T,hT⟩ : ∃ T,T = [0x78,0x01] ++ storeB true b ++ bigN (adWord (adOf b)):=⟨_,rfl⟩
 rw [<- hT]
 have hl32 : adWord (adOf b) < 4294967296:=by have:=adOf_lt b; unfold adWord; omega
 obtain ⟨s,hsum⟩ : ∃ s,s = adWord (adOf b):=⟨_,rfl⟩
 have HST : Hid (∀ w1,Only [] w w1 -> _):=hide (fun w1 (ho : Only [] w w1)=>tStore_any A n c b w1 (hb.keep ho (by simp)) hl (by omega) hc)
 have HAD : Hid (∀ w1,Only [] w w1 -> _):=hide (fun w1 (ho : Only [] w w1)=>refAdler_any A n c b w1 (hb.keep ho (by simp)) hl (by omega))
 rw [<- hsum] at HAD hl32
 obtain ⟨y0,hy0⟩ : ∃ a,a = s / 16777216:=⟨_,rfl⟩
 obtain ⟨d1,hd1⟩ : ∃ a,a = s / 65536:=⟨_,rfl⟩
 obtain ⟨d2,hd2⟩ : ∃ a,a = s / 256:=⟨_,rfl⟩
 obtain ⟨y1,hy1⟩ : ∃ a,a = d1 % 256:=⟨_,rfl⟩
 obtain ⟨y2,hy2⟩ : ∃ a,a = d2 % 256:=⟨_,rfl⟩
 obtain ⟨y3,hy3⟩ : ∃ a,a = s % 256:=⟨_,rfl⟩
 have hbig : bvals (bigN s) = [.int .u8 (y0 : Int),.int .u8 (y1 : Int),.int .u8 (y2 : Int),.int .u8 (y3 : Int)]:=by
  unfold bigN bvals
  simp only [List.map_cons,List.map_nil,u8of_int]
  rw [show ((s / 16777216 : Nat) : Int) % 256 = (y0 : Int) by omega,show ((s / 65536 : Nat) : Int) % 256 = (y1 : Int) by omega,show ((s / 256 : Nat) : Int) % 256 = (y2 : Int) by omega,show (s : Int) % 256 = (y3 : Int) by omega]
 have e1 : (s : Int) / 16777216 = (y0 : Int):=by omega
 have e1' : (y0 : Int) % 256 = (y0 : Int):=by omega
 have e2 : (s : Int) / 65536 = (d1 : Int):=by omega
 have e2' : (d1 : Int) % 256 = (y1 : Int):=by omega
 have e3 : (s : Int) / 256 = (d2 : Int):=by omega
 have e3' : (d2 : Int) % 256 = (y2 : Int):=by omega
 have e4' : (s : Int) % 256 = (y3 : Int):=by omega
 have HBG:=hide (aI hbig (aI hsum (aI hl hn)))
 have HT:=hide hT
 clear hT hb hl hc hn hsum hy0 hd1 hd2 hy1 hy2 hy3 hbig
 go_enter Tryz.func28,Tryz.ntmps28
 go_wp2_with fail
 refine (HST.out w (Only.refl _ _)).mono ?_
 rintro e w2 ⟨v,rfl,how,ho2⟩
 have hlen : (storeB true b).length <= 60010:=by rw [storeB_length]; have:=HBG.out.2.2.1; have:=HBG.out.2.2.2; omega
 have hpk : T = [0x78,0x01] ++ storeB true b ++ bigN s:=by rw [HT.out,HBG.out.2.1]
 generalize storeB true b = bs at *
 obtain ⟨Av,cv,rfl,_,_⟩:=own_shape how
 obtain ⟨m,hm⟩ : ∃ m,m = bs.length:=⟨_,rfl⟩
 rw [<- hm] at how hlen ⊢
 have H2:=hide (aI ho2 (aI hpk hm))
 have hb2:=Holds.of_own how
 have hm':=hm.symm
 have hr1 : 2 + m <= 140737488355328:=by omega
 have hr2 : 2 + m + 4 <= 140737488355328:=by omega
 clear ho2 how hm hpk HT
 go_wp2_with fail
 refine (HAD.out w2 H2.out.1).mono ?_
 rintro e w3 ⟨rfl,rfl⟩
 have oa : Only [] w2 (w2.alloc (.cells #[.int .u8 120,.int .u8 1] 5)):=(Only.refl [] w2).alloc _
 have hol:=own_lit2 w2
 have hb3:=hb2.keep oa (by simp)
 clear hlen
 go_wp2_with (first
  | (at_builtin; refine list_more rfl (.tmp 15) (.tmp 16) rfl w2 (w2.alloc (.cells #[.int .u8 120,.int .u8 1] 5)) hm' hb3 hr1 hol oa rfl rfl ?_; intro A5 c5 w5 hown5 ho5
     have hb6:=Holds.lit w5 #[.int .u8 (y0 : Int),.int .u8 (y1 : Int),.int .u8 (y2 : Int),.int .u8 (y3 : Int)] 5
     have hown6:=own_keep hown5 ((Only.refl [] w5).alloc (.cells #[.int .u8 (y0 : Int),.int .u8 (y1 : Int),.int .u8 (y2 : Int),.int .u8 (y3 : Int)] 5)) (by simp)
     have ho6:=ho5.alloc (.cells #[.int .u8 (y0 : Int),.int .u8 (y1 : Int),.int .u8 (y2 : Int),.int .u8 (y3 : Int)] 5)
     rw [show (#[Value.int .u8 (y0 : Int),.int .u8 (y1 : Int),.int .u8 (y2 : Int),.int .u8 (y3 : Int)] : Array Value).toList = bvals (bigN s) from HBG.out.1.symm] at hb6)
  | (at_builtin; refine list_more rfl (.tmp 18) (.tmp 30) rfl w2 _ (l:=bigN s) rfl hb6 hr2 hown6 ho6 rfl rfl ?_; intro A7 c7 w7 hown7 ho7))
 have hlen7 : ([0x78,0x01] ++ bs ++ bigN s).length = 2 + m + 4:=by rw [List.length_append,List.length_append,<- H2.out.2.2]; rfl
 have H7:=hide (aI (H2.out.1.trans ho7 (S:=[]) (by simp)) (own_mono (base':=w.heap.size) hown7 H2.out.1.size))
 clear hown5 ho5 hb6 hown6 ho6 hown7 ho7
 go_ret
 refine ⟨_,rfl,?_,H7.out.1⟩
 rw [H2.out.2.1,hlen7]
 exact H7.out.2
structure OutS (w : World) (r0 r2 : Nat) (W : World) (A : Option Addr) (n c : Nat) (q : List UInt8) : Prop where
 own : W.ownsRow w.heap.size 5 1 (.slice A n c) n (bvals q)
 off : ∀ b,(Value.slice A n c).ownBlock = some b -> b < r0 \/ r2 <= b
 only : Only [] w W
 ge : r2 <= W.heap.size
theorem OutS.later {w W W' : World} {r0 r2 n c : Nat} {A : Option Addr} {q : List UInt8} (h : OutS w r0 r2 W A n c q) (ho : Only [] W W') : OutS w r0 r2 W' A n c q :=
 ⟨own_keep h.own ho (by simp),h.off,h.only.trans ho (by simp),Nat.le_trans h.ge ho.size⟩
theorem list_out {ops : Array Oper} {rest : List Oper} {o : Oper} {a : Act} {Q : Exit -> Act -> World -> Prop} (hgd : o.guard = none) (s x : Operand)
 (ho : o.op = .call { callee:=.builtin .append,args:=#[s,x],argTypes:=#[22,22] }) {w W : World} {r0 r2 n c m cb : Nat} {A Ab : Option Addr} {q l : List UInt8} (h : OutS w r0 r2 W A n c q)
 (hb : Holds W 1 Ab m (bvals l)) (hn : n + m <= 140737488355328) (hs : a.eval s = .slice A n c) (hx : a.eval x = .slice Ab m cb)
 (k : ∀ A' c' W',OutS w r0 r2 W' A' (n + m) c' (q ++ l) -> Only (Value.slice A n c).ownBlock.toList W W' -> wpList Tryz.prog ops Q rest (a.put o.dst (.slice A' (n + m) c')) W') : wpList Tryz.prog ops Q (o :: rest) a W:=by
 obtain ⟨i0,hi0,hz0,hz1,hz2⟩:=info_of u8_info
 refine list_append _ hgd s x 22 ho w.heap.size 1 1 Tryz.underlying22 hi0 hz0 hz1 hz2 rfl (Nat.zero_lt_one) h.own hs hb hx (bvals_one l) (by omega) (Nat.zero_lt_one) h.only.size fun A' c' W' h1 h2 h3=>?_
 refine k A' c' W' ⟨by rw [bvals_append]; exact h1,fun b hb=>?_,h.only.grown h2 (fun k hk hlt=>by have:=(h.own.lt k hk).1; omega),Nat.le_trans h.ge h2.size⟩ ((Only.refl _ W).grown h2 (fun k hk _=>by simp [hk]))
 rcases h3 with h3 | h3
 ·rw [h3] at hb; exact h.off b hb
 ·rw [h3] at hb; injection hb with hb; have:=h.ge; right; omega
theorem OutS.spare {w W W' : World} {r0 r2 n c k : Nat} {A Ax : Option Addr} {q : List UInt8} {xs : List Value} (h : OutS w r0 r2 W A n c q) (ho : Only (Value.slice A n c).ownBlock.toList W W') (hx : Holds W 1 Ax k xs)
 (hr : 0 < k -> ∀ ad,Ax = some ad -> r0 <= ad.block /\ ad.block < r2) : Holds W' 1 Ax k xs :=
 hx.keepPos ho (fun h0 ad ha _ hm=>by
  have h1:=hr h0 ad ha
  have h2:=h.off ad.block (by
   cases hv : (Value.slice A n c).ownBlock with
   | none=>rw [hv] at hm; simp at hm
   | some j=>rw [hv] at hm; simp at hm; rw [hm])
  omega)
theorem kind4_full {k : List UInt8} (h : k.length = 4) : kind4 k = k:=by
 unfold kind4
 rw [List.take_of_length_le (by omega),h]; simp
theorem make4 (W : World) : (Instr.makeSlice 22 (.int .i64 4) (.int .i64 4)).run Tryz.prog W = .ok (.slice (some ⟨W.heap.size,0,none⟩) 4 4) (W.alloc (.cells #[.int .u8 0,.int .u8 0,.int .u8 0,.int .u8 0] 5)) :=
 by
 have h:=run_make_row' (P:=Tryz.prog) 22 5 (.int .u8 0) 1 Tryz.underlying22 u8_info rfl .i64 .i64 4 (by omega) (by omega) W
 rw [show madeCells #[Value.int .u8 0] 4 = #[.int .u8 0,.int .u8 0,.int .u8 0,.int .u8 0] from by apply Array.toList_inj.1; rw [toList_madeCells_one]; rfl] at h
 exact h
def let4 (k : List UInt8) (j : Nat) : List UInt8:=k.take j ++ List.replicate (4 - j) 0
theorem let4_set (k : List UInt8) (hk : k.length = 4) (j : Nat) (hj : j < 4) : (let4 k j).set j k[j] = let4 k (j + 1):=by
 unfold let4
 have hl : (k.take j).length = j:=by rw [List.length_take]; omega
 rw [List.set_append_right _ _ (by omega),hl,Nat.sub_self,show 4 - j = (4 - (j + 1)) + 1 by omega,List.replicate_succ,List.set_cons_zero,List.take_succ_eq_append_getElem (by omega),List.append_assoc]
 rfl
theorem let4_len (k : List UInt8) (hk : k.length = 4) (j : Nat) (hj : j <= 4) : (let4 k j).length = 4:=by unfold let4; simp; omega
theorem let4_all (k : List UInt8) (hk : k.length = 4) : let4 k 4 = k:=by unfold let4; rw [<- hk,List.take_length]; simp
theorem own_row4 {w : World} {g B : Nat} {q : List UInt8} (h : Has w g 5 (bvals q).toArray) (hB : B <= g) (hq : q.length = 4) : w.ownsRow B 5 1 (.slice (some ⟨g,0,none⟩) 4 4) 4 (bvals q) :=
 ⟨by rw [bvals_length,hq],.inr ⟨g,4,_,rfl,hB,h,Nat.le_refl _,by unfold maxLen; omega,by simp [hq],by simp; rw [List.take_of_length_le (by rw [bvals_length]; omega)]⟩⟩
set_option maxRecDepth 100000 in
set_option maxHeartbeats 8000000 in
theorem rLay_any (A : Option Addr) (n c : Nat) (ps : List Cv) (w : World) (hA : Holds w 2 A n (ckvs ps)) (hl : ps.length = n) (hps : ∀ p ∈ ps,CvHas w p /\ p.ck.k.length = 4) (hsum : layN (ps.map Cv.ck) <= 1000000) (hn : n <= 1000) :
 Calls Tryz.prog 27 #[.slice A n c] w fun e w'=>∃ A' c',e = .returned (.slice A' (layB (ps.map Cv.ck)).length c') /\ w'.ownsRow w.heap.size 5 1 (.slice A' (layB (ps.map Cv.ck)).length c') (layB (ps.map Cv.ck)).length (bvals (layB (ps.map Cv.ck))) /\ Only [] w w':=by
 have HB:=hide (aI hA (aI hl (aI hps (aI hsum hn))))
 have HS:=hide (rSign_any w)
 have HF:=hide rFour_any
 clear hA hl hps hsum hn
 go_enter Tryz.func27,Tryz.ntmps27
 go_wp2_with fail
 refine (HS.out).mono ?_
 rintro e w1 ⟨rfl,h1,ho1⟩
 have hown1 : w1.ownsRow w.heap.size 5 1 (.slice (some ⟨w.heap.size,0,none⟩) 8 8) 8 (bvals sigB):=⟨rfl,.inr ⟨w.heap.size,8,_,rfl,Nat.le_refl _,h1,Nat.le_refl _,by unfold maxLen; omega,rfl,rfl⟩⟩
 have H1:=hide (aI hown1 ho1)
 clear h1 ho1 hown1 HS
 go_wp2_with fail
 go_loopw [3,4] (fun v i wr=>∃ (j : Nat) (A : Option Addr) (c : Nat),j <= n /\ v = .slice A (layB ((ps.map Cv.ck).take j)).length c /\ i = .int .i64 j /\ wr.ownsRow w.heap.size 5 1 (.slice A (layB ((ps.map Cv.ck).take j)).length c) (layB ((ps.map Cv.ck).take j)).length (bvals (layB ((ps.map Cv.ck).take j))) /\ Only [] w wr) (fun _ i _=>n - (intOf i).toNat)
 case atStart=>exact ⟨0,_,8,Nat.zero_le _,rfl,rfl,H1.out.1,H1.out.2⟩
 case round =>
  obtain ⟨j,Ao,co,hj,rfl,rfl,hown,ho⟩:=hrel
  obtain ⟨hA,hl,hps,hsum,hn⟩:=HB.out
  by_cases hlt : j < n
  ·obtain ⟨b,o,rfl,hcell⟩:=hA.addr (by rw [ckvs_len]; omega)
   have hb:=hA.blk (by omega) _ rfl
   have hpm:=List.getElem_mem (l:=ps) (n:=j) (by omega)
   obtain ⟨hcv,hk4⟩:=hps _ hpm
   obtain ⟨q0,q1⟩:=ckvs_get ps j (by omega)
   have q0:=hcell _ _ q0
   have q1:=hcell _ _ q1
   have hlay:=layB_take (ps.map Cv.ck) j (by rw [List.length_map]; omega)
   rw [List.getElem_map] at hlay
   have hle : (layB ((ps.map Cv.ck).take (j + 1))).length <= 1000008:=by
    rw [layB_length]
    have : layN ((ps.map Cv.ck).take (j + 1)) <= layN (ps.map Cv.ck):=by
     unfold layN
     have e:=List.take_append_drop (j + 1) (ps.map Cv.ck)
     rw [<- e,List.map_append,List.sum_append,e]
     omega
    omega
   generalize ps[j] = p at *
   obtain ⟨⟨k,d⟩,Ad,cd⟩:=p
   simp only at hcv hk4 q0 q1 hlay
   rw [show kind4 k = k from kind4_full hk4] at hlay
   have hkk : (j : Int) < (n : Int):=by omega
   have hw1 : IntKind.i64.wrap ((j : Int) + 1) = (j : Int) + 1:=IntWalk.i64_in _ ⟨by omega,by omega⟩
   have hQ : ∀ W,Only [] w W -> W.cell? ⟨b,o + j * 2,none⟩ = some (.string ⟨k.toArray⟩) /\ W.cell? ⟨b,o + j * 2 + 1,none⟩ = some (.slice Ad d.length cd):=fun W hW=>⟨(hW.cell (p:=⟨b,o + j * 2,none⟩) hb (by simp)).trans q0,(hW.cell (p:=⟨b,o + (j * 2 + 1),none⟩) hb (by simp)).trans q1⟩
   generalize hq : layB ((ps.map Cv.ck).take j) = q at *
   have HR:=hide (aI hown (aI ho (aI hcv (aI hk4 (aI hlay (aI hle hQ))))))
   clear hA hl hps hsum hn hcell hpm q0 q1 hown ho hcv hk4 hlay hle hQ
   rename World=>wo
   have hmk:=make4
   have hZ : Has (wo.alloc (.cells #[.int .u8 0,.int .u8 0,.int .u8 0,.int .u8 0] 5)) wo.heap.size 5 (bvals (let4 k 0)).toArray:=Has.new wo _ _
   have oZ : Only [] wo (wo.alloc (.cells #[.int .u8 0,.int .u8 0,.int .u8 0,.int .u8 0] 5)):=(Only.refl [] wo).alloc _
   have HZ:=hide (aI hZ oZ)
   clear hZ oZ
   go_wp2_with fail
   go_loopw [6] (fun i X=>∃ q : Nat,q <= 4 /\ i = .int .i64 q /\ Has X wo.heap.size 5 (bvals (let4 k q)).toArray /\ Only [] wo X) (fun i _=>4 - (intOf i).toNat)
   case atStart=>exact ⟨0,Nat.zero_le _,rfl,HZ.out.1,HZ.out.2⟩
   case round =>
    obtain ⟨i,hi,rfl,hX,oX⟩:=hrel
    obtain ⟨hown,ho,hcv,hk4,hlay,hle,hQ⟩:=HR.out
    obtain ⟨y0,y1⟩:=hQ _ (ho.trans oX (by simp))
    by_cases hi4 : i < 4
    ·have hi5 : (i : Int) < 4:=by omega
     have hw2 : IntKind.i64.wrap ((i : Int) + 1) = (i : Int) + 1:=IntWalk.i64_in _ ⟨by omega,by omega⟩
     have hkl : (⟨k.toArray⟩ : ByteArray).size = 4:=by show k.toArray.size = 4; simp [hk4]
     have hki : i < k.length:=by omega
     have f0:=hX.free i
     have hll : i < (let4 k i).length:=by rw [let4_len k hk4 i hi]; exact hi4
     have z0 : wr.cell? ⟨wo.heap.size,i,none⟩ = some (.int .u8 (((let4 k i)[i]).toNat : Int)):=by
      rw [hX.cell i,List.getElem?_toArray]; exact bvals_get _ i hll
     have hst : ∀ b : Nat,k[i].toNat = b -> Has (wr.setCell ⟨wo.heap.size,i,none⟩ (.int .u8 (b : Int))) wo.heap.size 5 (bvals (let4 k (i + 1))).toArray /\ Only [] wo (wr.setCell ⟨wo.heap.size,i,none⟩ (.int .u8 (b : Int))):=fun b hb=>by
      refine ⟨?_,oX.setCell (fun h=>absurd h (Nat.lt_irrefl _)) _⟩
      have h:=hX.set i (.int .u8 (b : Int))
      have hb2 : b < 256:=by rw [<- hb]; exact k[i].toNat_lt
      have e : UInt8.ofNat b = k[i]:=by rw [<- hb]; simp
      rw [List.setIfInBounds_toArray,bvals_set _ _ _ hb2,e,let4_set k hk4 i hi4] at h
      exact h
     have HX:=hide hst
     clear hst hX oX hown ho hcv hk4 hlay hle hQ hmk
     go_wp2_with fail
     go_roundw
     case rel=>exact ⟨i + 1,hi4,by go_num,HX.out _ rfl⟩
     case measure=>simp [intOf]; omega
    ·obtain rfl : i = 4:=by omega
     rw [let4_all k hk4] at hX
     have hown2:=own_row4 hX (Nat.le_refl wo.heap.size) hk4
     have hd0 : Holds w 1 Ad d.length (bvals d):=hcv.1
     have how : Only [] w wr:=ho.trans oX (by simp)
     have hdw : Holds wr 1 Ad d.length (bvals d):=hd0.keep how (by simp)
     have hdl : q.length + d.length + 12 <= 1000008:=by
      have e:=congrArg List.length hlay
      simp only [List.length_append,show ∀ s,(four4 s).length = 4 from fun _=>rfl,hk4] at e
      omega
     have hr1 : 4 + d.length <= 140737488355328:=by omega
     have hr2 : q.length + 4 <= 140737488355328:=by omega
     have hr3 : q.length + 4 + (4 + d.length) <= 140737488355328:=by omega
     have hr4 : q.length + 4 + (4 + d.length) + 4 <= 140737488355328:=by omega
     have hO : ∀ w2,Only [] wo w2 -> OutS w wo.heap.size w2.heap.size w2 Ao q.length co q:=fun w2 h=>⟨own_keep hown h (by simp),fun b hb=>.inl (hown.lt b hb).2,ho.trans h (by simp),Nat.le_refl _⟩
     have HO:=hide (aI hO (aI hQ (aI ho (aI hd0 (aI hlay hk4)))))
     clear hX how hown hcv hk4 hlay hle hQ hO hd0 hmk hi hi4 y0
     have hlt' : j + 1 <= n:=by omega
     go_upto_region 11 with (at_builtin; refine list_more rfl (.tmp 40) (.tmp 45) rfl wo wr (l:=d) rfl hdw hr1 hown2 oX rfl rfl ?_; intro A2 c2 w2 hx2 ox2)
     clear hdw hown2 oX y1
     obtain ⟨y0,y1⟩:=HO.out.2.1 w2 (HO.out.2.2.1.trans ox2 (by simp))
     have hb2:=Holds.of_own hx2
     have hr : 0 < 4 + d.length -> ∀ ad,A2 = some ad -> wo.heap.size <= ad.block /\ ad.block < w2.heap.size:=fun h0 ad ha=>by
      subst ha
      exact ⟨(hx2.lt ad.block rfl).1,hb2.blk h0 ad rfl⟩
     have H2:=hide (aI (HO.out.1 w2 ox2) (aI hb2 hr))
     clear hx2 hb2 hr ox2 y0
     go_wp2_with fail
     refine (HF.out d.length w2).mono ?_
     rintro e w3 ⟨rfl,hf3,of3⟩
     have out3:=H2.out.1.later of3
     have hb3:=H2.out.2.1.keep of3 (by simp)
     have hfb3 : Holds w3 1 (some ⟨w2.heap.size,0,none⟩) 4 (bvals (four4 d.length)):=Holds.of_own (own_row4 (q:=four4 d.length) hf3 (Nat.le_refl _) rfl)
     clear hf3
     go_upto_region 12 with (at_builtin; refine list_out rfl (.tmp 47) (.tmp 54) rfl out3 hfb3 hr2 rfl rfl ?_; intro A4 c4 w4 out4 on4)
     have hb4:=out3.spare on4 hb3 H2.out.2.2
     clear out3 hb3 hfb3 of3 on4
     go_upto_region 13 with (at_builtin; refine list_out rfl (.tmp 56) (.tmp 57) rfl out4 (l:=k ++ d) hb4 hr3 rfl rfl ?_; intro A5 c5 w5 out5 on5)
     have hb5:=out4.spare on5 hb4 H2.out.2.2
     have hkd : (k ++ d).length = 4 + d.length:=by rw [List.length_append,HO.out.2.2.2.2.2]
     have hcr : ∀ c,Calls Tryz.prog 61 #[.slice A2 (4 + d.length) c] w5 fun e w'=>e = .returned (.int .u32 ((crcW (k ++ d) : Nat) : Int)) /\ w5 = w':=fun c=>refCrc_any A2 _ c (k ++ d) w5 hb5 hkd (by omega)
     have hlt : crcW (k ++ d) < 4294967296:=by unfold crcW; omega
     obtain ⟨s,hs⟩ : ∃ s,s = crcW (k ++ d):=⟨_,rfl⟩
     rw [<- hs] at hcr hlt
     have hw3 : IntKind.i64.wrap (s : Int) = (s : Int):=IntWalk.i64_in _ ⟨by omega,by omega⟩
     have HC:=hide hcr
     have HSS:=hide hs
     clear hcr hb5 hkd on5 hb4 out4 hs
     go_wp2_with fail
     refine (HC.out _).mono ?_
     rintro e w6 ⟨rfl,rfl⟩
     go_wp2_with fail
     refine (HF.out s w5).mono ?_
     rintro e w6 ⟨rfl,hf6,of6⟩
     have out6:=out5.later of6
     have hfb6 : Holds w6 1 (some ⟨w5.heap.size,0,none⟩) 4 (bvals (four4 s)):=Holds.of_own (own_row4 (q:=four4 s) hf6 (Nat.le_refl _) rfl)
     clear hf6 of6 out5
     go_upto_region 4 with (at_builtin; refine list_out rfl (.tmp 59) (.tmp 63) rfl out6 hfb6 hr4 rfl rfl ?_; intro A7 c7 w7 out7 on7)
     have hq7 : (q ++ four4 d.length ++ (k ++ d) ++ four4 s) = layB (List.take (j + 1) (ps.map Cv.ck)):=by
      rw [HO.out.2.2.2.2.1,<- HSS.out]; simp only [List.append_assoc]
     have hl7 : q.length + 4 + (4 + d.length) + 4 = (layB (List.take (j + 1) (ps.map Cv.ck))).length:=by
      rw [<- hq7]; simp only [List.length_append,show ∀ s,(four4 s).length = 4 from fun _=>rfl,HO.out.2.2.2.2.2]
     have own7:=out7.own
     have only7:=out7.only
     rw [hq7] at own7
     rw [hl7] at own7 ⊢
     have H7:=hide (aI own7 only7)
     clear own7 only7 out7 on7 out6 hfb6 hq7 hl7
     go_wp2_with fail
     go_roundw
     case rel=>exact ⟨j + 1,A7,c7,hlt',rfl,by go_num,H7.out.1,H7.out.2⟩
     case measure=>simp [intOf]; omega
  ·obtain rfl : j = n:=by omega
   rw [List.take_of_length_le (by rw [List.length_map]; omega)] at hown ⊢
   have HF2:=hide (aI hown ho)
   clear hA hl hps hsum hn hown ho
   go_wp2_with fail
   go_ret
   exact ⟨_,_,rfl,HF2.out.1,HF2.out.2⟩
def kindQ (k : Int) : Nat:=if 0 <= k /\ k <= 4 then k.toNat else 0
theorem kindQ_le (k : Int) : kindQ k <= 4:=by unfold kindQ; split <;> omega
structure EnS (w : World) (W H : Nat) (l : Nat) (A : Option Addr) (n c : Nat) (M : List UInt8) (X : World) : Prop where
 mat : Has X w.heap.size 32 #[.int .i64 (W : Int),.int .i64 (H : Int),.slice A n c]
 file : Has X (w.heap.size + 1) 64 #[.int .i64 (W : Int),.int .i64 (H : Int),.int .i64 8,.int .i64 6,.int .i64 (l : Int),.slice none 0 0,.bool false,.slice none 0 0,.bool false,.slice none 0 0,.bool false,.bool false]
 only : Only [] w X
theorem EnS.later {w : World} {W H l n c : Nat} {A : Option Addr} {M : List UInt8} {X Y : World} (h : EnS w W H l A n c M X) {S : List Nat} (ho : Only S X Y) (hS : ∀ k ∈ S,w.heap.size + 2 <= k) : EnS w W H l A n c M Y :=
 ⟨h.mat.only ho (fun hm=>by have:=hS _ hm; omega),h.file.only ho (fun hm=>by have:=hS _ hm; omega),h.only.trans ho (fun k hk hlt=>by have:=hS k hk; omega)⟩
def fsLit (B k : Nat) (l : List UInt8) : FS:=⟨fun v=>∃ g,v = .slice (some ⟨g,0,none⟩) k k,fun v w=>∀ g,v = .slice (some ⟨g,0,none⟩) k k -> B <= g /\ Has w g 5 (bvals l).toArray,blkOf⟩
theorem fsLit_keep (B k : Nat) (l : List UInt8) (v : Value) (w w' : World) (T : List Nat) (ho : Only T w w') (hT : ∀ j ∈ T,B <= j /\ j ∉ (fsLit B k l).own v) (h : (fsLit B k l).fact v w) : (fsLit B k l).fact v w':=fun g he =>
 ⟨(h g he).1,(h g he).2.only ho fun hm=>(hT g hm).2 (by rw [he]; exact List.mem_singleton_self _)⟩
theorem fsLit_call {B k : Nat} {l : List UInt8} {w x : World} (hB : B <= w.heap.size) (hx : Has x w.heap.size 5 (bvals l).toArray) :
 (fsLit B k l).pure (.slice (some ⟨w.heap.size,0,none⟩) k k) /\ (fsLit B k l).fact (.slice (some ⟨w.heap.size,0,none⟩) k k) x /\ ∀ j ∈ (fsLit B k l).own (.slice (some ⟨w.heap.size,0,none⟩) k k),w.heap.size <= j /\ j < x.heap.size :=
 ⟨⟨_,rfl⟩,fun g he=>by injection he with he; injection he with he; injection he with he; subst he; exact ⟨hB,hx⟩,fun j hj=>by
   have : j = w.heap.size:=by simpa [fsLit,blkOf] using hj
   subst this
   exact ⟨Nat.le_refl _,hx.lt⟩⟩
theorem lit_holds {w : World} {g k : Nat} {l : List UInt8} (h : Has w g 5 (bvals l).toArray) (hl : l.length = k) : Holds w 1 (some ⟨g,0,none⟩) k (bvals l) :=
 ⟨by rw [bvals_length,hl,Nat.mul_one],fun _=>⟨_,rfl,h.lt,fun j u hu=>by rw [add_zero_of,h.cell,List.getElem?_toArray]; exact hu⟩⟩
theorem append_full (B g g' : Nat) (l l' : List UInt8) (ty : TypeId) (w : World) (h : Has w g 5 (bvals l).toArray) (h' : Has w g' 5 (bvals l').toArray) (hl : l.length = 4) (hl' : l'.length = 4) (hB : B <= w.heap.size) :
 ∃ c' w',(Builtin.append_ #[22,22] ty #[.slice (some ⟨g,0,none⟩) 4 4,.slice (some ⟨g',0,none⟩) 4 4]).run Tryz.prog w = .ok (.slice (some ⟨w.heap.size,0,none⟩) 8 c') w' /\ w'.ownsRow B 5 1 (.slice (some ⟨w.heap.size,0,none⟩) 8 c') 8 (bvals (l ++ l')) /\ Only [g] w w':=by
 obtain ⟨i0,hi0,hz0,hz1,hz2⟩:=info_of u8_info
 have e:=run_append_grow (P:=Tryz.prog) w 22 ty 5 i0 _ Tryz.underlying22 hi0 hz0 ⟨g,0,none⟩ 4 4 (bvals l) (by rw [bvals_length,hl,hz1]) (fun j v hv=>by rw [add_zero_of,h.cell,List.getElem?_toArray]; exact hv) ⟨g',0,none⟩ 4 4 (bvals l') (by rw [bvals_length,hl',hz1]) (fun j v hv=>by rw [add_zero_of,h'.cell,List.getElem?_toArray]; exact hv) (by omega) (by omega) (by rw [hz2]; decide)
 have hown : w.ownsRow 0 5 1 (.slice (some ⟨g,0,none⟩) 4 4) 4 (bvals l):=own_row4 h (Nat.zero_le _) hl
 obtain ⟨v',w',hrun,h2,h3,_⟩:=run_append_holds (P:=Tryz.prog) w 0 22 ty 5 i0 _ 1 1 Tryz.underlying22 hi0 hz0 hz1 hz2 rfl (Nat.zero_lt_one) hown 4 (lit_holds h' hl') (bvals_one l') (by omega) (Nat.zero_lt_one) (Nat.zero_le _)
 rw [e] at hrun
 injection hrun with q1 q2
 subst q1
 refine ⟨grownCap w (4 + 4) 4 5,w',?_,?_,only_of_grown h3⟩
 ·rw [e,q2]
 ·obtain ⟨k1,k2⟩:=h2
  rw [bvals_append]
  refine ⟨k1,?_⟩
  rcases k2 with ⟨k2,_⟩ | ⟨g2,cap,cur,k2,_,k4⟩
  ·cases k2
  ·injection k2 with k2 _ k3
   injection k2 with k2
   injection k2 with k2
   subst k2
   exact .inr ⟨_,cap,cur,by rw [k3],hB,k4⟩
theorem frm_append {P : Program} {o : Oper} {a : Act} {S : FS} {E : List Nat} {w w' : World} (s x : Operand) (t : TypeId) (ho : o.op = .call { callee:=.builtin .append,args:=#[s,x],argTypes:=#[t,t] }) {u v r : Value}
 (hs : a.eval s = u) (hx : a.eval x = v) (hrun : (Builtin.append_ #[t,t] o.type #[u,v]).run P w = .ok r w') (h : Only E w w' /\ S.pure r /\ S.fact r w' /\ ∀ k ∈ S.own r,w.heap.size <= k /\ k < w'.heap.size) : frmUpon P S E w ((execOp a.eval o).run P w):=by
 unfold execOp
 simp only [ho,resolve,invoke,builtin,Sem.run_bind,Sem.run_pure,Result.andThen_ok,List.map_toArray,List.map_cons,List.map_nil,hs,hx,hrun]
 exact h
end Go.Proofs.YtjfjmkkkbcgohaaGreatDoor
