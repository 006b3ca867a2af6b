import Derived.Test.YtmfoeihapalkpaaGreatDoorMFlA
namespace Go.Proofs.YtmfoeihapalkpaaGreatDoor
open Go Go.RowKit
def fixedL : List UInt8:=List.replicate 144 8 ++ (List.replicate 112 9 ++ (List.replicate 24 7 ++ List.replicate 8 8))
def fixedD : List UInt8:=List.replicate 30 5
theorem fixedL_len : fixedL.length = 288:=by decide +kernel
theorem fixedL_all : ((List.range 288).all fun i=>(fixedL[i]?).map (·.toNat) == some (if i < 144 then 8 else if i < 256 then 9 else if i < 280 then 7 else 8)) = true:=by decide +kernel
theorem fixedL_get {i : Nat} (h : i < 288) (h' : i < fixedL.length) : fixedL[i].toNat = if i < 144 then 8 else if i < 256 then 9 else if i < 280 then 7 else 8:=by
 have:=List.all_eq_true.1 fixedL_all i (List.mem_range.2 h)
 rw [beq_iff_eq,List.getElem?_eq_getElem h'] at this
 simpa using this
theorem Has.holds {w : World} {g n : Nat} {t : TypeId} {l : List UInt8} (h : Has w g t (bvals l).toArray) (hn : l.length = n) : Holds w 1 (some ⟨g,0,none⟩) n (bvals l) :=
 ⟨by rw [bvals_length,hn,Nat.mul_one],fun _=>⟨_,rfl,h.lt,fun j u hu=>by rw [add_zero_of,h.cell,List.getElem?_toArray]; exact hu⟩⟩
theorem parts_all (a b c d : Option Addr) : CPart.all [⟨a,144,List.replicate 144 8⟩,⟨b,112,List.replicate 112 9⟩,⟨c,24,List.replicate 24 7⟩,⟨d,8,List.replicate 8 8⟩] = fixedL:=by
 unfold CPart.all fixedL
 simp only [List.map_cons,List.map_nil,List.flatten_cons,List.flatten_nil,List.append_nil]
theorem lit_one (w : World) (v : UInt8) : Holds (w.alloc (.cells #[.int .u8 (v.toNat : Int)] 5)) 1 (some ⟨w.heap.size,0,none⟩) 1 (bvals [v]):=Holds.lit w #[.int .u8 (v.toNat : Int)] 5
set_option maxRecDepth 100000 in
set_option maxHeartbeats 8000000 in
theorem fixed_own (w : World) : Calls Tryz.prog 152 #[] w fun e w'=>∃ va g,e = .returned (.tuple #[va,.slice (some ⟨g,0,none⟩) 30 30]) /\ w'.ownsRow 0 5 1 va 288 (bvals fixedL) /\ w'.ownsRow 0 5 1 (.slice (some ⟨g,0,none⟩) 30 30) 30 (bvals fixedD) /\ w.heap.size <= g /\ Only [] w w':=by
 have l8:=fun w1=>lit_one w1 8
 have l9:=fun w1=>lit_one w1 9
 have l7:=fun w1=>lit_one w1 7
 have l5:=fun w1=>lit_one w1 5
 have HL:=hide (aI l8 (aI l9 (aI l7 l5)))
 clear l8 l9 l7 l5
 go_enter Tryz.func152,Tryz.ntmps152
 go_wp2_with fail
 refine (repeat_any w.heap.size 8 144 (.inl rfl) _ (HL.out.1 w)).mono ?_
 rintro e w1 ⟨g1,rfl,_,hg1,ho1⟩
 have H1:=hide (aI hg1 (((Only.refl [] w).alloc _).trans ho1 (S:=[]) (by simp)))
 clear hg1 ho1
 go_wp2_with fail
 refine (repeat_any w1.heap.size 9 112 (.inr (.inl rfl)) _ (HL.out.2.1 w1)).mono ?_
 rintro e w2 ⟨g2,rfl,_,hg2,ho2⟩
 have H2:=hide (aI hg2 (((Only.refl [] w1).alloc _).trans ho2 (S:=[]) (by simp)))
 clear hg2 ho2
 go_wp2_with fail
 refine (repeat_any w2.heap.size 7 24 (.inr (.inr (.inl rfl))) _ (HL.out.2.2.1 w2)).mono ?_
 rintro e w3 ⟨g3,rfl,_,hg3,ho3⟩
 have H3:=hide (aI hg3 (((Only.refl [] w2).alloc _).trans ho3 (S:=[]) (by simp)))
 clear hg3 ho3
 go_wp2_with fail
 refine (repeat_any w3.heap.size 8 8 (.inr (.inr (.inr (.inl rfl)))) _ (HL.out.1 w3)).mono ?_
 rintro e w4 ⟨g4,rfl,_,hg4,ho4⟩
 have H4:=hide (aI hg4 (((Only.refl [] w3).alloc _).trans ho4 (S:=[]) (by simp)))
 clear hg4 ho4
 go_wp2_with fail
 have o24 : Only [] w2 w4:=H3.out.2.trans H4.out.2 (by simp)
 have o14 : Only [] w1 w4:=H2.out.2.trans o24 (by simp)
 have hps : ∀ p ∈ [(⟨some ⟨g1,0,none⟩,144,List.replicate 144 8⟩ : CPart),⟨some ⟨g2,0,none⟩,112,List.replicate 112 9⟩,⟨some ⟨g3,0,none⟩,24,List.replicate 24 7⟩,⟨some ⟨g4,0,none⟩,8,List.replicate 8 8⟩],
  Holds (w4.alloc (.cells #[.slice (some ⟨g1,0,none⟩) 144 144,.slice (some ⟨g2,0,none⟩) 112 112,.slice (some ⟨g3,0,none⟩) 24 24,.slice (some ⟨g4,0,none⟩) 8 8] 22)) 1 p.A p.l.length (bvals p.l):=by
  intro p hp
  simp only [List.mem_cons,List.not_mem_nil,or_false] at hp
  rcases hp with rfl | rfl | rfl | rfl
  ·show Holds _ 1 (some ⟨g1,0,none⟩) (List.replicate 144 (8 : UInt8)).length _
   rw [List.length_replicate]
   exact (H1.out.1.keep o14 (by simp)).keep ((Only.refl [] _).alloc _) (by simp)
  ·show Holds _ 1 (some ⟨g2,0,none⟩) (List.replicate 112 (9 : UInt8)).length _
   rw [List.length_replicate]
   exact (H2.out.1.keep o24 (by simp)).keep ((Only.refl [] _).alloc _) (by simp)
  ·show Holds _ 1 (some ⟨g3,0,none⟩) (List.replicate 24 (7 : UInt8)).length _
   rw [List.length_replicate]
   exact (H3.out.1.keep H4.out.2 (by simp)).keep ((Only.refl [] _).alloc _) (by simp)
  ·show Holds _ 1 (some ⟨g4,0,none⟩) (List.replicate 8 (8 : UInt8)).length _
   rw [List.length_replicate]
   exact H4.out.1.keep ((Only.refl [] _).alloc _) (by simp)
 have hPP : Holds (w4.alloc (.cells #[.slice (some ⟨g1,0,none⟩) 144 144,.slice (some ⟨g2,0,none⟩) 112 112,.slice (some ⟨g3,0,none⟩) 24 24,.slice (some ⟨g4,0,none⟩) 8 8] 22)) 1 (some ⟨w4.heap.size,0,none⟩) 4
  ([(⟨some ⟨g1,0,none⟩,144,List.replicate 144 8⟩ : CPart),⟨some ⟨g2,0,none⟩,112,List.replicate 112 9⟩,⟨some ⟨g3,0,none⟩,24,List.replicate 24 7⟩,⟨some ⟨g4,0,none⟩,8,List.replicate 8 8⟩].map CPart.val):=by
  have h:=Holds.lit w4 #[.slice (some ⟨g1,0,none⟩) 144 144,.slice (some ⟨g2,0,none⟩) 112 112,.slice (some ⟨g3,0,none⟩) 24 24,.slice (some ⟨g4,0,none⟩) 8 8] 22
  simpa [CPart.val] using h
 have hcon:=concat_any (some ⟨w4.heap.size,0,none⟩) 4 _ _ hPP (by simp) hps (by rw [parts_all,fixedL_len]; decide) (by rw [parts_all,fixedL_len]; decide)
 rw [parts_all,fixedL_len] at hcon
 refine Calls.mono hcon ?_
 rintro e w5 ⟨v5,rfl,hown5,ho5⟩
 have h04 : Only [] w w4:=H1.out.2.trans o14 (by simp)
 have H5:=hide (aI hown5 ((h04.alloc _).trans ho5 (S:=[]) (by simp)))
 clear hown5 ho5 hcon hPP hps o24 o14 h04
 go_wp2_with fail
 refine (repeat_row w5.heap.size 5 30 (.inr (.inr (.inr (.inr rfl)))) _ (HL.out.2.2.2 w5)).mono ?_
 rintro e w6 ⟨g6,rfl,hge,hg6,ho6⟩
 have o6 : Only [] w5 w6:=((Only.refl [] w5).alloc _).trans ho6 (S:=[]) (by simp)
 have hown6 : w6.ownsRow 0 5 1 (.slice (some ⟨g6,0,none⟩) 30 30) 30 (bvals fixedD) :=
  ⟨by decide +kernel,.inr ⟨g6,30,_,rfl,Nat.zero_le _,hg6,Nat.le_refl _,by decide,by decide +kernel,by kernel_rfl⟩⟩
 have hge2:=Nat.le_trans (H5.out.2.size) (Nat.le_trans (by simp) hge)
 have H6:=hide (aI hown6 (aI (own_keep (own_mono H5.out.1 (Nat.zero_le _)) o6 (by simp)) (H5.out.2.trans o6 (S:=[]) (by simp))))
 clear hg6 ho6 o6
 go_wp2_with fail
 go_ret2
 exact ⟨v5,g6,rfl,H6.out.2.1,H6.out.1,hge2,H6.out.2.2⟩
def fixedD2 : List UInt8:=List.replicate 32 5
theorem fixedD2_eq : bvals fixedD ++ [Value.int .u8 5,.int .u8 5] = bvals fixedD2:=by kernel_rfl
theorem fixL_len : fixedL.length = 288:=by decide +kernel
theorem fixL_far : far fixedL = false:=by decide +kernel
theorem fixL_may : mayBe (cn fixedL) = true:=by decide +kernel
theorem fixL_far' : ∀ i,ln fixedL i <= 15:=ln_far fixL_far
theorem fixD2_len : fixedD2.length = 32:=by decide +kernel
theorem fixD2_far : far fixedD2 = false:=by decide +kernel
theorem fixD2_may : mayBe (cn fixedD2) = true:=by decide +kernel
def Cd (w : World) (gc : Nat) (T D : List UInt8) : Prop:=∃ gT gD,Has w gc 166 #[.pointer (some ⟨gT,0,none⟩),.pointer (some ⟨gD,0,none⟩)] /\ Tb w gT T /\ Tb w gD D
def CdV (w : World) (v : Value) (T D : List UInt8) : Prop:=∃ gc,v = .pointer (some ⟨gc,0,none⟩) /\ Cd w gc T D
def Gs : List Nat:=[0,1,2]
def Other (w : World) (S : List Nat) : Prop:=∀ k ∈ S,k < w.heap.size -> (∃ t cs fr,w.heap[k]? = some (.cells cs t fr) /\ t ≠ 166 /\ t ≠ 238) /\ k ∉ Gs
theorem Other.nil (w : World) : Other w []:=fun k hk=>by cases hk
theorem Tb.keep {w w' : World} {gT : Nat} {T : List UInt8} {S : List Nat} (h : Tb w gT T) (ho : Only S w w') (hS : Other w S) : Tb w' gT T:=by
 refine h.only ho (fun hm=>?_)
 obtain ⟨⟨t,cs,fr,hh,_,hne⟩,_⟩:=hS gT hm h.lt
 obtain ⟨S',_,hT⟩:=h
 unfold Tbl Has at hT
 rw [hT] at hh
 injection hh with hh
 injection hh with _ ht
 exact hne ht.symm
theorem Cd.keep {w w' : World} {gc : Nat} {T D : List UInt8} {S : List Nat} (h : Cd w gc T D) (ho : Only S w w') (hS : Other w S) : Cd w' gc T D:=by
 obtain ⟨gT,gD,h1,h2,h3⟩:=h
 refine ⟨gT,gD,h1.only ho (fun hm=>?_),h2.keep ho hS,h3.keep ho hS⟩
 obtain ⟨⟨t,cs,fr,hh,hne,_⟩,_⟩:=hS gc hm h1.lt
 unfold Has at h1
 rw [h1] at hh
 injection hh with hh
 injection hh with _ ht
 exact hne ht.symm
theorem CdV.keep {w w' : World} {v : Value} {T D : List UInt8} {S : List Nat} (h : CdV w v T D) (ho : Only S w w') (hS : Other w S) : CdV w' v T D:=by
 obtain ⟨gc,rfl,h1⟩:=h
 exact ⟨gc,rfl,h1.keep ho hS⟩
set_option maxRecDepth 100000 in
set_option maxHeartbeats 4000000 in
theorem fixedC_any (w : World) : Calls Tryz.prog 101 #[] w fun e w'=>∃ gc,e = .returned (.pointer (some ⟨gc,0,none⟩)) /\ Cd w' gc fixedL fixedD2 /\ Only [] w w':=by
 obtain ⟨i0,hi0,hz0,hz1,hz2⟩:=info_of u8_info
 go_enter Tryz.func101,Tryz.ntmps101
 go_wp2_with fail
 refine (fixed_own w).mono ?_
 rintro e w1 ⟨va,gd,rfl,hva,hd,hgd,ho1⟩
 obtain ⟨A1,c1,rfl,_,_⟩:=own_shape hva
 have H1:=hide (aI hva (aI hd (aI hgd ho1)))
 clear hva hd hgd ho1
 go_wp2_with fail
 refine (newT_any A1 288 c1 fixedL w1 (Holds.of_own H1.out.1) fixL_len (by decide) fixL_far fixL_may).mono ?_
 rintro e w2 ⟨gT,rfl,_,hT,ho2⟩
 have H2:=hide (aI hT (aI (own_keep H1.out.2.1 ho2 (by simp)) (H1.out.2.2.2.trans ho2 (S:=[]) (by simp))))
 clear hT ho2
 have H55:=Holds.lit w2 #[.int .u8 5,.int .u8 5] 5
 go_wp2_with (at_builtin; refine list_append _ rfl (.tmp 17) (.tmp 18) 22 rfl 0 1 1 Tryz.underlying22 hi0 hz0 hz1 hz2 rfl (Nat.zero_lt_one) (H2.out.2.1.alloc _) rfl H55 rfl (by simp [Value.oneCell']) (by decide) (Nat.zero_lt_one) (Nat.zero_le _) ?_; intro A3 c3 w3 hown3 hgr3 _; have H3:=hide (aI hown3 hgr3); clear hown3 hgr3 H55)
 have hown3 : w3.ownsRow 0 5 1 (.slice A3 32 c3) 32 (bvals fixedD2):=by rw [<- fixedD2_eq]; exact H3.out.1
 have ho3 : Only [gd] w2 w3:=((Only.refl [gd] w2).alloc _).grown H3.out.2 (fun k hk _=>by injection hk with hk; subst hk; simp)
 have hT3 : Tb w3 gT fixedL:=by
  obtain ⟨S,hD,hTT⟩:=H2.out.1
  have hne : some gT ≠ (Value.slice (some ⟨gd,0,none⟩) 30 30).ownBlock:=own_ne H2.out.2.1 hTT (by decide)
  exact Tb.only ⟨S,hD,hTT⟩ ho3 (fun hm=>hne (by simp at hm; rw [hm]; rfl))
 have hO3 : Only [] w w3:=H2.out.2.2.trans ho3 (by simp; have:=H1.out.2.2.1; omega)
 have H4:=hide (aI hT3 hO3)
 have hh3:=Holds.of_own hown3
 clear hown3 ho3 hT3 hO3
 refine (newT_any A3 32 c3 fixedD2 w3 hh3 fixD2_len (by decide) fixD2_far fixD2_may).mono ?_
 rintro e w4 ⟨gD,rfl,_,hD4,ho4⟩
 have H5:=hide (aI (aI (H4.out.1.only ho4 (by simp)) hD4) (H4.out.2.trans ho4 (S:=[]) (by simp)))
 clear ho4 hh3 hD4
 go_wp2_with fail
 go_ret
 exact ⟨_,rfl,⟨gT,gD,Has.new _ _ _,H5.out.1.1.only ((Only.refl [] w4).alloc _) (by simp),H5.out.1.2.only ((Only.refl [] w4).alloc _) (by simp)⟩,H5.out.2.alloc _⟩
set_option maxRecDepth 100000 in
theorem done_any (g : Nat) (f : DF) (w : World) (h : Dc w g f) (b : Bool) (hb : decide ((f.k : Int) = 11) = b) :
 Calls Tryz.prog 184 #[.pointer (some ⟨g,0,none⟩)] w fun e w'=>e = .returned (.bool b) /\ w = w':=by
 have c1:=h.k
 have hb' : ((f.k : Int) == 11) = b:=hb
 clear h hb
 generalize (f.k : Int) = x at *
 go_enter Tryz.func184,Tryz.ntmps184
 go_wp2
 go_ret
 exact ⟨rfl,rfl⟩
set_option maxRecDepth 100000 in
theorem used_any (g : Nat) (f : DF) (w : World) (h : Dc w g f) :
 Calls Tryz.prog 112 #[.pointer (some ⟨g,0,none⟩)] w fun e w'=>e = .returned (.int .i64 (f.used : Int)) /\ w = w':=by
 have c3:=h.used
 clear h
 generalize (f.used : Int) = x at *
 go_enter Tryz.func112,Tryz.ntmps112
 go_wp2
 go_ret
 exact ⟨rfl,rfl⟩
set_option maxRecDepth 100000 in
theorem behind_any (g : Nat) (f : DF) (w : World) (h : Dc w g f) :
 Calls Tryz.prog 222 #[.pointer (some ⟨g,0,none⟩)] w fun e w'=>e = .returned (.int .i64 (behindK f.last : Nat)) /\ w = w':=by
 have c9:=h.last
 clear h
 cases hl : f.last <;> rw [hl] at c9 <;>
 ·go_enter Tryz.func222,Tryz.ntmps222
  go_wp2
  go_ret
  exact ⟨rfl,rfl⟩
theorem nilC (w : World) : (binOp .eql 167 (.pointer none) (.pointer none)).run Tryz.prog w = .ok (.bool true) w:=by kernel_rfl
theorem someC (g : Nat) (w : World) : (binOp .eql 167 (.pointer (some ⟨g,0,none⟩)) (.pointer none)).run Tryz.prog w = .ok (.bool false) w:=by kernel_rfl
set_option maxRecDepth 100000 in
set_option maxHeartbeats 2000000 in
theorem fixedCodes_any (g : Nat) (f : DF) (w : World) (h : Dc w g f) (hx : f.fx = .pointer none \/ CdV w f.fx fixedL fixedD2) (hgs : g ∉ Gs) :
 Calls Tryz.prog 229 #[.pointer (some ⟨g,0,none⟩)] w fun e w'=>∃ gc,e = .returned (.pointer (some ⟨gc,0,none⟩)) /\ Cd w' gc fixedL fixedD2 /\ Dc w' g { f with fx:=.pointer (some ⟨gc,0,none⟩) } /\ Only [g] w w':=by
 have n1:=nilC
 have n2:=someC
 have H:=hide h
 have c:=h.fx
 rcases hx with hx | hx
 ·rw [hx] at c
  clear h hx
  go_enter Tryz.func229,Tryz.ntmps229
  go_wp2_with fail
  refine (fixedC_any w).mono ?_
  rintro e w1 ⟨gc,rfl,hv,ho1⟩
  have h1 : Dc w1 g f:=Has.only H.out ho1 (by simp)
  have k1:=h1.fx
  have q1 : w1.frozen? ⟨g,354,none⟩ = false:=Has.free h1 354
  have H1:=hide (aI h1 (aI hv ho1))
  clear h1 hv ho1 c
  go_wp2_with fail
  go_ret
  refine ⟨gc,rfl,H1.out.2.1.keep (S:=[g]) ((Only.refl _ _).setCell (by simp) _) ?_,Dc.set_fx H1.out.1 _,(H1.out.2.2.of_nil).setCell (by simp) _⟩
  intro k hk _
  obtain rfl : k = g:=by simpa using hk
  exact ⟨⟨_,_,_,H1.out.1,f.ne_ty (by decide) (by decide),f.ne_ty (by decide) (by decide)⟩,hgs⟩
 ·obtain ⟨gc,hx,hc⟩:=hx
  rw [hx] at c
  have HC:=hide (aI hc hx)
  clear h hx hc
  go_enter Tryz.func229,Tryz.ntmps229
  go_wp2_with fail
  go_ret
  refine ⟨gc,rfl,HC.out.1,?_,Only.refl _ _⟩
  rw [<- HC.out.2]
  exact H.out
structure Rn (w : World) (g gf gw gr : Nat) (K : List Nat) (f : DF) (v vo : Value) (l : List UInt8) (q : Nat) (all x : List UInt8) : Prop where
 on : On w g gf gw K f (.pointer (some ⟨gr,0,none⟩)) vo all x
 rd : Rd w gr v l q
 vK : ∀ b,v.ownBlock = some b -> b ∈ K
 gwK : gw ∉ K
 gK : ∀ k ∈ Gs,k ∈ K
 gg : g ∉ Gs /\ gf ∉ Gs /\ gr ∉ Gs
 fx : f.fx = .pointer none \/ CdV w f.fx fixedL fixedD2
namespace Rn
variable {w : World} {g gf gw gr : Nat} {K : List Nat} {f : DF} {v vo : Value} {l : List UInt8} {q : Nat} {all x : List UInt8}
theorem g_gr (h : Rn w g gf gw gr K f v vo l q all x) : g ≠ gr:=Has.ne h.on.dec h.rd.1 (f.ne_ty (by decide) (by decide))
theorem gf_gr (h : Rn w g gf gw gr K f v vo l q all x) : gf ≠ gr:=Has.ne h.on.flow h.rd.1 (by decide)
theorem gw_gr (h : Rn w g gf gw gr K f v vo l q all x) : gw ≠ gr:=by obtain ⟨ws,hw,_⟩:=h.on.ring; exact Has.ne hw h.rd.1 (by decide)
theorem vo_gr (h : Rn w g gf gw gr K f v vo l q all x) : some gr ≠ vo.ownBlock:=own_ne h.on.out h.rd.1 (by decide)
theorem v_g (h : Rn w g gf gw gr K f v vo l q all x) : some g ≠ v.ownBlock:=own_ne h.rd.2.1 h.on.dec (f.ty_ne (by decide) (by decide))
theorem v_gf (h : Rn w g gf gw gr K f v vo l q all x) : some gf ≠ v.ownBlock:=own_ne h.rd.2.1 h.on.flow (by decide)
theorem gw_gs (h : Rn w g gf gw gr K f v vo l q all x) : gw ∉ Gs:=fun hm=>h.gwK (h.gK _ hm)
theorem vo_gs (h : Rn w g gf gw gr K f v vo l q all x) : ∀ k ∈ Gs,vo.ownBlock ≠ some k:=fun k hk=>(h.on.apart k (h.gK k hk)).1
theorem other (h : Rn w g gf gw gr K f v vo l q all x) : Other w ([g,gf,gw,gr] ++ vo.ownBlock.toList):=by
 intro k hk _
 obtain ⟨ws,hw,_⟩:=h.on.ring
 rcases List.mem_append.1 hk with hk | hk
 ·simp only [List.mem_cons,List.not_mem_nil,or_false] at hk
  rcases hk with rfl | rfl | rfl | rfl
  ·exact ⟨⟨_,_,_,h.on.dec,f.ne_ty (by decide) (by decide),f.ne_ty (by decide) (by decide)⟩,h.gg.1⟩
  ·exact ⟨⟨_,_,_,h.on.flow,by decide,by decide⟩,h.gg.2.1⟩
  ·exact ⟨⟨_,_,_,hw,by decide,by decide⟩,h.gw_gs⟩
  ·exact ⟨⟨_,_,_,h.rd.1,by decide,by decide⟩,h.gg.2.2⟩
 ·have hk:=mem_own.1 hk
  refine ⟨?_,fun hm=>h.vo_gs k hm hk⟩
  rcases h.on.out.2 with ⟨rfl,_⟩ | ⟨gb,cap,cur,rfl,_,hh,_⟩
  ·cases hk
  ·have : gb = k:=by simpa [Value.ownBlock] using hk
   subst this
   exact ⟨_,_,_,hh,by decide,by decide⟩
theorem read {w' : World} {q' : Nat} (h : Rn w g gf gw gr K f v vo l q all x) (ho : Only [gr] w w') (hr : Rd w' gr v l q') : Rn w' g gf gw gr K f v vo l q' all x:=by
 have hO : Other w [gr]:=fun k hk hlt=>h.other k (by simp at hk; simp [hk]) hlt
 refine ⟨h.on.only ho (by simpa using h.g_gr) (by simpa using h.gf_gr) (by simpa using h.gw_gr) (fun b hb hm=>?_),hr,h.vK,h.gwK,h.gK,h.gg,?_⟩
 ·simp at hm; subst hm; exact h.vo_gr hb.symm
 ·rcases h.fx with hx | hx
  ·exact .inl hx
  ·exact .inr (hx.keep ho hO)
theorem cells {w' : World} {f' : DF} (h : Rn w g gf gw gr K f v vo l q all x) (ho : Only [g] w w') (hd : Dc w' g f') (h1 : f'.wb = f.wb) (h2 : f'.wn = f.wn) (hx : f'.fx = .pointer none \/ CdV w' f'.fx fixedL fixedD2) : Rn w' g gf gw gr K f' v vo l q all x:=by
 obtain ⟨ws,hw,hws⟩:=h.on.ring
 have hv : ∀ b,v.ownBlock = some b -> b ∉ [g]:=fun b hb hm=>by simp at hm; subst hm; exact h.v_g hb.symm
 refine ⟨⟨hd,⟨ws,hw.only ho (by simpa using fun e=>h.on.g_gw e.symm),hws⟩,by rw [h1]; exact h.on.wb,by rw [h2]; exact h.on.wn,Has.only h.on.flow ho (by simpa using fun e=>h.on.g_gf e.symm),own_keep h.on.out ho (fun b hb hm=>?_),h.on.gw_,fun k hk=>⟨(h.on.apart k hk).1,Nat.lt_of_lt_of_le (h.on.apart k hk).2 ho.size⟩⟩,
  h.rd.only ho (by simpa using fun e=>h.g_gr e.symm) hv,h.vK,h.gwK,h.gK,h.gg,hx⟩
 simp at hm; subst hm; exact h.on.g_vo hb.symm
theorem keepV {w' : World} {u : Value} {T D : List UInt8} (h : Rn w g gf gw gr K f v vo l q all x) (ho : Only [g] w w') (hc : CdV w u T D) : CdV w' u T D :=
 hc.keep ho (fun k hk hlt=>h.other k (by simp at hk; simp [hk]) hlt)
theorem keepX {w' : World} (h : Rn w g gf gw gr K f v vo l q all x) (ho : Only [g] w w') : f.fx = .pointer none \/ CdV w' f.fx fixedL fixedD2:=h.fx.imp id (h.keepV ho)
end Rn
set_option maxRecDepth 100000 in
set_option maxHeartbeats 2000000 in
theorem begin_short (g gf gw gr : Nat) (K : List Nat) (f : DF) (v vo : Value) (l : List UInt8) (q : Nat) (all x : List UInt8) (w : World) (h : Rn w g gf gw gr K f v vo l q all x) (hq : 8 * l.length < q + 3) :
 Calls Tryz.prog 219 #[.pointer (some ⟨g,0,none⟩),.pointer (some ⟨gf,0,none⟩)] w fun e w' =>
  e = .returned (.tuple #[.int .i64 0,.int .i64 2]) /\ Rn w' g gf gw gr K f v vo l q all x /\ Only [gr] w w':=by
 have hB:=bits_any gr v l q 3 w h.rd
 have ok : okBits l.length q 3 = false:=by unfold okBits; simp; omega
 rw [ok] at hB
 generalize gotBits l q 3 = y at *
 have c0 : w.cell? ⟨gf,0,none⟩ = some (.pointer (some ⟨gr,0,none⟩)):=Has.cell h.on.flow 0
 have HB:=hide hB
 have H:=hide h
 clear hB h ok hq
 go_enter Tryz.func219,Tryz.ntmps219
 go_wp2_with fail
 refine (HB.out).mono ?_
 rintro e w1 ⟨rfl,ho1,hr1⟩
 have H1:=hide (aI ho1 hr1)
 clear ho1 hr1
 go_wp2_with fail
 go_ret2
 exact ⟨rfl,H.out.read H1.out.1 H1.out.2,H1.out.1⟩
set_option maxRecDepth 100000 in
set_option maxHeartbeats 4000000 in
theorem begin_plain (g gf gw gr : Nat) (K : List Nat) (f : DF) (v vo : Value) (l : List UInt8) (q : Nat) (all x : List UInt8) (w : World) (h : Rn w g gf gw gr K f v vo l q all x) (hq : q + 3 <= 8 * l.length) (last : Bool) (kd k c : Nat) (hkd : (kd = 0 /\ k = 1 /\ c = 0) \/ (kd = 2 /\ k = 3 /\ c = 0) \/ (kd = 3 /\ k = 0 /\ c = 3)) (hv : bitsOf (num l) q 3 = last.toNat + 2 * kd) :
 Calls Tryz.prog 219 #[.pointer (some ⟨g,0,none⟩),.pointer (some ⟨gf,0,none⟩)] w fun e w' =>
  e = .returned (.tuple #[.int .i64 (k : Int),.int .i64 (c : Int)]) /\ Rn w' g gf gw gr K { f with last:=last } v vo l (q + 3) all x /\ Only [g,gr] w w':=by
 have hB:=bits_any gr v l q 3 w h.rd
 have ok : okBits l.length q 3 = true:=by unfold okBits; simp; omega
 unfold gotBits at hB
 rw [ok] at hB
 simp only [if_true] at hB
 rw [show (3 : Int).toNat = 3 from rfl,hv] at hB
 have c0 : w.cell? ⟨gf,0,none⟩ = some (.pointer (some ⟨gr,0,none⟩)):=Has.cell h.on.flow 0
 have HB:=hide hB
 have H:=hide h
 clear hB h ok hq hv
 have b0 : bits .and .u32 0 1 = 0:=by decide
 have b1 : bits .and .u32 1 1 = 1:=by decide
 have b4 : bits .and .u32 4 1 = 0:=by decide
 have b5 : bits .and .u32 5 1 = 1:=by decide
 have b6 : bits .and .u32 6 1 = 0:=by decide
 have b7 : bits .and .u32 7 1 = 1:=by decide
 rcases hkd with ⟨rfl,rfl,rfl⟩ | ⟨rfl,rfl,rfl⟩ | ⟨rfl,rfl,rfl⟩ <;> cases last <;>
 ·go_enter Tryz.func219,Tryz.ntmps219
  go_wp2_with fail
  refine (HB.out).mono ?_
  rintro e w1 ⟨rfl,ho1,hr1⟩
  have h1:=H.out.read ho1 hr1
  have k9:=h1.on.dec.last
  have f9 : w1.frozen? ⟨g,9,none⟩ = false:=Has.free h1.on.dec 9
  have H1:=hide (aI ho1 h1)
  clear ho1 hr1 h1
  go_wp2_with fail
  go_ret2
  exact ⟨rfl,H1.out.2.cells ((Only.refl [g] _).setCell (by simp) _) (Dc.set_last H1.out.2.on.dec _) rfl rfl (H1.out.2.keepX ((Only.refl [g] _).setCell (by simp) _)),((H1.out.1.weak (by simp)).setCell (by simp) _)⟩
set_option maxRecDepth 100000 in
set_option maxHeartbeats 2000000 in
theorem begin_fixed (g gf gw gr : Nat) (K : List Nat) (f : DF) (v vo : Value) (l : List UInt8) (q : Nat) (all x : List UInt8) (w : World) (h : Rn w g gf gw gr K f v vo l q all x) (hq : q + 3 <= 8 * l.length) (last : Bool) (hv : bitsOf (num l) q 3 = last.toNat + 2) :
 Calls Tryz.prog 219 #[.pointer (some ⟨g,0,none⟩),.pointer (some ⟨gf,0,none⟩)] w fun e w' =>
  e = .returned (.tuple #[.int .i64 7,.int .i64 0]) /\ (∃ gc,Cd w' gc fixedL fixedD2 /\ Rn w' g gf gw gr K { f with last:=last,fx:=.pointer (some ⟨gc,0,none⟩),co:=.pointer (some ⟨gc,0,none⟩) } v vo l (q + 3) all x) /\ Only [g,gr] w w':=by
 have hB:=bits_any gr v l q 3 w h.rd
 have ok : okBits l.length q 3 = true:=by unfold okBits; simp; omega
 unfold gotBits at hB
 rw [ok] at hB
 simp only [if_true] at hB
 rw [show (3 : Int).toNat = 3 from rfl,hv] at hB
 have c0 : w.cell? ⟨gf,0,none⟩ = some (.pointer (some ⟨gr,0,none⟩)):=Has.cell h.on.flow 0
 have HB:=hide hB
 have H:=hide h
 clear hB h ok hq hv
 have b0 : bits .and .u32 2 1 = 0:=by decide
 have b1 : bits .and .u32 3 1 = 1:=by decide
 cases last <;>
 ·go_enter Tryz.func219,Tryz.ntmps219
  go_wp2_with fail
  refine (HB.out).mono ?_
  rintro e w1 ⟨rfl,ho1,hr1⟩
  have h1:=H.out.read ho1 hr1
  have k9:=h1.on.dec.last
  have f9 : w1.frozen? ⟨g,9,none⟩ = false:=Has.free h1.on.dec 9
  have H1:=hide (aI ho1 h1)
  clear ho1 hr1 h1
  go_wp2_with fail
  have HF:=fun b=>fixedCodes_any g _ _ (Dc.set_last H1.out.2.on.dec b) (H1.out.2.fx.imp id (H1.out.2.keepV ((Only.refl [g] _).setCell (by simp) _))) H1.out.2.gg.1
  first | refine (HF false).mono ?_ | refine (HF true).mono ?_
  rintro e w2 ⟨gc,rfl,hc2,hd2,ho2⟩
  have k2:=hd2.co
  have q2 : w2.frozen? ⟨g,353,none⟩ = false:=Has.free hd2 353
  have H2:=hide (aI hc2 (aI hd2 ho2))
  clear hc2 hd2 ho2 HF
  go_wp2_with fail
  go_ret2
  have o2 : Only [g] w1 (w2.setCell ⟨g,353,none⟩ (.pointer (some ⟨gc,0,none⟩))):=(((Only.refl [g] _).setCell (by simp) _).trans H2.out.2.2 (by simp)).setCell (by simp) _
  have hc3 : Cd (w2.setCell ⟨g,353,none⟩ (.pointer (some ⟨gc,0,none⟩))) gc fixedL fixedD2:=H2.out.1.keep (S:=[g]) ((Only.refl [g] _).setCell (by simp) _) (fun k hk _=>by
   obtain rfl : k = g:=by simpa using hk
   exact ⟨⟨_,_,_,H2.out.2.1,DF.ne_ty _ (by decide) (by decide),DF.ne_ty _ (by decide) (by decide)⟩,H1.out.2.gg.1⟩)
  refine ⟨rfl,⟨gc,hc3,H1.out.2.cells o2 (Dc.set_co H2.out.2.1 _) rfl rfl (.inr ⟨gc,rfl,hc3⟩)⟩,(H1.out.1.weak (by simp)).trans o2 (by simp)⟩
end Go.Proofs.YtmfoeihapalkpaaGreatDoor
