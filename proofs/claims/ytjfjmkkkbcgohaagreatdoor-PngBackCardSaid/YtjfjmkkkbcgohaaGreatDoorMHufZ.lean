import Derived.Test.YtjfjmkkkbcgohaaGreatDoorMFlA
namespace Go.Proofs.YtjfjmkkkbcgohaaGreatDoor
open Go Go.RowKit
def fixedL : List UInt8:=List.replicate 144 8 ++ (List.replicate 112 9 ++ (List.replicate 24 7 ++ List.replicate 8 8))
theorem Has.holds {w : World} {g n : Nat} {t : TypeId} {l : List UInt8} (h : Has w g t (bvals l).toArray) (hn : l.length = n) : Holds w 1 (some ⟨g,0,none⟩) n (bvals l) :=
 ⟨by rw [bvals_length,hn,Nat.mul_one],fun _=>⟨_,rfl,h.lt,fun j u hu=>by rw [add_zero_of,h.cell,List.getElem?_toArray]; exact hu⟩⟩
def fixedD2 : List UInt8:=List.replicate 32 5
theorem fixL_len : fixedL.length = 288:=by decide +kernel
theorem fixL_far : far fixedL = false:=by decide +kernel
theorem fixL_may : mayBe (cn fixedL) = true:=by decide +kernel
theorem fixD2_len : fixedD2.length = 32:=by decide +kernel
theorem fixD2_far : far fixedD2 = false:=by decide +kernel
theorem fixD2_may : mayBe (cn fixedD2) = true:=by decide +kernel
def Cd (w : World) (gc : Nat) (T D : List UInt8) : Prop:=∃ gT gD,Has w gc 145 #[.pointer (some ⟨gT,0,none⟩),.pointer (some ⟨gD,0,none⟩)] /\ Tb w gT T /\ Tb w gD D
def CdV (w : World) (v : Value) (T D : List UInt8) : Prop:=∃ gc,v = .pointer (some ⟨gc,0,none⟩) /\ Cd w gc T D
def Gs : List Nat:=[0,1,2]
def Other (w : World) (S : List Nat) : Prop:=∀ k ∈ S,k < w.heap.size -> (∃ t cs fr,w.heap[k]? = some (.cells cs t fr) /\ t ≠ 145 /\ t ≠ 210) /\ k ∉ Gs
theorem Other.nil (w : World) : Other w []:=fun k hk=>by cases hk
theorem Tb.keep {w w' : World} {gT : Nat} {T : List UInt8} {S : List Nat} (h : Tb w gT T) (ho : Only S w w') (hS : Other w S) : Tb w' gT T:=by
 refine h.only ho (fun hm=>?_)
 obtain ⟨⟨t,cs,fr,hh,_,hne⟩,_⟩:=hS gT hm h.lt
 obtain ⟨S',_,hT⟩:=h
 unfold Tbl Has at hT
 rw [hT] at hh
 injection hh with hh
 injection hh with _ ht
 exact hne ht.symm
theorem Cd.keep {w w' : World} {gc : Nat} {T D : List UInt8} {S : List Nat} (h : Cd w gc T D) (ho : Only S w w') (hS : Other w S) : Cd w' gc T D:=by
 obtain ⟨gT,gD,h1,h2,h3⟩:=h
 refine ⟨gT,gD,h1.only ho (fun hm=>?_),h2.keep ho hS,h3.keep ho hS⟩
 obtain ⟨⟨t,cs,fr,hh,hne,_⟩,_⟩:=hS gc hm h1.lt
 unfold Has at h1
 rw [h1] at hh
 injection hh with hh
 injection hh with _ ht
 exact hne ht.symm
theorem CdV.keep {w w' : World} {v : Value} {T D : List UInt8} {S : List Nat} (h : CdV w v T D) (ho : Only S w w') (hS : Other w S) : CdV w' v T D:=by
 obtain ⟨gc,rfl,h1⟩:=h
 exact ⟨gc,rfl,h1.keep ho hS⟩
set_option maxRecDepth 100000 in
theorem done_any (g : Nat) (f : DF) (w : World) (h : Dc w g f) (b : Bool) (hb : decide ((f.k : Int) = 11) = b) :
 Calls Tryz.prog 148 #[.pointer (some ⟨g,0,none⟩)] w fun e w'=>e = .returned (.bool b) /\ w = w':=by
 have c1:=h.k
 have hb' : ((f.k : Int) == 11) = b:=hb
 clear h hb
 generalize (f.k : Int) = x at *
 go_enter Tryz.func148,Tryz.ntmps148
 go_wp2
 go_ret
 exact ⟨rfl,rfl⟩
set_option maxRecDepth 100000 in
theorem used_any (g : Nat) (f : DF) (w : World) (h : Dc w g f) :
 Calls Tryz.prog 92 #[.pointer (some ⟨g,0,none⟩)] w fun e w'=>e = .returned (.int .i64 (f.used : Int)) /\ w = w':=by
 have c3:=h.used
 clear h
 generalize (f.used : Int) = x at *
 go_enter Tryz.func92,Tryz.ntmps92
 go_wp2
 go_ret
 exact ⟨rfl,rfl⟩
set_option maxRecDepth 100000 in
theorem behind_any (g : Nat) (f : DF) (w : World) (h : Dc w g f) :
 Calls Tryz.prog 170 #[.pointer (some ⟨g,0,none⟩)] w fun e w'=>e = .returned (.int .i64 (behindK f.last : Nat)) /\ w = w':=by
 have c9:=h.last
 clear h
 cases hl : f.last <;> rw [hl] at c9 <;>
 ·go_enter Tryz.func170,Tryz.ntmps170
  go_wp2
  go_ret
  exact ⟨rfl,rfl⟩
structure Rn (w : World) (g gf gw gr : Nat) (K : List Nat) (f : DF) (v vo : Value) (l : List UInt8) (q : Nat) (all x : List UInt8) : Prop where
 on : On w g gf gw K f (.pointer (some ⟨gr,0,none⟩)) vo all x
 rd : Rd w gr v l q
 vK : ∀ b,v.ownBlock = some b -> b ∈ K
 gwK : gw ∉ K
 gK : ∀ k ∈ Gs,k ∈ K
 gg : g ∉ Gs /\ gf ∉ Gs /\ gr ∉ Gs
 fx : f.fx = .pointer none \/ CdV w f.fx fixedL fixedD2
namespace Rn
variable {w : World} {g gf gw gr : Nat} {K : List Nat} {f : DF} {v vo : Value} {l : List UInt8} {q : Nat} {all x : List UInt8}
theorem g_gr (h : Rn w g gf gw gr K f v vo l q all x) : g ≠ gr:=Has.ne h.on.dec h.rd.1 (f.ne_ty (by decide) (by decide))
theorem gf_gr (h : Rn w g gf gw gr K f v vo l q all x) : gf ≠ gr:=Has.ne h.on.flow h.rd.1 (by decide)
theorem gw_gr (h : Rn w g gf gw gr K f v vo l q all x) : gw ≠ gr:=by obtain ⟨ws,hw,_⟩:=h.on.ring; exact Has.ne hw h.rd.1 (by decide)
theorem vo_gr (h : Rn w g gf gw gr K f v vo l q all x) : some gr ≠ vo.ownBlock:=own_ne h.on.out h.rd.1 (by decide)
theorem v_g (h : Rn w g gf gw gr K f v vo l q all x) : some g ≠ v.ownBlock:=own_ne h.rd.2.1 h.on.dec (f.ty_ne (by decide) (by decide))
theorem v_gf (h : Rn w g gf gw gr K f v vo l q all x) : some gf ≠ v.ownBlock:=own_ne h.rd.2.1 h.on.flow (by decide)
theorem gw_gs (h : Rn w g gf gw gr K f v vo l q all x) : gw ∉ Gs:=fun hm=>h.gwK (h.gK _ hm)
theorem vo_gs (h : Rn w g gf gw gr K f v vo l q all x) : ∀ k ∈ Gs,vo.ownBlock ≠ some k:=fun k hk=>(h.on.apart k (h.gK k hk)).1
theorem other (h : Rn w g gf gw gr K f v vo l q all x) : Other w ([g,gf,gw,gr] ++ vo.ownBlock.toList):=by
 intro k hk _
 obtain ⟨ws,hw,_⟩:=h.on.ring
 rcases List.mem_append.1 hk with hk | hk
 ·simp only [List.mem_cons,List.not_mem_nil,or_false] at hk
  rcases hk with rfl | rfl | rfl | rfl
  ·exact ⟨⟨_,_,_,h.on.dec,f.ne_ty (by decide) (by decide),f.ne_ty (by decide) (by decide)⟩,h.gg.1⟩
  ·exact ⟨⟨_,_,_,h.on.flow,by decide,by decide⟩,h.gg.2.1⟩
  ·exact ⟨⟨_,_,_,hw,by decide,by decide⟩,h.gw_gs⟩
  ·exact ⟨⟨_,_,_,h.rd.1,by decide,by decide⟩,h.gg.2.2⟩
 ·have hk:=mem_own.1 hk
  refine ⟨?_,fun hm=>h.vo_gs k hm hk⟩
  rcases h.on.out.2 with ⟨rfl,_⟩ | ⟨gb,cap,cur,rfl,_,hh,_⟩
  ·cases hk
  ·have : gb = k:=by simpa [Value.ownBlock] using hk
   subst this
   exact ⟨_,_,_,hh,by decide,by decide⟩
theorem read {w' : World} {q' : Nat} (h : Rn w g gf gw gr K f v vo l q all x) (ho : Only [gr] w w') (hr : Rd w' gr v l q') : Rn w' g gf gw gr K f v vo l q' all x:=by
 have hO : Other w [gr]:=fun k hk hlt=>h.other k (by simp at hk; simp [hk]) hlt
 refine ⟨h.on.only ho (by simpa using h.g_gr) (by simpa using h.gf_gr) (by simpa using h.gw_gr) (fun b hb hm=>?_),hr,h.vK,h.gwK,h.gK,h.gg,?_⟩
 ·simp at hm; subst hm; exact h.vo_gr hb.symm
 ·rcases h.fx with hx | hx
  ·exact .inl hx
  ·exact .inr (hx.keep ho hO)
theorem cells {w' : World} {f' : DF} (h : Rn w g gf gw gr K f v vo l q all x) (ho : Only [g] w w') (hd : Dc w' g f') (h1 : f'.wb = f.wb) (h2 : f'.wn = f.wn) (hx : f'.fx = .pointer none \/ CdV w' f'.fx fixedL fixedD2) : Rn w' g gf gw gr K f' v vo l q all x:=by
 obtain ⟨ws,hw,hws⟩:=h.on.ring
 have hv : ∀ b,v.ownBlock = some b -> b ∉ [g]:=fun b hb hm=>by simp at hm; subst hm; exact h.v_g hb.symm
 refine ⟨⟨hd,⟨ws,hw.only ho (by simpa using fun e=>h.on.g_gw e.symm),hws⟩,by rw [h1]; exact h.on.wb,by rw [h2]; exact h.on.wn,Has.only h.on.flow ho (by simpa using fun e=>h.on.g_gf e.symm),own_keep h.on.out ho (fun b hb hm=>?_),h.on.gw_,fun k hk=>⟨(h.on.apart k hk).1,Nat.lt_of_lt_of_le (h.on.apart k hk).2 ho.size⟩⟩,
  h.rd.only ho (by simpa using fun e=>h.g_gr e.symm) hv,h.vK,h.gwK,h.gK,h.gg,hx⟩
 simp at hm; subst hm; exact h.on.g_vo hb.symm
theorem keepV {w' : World} {u : Value} {T D : List UInt8} (h : Rn w g gf gw gr K f v vo l q all x) (ho : Only [g] w w') (hc : CdV w u T D) : CdV w' u T D :=
 hc.keep ho (fun k hk hlt=>h.other k (by simp at hk; simp [hk]) hlt)
theorem keepX {w' : World} (h : Rn w g gf gw gr K f v vo l q all x) (ho : Only [g] w w') : f.fx = .pointer none \/ CdV w' f.fx fixedL fixedD2:=h.fx.imp id (h.keepV ho)
end Rn
set_option maxRecDepth 100000 in
set_option maxHeartbeats 2000000 in
theorem begin_short (g gf gw gr : Nat) (K : List Nat) (f : DF) (v vo : Value) (l : List UInt8) (q : Nat) (all x : List UInt8) (w : World) (h : Rn w g gf gw gr K f v vo l q all x) (hq : 8 * l.length < q + 3) :
 Calls Tryz.prog 167 #[.pointer (some ⟨g,0,none⟩),.pointer (some ⟨gf,0,none⟩)] w fun e w' =>
  e = .returned (.tuple #[.int .i64 0,.int .i64 2]) /\ Rn w' g gf gw gr K f v vo l q all x /\ Only [gr] w w':=by
 have hB:=bits_any gr v l q 3 w h.rd
 have ok : okBits l.length q 3 = false:=by unfold okBits; simp; omega
 rw [ok] at hB
 generalize gotBits l q 3 = y at *
 have c0 : w.cell? ⟨gf,0,none⟩ = some (.pointer (some ⟨gr,0,none⟩)):=Has.cell h.on.flow 0
 have HB:=hide hB
 have H:=hide h
 clear hB h ok hq
 go_enter Tryz.func167,Tryz.ntmps167
 go_wp2_with fail
 refine (HB.out).mono ?_
 rintro e w1 ⟨rfl,ho1,hr1⟩
 have H1:=hide (aI ho1 hr1)
 clear ho1 hr1
 go_wp2_with fail
 go_ret2
 exact ⟨rfl,H.out.read H1.out.1 H1.out.2,H1.out.1⟩
set_option maxRecDepth 100000 in
set_option maxHeartbeats 4000000 in
theorem begin_plain (g gf gw gr : Nat) (K : List Nat) (f : DF) (v vo : Value) (l : List UInt8) (q : Nat) (all x : List UInt8) (w : World) (h : Rn w g gf gw gr K f v vo l q all x) (hq : q + 3 <= 8 * l.length) (last : Bool) (kd k c : Nat) (hkd : (kd = 0 /\ k = 1 /\ c = 0) \/ (kd = 2 /\ k = 3 /\ c = 0) \/ (kd = 3 /\ k = 0 /\ c = 3)) (hv : bitsOf (num l) q 3 = last.toNat + 2 * kd) :
 Calls Tryz.prog 167 #[.pointer (some ⟨g,0,none⟩),.pointer (some ⟨gf,0,none⟩)] w fun e w' =>
  e = .returned (.tuple #[.int .i64 (k : Int),.int .i64 (c : Int)]) /\ Rn w' g gf gw gr K { f with last:=last } v vo l (q + 3) all x /\ Only [g,gr] w w':=by
 have hB:=bits_any gr v l q 3 w h.rd
 have ok : okBits l.length q 3 = true:=by unfold okBits; simp; omega
 unfold gotBits at hB
 rw [ok] at hB
 simp only [if_true] at hB
 rw [show (3 : Int).toNat = 3 from rfl,hv] at hB
 have c0 : w.cell? ⟨gf,0,none⟩ = some (.pointer (some ⟨gr,0,none⟩)):=Has.cell h.on.flow 0
 have HB:=hide hB
 have H:=hide h
 clear hB h ok hq hv
 have b0 : bits .and .u32 0 1 = 0:=by decide
 have b1 : bits .and .u32 1 1 = 1:=by decide
 have b4 : bits .and .u32 4 1 = 0:=by decide
 have b5 : bits .and .u32 5 1 = 1:=by decide
 have b6 : bits .and .u32 6 1 = 0:=by decide
 have b7 : bits .and .u32 7 1 = 1:=by decide
 rcases hkd with ⟨rfl,rfl,rfl⟩ | ⟨rfl,rfl,rfl⟩ | ⟨rfl,rfl,rfl⟩ <;> cases last <;>
 ·go_enter Tryz.func167,Tryz.ntmps167
  go_wp2_with fail
  refine (HB.out).mono ?_
  rintro e w1 ⟨rfl,ho1,hr1⟩
  have h1:=H.out.read ho1 hr1
  have k9:=h1.on.dec.last
  have f9 : w1.frozen? ⟨g,9,none⟩ = false:=Has.free h1.on.dec 9
  have H1:=hide (aI ho1 h1)
  clear ho1 hr1 h1
  go_wp2_with fail
  go_ret2
  exact ⟨rfl,H1.out.2.cells ((Only.refl [g] _).setCell (by simp) _) (Dc.set_last H1.out.2.on.dec _) rfl rfl (H1.out.2.keepX ((Only.refl [g] _).setCell (by simp) _)),((H1.out.1.weak (by simp)).setCell (by simp) _)⟩
end Go.Proofs.YtjfjmkkkbcgohaaGreatDoor
