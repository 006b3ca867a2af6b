import Derived.Test.YtmfoeihapalkpaaGreatDoorMHufA
namespace Go.Proofs.YtmfoeihapalkpaaGreatDoor
open Go Go.RowKit
def TF.dl (l : List UInt8) (s : Nat) (S : Nat -> Nat) : TF :=
 { TF.ord (cn l) 15 with len:=fun i=>if i < s then ln l i else 0,code:=fun i=>if i < s /\ ln l i ≠ 0 then rev (cd l i) (ln l i) else 0,sym:=S }
theorem dl_skip (l : List UInt8) (s : Nat) (S : Nat -> Nat) (h : ln l s = 0) : (TF.dl l (s + 1) S).cells = (TF.dl l s S).cells:=by
 refine TF.ext (f:=TF.dl l s S) (f':=TF.dl l (s + 1) S) (fun i _=>?_) (fun i _=>?_) (fun _ _=>rfl) (fun _ _=>rfl) (fun _ _=>rfl) (fun _ _=>rfl) rfl
 ·show (if i < s + 1 then ln l i else 0) = if i < s then ln l i else 0
  by_cases hi : i = s
  ·subst hi; rw [if_pos (by omega),if_neg (by omega),h]
  ·by_cases h2 : i < s
   ·rw [if_pos h2,if_pos (by omega)]
   ·rw [if_neg h2,if_neg (by omega)]
 ·show (if i < s + 1 /\ ln l i ≠ 0 then rev (cd l i) (ln l i) else 0) = if i < s /\ ln l i ≠ 0 then rev (cd l i) (ln l i) else 0
  by_cases hi : i = s
  ·subst hi; rw [if_neg (by omega),if_neg (by omega)]
  ·by_cases h2 : i < s /\ ln l i ≠ 0
   ·rw [if_pos h2,if_pos (by omega)]
   ·rw [if_neg h2,if_neg (by omega)]
theorem dl_step (l : List UInt8) (s : Nat) (S : Nat -> Nat) (h : ln l s ≠ 0) (x R p : Nat) (hx : ln l s = x) (hR : rev (cd l s) x = R) :
 TF.cells { TF.dl l s S with len:=upd (TF.dl l s S).len s x,code:=upd (TF.dl l s S).code s R,sym:=upd (TF.dl l s S).sym p s } = (TF.dl l (s + 1) (upd S p s)).cells:=by
 subst hx hR
 refine TF.ext (f:=TF.dl l (s + 1) (upd S p s)) (f':={ TF.dl l s S with len:=upd (TF.dl l s S).len s (ln l s),code:=upd (TF.dl l s S).code s (rev (cd l s) (ln l s)),sym:=upd (TF.dl l s S).sym p s })
  (fun i _=>?_) (fun i _=>?_) (fun _ _=>rfl) (fun _ _=>rfl) (fun _ _=>rfl) (fun _ _=>rfl) rfl
 ·show (if i = s then ln l s else if i < s then ln l i else 0) = if i < s + 1 then ln l i else 0
  by_cases hi : i = s
  ·subst hi; rw [if_pos rfl,if_pos (by omega)]
  ·rw [if_neg hi]
   by_cases h2 : i < s
   ·rw [if_pos h2,if_pos (by omega)]
   ·rw [if_neg h2,if_neg (by omega)]
 ·show (if i = s then rev (cd l s) (ln l s) else if i < s /\ ln l i ≠ 0 then rev (cd l i) (ln l i) else 0) = if i < s + 1 /\ ln l i ≠ 0 then rev (cd l i) (ln l i) else 0
  by_cases hi : i = s
  ·subst hi; rw [if_pos rfl,if_pos ⟨by omega,h⟩]
  ·rw [if_neg hi]
   by_cases h2 : i < s /\ ln l i ≠ 0
   ·rw [if_pos h2,if_pos (by omega)]
   ·rw [if_neg h2,if_neg (by omega)]
def Dealt (l : List UInt8) (s : Nat) (S : Nat -> Nat) : Prop:=∀ i,i < s -> ln l i ≠ 0 -> S (pl l i) = i
theorem Dealt.step {l : List UInt8} {s : Nat} {S : Nat -> Nat} (h : Dealt l s S) (hs : ln l s ≠ 0) : Dealt l (s + 1) (upd S (pl l s) s):=by
 intro i hi h0
 by_cases he : i = s
 ·subst he; exact if_pos rfl
 ·show (if pl l i = pl l s then s else S (pl l i)) = i
  rw [if_neg (fun e=>he (pl_inj h0 hs e))]
  exact h i (by omega) h0
theorem Dealt.skip {l : List UInt8} {s : Nat} {S : Nat -> Nat} (h : Dealt l s S) (hs : ln l s = 0) : Dealt l (s + 1) S:=by
 intro i hi h0
 by_cases he : i = s
 ·subst he; exact absurd hs h0
 ·exact h i (by omega) h0
theorem wrapU32 {z : Int} {n : Nat} (h1 : z = n) (h2 : n < 4294967296) : IntKind.u32.wrap z = (n : Int):=by
 rw [IntKind.wrap_u32]; omega
theorem wrapU16 {z : Int} {n : Nat} (h1 : z = n) (h2 : n < 65536) : IntKind.u16.wrap z = (n : Int):=by
 rw [IntKind.wrap_u16]; omega
theorem wrapI16 {z : Int} {n : Nat} (h1 : z = n) (h2 : n < 32768) : IntKind.i16.wrap z = (n : Int):=by
 subst h1; simp only [IntKind.wrap,IntKind.signed,IntKind.bits]; simp; omega
set_option maxRecDepth 100000 in
set_option maxHeartbeats 4000000 in
theorem deal_any (g : Nat) (A : Option Addr) (n c : Nat) (l : List UInt8) (w : World) (h : Tbl w g (TF.ord (cn l) 15)) (hb : Holds w 1 A n (bvals l)) (hl : l.length = n) (hn : n <= 320) (h15 : ∀ i,ln l i <= 15) (hS : Sm (cn l) 16 <= 32768)
 (hA : 0 < n -> ∀ ad,A = some ad -> ad.block ≠ g) :
 Calls Tryz.prog 179 #[.pointer (some ⟨g,0,none⟩),.slice A n c] w fun e w'=>e = .returned (.tuple #[]) /\ (∃ S,Dealt l l.length S /\ Tbl w' g (TF.dl l l.length S)) /\ Only [g] w w':=by
 subst hl
 have glt : g < w.heap.size:=Has.lt h
 have HH:=hide (aI h (aI hb hA))
 clear h hb hA
 go_enter Tryz.func179,Tryz.ntmps179
 go_wp2_with fail
 go_loopw [10] (fun i wr=>∃ (s : Nat) (S : Nat -> Nat),s <= l.length /\ i = .int .i64 s /\ Dealt l s S /\ Tbl wr g (TF.dl l s S) /\ Has wr w.heap.size 236 (tcells (rk l s)) /\ Only [g] w wr) (fun i _=>l.length - (intOf i).toNat)
 case atStart =>
  refine ⟨0,fun _=>0,Nat.zero_le _,rfl,fun i hi=>absurd hi (by omega),?_,?_,(Only.refl [g] w).alloc _⟩
  ·have e : (TF.dl l 0 fun _=>0).cells = (TF.ord (cn l) 15).cells:=TF.ext (f:=TF.ord (cn l) 15) (f':=TF.dl l 0 fun _=>0) (fun i _=>rfl) (fun i _=>by
    show (if i < 0 /\ ln l i ≠ 0 then rev (cd l i) (ln l i) else 0) = 0
    rw [if_neg (by omega)]) (fun _ _=>rfl) (fun _ _=>rfl) (fun _ _=>rfl) (fun _ _=>rfl) rfl
   unfold Tbl
   rw [e]; exact Has.alloc HH.out.1 _
  ·rw [tcells_congr (c:=rk l 0) (d:=fun _=>0) (fun i _=>rk_zero l i)]
   exact Has.new w 236 (tcells fun _=>0)
 case round =>
  obtain ⟨s,S,hs,rfl,hD,hT,hY,ho⟩:=hrel
  by_cases hlt : s < l.length
  ·obtain ⟨b,o,rfl,hc2⟩:=(HH.out.2.1.keepPos ho (fun h0 ad ha _=>by simpa using HH.out.2.2 h0 ad ha)).addr (by simpa using (show 0 < l.length by omega))
   have hcell : wr.cell? ⟨b,o + s,none⟩ = some (.int .u8 (l[s].toNat : Int)):=hc2 s _ (bvals_get l s hlt)
   have hx15:=h15 s
   have hR:=fun m=>rk_succ (l:=l) hlt m
   have hlx : ln l s = l[s].toNat:=ln_get hlt
   rw [hlx] at hR hx15
   clear hc2
   generalize l[s].toNat = x at *
   by_cases hx0 : x = 0
   ·subst hx0
    have e : tcells (rk l (s + 1)) = tcells (rk l s):=tcells_congr (fun i _=>by rw [hR,if_neg (by omega)]; rfl)
    have e2:=dl_skip l s S hlx
    have H1:=hide (aI (hD.skip hlx) (aI hT (aI hY (aI ho (aI e e2)))))
    clear hD hT hY ho e e2 hR
    go_wp2_with fail
    go_roundw
    case rel=>exact ⟨s + 1,S,hlt,by go_num,H1.out.1,by unfold Tbl; rw [H1.out.2.2.2.2.2]; exact H1.out.2.1,by rw [H1.out.2.2.2.2.1]; exact H1.out.2.2.1,H1.out.2.2.2.1⟩
    case measure=>simp [intOf]; omega
   ·have hne : ln l s ≠ 0:=by omega
    obtain ⟨F,hF⟩ : ∃ F,F = Fs (cn l) x:=⟨_,rfl⟩
    obtain ⟨r,hr⟩ : ∃ r,r = rk l s x:=⟨_,rfl⟩
    obtain ⟨B,hB⟩ : ∃ B,B = Bf (cn l) x:=⟨_,rfl⟩
    have hcd : cd l s = F + r:=by unfold cd; rw [hlx,hF,hr]
    have hpl : pl l s = B + r:=by unfold pl; rw [hlx,hB,hr]
    have hcl:=cd_lt hS hne (h15 s)
    rw [hlx,hcd] at hcl
    have hp15:=Nat.pow_le_pow_right (n:=2) (by decide) hx15
    have hFr : F + r < 32768:=Nat.lt_of_lt_of_le hcl hp15
    have hBr:=pl_lt hne
    rw [hpl] at hBr
    have hrl:=rev_lt (F + r) x
    obtain ⟨R,hRR⟩ : ∃ R,R = rev (F + r) x:=⟨_,rfl⟩
    rw [<- hRR] at hrl
    have hR15 : R < 32768:=Nat.lt_of_lt_of_le hrl hp15
    have hst:=dl_step l s S hne x R (B + r) hlx (by rw [hcd,hRR])
    have hD2:=hD.step hne
    rw [hpl] at hD2
    have y1 : wr.cell? ⟨w.heap.size,x,none⟩ = some (.int .i64 (r : Int)):=by rw [hY.cell,tcells_get _ (by omega),hr]
    have y2 : wr.frozen? ⟨w.heap.size,x,none⟩ = false:=hY.free x
    have a1 : wr.cell? ⟨g,s,none⟩ = some (.int .u8 0):=by
     rw [hT.cell (by omega),TF.at_len _ (by omega)]; show some (Value.int .u8 ((if s < s then ln l s else 0 : Nat) : Int)) = _; rw [if_neg (by omega)]; rfl
    have f1 : wr.frozen? ⟨g,s,none⟩ = false:=Has.free hT _
    have ey : (tcells (rk l s)).setIfInBounds x (.int .i64 ((r + 1 : Nat) : Int)) = tcells (rk l (s + 1)) :=
     tcells_set _ _ x _ (by omega) (by rw [hR,if_pos ⟨rfl,hx0⟩,hr]) (fun i _ hne=>by rw [hR,if_neg (by omega)]; rfl)
    have Y1:=hY.set x (.int .i64 ((r + 1 : Nat) : Int))
    rw [ey] at Y1
    have Y2:=Y1.other (p:=⟨g,s,none⟩) (by show ¬ w.heap.size = g; omega) (.int .u8 (x : Int))
    have T1 : Tbl (wr.setCell ⟨w.heap.size,x,none⟩ (.int .i64 ((r + 1 : Nat) : Int))) g (TF.dl l s S):=Has.other hT (p:=⟨w.heap.size,x,none⟩) (by show ¬ g = w.heap.size; omega) _
    have T2:=T1.set (TF.set_len _ (show s < 320 by omega) x)
    have O2:=(ho.setCell (p:=⟨w.heap.size,x,none⟩) (by simp) (.int .i64 ((r + 1 : Nat) : Int))).setCell (p:=⟨g,s,none⟩) (by simp) (.int .u8 (x : Int))
    have q0 : (0 : Int) <= (s : Int):=by omega
    have q1 : (s : Int) < 320:=by omega
    have q2 : (x : Int) < 16:=by omega
    have q3 : (0 : Int) <= (x : Int):=by omega
    have hr2 : r < 32768:=by omega
    rw [Int.natCast_add] at Y2 T2 O2
    have H1:=hide (aI hst (aI hD2 (aI Y2 (aI T2 (aI O2 (aI hRR (aI hF hB)))))))
    clear hst hD2 Y1 Y2 T1 T2 O2 ey hD hT hY ho hR hF hr hB hRR hcd hpl
    go_wp2_with fail
    generalize ((wr.setCell ⟨w.heap.size,x,none⟩ (.int .i64 ((r : Int) + ((1 : Nat) : Int)))).setCell ⟨g,s,none⟩ (.int .u8 (x : Int))) = wa at *
    have T2:=H1.out.2.2.2.1
    clear y1 y2 a1 f1
    have k1 : IntKind.i64.wrap ((F : Int) + (r : Int)) = (F : Int) + (r : Int):=by have:=wrap64 (z:=(F : Int) + (r : Int)) (n:=F + r) (by omega) (by omega); omega
    have k2 : IntKind.u32.wrap ((F : Int) + (r : Int)) = (F : Int) + (r : Int):=by have:=wrapU32 (z:=(F : Int) + (r : Int)) (n:=F + r) (by omega) (by omega); omega
    have k3 : IntKind.u16.wrap (R : Int) = (R : Int):=wrapU16 rfl (by omega)
    have k4 : IntKind.i64.wrap (x : Int) = (x : Int):=wrap64 rfl (by omega)
    have a1 : wa.cell? ⟨g,976 + x,none⟩ = some (.int .i64 (F : Int)):=by
     rw [T2.cell (by omega),TF.at_fst _ (by omega)]
     show some (Value.int .i64 ((if x <= 15 then Fs (cn l) x else 0 : Nat) : Int)) = _
     rw [if_pos hx15,H1.out.2.2.2.2.2.2.1]
    have a2 : wa.cell? ⟨g,320 + s,none⟩ = some (.int .u16 0):=by
     rw [T2.cell (by omega),TF.at_code _ (by omega)]
     show some (Value.int .u16 ((if s < s /\ ln l s ≠ 0 then rev (cd l s) (ln l s) else 0 : Nat) : Int)) = _
     rw [if_neg (by omega)]; rfl
    have f2 : wa.frozen? ⟨g,320 + s,none⟩ = false:=Has.free T2 _
    have HV:=hide (reverse_yes (F + r) x wa.drew (by omega) (by omega))
    rw [<- H1.out.2.2.2.2.2.1,Int.natCast_add] at HV
    clear T2
    go_still_tail 18,(by kernel_rfl)
    still_call (HV.out.mono (fun e w' h=>⟨h.1,h.2.symm⟩))
    repeat still_step
    refine wpStill_nil ?_
    change wpList _ _ _ _ _ wa.drew
    go_wp2_with fail
    have T3:=(H1.out.2.2.2.1.set (TF.set_code _ (show s < 320 by omega) R)).drew
    have Y3 : Has (wa.setCell ⟨g,320 + s,none⟩ (.int .u16 (R : Int))).drew w.heap.size 236 (tcells (rk l (s + 1))):=H1.out.2.2.1.other (p:=⟨g,320 + s,none⟩) (by show ¬ w.heap.size = g; omega) _
    have O3:=(H1.out.2.2.2.2.1.setCell (p:=⟨g,320 + s,none⟩) (by simp) (.int .u16 (R : Int))).drew
    generalize (wa.setCell ⟨g,320 + s,none⟩ (.int .u16 (R : Int))).drew = wb at *
    clear a1 a2 f2 k1 k2 k3 k4 HV
    have k1 : IntKind.i64.wrap ((B : Int) + (r : Int)) = (B : Int) + (r : Int):=by have:=wrap64 (z:=(B : Int) + (r : Int)) (n:=B + r) (by omega) (by omega); omega
    have k2 : IntKind.i16.wrap (s : Int) = (s : Int):=wrapI16 rfl (by omega)
    have k3 : (0 : Int) <= (B : Int) + (r : Int):=by omega
    have k4 : (B : Int) + (r : Int) < 320:=by omega
    have a1 : wb.cell? ⟨g,992 + x,none⟩ = some (.int .i64 (B : Int)):=by
     rw [T3.cell (by omega),TF.at_bef _ (by omega)]
     show some (Value.int .i64 ((if x <= 15 then Bf (cn l) x else 0 : Nat) : Int)) = _
     rw [if_pos hx15,H1.out.2.2.2.2.2.2.2]
    have a2 : wb.cell? ⟨g,640 + (B + r),none⟩ = some (.int .i16 (S (B + r) : Nat)):=by
     rw [T3.cell (by omega),TF.at_sym _ (by omega)]; rfl
    have f2 : wb.frozen? ⟨g,640 + (B + r),none⟩ = false:=Has.free T3 _
    have H3:=hide (aI T3 (aI Y3 O3))
    clear T3 Y3 O3
    go_still_tail 14,(by kernel_rfl)
    change wpList _ _ _ _ _ wb.drew
    go_wp2_with fail
    go_roundw
    case rel =>
     have T4:=(H3.out.1.set (TF.set_sym _ (show B + r < 320 by omega) s)).drew
     have Y4 : Has (wb.setCell ⟨g,640 + (B + r),none⟩ (.int .i16 (s : Int))).drew w.heap.size 236 (tcells (rk l (s + 1))):=H3.out.2.1.other (p:=⟨g,640 + (B + r),none⟩) (by show ¬ w.heap.size = g; omega) _
     have O4:=(H3.out.2.2.setCell (p:=⟨g,640 + (B + r),none⟩) (by simp) (.int .i16 (s : Int))).drew
     refine ⟨s + 1,_,hlt,by go_num,H1.out.2.1,?_,Y4,O4⟩
     unfold Tbl
     rw [<- H1.out.1]
     exact T4
    case measure=>simp [intOf]; omega
  ·obtain rfl : s = l.length:=by omega
   go_wp2_with fail
   go_end0
   exact ⟨rfl,⟨S,hD,hT⟩,ho⟩
def far (l : List UInt8) : Bool:=l.any fun b=>decide (15 < b.toNat)
set_option maxRecDepth 100000 in
set_option maxHeartbeats 1000000 in
theorem indexFunc_any (A : Option Addr) (n c : Nat) (l : List UInt8) (w : World) (hb : Holds w 1 A n (bvals l)) (hl : l.length = n) (hn : n <= 140737488355328) :
 Calls Tryz.prog 189 #[.slice A n c,.func (.func 175) #[] #[]] w fun e w'=>(∃ z : Int,e = .returned (.int .i64 z) /\ decide (z ≥ 0) = far l) /\ w = w':=by
 subst hl
 have HT:=hide tooLong_any
 have HB:=hide hb
 clear hb
 go_enter Tryz.func189,Tryz.ntmps189
 go_wp2_with fail
 go_loop [8] (fun i=>∃ j : Nat,j <= l.length /\ i = .int .i64 j /\ (l.take j).any (fun b=>decide (15 < b.toNat)) = false) (fun i=>l.length - (intOf i).toNat)
 case atStart=>exact ⟨0,Nat.zero_le _,rfl,rfl⟩
 case round =>
  obtain ⟨j,hj,rfl,hno⟩:=hrel
  by_cases hlt : j < l.length
  ·obtain ⟨b,o,rfl,hc2⟩:=HB.out.addr (by simpa using (show 0 < l.length by omega))
   have hcell : w.cell? ⟨b,o + j,none⟩ = some (.int .u8 (l[j].toNat : Int)):=hc2 j _ (bvals_get l j hlt)
   clear hc2
   cases hd : decide (15 < l[j].toNat) with
   | true =>
     have hf : far l = true:=by
      unfold far
      rw [List.any_eq_true]
      exact ⟨l[j],List.getElem_mem hlt,hd⟩
     have HF:=hide (aI hf hd)
     clear hf hd hno
     generalize l[j].toNat = x at *
     go_wp2_with fail
     refine (HT.out x w).mono ?_
     rintro e w1 ⟨rfl,rfl⟩
     rw [HF.out.2]
     go_wp2_with fail
     go_ret
     refine ⟨⟨_,rfl,?_⟩,rfl⟩
     rw [HF.out.1]
     simp
   | false =>
     have hno2 : (l.take (j + 1)).any (fun b=>decide (15 < b.toNat)) = false:=by
      rw [take_snoc hlt,List.any_append,hno]
      simp only [List.any_cons,List.any_nil,Bool.or_false,Bool.false_or]
      exact hd
     have HF:=hide (aI hno2 hd)
     clear hno2 hd hno
     generalize l[j].toNat = x at *
     go_wp2_with fail
     refine (HT.out x w).mono ?_
     rintro e w1 ⟨rfl,rfl⟩
     rw [HF.out.2]
     go_wp2_with fail
     go_round
     case rel=>exact ⟨j + 1,hlt,by go_num,HF.out.1⟩
     case measure=>simp [intOf]; omega
  ·obtain rfl : j = l.length:=by omega
   rw [List.take_length] at hno
   have HF:=hide hno
   clear hno
   go_wp2_with fail
   go_ret
   refine ⟨⟨_,rfl,?_⟩,rfl⟩
   unfold far
   rw [HF.out]
   rfl
set_option maxRecDepth 100000 in
theorem containsFunc_any (A : Option Addr) (n c : Nat) (l : List UInt8) (w : World) (hb : Holds w 1 A n (bvals l)) (hl : l.length = n) (hn : n <= 140737488355328) :
 Calls Tryz.prog 174 #[.slice A n c,.func (.func 175) #[] #[]] w fun e w'=>e = .returned (.bool (far l)) /\ w = w':=by
 have H:=hide (indexFunc_any A n c l w hb hl hn)
 clear hb
 go_enter Tryz.func174,Tryz.ntmps174
 go_wp2_with fail
 refine (H.out).mono ?_
 rintro e w1 ⟨⟨z,rfl,hz⟩,rfl⟩
 have HZ:=hide hz
 clear hz
 go_wp2_with fail
 go_ret
 exact ⟨ret_bool HZ.out,rfl⟩
def Tb (w : World) (g : Nat) (l : List UInt8) : Prop:=∃ S,Dealt l l.length S /\ Tbl w g (TF.dl l l.length S)
theorem Tb.only {w w' : World} {g : Nat} {l : List UInt8} {S : List Nat} (h : Tb w g l) (ho : Only S w w') (hg : g ∉ S) : Tb w' g l:=by
 obtain ⟨F,h1,h2⟩:=h
 exact ⟨F,h1,h2.only ho hg⟩
theorem Tb.lt {w : World} {g : Nat} {l : List UInt8} (h : Tb w g l) : g < w.heap.size:=by
 obtain ⟨F,_,h2⟩:=h
 exact Has.lt h2
def newE (l : List UInt8) : Nat:=if 320 < l.length \/ far l = true then 1 else if mayBe (cn l) then 0 else 3
theorem mayBe_le {c : Nat -> Nat} (h : mayBe c = true) : Sm c 16 <= 32768:=by
 unfold mayBe at h
 rcases Bool.or_eq_true _ _ ▸ h with h | h
 ·rcases Bool.or_eq_true _ _ ▸ h with h | h
  ·have:=of_decide_eq_true h; omega
  ·have h0:=(tEq_iff _ _).1 h
   have : ∀ n,n <= 16 -> Sm c n = 0:=by
    intro n hn
    induction n with
    | zero=>rfl
    | succ n ih=>show Sm c n + c n * 2 ^ (15 - n) = 0; rw [ih (by omega),h0 n (by omega)]; simp
   rw [this 16 (Nat.le_refl _)]; omega
 ·have h0:=(tEq_iff _ _).1 h
  have : ∀ n,n <= 16 -> Sm c n = if n <= 1 then 0 else 16384:=by
   intro n hn
   induction n with
   | zero=>rfl
   | succ n ih =>
     show Sm c n + c n * 2 ^ (15 - n) = _
     rw [ih (by omega),h0 n (by omega)]
     by_cases h1 : n = 0
     ·subst h1; rfl
     ·by_cases h2 : n = 1
      ·subst h2; rfl
      ·rw [if_neg (by omega),if_neg h2,if_neg (by omega)]; simp
  rw [this 16 (Nat.le_refl _)]; decide
theorem cn_le (l : List UInt8) (n : Nat) : cn l n <= l.length:=by
 unfold cn; split
 ·exact Nat.zero_le _
 ·exact List.countP_le_length
theorem Sm_bound (c : Nat -> Nat) (m : Nat) (hc : ∀ i,c i <= m) (n : Nat) : Sm c n <= m * 32768 * n:=by
 induction n with
 | zero=>simp [Sm]
 | succ n ih =>
   show Sm c n + c n * 2 ^ (15 - n) <= _
   have h1 : 2 ^ (15 - n) <= 32768:=Nat.pow_le_pow_right (n:=2) (i:=15 - n) (j:=15) (by decide) (by omega)
   have h2:=Nat.mul_le_mul (hc n) h1
   rw [Nat.mul_add]; omega
theorem ln_far {l : List UInt8} (h : far l = false) (i : Nat) : ln l i <= 15:=by
 rcases Nat.lt_or_ge i l.length with hi | hi
 ·rw [ln_get hi]
  unfold far at h
  rw [List.any_eq_false] at h
  have:=h l[i] (List.getElem_mem hi)
  simpa using this
 ·rw [ln_out hi]; omega
theorem Sm16_le (l : List UInt8) (h : l.length <= 1000000) : Sm (cn l) 16 <= 4611686018427387904 :=
 Nat.le_trans (Sm_bound (cn l) 1000000 (fun i=>Nat.le_trans (cn_le l i) h) 16) (by decide)
theorem list_build {P : Program} {ops : Array Oper} {rest : List Oper} {o : Oper} {a : Act} {w : World} {Q : Exit -> Act -> World -> Prop} (hgd : o.guard = none) (t : TypeId) (k : Nat) (x : Operand) (ho : o.op = .build t #[(k,x)])
 (v : Value) (hx : a.eval x = v) (cells : Array Value) (hb : P.built t [(k,v)] = some cells)
 (h : wpList P ops Q rest (a.put o.dst (.agg cells)) w) : wpList P ops Q (o :: rest) a w :=
 wpList_plain hgd fun _ hK=>by
  refine wp_build t #[(k,x)] ho ?_ ?_
  ·simp [hx,hb]
  ·simpa [hx,hb] using hK _ _ h
set_option maxRecDepth 100000 in
theorem newT_any (A : Option Addr) (n c : Nat) (l : List UInt8) (w : World) (hb : Holds w 1 A n (bvals l)) (hl : l.length = n) (hn : n <= 320) (hf : far l = false) (hm : mayBe (cn l) = true) :
 Calls Tryz.prog 153 #[.slice A n c] w fun e w'=>∃ g,e = .returned (.tuple #[.pointer (some ⟨g,0,none⟩),.int .i64 0]) /\ w.heap.size <= g /\ Tb w' g l /\ Only [] w w':=by
 subst hl
 have hS:=mayBe_le hm
 have HC:=hide (containsFunc_any A l.length c l w hb rfl (by omega))
 have HN:=hide (count_any A l.length c l w hb rfl (by omega))
 have HB:=hide hb
 have HX:=hide (aI hS (aI (ln_far hf) (fun i (_ : i < 16)=>Nat.le_trans (cn_le l i) (show l.length <= 65536 by omega))))
 have hT : Has (w.alloc (.cells (tcells fun _=>0) 236)) w.heap.size 236 (tcells fun _=>0):=Has.new w _ _
 clear hb hS
 go_enter Tryz.func153,Tryz.ntmps153
 go_wp2_with fail
 refine (HC.out).mono ?_
 rintro e w1 ⟨rfl,rfl⟩
 rw [hf]
 go_wp2_with fail
 refine (HN.out).mono ?_
 rintro e w1 ⟨rfl,ho1⟩
 have HO1:=hide ho1
 clear ho1
 have hT1 : Has (w1.alloc (.cells (tcells fun _=>0) 236)) w1.heap.size 236 (tcells fun _=>0):=Has.new w1 _ _
 go_wp2_with (first
  | (refine list_store_row' rfl 236 (.tmp 4) (.tmp 14) rfl w1.heap.size (tcells (cn l)) rfl rfl 236 (tcells fun _=>0) hT1 (by kernel_rfl) (by rw [tcells_size,tcells_size]) (tcells_one _) ?_; intro w2 hT2 hO2; have HO2:=hide hO2; clear hO2)
  | (refine wpList_load_row rfl 236 (.tmp 4) rfl w1.heap.size rfl 236 (tcells (cn l)) (0,0) _ hT2 Tryz.underlying236 rfl (by kernel_rfl) ?_))
 refine (allowed_any (cn l) w2 (by have:=HX.out.1; omega)).mono ?_
 rintro e w3 ⟨rfl,ho3⟩
 have hT3:=hT2.only ho3 (by simp)
 have HO3:=hide ho3
 clear ho3 hT1 hT2
 rw [hm]
 have hbd:=built_table (cn l)
 go_wp2_with (first
  | (refine wpList_load_row rfl 236 (.tmp 4) rfl w1.heap.size rfl 236 (tcells (cn l)) (0,0) _ hT3 Tryz.underlying236 rfl (by kernel_rfl) ?_)
  | (refine list_build rfl 238 3 (.tmp 18) rfl (.agg (tcells (cn l))) rfl _ hbd ?_))
 have O3 : Only [] w w3:=HO1.out.trans ((((Only.refl [] w1).alloc _).trans HO2.out (by simp)).trans HO3.out (by simp)) (by simp)
 have hnew : Tbl (w3.alloc (.cells (TF.new (cn l)).cells 238)) w3.heap.size (TF.new (cn l)):=Has.new w3 _ _
 refine (order_any w3.heap.size (cn l) _ hnew rfl HX.out.2.2 HX.out.1).mono ?_
 rintro e w4 ⟨rfl,hT4,ho4⟩
 have HT4:=hide (aI hT4 ho4)
 clear hT4 ho4 hnew hT3 hbd
 go_wp2_with fail
 have hsz:=O3.size
 have hb4 : Holds w4 1 A l.length (bvals l):=(HB.out.keep (O3.alloc _) (by simp)).keepPos HT4.out.2 (fun h0 ad ha _=>by have:=HB.out.blk h0 ad ha; simp; omega)
 refine (deal_any w3.heap.size A l.length c l w4 HT4.out.1 hb4 rfl hn HX.out.2.1 HX.out.1 (fun h0 ad ha=>by have:=HB.out.blk h0 ad ha; omega)).mono ?_
 rintro e w5 ⟨rfl,hT5,ho5⟩
 have HT5:=hide (aI hT5 ho5)
 clear hT5 ho5 hb4
 go_wp2_with fail
 go_ret2
 exact ⟨w3.heap.size,rfl,hsz,HT5.out.1,(O3.alloc _).trans (HT4.out.2.trans HT5.out.2 (by simp)) (by simp; omega)⟩
set_option maxRecDepth 100000 in
set_option maxHeartbeats 4000000 in
theorem newF_any (A : Option Addr) (n c : Nat) (l : List UInt8) (w : World) (hb : Holds w 1 A n (bvals l)) (hl : l.length = n) (hn : n <= 140737488355328) (hno : ¬ newE l = 0) :
 Calls Tryz.prog 153 #[.slice A n c] w fun e w'=>e = .returned (.tuple #[.pointer none,.int .i64 (newE l : Nat)]) /\ Only [] w w':=by
 subst hl
 unfold newE at hno ⊢
 by_cases h1 : 320 < l.length
 ·rw [if_pos (.inl h1)]
  clear hno
  go_enter Tryz.func153,Tryz.ntmps153
  go_wp2_with fail
  go_ret2
  exact ⟨rfl,Only.refl _ _⟩
 ·cases hf : far l with
  | true =>
    rw [if_pos (.inr rfl)]
    have HC:=hide (containsFunc_any A l.length c l w hb rfl (by omega))
    rw [hf] at HC
    clear hno
    go_enter Tryz.func153,Tryz.ntmps153
    go_wp2_with fail
    refine (HC.out).mono ?_
    rintro e w1 ⟨rfl,rfl⟩
    go_wp2_with fail
    go_ret2
    exact ⟨rfl,Only.refl _ _⟩
  | false =>
    rw [hf] at hno
    rw [if_neg (by simp; omega)] at hno ⊢
    have hm : mayBe (cn l) = false:=by
     cases h : mayBe (cn l) with
     | true=>rw [h] at hno; simp at hno
     | false=>rfl
    rw [hm]
    have HC:=hide (containsFunc_any A l.length c l w hb rfl (by omega))
    have HN:=hide (count_any A l.length c l w hb rfl (by omega))
    rw [hf] at HC
    clear hno hb
    go_enter Tryz.func153,Tryz.ntmps153
    go_wp2_with fail
    refine (HC.out).mono ?_
    rintro e w1 ⟨rfl,rfl⟩
    go_wp2_with fail
    refine (HN.out).mono ?_
    rintro e w1 ⟨rfl,ho1⟩
    have HO1:=hide ho1
    clear ho1
    have hT1 : Has (w1.alloc (.cells (tcells fun _=>0) 236)) w1.heap.size 236 (tcells fun _=>0):=Has.new w1 _ _
    go_wp2_with (first
     | (refine list_store_row' rfl 236 (.tmp 4) (.tmp 14) rfl w1.heap.size (tcells (cn l)) rfl rfl 236 (tcells fun _=>0) hT1 (by kernel_rfl) (by rw [tcells_size,tcells_size]) (tcells_one _) ?_; intro w2 hT2 hO2; have HO2:=hide hO2; clear hO2)
     | (refine wpList_load_row rfl 236 (.tmp 4) rfl w1.heap.size rfl 236 (tcells (cn l)) (0,0) _ hT2 Tryz.underlying236 rfl (by kernel_rfl) ?_))
    refine (allowed_any (cn l) w2 (Sm16_le l (by omega))).mono ?_
    rintro e w3 ⟨rfl,ho3⟩
    have HO3:=hide ho3
    clear ho3 hT1 hT2
    rw [hm]
    go_wp2_with fail
    go_ret2
    exact ⟨rfl,HO1.out.trans ((((Only.refl [] w1).alloc _).trans HO2.out (by simp)).trans HO3.out (by simp)) (by simp)⟩
end Go.Proofs.YtmfoeihapalkpaaGreatDoor
namespace Go.Proofs.YtmfoeihapalkpaaGreatDoor
def bc (N k : Nat) : Nat -> Nat
 | 0=>0
 | n + 1=>2 * bc N k n + N / 2 ^ (k + n) % 2
theorem bc_succ (N k n : Nat) : bc N k (n + 1) = 2 * bc N k n + N / 2 ^ (k + n) % 2:=rfl
theorem bc_lt (N k n : Nat) : bc N k n < 2 ^ n:=by
 induction n with
 | zero=>exact Nat.one_pos
 | succ n ih=>rw [bc_succ,Nat.pow_succ]; omega
theorem bc_rev (N k n : Nat) : bc N k n = rev (N / 2 ^ k) n:=by
 induction n with
 | zero=>rfl
 | succ n ih=>rw [bc_succ,rev,ih,Nat.div_div_eq_div_mul,<- Nat.pow_add]
def sy (l : List UInt8) (n j : Nat) : Nat:=((List.range l.length).find? fun i=>ln l i == n && rk l i n == j).getD 0
theorem sy_eq {l : List UInt8} {i : Nat} (h : ln l i ≠ 0) : sy l (ln l i) (rk l i (ln l i)) = i:=by
 unfold sy
 cases hf : (List.range l.length).find? fun k=>ln l k == ln l i && rk l k (ln l i) == rk l i (ln l i) with
 | none =>
   rw [List.find?_eq_none] at hf
   have:=hf i (List.mem_range.2 (ln_lt h))
   simp at this
 | some j =>
   have:=List.find?_some hf
   simp only [Bool.and_eq_true,beq_iff_eq] at this
   show j = i
   refine (rk_inj h this.1.symm ?_).symm
   exact this.2.symm
def scan (l : List UInt8) (N k left : Nat) : Nat -> Nat -> Nat × Nat × Nat
 | 0,_=>(0,3,0)
 | r + 1,n=>if left < n then (0,2,0) else if bc N k n < Fs (cn l) n + cn l n then (sy l n (bc N k n - Fs (cn l) n),0,n) else scan l N k left r (n + 1)
def readM (l : List UInt8) (N k left : Nat) : Nat × Nat × Nat:=scan l N k left (Lg (cn l) 15) 1
theorem scan_short {l : List UInt8} {N k left r n : Nat} (h : left < n) : scan l N k left (r + 1) n = (0,2,0):=by unfold scan; rw [if_pos h]
theorem scan_hit {l : List UInt8} {N k left r n : Nat} (h : ¬ left < n) (h2 : bc N k n < Fs (cn l) n + cn l n) : scan l N k left (r + 1) n = (sy l n (bc N k n - Fs (cn l) n),0,n):=by unfold scan; rw [if_neg h,if_pos h2]
theorem scan_next {l : List UInt8} {N k left r n : Nat} (h : ¬ left < n) (h2 : ¬ bc N k n < Fs (cn l) n + cn l n) : scan l N k left (r + 1) n = scan l N k left r (n + 1):=by
 show (if left < n then (0,2,0) else if bc N k n < Fs (cn l) n + cn l n then (sy l n (bc N k n - Fs (cn l) n),0,n) else scan l N k left r (n + 1)) = _
 rw [if_neg h,if_neg h2]
end Go.Proofs.YtmfoeihapalkpaaGreatDoor
