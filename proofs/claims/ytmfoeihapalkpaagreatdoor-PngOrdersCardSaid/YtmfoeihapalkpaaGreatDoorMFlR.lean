import Derived.Test.YtmfoeihapalkpaaGreatDoorMFlN
namespace Go.Proofs.YtmfoeihapalkpaaGreatDoor
open Go Go.RowKit
set_option maxRecDepth 100000 in
set_option maxHeartbeats 16000000 in
theorem sym10 (B : List UInt8) (a o : Nat) (l : List UInt8) (hs : Src B a o l) (g gf gw gr : Nat) (K : List Nat) (f : DF) (v vo : Value) (q : Nat) (x : List UInt8) (s : GSt) (w : World) (h : Rn w g gf gw gr K f v vo l q s.out x) (hk : s.k = 10) (hfk : f.k = 10)
 (hm : Md w f s) (hwf : s.Wf) (hp : Pt s o q) (hl : s.out.length <= f.most) (hmost : f.most <= 1073741824) (hx : x.length <= s.out.length) :
 Calls Tryz.prog 228 #[.pointer (some ⟨g,0,none⟩),.pointer (some ⟨gf,0,none⟩)] w (fun e w'=>∃ c : Nat,e = .returned (.int .i64 (c : Int)) /\ Went B a o l g gf gw gr K f v vo x s (fun f' t=>f'.k = t.k) (fun f' t=>f'.k = t.k) w c w'):=by
 have HNow:=hide (Now.here hs h hm hwf hp hl hmost hx)
 have c1 : w.cell? ⟨g,1,none⟩ = some (.int .i64 10):=by have:=h.on.dec.k; rw [hfk] at this; exact this
 clear hs h hm hwf hp hl hmost hx
 go_enter Tryz.func228,Tryz.ntmps228
 have HB10:=hide (back_step B a o l HNow.out.src g gf gw gr K f v vo q x s w HNow.out.rn hk HNow.out.md HNow.out.wf (HNow.out.pt.eq (by rw [hk]; decide)) HNow.out.le HNow.out.most HNow.out.xl)
 have HK10:=hide (aI hk hfk)
 clear hk hfk
 go_wp2_with fail
 refine (HB10.out).mono ?_
 rintro e wE ⟨c,rfl,hW⟩
 rcases hW.codes with rfl | rfl | rfl | rfl
 ·obtain ⟨qE,yE,voE,fE,uE,hN,_⟩:=HNow.out.went hW
  have kE:=hN.rn.on.dec.k
  have qfE : wE.frozen? ⟨g,1,none⟩ = false:=Has.free hN.rn.on.dec 1
  have HW:=hide hW
  clear hW hN
  generalize fE.k = zE at kE
  go_wp2_with fail
  go_ret
  exact ⟨0,rfl,(HNow.out.back _ _ 0 wE HW.out).setk 7 (fun _ _ h=>h.2)⟩
 all_goals
  have HW:=hide hW
  clear hW
  go_wp2_with fail
  go_ret
  exact ⟨_,rfl,(HNow.out.back _ _ _ wE HW.out).weak' (by decide) (fun _ _ h=>by first | exact h.1.trans h.2.symm | (rw [h.1,h.2]; exact HK10.out.2))⟩
set_option maxRecDepth 100000 in
set_option maxHeartbeats 16000000 in
theorem sym9 (B : List UInt8) (a o : Nat) (l : List UInt8) (hs : Src B a o l) (g gf gw gr : Nat) (K : List Nat) (f : DF) (v vo : Value) (q : Nat) (x : List UInt8) (s : GSt) (w : World) (h : Rn w g gf gw gr K f v vo l q s.out x) (hk : s.k = 9) (hfk : f.k = 9)
 (hm : Md w f s) (hwf : s.Wf) (hp : Pt s o q) (hl : s.out.length <= f.most) (hmost : f.most <= 1073741824) (hx : x.length <= s.out.length) :
 Calls Tryz.prog 228 #[.pointer (some ⟨g,0,none⟩),.pointer (some ⟨gf,0,none⟩)] w (fun e w'=>∃ c : Nat,e = .returned (.int .i64 (c : Int)) /\ Went B a o l g gf gw gr K f v vo x s (fun f' t=>f'.k = t.k) (fun f' t=>f'.k = t.k) w c w'):=by
 have HNow:=hide (Now.here hs h hm hwf hp hl hmost hx)
 have c1 : w.cell? ⟨g,1,none⟩ = some (.int .i64 9):=by have:=h.on.dec.k; rw [hfk] at this; exact this
 clear hs h hm hwf hp hl hmost hx
 go_enter Tryz.func228,Tryz.ntmps228
 have hcodeA:=HNow.out.wf.code (by omega) (by omega)
 obtain ⟨gcA,hcoA,gTA,gDA,hcdA,hTA,hDA⟩:=HNow.out.md.co (by omega) (by omega)
 have c353A : (w).cell? ⟨g,353,none⟩ = some (.pointer (some ⟨gcA,0,none⟩)):=by have:=HNow.out.rn.on.dec.co; rw [hcoA] at this; exact this
 have cgcA : (w).cell? ⟨gcA,1,none⟩ = some (.pointer (some ⟨gDA,0,none⟩)):=hcdA.cell 1
 have cgfA : (w).cell? ⟨gf,0,none⟩ = some (.pointer (some ⟨gr,0,none⟩)):=Has.cell HNow.out.rn.on.flow 0
 obtain ⟨XA,cA,nA,hReadA,hcaseA⟩:=read_gen HNow.out.src gDA gr v (s).D q (w).drew (hDA.only (Only.refl [] _).drew (by simp)) (HNow.out.rn.rd.drewN 1) hcodeA.2
 have hptA:=HNow.out.pt.eq (by rw [hk]; decide)
 rw [<- hptA] at hcaseA
 have hnxA:=GSt.nx_9 (L0:=fixedL) (D0:=fixedD2) (N:=num B) (most:=(f).most) hk
 have h11A : (s).k ≠ 11:=by omega
 have HCA:=hide hReadA
 have HPA:=hide (aI hptA (aI hk (aI hfk (aI hnxA h11A))))
 clear hcodeA hcoA hcdA hTA hDA hReadA hptA hk hfk hnxA h11A
 have hstA : ∀ (w2 : World) (y : Nat),Only [gr] (w).drew w2 -> Rd w2 gr v l (q + nA) -> Rn w2 g gf gw gr K (f) v vo l (q + nA) (s).out x /\ (∃ z : Value,w2.cell? ⟨g,355,none⟩ = some z) /\ w2.frozen? ⟨g,355,none⟩ = false /\
  Rn (w2.setCell ⟨g,355,none⟩ (.int .i64 (y : Int))) g gf gw gr K { f with sy:=y } v vo l (q + nA) (s).out x /\ Only [g,gr] (w) (w2.setCell ⟨g,355,none⟩ (.int .i64 (y : Int))) /\ Md (w2.setCell ⟨g,355,none⟩ (.int .i64 (y : Int))) (f) (s):=fun w2 y ho hr=>by
  have o1 : Only [gr] (w) w2:=((Only.refl [gr] _).drew).trans ho (by simp)
  have hR:=HNow.out.rn.read o1 hr
  have oW : Only [g] w2 (w2.setCell ⟨g,355,none⟩ (.int .i64 (y : Int))):=(Only.refl [g] _).setCell (by simp) _
  exact ⟨hR,⟨_,hR.on.dec.sy⟩,Has.free hR.on.dec 355,hR.cells oW (Dc.set_sy hR.on.dec y) rfl rfl (hR.keepX oW),(o1.weak (by simp)).trans (oW.weak (T:=[g,gr]) (by simp)) (by simp),hR.mdg (HNow.out.rn.mdr HNow.out.md o1) oW⟩
 have HSTA:=hide hstA
 clear hstA
 rcases hcaseA with ⟨rfl,rfl,hfarA⟩ | ⟨rfl,rfl,hnearA,herrA⟩ | ⟨rfl,hnA,hnearA,hqnA,hhA⟩
 ·have HFA:=hide hfarA
  clear hfarA
  go_wp2_with fail
  go_region_with (go_at_call 233; refine (HCA.out).mono ?_; rintro e w2 ⟨rfl,ho2,hr2⟩; obtain ⟨hR2,⟨z5,k5⟩,f5,hX⟩:=HSTA.out w2 XA ho2 hr2; have H2:=hide hX; clear hR2 hX ho2 hr2)
  clear c353A cgcA cgfA
  all_goals
   go_wp2_with fail
   go_ret
   have hM:=H2.out.2.2
   exact ⟨2,rfl,HNow.out.short (.short _ HPA.out.2.2.2.2 (by rw [HPA.out.2.2.2.1]; exact HFA.out)) rfl H2.out.1 H2.out.2.1 ⟨rfl,rfl,rfl,rfl,rfl,rfl,rfl,rfl,rfl⟩ ⟨hM.last,hM.left,hM.co,fun h=>absurd h (by rw [HPA.out.2.1]; decide),hM.le,hM.hd,hM.tab⟩ (.of HPA.out.1 (by rw [HPA.out.2.1]; decide)) (by rw [HPA.out.2.1]; exact HPA.out.2.2.1)⟩
 ·have hnx:=HPA.out.2.2.2.1
  rw [if_pos (.inl herrA)] at hnx
  have HFA:=hide (aI hnx hnearA)
  clear hnx hnearA herrA
  go_wp2_with fail
  go_region_with (go_at_call 233; refine (HCA.out).mono ?_; rintro e w2 ⟨rfl,ho2,hr2⟩; obtain ⟨hR2,⟨z5,k5⟩,f5,hX⟩:=HSTA.out w2 XA ho2 hr2; have H2:=hide hX; clear hR2 hX ho2 hr2)
  clear c353A cgcA cgfA
  all_goals
   go_wp2_with fail
   go_ret
   exact ⟨3,rfl,HNow.out.bad (.inl rfl) ((Steps.refl _).bad HPA.out.2.2.2.2 HFA.out.1 HFA.out.2) H2.out.1 H2.out.2.1 ⟨rfl,rfl,rfl,rfl,rfl,rfl,rfl,rfl,rfl⟩⟩
 ·have hnx:=HPA.out.2.2.2.1
  rw [hhA] at hnx
  dsimp only at hnx
  have HFA:=hide (aI hnearA hqnA)
  clear hnearA hqnA hnA hhA
  rcases Nat.lt_or_ge 29 XA with hX30 | hX30
  ·rw [if_pos (.inr hX30)] at hnx
   have HNA:=hide (aI hnx hX30)
   clear hnx hX30
   go_wp2_with fail
   go_region_with (go_at_call 233; refine (HCA.out).mono ?_; rintro e w2 ⟨rfl,ho2,hr2⟩; obtain ⟨hR2,⟨z5,k5⟩,f5,hX⟩:=HSTA.out w2 XA ho2 hr2; have H2:=hide hX; clear hR2 hX ho2 hr2)
   clear c353A cgcA cgfA
   all_goals
    have k1:=H2.out.1.on.dec.k
    have f1_ : (w2.setCell ⟨g,355,none⟩ (.int .i64 (XA : Int))).frozen? ⟨g,1,none⟩ = false:=Has.free H2.out.1.on.dec 1
    have oB : Only [g] (w2.setCell ⟨g,355,none⟩ (.int .i64 (XA : Int))) ((w2.setCell ⟨g,355,none⟩ (.int .i64 (XA : Int))).setCell ⟨g,1,none⟩ (.int .i64 ((10 : Nat) : Int))):=(Only.refl [g] _).setCell (by simp) _
    have hRB:=H2.out.1.cells oB (Dc.set_k H2.out.1.on.dec 10) rfl rfl (H2.out.1.keepX oB)
    have HBB:=hide (back_bad g gf _ _ hRB.on.dec (by show 30 <= XA; have:=HNA.out.2; omega))
    have HRB:=hide (aI hRB (H2.out.2.1.trans (oB.weak (T:=[g,gr]) (by simp)) (by simp)))
    clear oB hRB
    generalize w2.setCell ⟨g,355,none⟩ (.int .i64 (XA : Int)) = w3 at *
    go_wp2_with fail
    refine (HBB.out).mono ?_
    rintro e w4 ⟨rfl,rfl⟩
    go_wp2_with fail
    go_ret
    exact ⟨3,rfl,HNow.out.bad (.inl rfl) ((Steps.refl _).bad HPA.out.2.2.2.2 HNA.out.1 HFA.out.1) HRB.out.1 HRB.out.2 ⟨rfl,rfl,rfl,rfl,rfl,rfl,rfl,rfl,rfl⟩⟩
  ·rw [if_neg (by omega)] at hnx
   have HNA:=hide hnx
   clear hnx hX30
   go_wp2_with fail
   go_region_with (go_at_call 233; refine (HCA.out).mono ?_; rintro e w2 ⟨rfl,ho2,hr2⟩; obtain ⟨hR2,⟨z5,k5⟩,f5,hX⟩:=HSTA.out w2 XA ho2 hr2; have H2:=hide hX; clear hR2 hX ho2 hr2)
   clear c353A cgcA cgfA
   all_goals
    have hM:=H2.out.2.2
    have hG:=(HNow.out.go (u:={ s with k:=10,sym:=XA,p:=(s).p + nA }) (.one HPA.out.2.2.2.2 HNA.out HFA.out.1) rfl H2.out.1 H2.out.2.1 ⟨rfl,rfl,rfl,rfl,rfl,rfl,rfl,rfl,rfl⟩ ⟨hM.last,fun h=>absurd (show (10 : Nat) = 2 from h) (by decide),fun _ _=>hM.co (by rw [HPA.out.2.1]; decide) (by rw [HPA.out.2.1]; decide),fun _=>rfl,fun _ _=>hM.le (by rw [HPA.out.2.1]; decide) (by rw [HPA.out.2.1]; decide),fun _ h=>absurd (show (10 : Nat) <= 6 from h) (by decide),hM.tab⟩ (.of (by show (s).p + nA = _; rw [HPA.out.1]; omega) (by show (10 : Nat) ≠ 1; decide))).setk 10
    have k1:=H2.out.1.on.dec.k
    have f1_ : (w2.setCell ⟨g,355,none⟩ (.int .i64 (XA : Int))).frozen? ⟨g,1,none⟩ = false:=Has.free H2.out.1.on.dec 1
    have HGA:=hide hG
    clear hM hG H2
    generalize w2.setCell ⟨g,355,none⟩ (.int .i64 (XA : Int)) = wSA at *
    have hk10 : ({ s with k:=10,sym:=XA,p:=(s).p + nA } : GSt).k = 10:=rfl
    have hfk10 : ({ { f with sy:=XA } with k:=10 } : DF).k = 10:=rfl
    have HB10:=hide (back_step B a o l HGA.out.src g gf gw gr K { { f with sy:=XA } with k:=10 } v vo (q + nA) x { s with k:=10,sym:=XA,p:=s.p + nA } (wSA.setCell ⟨g,1,none⟩ (.int .i64 ((10 : Nat) : Int))) HGA.out.rn hk10 HGA.out.md HGA.out.wf (HGA.out.pt.eq (by rw [hk10]; decide)) HGA.out.le HGA.out.most HGA.out.xl)
    have HK10:=hide (aI hk10 hfk10)
    clear hk10 hfk10
    go_wp2_with fail
    refine (HB10.out).mono ?_
    rintro e wE ⟨c,rfl,hW⟩
    rcases hW.codes with rfl | rfl | rfl | rfl
    ·obtain ⟨qE,yE,voE,fE,uE,hN,_⟩:=HGA.out.went hW
     have kE:=hN.rn.on.dec.k
     have qfE : wE.frozen? ⟨g,1,none⟩ = false:=Has.free hN.rn.on.dec 1
     have HW:=hide hW
     clear hW hN
     generalize fE.k = zE at kE
     go_wp2_with fail
     go_ret
     exact ⟨0,rfl,(HGA.out.back _ _ 0 wE HW.out).setk 7 (fun _ _ h=>h.2)⟩
    all_goals
     have HW:=hide hW
     clear hW
     go_wp2_with fail
     go_ret
     exact ⟨_,rfl,(HGA.out.back _ _ _ wE HW.out).weak' (by decide) (fun _ _ h=>by first | exact h.1.trans h.2.symm | (rw [h.1,h.2]; exact HK10.out.2))⟩
end Go.Proofs.YtmfoeihapalkpaaGreatDoor
