import Derived.Test.YtmfoeihapalkpaaGreatDoorMFlN
namespace Go.Proofs.YtmfoeihapalkpaaGreatDoor
open Go Go.RowKit
theorem len_le : ∀ y,257 <= y -> y <= 285 -> lenM y <= 30000 /\ lenB y <= 13:=by
 have all : ∀ d,d < 29 -> lenM (257 + d) <= 30000 /\ lenB (257 + d) <= 13:=by decide
 intro y h1 h2
 have:=all (y - 257) (by omega)
 rwa [show 257 + (y - 257) = y by omega] at this
set_option maxRecDepth 100000 in
set_option maxHeartbeats 16000000 in
theorem sym8 (B : List UInt8) (a o : Nat) (l : List UInt8) (hs : Src B a o l) (g gf gw gr : Nat) (K : List Nat) (f : DF) (v vo : Value) (q : Nat) (x : List UInt8) (s : GSt) (w : World) (h : Rn w g gf gw gr K f v vo l q s.out x) (hk : s.k = 8) (hfk : f.k = 8)
 (hm : Md w f s) (hwf : s.Wf) (hp : Pt s o q) (hl : s.out.length <= f.most) (hmost : f.most <= 1073741824) (hx : x.length <= s.out.length) :
 Calls Tryz.prog 228 #[.pointer (some ⟨g,0,none⟩),.pointer (some ⟨gf,0,none⟩)] w (fun e w'=>∃ c : Nat,e = .returned (.int .i64 (c : Int)) /\ Went B a o l g gf gw gr K f v vo x s (fun f' t=>f'.k = t.k) (fun f' t=>f'.k = t.k) w c w'):=by
 have HNow:=hide (Now.here hs h hm hwf hp hl hmost hx)
 have c1 : w.cell? ⟨g,1,none⟩ = some (.int .i64 8):=by have:=h.on.dec.k; rw [hfk] at this; exact this
 clear hs h hm hwf hp hl hmost hx
 go_enter Tryz.func228,Tryz.ntmps228
 obtain ⟨yA8,hyA8⟩ : ∃ y,y = (s).sym:=⟨_,rfl⟩
 have hbA8:=HNow.out.wf.sym8 hk
 obtain ⟨iA8,hiA8⟩ : ∃ i,yA8 = 257 + i:=⟨yA8 - 257,by omega⟩
 obtain ⟨mA8,hmmA8⟩ : ∃ m,m = lenM (s).sym:=⟨_,rfl⟩
 obtain ⟨nA8,hnnA8⟩ : ∃ n,n = lenB (s).sym:=⟨_,rfl⟩
 have htbA8:=HNow.out.md.tab.len iA8 (by omega)
 rw [<- hiA8] at htbA8
 have ct0A8 : (w).cell? ⟨1,iA8 * 2,none⟩ = some (.int .u16 (mA8 : Int)):=by rw [hmmA8,<- hyA8,Nat.mul_comm]; exact htbA8.1
 have ct1A8 : (w).cell? ⟨1,iA8 * 2 + 1,none⟩ = some (.int .u8 (nA8 : Int)):=by rw [hnnA8,<- hyA8,Nat.mul_comm]; exact htbA8.2
 have c355A8 : (w).cell? ⟨g,355,none⟩ = some (.int .i64 (yA8 : Int)):=by have:=HNow.out.rn.on.dec.sy; rw [HNow.out.md.sy (.inl hk),<- hyA8] at this; exact this
 have e1A8 : (yA8 : Int) - 257 = (iA8 : Int):=by omega
 have hi29A8 : iA8 < 29:=by omega
 have hy300A8 : yA8 < 300:=by omega
 have hlmA8:=len_le (s).sym hbA8.1 hbA8.2
 rw [<- hmmA8,<- hnnA8] at hlmA8
 have haddA8:=addF_any B a o l HNow.out.src g gf gw gr K f v vo q (s).out x w HNow.out.rn mA8 nA8 hlmA8.1 hlmA8.2
 have hptA8:=HNow.out.pt.eq (by rw [hk]; decide)
 rw [<- hptA8] at haddA8
 have hnxA8:=GSt.nx_8 (L0:=fixedL) (D0:=fixedD2) (N:=num B) (most:=(f).most) hk
 rw [<- hmmA8,<- hnnA8] at hnxA8
 have h11A8 : (s).k ≠ 11:=by omega
 have hstA8 : ∀ (w2 : World) (L q2 : Nat),Rn w2 g gf gw gr K (f) v vo l q2 (s).out x -> Only [gr] (w) w2 -> (∃ z : Value,w2.cell? ⟨g,356,none⟩ = some z) /\ w2.frozen? ⟨g,356,none⟩ = false /\
  Rn (w2.setCell ⟨g,356,none⟩ (.int .i64 (L : Int))) g gf gw gr K { f with le:=L } v vo l q2 (s).out x /\ Only [g,gr] (w) (w2.setCell ⟨g,356,none⟩ (.int .i64 (L : Int))) /\ Md (w2.setCell ⟨g,356,none⟩ (.int .i64 (L : Int))) (f) (s):=fun w2 L q2 hR o1=>by
  have oW : Only [g] w2 (w2.setCell ⟨g,356,none⟩ (.int .i64 (L : Int))):=(Only.refl [g] _).setCell (by simp) _
  exact ⟨⟨_,hR.on.dec.le⟩,Has.free hR.on.dec 356,hR.cells oW (Dc.set_le hR.on.dec L) rfl rfl (hR.keepX oW),(o1.weak (by simp)).trans (oW.weak (T:=[g,gr]) (by simp)) (by simp),hR.mdg (HNow.out.rn.mdr HNow.out.md o1) oW⟩
 have HSTA8:=hide hstA8
 have HPA8:=hide (aI hptA8 (aI hk (aI hfk (aI hnxA8 (aI h11A8 hlmA8)))))
 clear hstA8 hptA8 hk hfk hnxA8 h11A8 htbA8 hmmA8 hnnA8 hyA8 hiA8 hbA8 hlmA8
 rcases haddA8 with ⟨hfarA8,hAA8⟩ | ⟨hnearA8,hAA8⟩
 ·have HAA8:=hide (aI hAA8 hfarA8)
  clear hAA8 hfarA8
  go_wp2_with fail
  refine (HAA8.out.1).mono ?_
  rintro e w2 ⟨rfl,hR2,ho2⟩
  obtain ⟨⟨z5,k5⟩,f5,hX⟩:=HSTA8.out w2 0 q hR2 ho2
  have H2:=hide hX
  clear hX hR2 ho2
  go_wp2_with fail
  go_ret
  have hM:=H2.out.2.2
  exact ⟨2,rfl,HNow.out.short (.short _ HPA8.out.2.2.2.2.1 (by rw [HPA8.out.2.2.2.1]; exact HAA8.out.2)) rfl H2.out.1 H2.out.2.1 ⟨rfl,rfl,rfl,rfl,rfl,rfl,rfl,rfl,rfl⟩ ⟨hM.last,hM.left,hM.co,hM.sy,fun h=>absurd h (by rw [HPA8.out.2.1]; decide),hM.hd,hM.tab⟩ (.of HPA8.out.1 (by rw [HPA8.out.2.1]; decide)) (by rw [HPA8.out.2.1]; exact HPA8.out.2.2.1)⟩
 ·obtain ⟨LA8,hLA8⟩ : ∃ L,L = mA8 + num B / 2 ^ (s).p % 2 ^ nA8:=⟨_,rfl⟩
  rw [<- hLA8] at hAA8
  have HAA8:=hide (aI hAA8 (aI hnearA8 hLA8))
  clear hAA8 hnearA8 hLA8
  go_wp2_with fail
  refine (HAA8.out.1).mono ?_
  rintro e w2 ⟨rfl,hR2,ho2⟩
  obtain ⟨⟨z5,k5⟩,f5,hX⟩:=HSTA8.out w2 LA8 _ hR2 ho2
  have H2:=hide hX
  clear hX hR2 ho2
  have hM:=H2.out.2.2
  have hnx:=HPA8.out.2.2.2.1
  rw [<- HAA8.out.2.2] at hnx
  have hG:=(HNow.out.go (u:={ s with k:=9,len:=LA8,p:=s.p + nA8 }) (.one HPA8.out.2.2.2.2.1 hnx HAA8.out.2.1) rfl H2.out.1 H2.out.2.1 ⟨rfl,rfl,rfl,rfl,rfl,rfl,rfl,rfl,rfl⟩ ⟨hM.last,fun h=>absurd (show (9 : Nat) = 2 from h) (by decide),fun _ _=>hM.co (by rw [HPA8.out.2.1]; decide) (by rw [HPA8.out.2.1]; decide),fun h=>absurd (show (9 : Nat) = 8 \/ (9 : Nat) = 10 from h) (by decide),fun _ _=>rfl,fun _ h=>absurd (show (9 : Nat) <= 6 from h) (by decide),hM.tab⟩ (.of (by show (s).p + nA8 = _; rw [HPA8.out.1]; omega) (by show (9 : Nat) ≠ 1; decide))).setk 9
  have k1 : (w2.setCell ⟨g,356,none⟩ (.int .i64 (LA8 : Int))).cell? ⟨g,1,none⟩ = some (.int .i64 ((f).k : Int)):=H2.out.1.on.dec.k
  have f1_ : (w2.setCell ⟨g,356,none⟩ (.int .i64 (LA8 : Int))).frozen? ⟨g,1,none⟩ = false:=Has.free H2.out.1.on.dec 1
  have HGA8:=hide hG
  clear hM hG H2 hnx
  go_wp2_with fail
  clear k5 f5 k1 f1_
  have hEx : ∃ (fN : DF) (tN : GSt) (qN : Nat),fN.k = 9 /\ tN.k = 9 /\ Now B a o l g gf gw gr K f v vo x s w fN vo qN x tN ((w2.setCell ⟨g,356,none⟩ (.int .i64 (LA8 : Int))).setCell ⟨g,1,none⟩ (.int .i64 9)):=⟨_,_,_,rfl,rfl,HGA8.out⟩
  clear HGA8
  obtain ⟨fA8,tA8,qA8,hfk9,hk9,hG⟩:=hEx
  have HGA8:=hide hG
  clear hG
  generalize (w2.setCell ⟨g,356,none⟩ (.int .i64 (LA8 : Int))).setCell ⟨g,1,none⟩ (.int .i64 9) = wNA8 at *
  clear ct0A8 ct1A8 c355A8 e1A8 hi29A8 hy300A8
  have hcodeA:=HGA8.out.wf.code (by omega) (by omega)
  obtain ⟨gcA,hcoA,gTA,gDA,hcdA,hTA,hDA⟩:=HGA8.out.md.co (by omega) (by omega)
  have c353A : (wNA8).cell? ⟨g,353,none⟩ = some (.pointer (some ⟨gcA,0,none⟩)):=by have:=HGA8.out.rn.on.dec.co; rw [hcoA] at this; exact this
  have cgcA : (wNA8).cell? ⟨gcA,1,none⟩ = some (.pointer (some ⟨gDA,0,none⟩)):=hcdA.cell 1
  have cgfA : (wNA8).cell? ⟨gf,0,none⟩ = some (.pointer (some ⟨gr,0,none⟩)):=Has.cell HGA8.out.rn.on.flow 0
  obtain ⟨XA,cA,nA,hReadA,hcaseA⟩:=read_gen HGA8.out.src gDA gr v (tA8).D qA8 (wNA8).drew (hDA.only (Only.refl [] _).drew (by simp)) (HGA8.out.rn.rd.drewN 1) hcodeA.2
  have hptA:=HGA8.out.pt.eq (by rw [hk9]; decide)
  rw [<- hptA] at hcaseA
  have hnxA:=GSt.nx_9 (L0:=fixedL) (D0:=fixedD2) (N:=num B) (most:=(fA8).most) hk9
  have h11A : (tA8).k ≠ 11:=by omega
  have HCA:=hide hReadA
  have HPA:=hide (aI hptA (aI hk9 (aI hfk9 (aI hnxA h11A))))
  clear hcodeA hcoA hcdA hTA hDA hReadA hptA hk9 hfk9 hnxA h11A
  have hstA : ∀ (w2 : World) (y : Nat),Only [gr] (wNA8).drew w2 -> Rd w2 gr v l (qA8 + nA) -> Rn w2 g gf gw gr K (fA8) v vo l (qA8 + nA) (tA8).out x /\ (∃ z : Value,w2.cell? ⟨g,355,none⟩ = some z) /\ w2.frozen? ⟨g,355,none⟩ = false /\
   Rn (w2.setCell ⟨g,355,none⟩ (.int .i64 (y : Int))) g gf gw gr K { fA8 with sy:=y } v vo l (qA8 + nA) (tA8).out x /\ Only [g,gr] (wNA8) (w2.setCell ⟨g,355,none⟩ (.int .i64 (y : Int))) /\ Md (w2.setCell ⟨g,355,none⟩ (.int .i64 (y : Int))) (fA8) (tA8):=fun w2 y ho hr=>by
   have o1 : Only [gr] (wNA8) w2:=((Only.refl [gr] _).drew).trans ho (by simp)
   have hR:=HGA8.out.rn.read o1 hr
   have oW : Only [g] w2 (w2.setCell ⟨g,355,none⟩ (.int .i64 (y : Int))):=(Only.refl [g] _).setCell (by simp) _
   exact ⟨hR,⟨_,hR.on.dec.sy⟩,Has.free hR.on.dec 355,hR.cells oW (Dc.set_sy hR.on.dec y) rfl rfl (hR.keepX oW),(o1.weak (by simp)).trans (oW.weak (T:=[g,gr]) (by simp)) (by simp),hR.mdg (HGA8.out.rn.mdr HGA8.out.md o1) oW⟩
  have HSTA:=hide hstA
  clear hstA
  rcases hcaseA with ⟨rfl,rfl,hfarA⟩ | ⟨rfl,rfl,hnearA,herrA⟩ | ⟨rfl,hnA,hnearA,hqnA,hhA⟩
  ·have HFA:=hide hfarA
   clear hfarA
   go_region_with (go_at_call 233; refine (HCA.out).mono ?_; rintro e w2 ⟨rfl,ho2,hr2⟩; obtain ⟨hR2,⟨z5,k5⟩,f5,hX⟩:=HSTA.out w2 XA ho2 hr2; have H2:=hide hX; clear hR2 hX ho2 hr2)
   clear c353A cgcA cgfA
   all_goals
    go_wp2_with fail
    go_ret
    have hM:=H2.out.2.2
    exact ⟨2,rfl,HGA8.out.short (.short _ HPA.out.2.2.2.2 (by rw [HPA.out.2.2.2.1]; exact HFA.out)) rfl H2.out.1 H2.out.2.1 ⟨rfl,rfl,rfl,rfl,rfl,rfl,rfl,rfl,rfl⟩ ⟨hM.last,hM.left,hM.co,fun h=>absurd h (by rw [HPA.out.2.1]; decide),hM.le,hM.hd,hM.tab⟩ (.of HPA.out.1 (by rw [HPA.out.2.1]; decide)) (by rw [HPA.out.2.1]; exact HPA.out.2.2.1)⟩
  ·have hnx:=HPA.out.2.2.2.1
   rw [if_pos (.inl herrA)] at hnx
   have HFA:=hide (aI hnx hnearA)
   clear hnx hnearA herrA
   go_region_with (go_at_call 233; refine (HCA.out).mono ?_; rintro e w2 ⟨rfl,ho2,hr2⟩; obtain ⟨hR2,⟨z5,k5⟩,f5,hX⟩:=HSTA.out w2 XA ho2 hr2; have H2:=hide hX; clear hR2 hX ho2 hr2)
   clear c353A cgcA cgfA
   all_goals
    go_wp2_with fail
    go_ret
    exact ⟨3,rfl,HGA8.out.bad (.inl rfl) ((Steps.refl _).bad HPA.out.2.2.2.2 HFA.out.1 HFA.out.2) H2.out.1 H2.out.2.1 ⟨rfl,rfl,rfl,rfl,rfl,rfl,rfl,rfl,rfl⟩⟩
  ·have hnx:=HPA.out.2.2.2.1
   rw [hhA] at hnx
   dsimp only at hnx
   have HFA:=hide (aI hnearA hqnA)
   clear hnearA hqnA hnA hhA
   rcases Nat.lt_or_ge 29 XA with hX30 | hX30
   ·rw [if_pos (.inr hX30)] at hnx
    have HNA:=hide (aI hnx hX30)
    clear hnx hX30
    go_region_with (go_at_call 233; refine (HCA.out).mono ?_; rintro e w2 ⟨rfl,ho2,hr2⟩; obtain ⟨hR2,⟨z5,k5⟩,f5,hX⟩:=HSTA.out w2 XA ho2 hr2; have H2:=hide hX; clear hR2 hX ho2 hr2)
    clear c353A cgcA cgfA
    all_goals
     have k1:=H2.out.1.on.dec.k
     have f1_ : (w2.setCell ⟨g,355,none⟩ (.int .i64 (XA : Int))).frozen? ⟨g,1,none⟩ = false:=Has.free H2.out.1.on.dec 1
     have oB : Only [g] (w2.setCell ⟨g,355,none⟩ (.int .i64 (XA : Int))) ((w2.setCell ⟨g,355,none⟩ (.int .i64 (XA : Int))).setCell ⟨g,1,none⟩ (.int .i64 ((10 : Nat) : Int))):=(Only.refl [g] _).setCell (by simp) _
     have hRB:=H2.out.1.cells oB (Dc.set_k H2.out.1.on.dec 10) rfl rfl (H2.out.1.keepX oB)
     have HBB:=hide (back_bad g gf _ _ hRB.on.dec (by show 30 <= XA; have:=HNA.out.2; omega))
     have HRB:=hide (aI hRB (H2.out.2.1.trans (oB.weak (T:=[g,gr]) (by simp)) (by simp)))
     clear oB hRB
     generalize w2.setCell ⟨g,355,none⟩ (.int .i64 (XA : Int)) = w3 at *
     go_wp2_with fail
     refine (HBB.out).mono ?_
     rintro e w4 ⟨rfl,rfl⟩
     go_wp2_with fail
     go_ret
     exact ⟨3,rfl,HGA8.out.bad (.inl rfl) ((Steps.refl _).bad HPA.out.2.2.2.2 HNA.out.1 HFA.out.1) HRB.out.1 HRB.out.2 ⟨rfl,rfl,rfl,rfl,rfl,rfl,rfl,rfl,rfl⟩⟩
   ·rw [if_neg (by omega)] at hnx
    have HNA:=hide hnx
    clear hnx hX30
    go_region_with (go_at_call 233; refine (HCA.out).mono ?_; rintro e w2 ⟨rfl,ho2,hr2⟩; obtain ⟨hR2,⟨z5,k5⟩,f5,hX⟩:=HSTA.out w2 XA ho2 hr2; have H2:=hide hX; clear hR2 hX ho2 hr2)
    clear c353A cgcA cgfA
    all_goals
     have hM:=H2.out.2.2
     have hG:=(HGA8.out.go (u:={ tA8 with k:=10,sym:=XA,p:=(tA8).p + nA }) (.one HPA.out.2.2.2.2 HNA.out HFA.out.1) rfl H2.out.1 H2.out.2.1 ⟨rfl,rfl,rfl,rfl,rfl,rfl,rfl,rfl,rfl⟩ ⟨hM.last,fun h=>absurd (show (10 : Nat) = 2 from h) (by decide),fun _ _=>hM.co (by rw [HPA.out.2.1]; decide) (by rw [HPA.out.2.1]; decide),fun _=>rfl,fun _ _=>hM.le (by rw [HPA.out.2.1]; decide) (by rw [HPA.out.2.1]; decide),fun _ h=>absurd (show (10 : Nat) <= 6 from h) (by decide),hM.tab⟩ (.of (by show (tA8).p + nA = _; rw [HPA.out.1]; omega) (by show (10 : Nat) ≠ 1; decide))).setk 10
     have k1:=H2.out.1.on.dec.k
     have f1_ : (w2.setCell ⟨g,355,none⟩ (.int .i64 (XA : Int))).frozen? ⟨g,1,none⟩ = false:=Has.free H2.out.1.on.dec 1
     have HGA:=hide hG
     clear hM hG H2
     generalize w2.setCell ⟨g,355,none⟩ (.int .i64 (XA : Int)) = wSA at *
     have hk10 : ({ tA8 with k:=10,sym:=XA,p:=(tA8).p + nA } : GSt).k = 10:=rfl
     have hfk10 : ({ { fA8 with sy:=XA } with k:=10 } : DF).k = 10:=rfl
     have HB10:=hide (back_step B a o l HGA.out.src g gf gw gr K { { fA8 with sy:=XA } with k:=10 } v vo (qA8 + nA) x { tA8 with k:=10,sym:=XA,p:=tA8.p + nA } (wSA.setCell ⟨g,1,none⟩ (.int .i64 ((10 : Nat) : Int))) HGA.out.rn hk10 HGA.out.md HGA.out.wf (HGA.out.pt.eq (by rw [hk10]; decide)) HGA.out.le HGA.out.most HGA.out.xl)
     have HK10:=hide (aI hk10 hfk10)
     clear hk10 hfk10
     go_wp2_with fail
     refine (HB10.out).mono ?_
     rintro e wE ⟨c,rfl,hW⟩
     rcases hW.codes with rfl | rfl | rfl | rfl
     ·obtain ⟨qE,yE,voE,fE,uE,hN,_⟩:=HGA.out.went hW
      have kE:=hN.rn.on.dec.k
      have qfE : wE.frozen? ⟨g,1,none⟩ = false:=Has.free hN.rn.on.dec 1
      have HW:=hide hW
      clear hW hN
      generalize fE.k = zE at kE
      go_wp2_with fail
      go_ret
      exact ⟨0,rfl,(HGA.out.back _ _ 0 wE HW.out).setk 7 (fun _ _ h=>h.2)⟩
     all_goals
      have HW:=hide hW
      clear hW
      go_wp2_with fail
      go_ret
      exact ⟨_,rfl,(HGA.out.back _ _ _ wE HW.out).weak' (by decide) (fun _ _ h=>by first | exact h.1.trans h.2.symm | (rw [h.1,h.2]; exact HK10.out.2))⟩
end Go.Proofs.YtmfoeihapalkpaaGreatDoor
