import Derived.Test.YtjfjmkkkbcgohaaGreatDoorMFlN
namespace Go.Proofs.YtjfjmkkkbcgohaaGreatDoor
open Go Go.RowKit
theorem len_le : ∀ y,257 <= y -> y <= 285 -> lenM y <= 30000 /\ lenB y <= 13:=by
 have all : ∀ d,d < 29 -> lenM (257 + d) <= 30000 /\ lenB (257 + d) <= 13:=by decide
 intro y h1 h2
 have:=all (y - 257) (by omega)
 rwa [show 257 + (y - 257) = y by omega] at this
theorem Went.pick {B : List UInt8} {a o : Nat} {l : List UInt8} {g gf gw gr : Nat} {K : List Nat} {f : DF} {v vo : Value} {x : List UInt8} {s : GSt} {w w1 : World} {P Q : DF -> GSt -> Prop} (h : Went B a o l g gf gw gr K f v vo x s P Q w 0 w1) :
 ∃ f2 u,P f2 u /\ Went B a o l g gf gw gr K f v vo x s (fun f' t=>f' = f2 /\ t = u) Q w 0 w1:=by
 obtain ⟨q',y',vo',f',hR,hS2,hsm2,hle,hcase⟩:=h
 rcases hcase with ⟨_,r,h1,h2,h3,h4,h5⟩ | ⟨h,_⟩ | ⟨h | h,_⟩
 ·exact ⟨f',r,h5,q',y',vo',f',hR,hS2,hsm2,hle,.inl ⟨rfl,r,h1,h2,h3,h4,rfl,rfl⟩⟩
 ·omega
 ·omega
 ·omega
theorem Md.plain {w : World} {f : DF} {s : GSt} (h1 : f.last = s.last) (h2 : Tab w) (hk : s.k = 0 \/ s.k = 1 \/ s.k = 3 \/ s.k = 11) : Md w f s :=
 ⟨h1,fun h=>absurd h (by omega),fun h1 h2=>absurd (aI h1 h2) (by omega),fun h=>absurd h (by omega),fun h1 h2=>absurd (aI h1 h2) (by omega),fun h1 h2=>absurd (aI h1 h2) (by omega),h2⟩
theorem Stored.went {B : List UInt8} {a o : Nat} {l : List UInt8} {g gf gw gr : Nat} {K : List Nat} {f f1 : DF} {v vo : Value} {x : List UInt8} {s t : GSt} {w w1 w2 : World} {c : Nat} (h1 : Stp B a f.most s t) (hout : t.out = s.out) (hS : Since [g,gf,gw,gr] w vo w1 vo) (hsm : Same f f1)
 (hstrict : t.ms a < s.ms a \/ (t.ms a <= s.ms a /\ 0 < t.left)) (h : Stored B a o l g gf gw gr K f1 v vo x t w1 c w2) (hk1 : f.k ≠ 11 -> f1.k ≠ 11:=by first | exact fun h=>h | (intro _; dsimp only; decide)) :
 Went B a o l g gf gw gr K f v vo x s (fun f' u=>f'.k = f1.k /\ u.k = behindK u.last) (fun f' u=>f'.k = f1.k /\ u.k = 2) w c w2:=by
 obtain ⟨q',y,vo',f',hR,hS2,hsm2,hle,hkk,hcase⟩:=h
 rw [hout] at hR
 rw [hout,hsm.most] at hle
 refine ⟨q',y,vo',f',hR,hS.trans hS2 (fun _ hi _=>hi),hsm.trans hsm2,hle,?_⟩
 rw [hsm.most,hout] at hcase
 rcases hcase with ⟨rfl,u,hst,ho,hM,hP,hk,hms⟩ | ⟨rfl,u,he,ho,hM,hP,hk⟩ | ⟨rfl,u,he⟩
 ·refine .inl ⟨rfl,u,⟨h1.trans hst,?_⟩,ho,hM,hP,hkk,hk⟩
  have:=hst.ms
  rcases hstrict with h | ⟨h,h2⟩
  ·omega
  ·have:=hms h2; omega
 ·exact .inr (.inl ⟨rfl,u,h1.ends he,ho,hM,hP,hkk,hk⟩)
 ·exact .inr (.inr ⟨.inr rfl,fun h0=>by rw [hkk]; exact hk1 h0,u,h1.ends he⟩)
set_option maxRecDepth 100000 in
set_option maxHeartbeats 16000000 in
theorem step2 (B : List UInt8) (a o : Nat) (l : List UInt8) (hs : Src B a o l) (g gf gw gr : Nat) (K : List Nat) (f : DF) (v vo : Value) (q : Nat) (x : List UInt8) (s : GSt) (w : World) (h : Rn w g gf gw gr K f v vo l q s.out x) (hk : s.k = 2) (hfk : f.k = 2)
 (hm : Md w f s) (hwf : s.Wf) (hp : Pt s o q) (hl : s.out.length <= f.most) (hmost : f.most <= 1073741824) (hx : x.length <= s.out.length) :
 Calls Tryz.prog 165 #[.pointer (some ⟨g,0,none⟩),.pointer (some ⟨gf,0,none⟩)] w (fun e w'=>∃ c : Nat,e = .returned (.int .i64 (c : Int)) /\ Went B a o l g gf gw gr K f v vo x s (fun f' t=>f'.k = t.k) (fun f' t=>f'.k = t.k) w c w'):=by
 have c1 : w.cell? ⟨g,1,none⟩ = some (.int .i64 2):=by have:=h.on.dec.k; rw [hfk] at this; exact this
 have hlf:=hwf.left hk
 have HNow:=hide (Now.here hs h hm hwf hp hl hmost hx)
 have HB:=hide (stored_step B a o l hs g gf gw gr K f v vo q x s w h (by rw [stK_pos _ hlf.1]; exact hk) (hm.left hk) hm.last hm.tab (hp.eq (by omega)) (by have:=hp.eq (by omega); omega) hlf.2.1 hl hmost hx)
 have HL:=hide hlf.1
 have HK:=hide hfk
 clear hs h hk hfk hm hwf hp hl hmost hx hlf
 go_enter Tryz.func165,Tryz.ntmps165
 go_wp2_with fail
 refine (HB.out).mono ?_
 rintro e wL ⟨c,rfl,hSt⟩
 have hW:=hSt.went (.refl s) rfl (Since.refl _ _ _) (Same.refl f) (.inr ⟨Nat.le_refl _,HL.out⟩)
 clear hSt
 rcases hW.codes with rfl | rfl | rfl | rfl
 ·obtain ⟨fP,uP,hPP,hWp⟩:=hW.pick
  obtain ⟨qL,yL,voL,fL,uL,hN,rfl,rfl⟩:=HNow.out.went hWp (fun _ _ h hk0=>by rw [h.1,hPP.1]; exact hk0)
  have kL:=hN.rn.on.dec.k
  have qfL : wL.frozen? ⟨g,1,none⟩ = false:=Has.free hN.rn.on.dec 1
  have HBe:=hide (behind_any g fL wL hN.rn.on.dec)
  have HUB:=hide (aI hPP.2 hN.md.last)
  have HWp:=hide hWp
  clear hN hWp hW hPP
  generalize fL.k = zL at kL
  go_wp2_with fail
  refine (HBe.out).mono ?_
  rintro e wM ⟨rfl,rfl⟩
  go_wp2_with fail
  go_ret
  exact ⟨0,rfl,HWp.out.setk (behindK fL.last) (fun f' t h=>by rw [h.2,HUB.out.1,HUB.out.2])⟩
 all_goals
  have HW:=hide hW
  clear hW
  go_wp2_with fail
  go_ret
  exact ⟨_,rfl,HW.out.weak' (by decide) (fun _ _ h=>h.1.trans (Eq.trans (by first | exact HK.out | rfl) h.2.symm))⟩
set_option maxRecDepth 100000 in
set_option maxHeartbeats 16000000 in
theorem step1 (B : List UInt8) (a o : Nat) (l : List UInt8) (hs : Src B a o l) (g gf gw gr : Nat) (K : List Nat) (f : DF) (v vo : Value) (q : Nat) (x : List UInt8) (s : GSt) (w : World) (h : Rn w g gf gw gr K f v vo l q s.out x) (hk : s.k = 1) (hfk : f.k = 1)
 (hm : Md w f s) (hwf : s.Wf) (hp : Pt s o q) (hl : s.out.length <= f.most) (hmost : f.most <= 1073741824) (hx : x.length <= s.out.length) :
 Calls Tryz.prog 165 #[.pointer (some ⟨g,0,none⟩),.pointer (some ⟨gf,0,none⟩)] w (fun e w'=>∃ c : Nat,e = .returned (.int .i64 (c : Int)) /\ Went B a o l g gf gw gr K f v vo x s (fun f' t=>f'.k = t.k) (fun f' t=>f'.k = t.k) w c w'):=by
 have c1 : w.cell? ⟨g,1,none⟩ = some (.int .i64 1):=by have:=h.on.dec.k; rw [hfk] at this; exact this
 have hpt : s.p = 8 * o + (q + toByte q):=by unfold Pt at hp; rw [if_pos hk] at hp; exact hp
 have hlen:=hs.len
 have hoa:=hs.oa
 have htb : toByte (q + toByte q) = 0:=by unfold toByte; omega
 have ht8 : (q + toByte q) % 8 = 0:=by unfold toByte; omega
 have hnx:=GSt.nx_1 (L0:=fixedL) (D0:=fixedD2) (N:=num B) (most:=f.most) hk
 have HNow:=hide (Now.here hs h hm hwf hp hl hmost hx)
 have h11 : s.k ≠ 11:=by omega
 by_cases hq : q + toByte q + 32 <= 8 * l.length
 ·have hbits:=hs.bits (k:=q + toByte q) (n:=32) (by omega)
  rw [<- hpt] at hbits
  have hbb : bitsOf (num B) s.p 32 = num B / 2 ^ s.p % 2 ^ (16 + 16):=rfl
  have hparts:=bits_parts (num B) s.p 16 16
  rw [hbb] at hbits
  have hnear : s.p + 32 <= 8 * a:=by omega
  have hlo : num B / 2 ^ s.p % 2 ^ 16 < 65536:=Nat.mod_lt _ (by decide)
  have hhi : num B / 2 ^ (s.p + 16) % 2 ^ 16 < 65536:=Nat.mod_lt _ (by decide)
  rw [show (65536 : Nat) = 2 ^ 16 from rfl] at hnx
  obtain ⟨z,hz⟩ : ∃ z,z = num B / 2 ^ s.p % 2 ^ (16 + 16):=⟨_,rfl⟩
  rw [<- hz] at hbits hparts
  generalize num B / 2 ^ s.p % 2 ^ 16 = n at *
  generalize num B / 2 ^ (s.p + 16) % 2 ^ 16 = n2 at *
  have hz1 : z = n + 65536 * n2:=hparts
  clear hparts hz hbb
  dsimp only at hnx
  by_cases hgood : n2 = 65535 - n
  ·rw [if_pos hgood] at hnx
   have HB:=hide (size_ok g gf gw gr K f v vo l q s.out x w h hq n hlo (by rw [hbits,hz1,hgood]; omega))
   have HX:=hide (aI hnx (aI hnear (aI h11 (aI hpt (aI ht8 hlo)))))
   clear hs h hk hfk hm hwf hp hl hmost hx hpt hlen hoa htb ht8 hnx h11 hq hbits hnear hlo hhi hz1 hgood
   go_enter Tryz.func165,Tryz.ntmps165
   go_wp2_with fail
   refine (HB.out).mono ?_
   rintro e w1 ⟨rfl,hR,ho⟩
   have k1:=hR.on.dec.k
   have f1 : w1.frozen? ⟨g,1,none⟩ = false:=Has.free hR.on.dec 1
   have oW : Only [g] w1 (w1.setCell ⟨g,1,none⟩ (.int .i64 2)):=(Only.refl [g] _).setCell (by simp) _
   have hR2:=hR.cells oW (Dc.set_k hR.on.dec 2) rfl rfl (hR.keepX oW)
   have o2 : Only [g,gr] w (w1.setCell ⟨g,1,none⟩ (.int .i64 2)):=(ho.weak (by simp)).trans (oW.weak (T:=[g,gr]) (by simp)) (by simp)
   have hM:=hR.mdg (HNow.out.rn.mdo HNow.out.md ho) oW
   have hSS:=stored_step B a o l HNow.out.src g gf gw gr K { { f with left:=n } with k:=2 } v vo (q + toByte q + 32) x { s with k:=stK s.last n,left:=n,p:=s.p + 32 } _ hR2 rfl rfl HNow.out.md.last hM.tab (by show s.p + 32 = _; rw [HX.out.2.2.2.1]; omega) (by have:=HX.out.2.2.2.2.1; omega) HX.out.2.2.2.2.2 HNow.out.le HNow.out.most HNow.out.xl
   have HSS:=hide hSS
   have H1:=hide o2
   clear hSS hM hR2 o2 oW hR ho
   generalize DF.k _ = z1 at k1
   go_wp2_with fail
   refine (HSS.out).mono ?_
   rintro e wL ⟨c,rfl,hSt⟩
   have hone : Stp1 B a f.most s { s with k:=stK s.last n,left:=n,p:=s.p + 32 }:=.one HX.out.2.2.1 HX.out.1 HX.out.2.1
   have hW:=hSt.went (f:=f) (f1:={ { f with left:=n } with k:=2 }) (vo:=vo) (w:=w) (s:=s) hone.1 rfl ((Since.refl [g,gf,gw,gr] w vo).step (H1.out.weak (T:=[g,gf,gw,gr]) (by intro k hk _; simp only [List.mem_cons,List.not_mem_nil,or_false] at hk ⊢; omega))) ⟨rfl,rfl,rfl,rfl,rfl,rfl,rfl,rfl,rfl⟩ (.inl hone.2)
   clear hSt hone
   have HK : Hid ((2 : Nat) = 2):=hide rfl
   rcases hW.codes with rfl | rfl | rfl | rfl
   ·obtain ⟨fP,uP,hPP,hWp⟩:=hW.pick
    obtain ⟨qL,yL,voL,fL,uL,hN,rfl,rfl⟩:=HNow.out.went hWp (fun _ _ h _=>by rw [h.1,hPP.1]; dsimp only; decide)
    have kL:=hN.rn.on.dec.k
    have qfL : wL.frozen? ⟨g,1,none⟩ = false:=Has.free hN.rn.on.dec 1
    have HBe:=hide (behind_any g fL wL hN.rn.on.dec)
    have HUB:=hide (aI hPP.2 hN.md.last)
    have HWp:=hide hWp
    clear hN hWp hW hPP
    generalize fL.k = zL at kL
    go_wp2_with fail
    refine (HBe.out).mono ?_
    rintro e wM ⟨rfl,rfl⟩
    go_wp2_with fail
    go_ret
    exact ⟨0,rfl,HWp.out.setk (behindK fL.last) (fun f' t h=>by rw [h.2,HUB.out.1,HUB.out.2])⟩
   all_goals
    have HW:=hide hW
    clear hW
    go_wp2_with fail
    go_ret
    exact ⟨_,rfl,HW.out.weak' (by decide) (fun _ _ h=>h.1.trans (Eq.trans (by first | exact HK.out | rfl) h.2.symm))⟩
  ·rw [if_neg hgood] at hnx
   have HB:=hide (size_bad g gf gw gr K f v vo l q s.out x w h hq z (by omega) hbits (by rw [hz1]; omega))
   have HX:=hide (aI hnx (aI hnear h11))
   clear hs h hk hfk hm hwf hp hl hmost hx hpt hlen hoa htb ht8 hnx h11 hq hbits hnear hlo hhi hz1 hgood
   go_enter Tryz.func165,Tryz.ntmps165
   go_wp2_with fail
   refine (HB.out).mono ?_
   rintro e w1 ⟨rfl,hR,ho⟩
   have H1:=hide (aI hR ho)
   clear hR ho
   go_wp2_with fail
   go_ret
   exact ⟨3,rfl,HNow.out.bad (.inl rfl) ((Steps.refl _).bad HX.out.2.2 HX.out.1 HX.out.2.1) H1.out.1 (H1.out.2.weak (by simp)) (Same.refl f)⟩
 ·have HB:=hide (size_short g gf gw gr K f v vo l q s.out x w h (by omega))
  have HX:=hide (aI hnx (aI (show 8 * a < s.p + 32 by omega) (aI h11 (aI hpt (aI hk (aI htb hfk))))))
  clear hs h hk hfk hm hwf hp hl hmost hx hpt hlen hoa htb ht8 hnx h11 hq
  go_enter Tryz.func165,Tryz.ntmps165
  go_wp2_with fail
  refine (HB.out).mono ?_
  rintro e w1 ⟨rfl,hR,ho⟩
  have H1:=hide (aI hR ho)
  clear hR ho
  go_wp2_with fail
  go_ret
  exact ⟨2,rfl,HNow.out.short (.short _ HX.out.2.2.1 (by rw [HX.out.1]; exact HX.out.2.1)) rfl H1.out.1 (H1.out.2.weak (by simp)) (Same.refl f) (HNow.out.rn.mdr HNow.out.md H1.out.2) (by unfold Pt; rw [if_pos HX.out.2.2.2.2.1,HX.out.2.2.2.2.2.1]; exact HX.out.2.2.2.1) (by rw [HX.out.2.2.2.2.2.2,HX.out.2.2.2.2.1])⟩
end Go.Proofs.YtjfjmkkkbcgohaaGreatDoor
