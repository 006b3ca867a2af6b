import Derived.Test.YtmfoeihapalkpaaGreatDoorMFlU
import Derived.Test.YtmfoeihapalkpaaGreatDoorMFlR
namespace Go.Proofs.YtmfoeihapalkpaaGreatDoor
open Go Go.RowKit
theorem Md.plain {w : World} {f : DF} {s : GSt} (h1 : f.last = s.last) (h2 : Tab w) (hk : s.k = 0 \/ s.k = 1 \/ s.k = 3 \/ s.k = 11) : Md w f s :=
 ⟨h1,fun h=>absurd h (by omega),fun h1 h2=>absurd (aI h1 h2) (by omega),fun h=>absurd h (by omega),fun h1 h2=>absurd (aI h1 h2) (by omega),fun h1 h2=>absurd (aI h1 h2) (by omega),h2⟩
set_option maxRecDepth 100000 in
set_option maxHeartbeats 16000000 in
theorem step10 (B : List UInt8) (a o : Nat) (l : List UInt8) (hs : Src B a o l) (g gf gw gr : Nat) (K : List Nat) (f : DF) (v vo : Value) (q : Nat) (x : List UInt8) (s : GSt) (w : World) (h : Rn w g gf gw gr K f v vo l q s.out x) (hk : s.k = 10) (hfk : f.k = 10)
 (hm : Md w f s) (hwf : s.Wf) (hp : Pt s o q) (hl : s.out.length <= f.most) (hmost : f.most <= 1073741824) (hx : x.length <= s.out.length) :
 Calls Tryz.prog 217 #[.pointer (some ⟨g,0,none⟩),.pointer (some ⟨gf,0,none⟩)] w (fun e w'=>∃ c : Nat,e = .returned (.int .i64 (c : Int)) /\ Went B a o l g gf gw gr K f v vo x s (fun f' t=>f'.k = t.k) (fun f' t=>f'.k = t.k) w c w'):=by
 have c1 : w.cell? ⟨g,1,none⟩ = some (.int .i64 10):=by have:=h.on.dec.k; rw [hfk] at this; exact this
 have HB:=hide (sym10 B a o l hs g gf gw gr K f v vo q x s w h hk hfk hm hwf hp hl hmost hx)
 clear hs h hk hfk hm hwf hp hl hmost hx
 go_enter Tryz.func217,Tryz.ntmps217
 go_wp2_with fail
 refine (HB.out).mono ?_
 rintro e w1 ⟨c,rfl,hW⟩
 have HW:=hide hW
 clear hW
 go_wp2_with fail
 go_ret
 exact ⟨c,rfl,HW.out⟩
set_option maxRecDepth 100000 in
set_option maxHeartbeats 16000000 in
theorem step9 (B : List UInt8) (a o : Nat) (l : List UInt8) (hs : Src B a o l) (g gf gw gr : Nat) (K : List Nat) (f : DF) (v vo : Value) (q : Nat) (x : List UInt8) (s : GSt) (w : World) (h : Rn w g gf gw gr K f v vo l q s.out x) (hk : s.k = 9) (hfk : f.k = 9)
 (hm : Md w f s) (hwf : s.Wf) (hp : Pt s o q) (hl : s.out.length <= f.most) (hmost : f.most <= 1073741824) (hx : x.length <= s.out.length) :
 Calls Tryz.prog 217 #[.pointer (some ⟨g,0,none⟩),.pointer (some ⟨gf,0,none⟩)] w (fun e w'=>∃ c : Nat,e = .returned (.int .i64 (c : Int)) /\ Went B a o l g gf gw gr K f v vo x s (fun f' t=>f'.k = t.k) (fun f' t=>f'.k = t.k) w c w'):=by
 have c1 : w.cell? ⟨g,1,none⟩ = some (.int .i64 9):=by have:=h.on.dec.k; rw [hfk] at this; exact this
 have HB:=hide (sym9 B a o l hs g gf gw gr K f v vo q x s w h hk hfk hm hwf hp hl hmost hx)
 clear hs h hk hfk hm hwf hp hl hmost hx
 go_enter Tryz.func217,Tryz.ntmps217
 go_wp2_with fail
 refine (HB.out).mono ?_
 rintro e w1 ⟨c,rfl,hW⟩
 have HW:=hide hW
 clear hW
 go_wp2_with fail
 go_ret
 exact ⟨c,rfl,HW.out⟩
set_option maxRecDepth 100000 in
set_option maxHeartbeats 16000000 in
theorem step8 (B : List UInt8) (a o : Nat) (l : List UInt8) (hs : Src B a o l) (g gf gw gr : Nat) (K : List Nat) (f : DF) (v vo : Value) (q : Nat) (x : List UInt8) (s : GSt) (w : World) (h : Rn w g gf gw gr K f v vo l q s.out x) (hk : s.k = 8) (hfk : f.k = 8)
 (hm : Md w f s) (hwf : s.Wf) (hp : Pt s o q) (hl : s.out.length <= f.most) (hmost : f.most <= 1073741824) (hx : x.length <= s.out.length) :
 Calls Tryz.prog 217 #[.pointer (some ⟨g,0,none⟩),.pointer (some ⟨gf,0,none⟩)] w (fun e w'=>∃ c : Nat,e = .returned (.int .i64 (c : Int)) /\ Went B a o l g gf gw gr K f v vo x s (fun f' t=>f'.k = t.k) (fun f' t=>f'.k = t.k) w c w'):=by
 have c1 : w.cell? ⟨g,1,none⟩ = some (.int .i64 8):=by have:=h.on.dec.k; rw [hfk] at this; exact this
 have HB:=hide (sym8 B a o l hs g gf gw gr K f v vo q x s w h hk hfk hm hwf hp hl hmost hx)
 clear hs h hk hfk hm hwf hp hl hmost hx
 go_enter Tryz.func217,Tryz.ntmps217
 go_wp2_with fail
 refine (HB.out).mono ?_
 rintro e w1 ⟨c,rfl,hW⟩
 have HW:=hide hW
 clear hW
 go_wp2_with fail
 go_ret
 exact ⟨c,rfl,HW.out⟩
set_option maxRecDepth 100000 in
set_option maxHeartbeats 16000000 in
theorem step7 (B : List UInt8) (a o : Nat) (l : List UInt8) (hs : Src B a o l) (g gf gw gr : Nat) (K : List Nat) (f : DF) (v vo : Value) (q : Nat) (x : List UInt8) (s : GSt) (w : World) (h : Rn w g gf gw gr K f v vo l q s.out x) (hk : s.k = 7) (hfk : f.k = 7)
 (hm : Md w f s) (hwf : s.Wf) (hp : Pt s o q) (hl : s.out.length <= f.most) (hmost : f.most <= 1073741824) (hx : x.length <= s.out.length) :
 Calls Tryz.prog 217 #[.pointer (some ⟨g,0,none⟩),.pointer (some ⟨gf,0,none⟩)] w (fun e w'=>∃ c : Nat,e = .returned (.int .i64 (c : Int)) /\ Went B a o l g gf gw gr K f v vo x s (fun f' t=>f'.k = t.k) (fun f' t=>f'.k = t.k) w c w'):=by
 have c1 : w.cell? ⟨g,1,none⟩ = some (.int .i64 7):=by have:=h.on.dec.k; rw [hfk] at this; exact this
 have HB:=hide (sym7 B a o l hs g gf gw gr K f v vo q x s w h hk hfk hm hwf hp hl hmost hx)
 clear hs h hk hfk hm hwf hp hl hmost hx
 go_enter Tryz.func217,Tryz.ntmps217
 go_wp2_with fail
 refine (HB.out).mono ?_
 rintro e w1 ⟨c,rfl,hW⟩
 have HW:=hide hW
 clear hW
 go_wp2_with fail
 go_ret
 exact ⟨c,rfl,HW.out⟩
set_option maxRecDepth 100000 in
set_option maxHeartbeats 16000000 in
theorem step0 (B : List UInt8) (a o : Nat) (l : List UInt8) (hs : Src B a o l) (g gf gw gr : Nat) (K : List Nat) (f : DF) (v vo : Value) (q : Nat) (x : List UInt8) (s : GSt) (w : World) (h : Rn w g gf gw gr K f v vo l q s.out x) (hk : s.k = 0) (hfk : f.k = 0)
 (hm : Md w f s) (hwf : s.Wf) (hp : Pt s o q) (hl : s.out.length <= f.most) (hmost : f.most <= 1073741824) (hx : x.length <= s.out.length) :
 Calls Tryz.prog 217 #[.pointer (some ⟨g,0,none⟩),.pointer (some ⟨gf,0,none⟩)] w (fun e w'=>∃ c : Nat,e = .returned (.int .i64 (c : Int)) /\ Went B a o l g gf gw gr K f v vo x s (fun f' t=>f'.k = t.k) (fun f' t=>f'.k = t.k) w c w'):=by
 have c1 : w.cell? ⟨g,1,none⟩ = some (.int .i64 0):=by have:=h.on.dec.k; rw [hfk] at this; exact this
 have hpt:=hp.eq (by omega)
 have hlen:=hs.len
 have hoa:=hs.oa
 have hnx:=GSt.nx_0 (L0:=fixedL) (D0:=fixedD2) (N:=num B) (most:=f.most) hk
 have HN:=hide (Now.here hs h hm hwf hp hl hmost hx)
 have h11 : s.k ≠ 11:=by omega
 by_cases hq : q + 3 <= 8 * l.length
 ·have hbits:=hs.bits (k:=q) (n:=3) (by omega)
  rw [<- hpt] at hbits
  have hbb : bitsOf (num B) s.p 3 = num B / 2 ^ s.p % 8:=rfl
  rw [hbb] at hbits
  generalize num B / 2 ^ s.p % 8 = z at *
  have hz8 : z < 8:=by rw [<- hbits]; exact Nat.mod_lt _ (by decide)
  dsimp only at hnx
  have hlz : z = (z % 2 == 1).toNat + 2 * (z / 2):=by
   have : z % 2 = 0 \/ z % 2 = 1:=by omega
   rcases this with h | h <;> (rw [h]; simp; omega)
  generalize hlb : (z % 2 == 1) = last at *
  have hnear : s.p + 3 <= 8 * a:=by omega
  rcases (show z / 2 = 0 \/ z / 2 = 1 \/ z / 2 = 2 \/ z / 2 = 3 by omega) with hz | hz | hz | hz
  ·have HB:=hide (begin_plain g gf gw gr K f v vo l q s.out x w h hq last 0 1 0 (.inl ⟨rfl,rfl,rfl⟩) (by rw [hbits,hlz,hz]))
   rw [if_pos hz] at hnx
   have HX:=hide (aI hnx (aI hnear (aI h11 hpt)))
   clear hs h hk hfk hm hwf hp hl hmost hx hpt hlen hoa hnx h11 hq hbits hbb hlz hnear hz8 hz hlb
   go_enter Tryz.func217,Tryz.ntmps217
   go_wp2_with fail
   refine (HB.out).mono ?_
   rintro e w1 ⟨rfl,hR,ho⟩
   have k1:=hR.on.dec.k
   have f1 : w1.frozen? ⟨g,1,none⟩ = false:=Has.free hR.on.dec 1
   have H1:=hide (aI hR ho)
   clear hR ho
   generalize DF.k _ = z1 at k1
   go_wp2_with fail
   go_ret
   have oW : Only [g] w1 (w1.setCell ⟨g,1,none⟩ (.int .i64 1)):=(Only.refl [g] _).setCell (by simp) _
   have hR2:=H1.out.1.cells oW (Dc.set_k H1.out.1.on.dec 1) rfl rfl (H1.out.1.keepX oW)
   have hM:=H1.out.1.mdg (HN.out.rn.mdo HN.out.md H1.out.2) oW
   exact ⟨0,rfl,HN.out.ok (.one HX.out.2.2.1 HX.out.1 HX.out.2.1) rfl hR2 ((H1.out.2.weak (by simp)).trans (oW.weak (T:=[g,gr]) (by simp)) (by simp)) ⟨rfl,rfl,rfl,rfl,rfl,rfl,rfl,rfl,rfl⟩ (.plain rfl hM.tab (.inr (.inl rfl))) (by show (s.p + 10) / 8 * 8 = 8 * o + (if 1 = 1 then q + 3 + toByte (q + 3) else q + 3); rw [if_pos rfl]; have:=HX.out.2.2.2; unfold toByte; omega) rfl⟩
  ·have HB:=hide (begin_fixed g gf gw gr K f v vo l q s.out x w h hq last (by rw [hbits,hlz,hz]))
   rw [if_neg (by omega),if_pos hz] at hnx
   have HX:=hide (aI hnx (aI hnear (aI h11 hpt)))
   clear hs h hk hfk hm hwf hp hl hmost hx hpt hlen hoa hnx h11 hq hbits hbb hlz hnear hz8 hz hlb
   go_enter Tryz.func217,Tryz.ntmps217
   go_wp2_with fail
   refine (HB.out).mono ?_
   rintro e w1 ⟨rfl,⟨gc,hcd,hR⟩,ho⟩
   have k1:=hR.on.dec.k
   have f1 : w1.frozen? ⟨g,1,none⟩ = false:=Has.free hR.on.dec 1
   have H1:=hide (aI hR (aI ho hcd))
   clear hR ho hcd
   generalize DF.k _ = z1 at k1
   go_wp2_with fail
   go_ret
   have oW : Only [g] w1 (w1.setCell ⟨g,1,none⟩ (.int .i64 7)):=(Only.refl [g] _).setCell (by simp) _
   have hR2:=H1.out.1.cells oW (Dc.set_k H1.out.1.on.dec 7) rfl rfl (H1.out.1.keepX oW)
   have hcv:=H1.out.1.keepV oW ⟨gc,rfl,H1.out.2.2⟩
   have hM:=H1.out.1.mdg (HN.out.rn.mdo HN.out.md H1.out.2.1) oW
   exact ⟨0,rfl,HN.out.ok (.one HX.out.2.2.1 HX.out.1 HX.out.2.1) rfl hR2 ((H1.out.2.1.weak (by simp)).trans (oW.weak (T:=[g,gr]) (by simp)) (by simp)) ⟨rfl,rfl,rfl,rfl,rfl,rfl,rfl,rfl,rfl⟩ ⟨rfl,fun h=>absurd (show (7 : Nat) = 2 from h) (by decide),fun _ _=>hcv,fun h=>absurd (show (7 : Nat) = 8 \/ (7 : Nat) = 10 from h) (by decide),fun h=>absurd (show (9 : Nat) <= 7 from h) (by decide),fun _ h=>absurd (show (7 : Nat) <= 6 from h) (by decide),hM.tab⟩ (.of (by show s.p + 3 = _; rw [HX.out.2.2.2]; omega) (by show (7 : Nat) ≠ 1; decide)) rfl⟩
  ·have HB:=hide (begin_plain g gf gw gr K f v vo l q s.out x w h hq last 2 3 0 (.inr (.inl ⟨rfl,rfl,rfl⟩)) (by rw [hbits,hlz,hz]))
   rw [if_neg (by omega),if_neg (by omega),if_pos hz] at hnx
   have HX:=hide (aI hnx (aI hnear (aI h11 hpt)))
   clear hs h hk hfk hm hwf hp hl hmost hx hpt hlen hoa hnx h11 hq hbits hbb hlz hnear hz8 hz hlb
   go_enter Tryz.func217,Tryz.ntmps217
   go_wp2_with fail
   refine (HB.out).mono ?_
   rintro e w1 ⟨rfl,hR,ho⟩
   have k1:=hR.on.dec.k
   have f1 : w1.frozen? ⟨g,1,none⟩ = false:=Has.free hR.on.dec 1
   have H1:=hide (aI hR ho)
   clear hR ho
   generalize DF.k _ = z1 at k1
   go_wp2_with fail
   go_ret
   have oW : Only [g] w1 (w1.setCell ⟨g,1,none⟩ (.int .i64 3)):=(Only.refl [g] _).setCell (by simp) _
   have hR2:=H1.out.1.cells oW (Dc.set_k H1.out.1.on.dec 3) rfl rfl (H1.out.1.keepX oW)
   have hM:=H1.out.1.mdg (HN.out.rn.mdo HN.out.md H1.out.2) oW
   exact ⟨0,rfl,HN.out.ok (.one HX.out.2.2.1 HX.out.1 HX.out.2.1) rfl hR2 ((H1.out.2.weak (by simp)).trans (oW.weak (T:=[g,gr]) (by simp)) (by simp)) ⟨rfl,rfl,rfl,rfl,rfl,rfl,rfl,rfl,rfl⟩ (.plain rfl hM.tab (.inr (.inr (.inl rfl)))) (.of (by show s.p + 3 = _; rw [HX.out.2.2.2]; omega) (by show (3 : Nat) ≠ 1; decide)) rfl⟩
  ·have HB:=hide (begin_plain g gf gw gr K f v vo l q s.out x w h hq last 3 0 3 (.inr (.inr ⟨rfl,rfl,rfl⟩)) (by rw [hbits,hlz,hz]))
   rw [if_neg (by omega),if_neg (by omega),if_neg (by omega)] at hnx
   have HX:=hide (aI hnx (aI hnear (aI h11 hpt)))
   clear hs h hk hfk hm hwf hp hl hmost hx hpt hlen hoa hnx h11 hq hbits hbb hlz hnear hz8 hz hlb
   go_enter Tryz.func217,Tryz.ntmps217
   go_wp2_with fail
   refine (HB.out).mono ?_
   rintro e w1 ⟨rfl,hR,ho⟩
   have k1:=hR.on.dec.k
   have f1 : w1.frozen? ⟨g,1,none⟩ = false:=Has.free hR.on.dec 1
   have H1:=hide (aI hR ho)
   clear hR ho
   generalize DF.k _ = z1 at k1
   go_wp2_with fail
   go_ret
   have oW : Only [g] w1 (w1.setCell ⟨g,1,none⟩ (.int .i64 0)):=(Only.refl [g] _).setCell (by simp) _
   have hR2:=H1.out.1.cells oW (Dc.set_k H1.out.1.on.dec 0) rfl rfl (H1.out.1.keepX oW)
   have hM:=H1.out.1.mdg (HN.out.rn.mdo HN.out.md H1.out.2) oW
   exact ⟨3,rfl,HN.out.bad (.inl rfl) ((Steps.refl _).bad HX.out.2.2.1 HX.out.1 HX.out.2.1) hR2 ((H1.out.2.weak (by simp)).trans (oW.weak (T:=[g,gr]) (by simp)) (by simp)) ⟨rfl,rfl,rfl,rfl,rfl,rfl,rfl,rfl,rfl⟩⟩
 ·have HB:=hide (begin_short g gf gw gr K f v vo l q s.out x w h (by omega))
  have HX:=hide (aI hnx (aI (show 8 * a < s.p + 3 by omega) (aI h11 (aI hpt (aI hk hm)))))
  clear hs h hk hfk hm hwf hp hl hmost hx hpt hlen hoa hnx h11 hq
  go_enter Tryz.func217,Tryz.ntmps217
  go_wp2_with fail
  refine (HB.out).mono ?_
  rintro e w1 ⟨rfl,hR,ho⟩
  have k1:=hR.on.dec.k
  have f1 : w1.frozen? ⟨g,1,none⟩ = false:=Has.free hR.on.dec 1
  have H1:=hide (aI hR ho)
  clear hR ho
  generalize DF.k _ = z1 at k1
  go_wp2_with fail
  go_ret
  have oW : Only [g] w1 (w1.setCell ⟨g,1,none⟩ (.int .i64 0)):=(Only.refl [g] _).setCell (by simp) _
  have hR2:=H1.out.1.cells oW (Dc.set_k H1.out.1.on.dec 0) rfl rfl (H1.out.1.keepX oW)
  have hM:=H1.out.1.mdg (HN.out.rn.mdr HN.out.md H1.out.2) oW
  exact ⟨2,rfl,HN.out.short (.short _ HX.out.2.2.1 (by rw [HX.out.1]; exact HX.out.2.1)) rfl hR2 ((H1.out.2.weak (by simp)).trans (oW.weak (T:=[g,gr]) (by simp)) (by simp)) ⟨rfl,rfl,rfl,rfl,rfl,rfl,rfl,rfl,rfl⟩ (.plain HX.out.2.2.2.2.2.last hM.tab (.inl HX.out.2.2.2.2.1)) (.of HX.out.2.2.2.1 (by rw [HX.out.2.2.2.2.1]; decide)) HX.out.2.2.2.2.1.symm⟩
theorem Stored.went {B : List UInt8} {a o : Nat} {l : List UInt8} {g gf gw gr : Nat} {K : List Nat} {f f1 : DF} {v vo : Value} {x : List UInt8} {s t : GSt} {w w1 w2 : World} {c : Nat} (h1 : Stp B a f.most s t) (hout : t.out = s.out) (hS : Since [g,gf,gw,gr] w vo w1 vo) (hsm : Same f f1)
 (hstrict : t.ms a < s.ms a \/ (t.ms a <= s.ms a /\ 0 < t.left)) (h : Stored B a o l g gf gw gr K f1 v vo x t w1 c w2) (hk1 : f.k ≠ 11 -> f1.k ≠ 11:=by first | exact fun h=>h | (intro _; dsimp only; decide)) :
 Went B a o l g gf gw gr K f v vo x s (fun f' u=>f'.k = f1.k /\ u.k = behindK u.last) (fun f' u=>f'.k = f1.k /\ u.k = 2) w c w2:=by
 obtain ⟨q',y,vo',f',hR,hS2,hsm2,hle,hkk,hcase⟩:=h
 rw [hout] at hR
 rw [hout,hsm.most] at hle
 refine ⟨q',y,vo',f',hR,hS.trans hS2 (fun _ hi _=>hi),hsm.trans hsm2,hle,?_⟩
 rw [hsm.most,hout] at hcase
 rcases hcase with ⟨rfl,u,hst,ho,hM,hP,hk,hms⟩ | ⟨rfl,u,he,ho,hM,hP,hk⟩ | ⟨rfl,u,he⟩
 ·refine .inl ⟨rfl,u,⟨h1.trans hst,?_⟩,ho,hM,hP,hkk,hk⟩
  have:=hst.ms
  rcases hstrict with h | ⟨h,h2⟩
  ·omega
  ·have:=hms h2; omega
 ·exact .inr (.inl ⟨rfl,u,h1.ends he,ho,hM,hP,hkk,hk⟩)
 ·exact .inr (.inr ⟨.inr rfl,fun h0=>by rw [hkk]; exact hk1 h0,u,h1.ends he⟩)
set_option maxRecDepth 100000 in
set_option maxHeartbeats 16000000 in
theorem step2 (B : List UInt8) (a o : Nat) (l : List UInt8) (hs : Src B a o l) (g gf gw gr : Nat) (K : List Nat) (f : DF) (v vo : Value) (q : Nat) (x : List UInt8) (s : GSt) (w : World) (h : Rn w g gf gw gr K f v vo l q s.out x) (hk : s.k = 2) (hfk : f.k = 2)
 (hm : Md w f s) (hwf : s.Wf) (hp : Pt s o q) (hl : s.out.length <= f.most) (hmost : f.most <= 1073741824) (hx : x.length <= s.out.length) :
 Calls Tryz.prog 217 #[.pointer (some ⟨g,0,none⟩),.pointer (some ⟨gf,0,none⟩)] w (fun e w'=>∃ c : Nat,e = .returned (.int .i64 (c : Int)) /\ Went B a o l g gf gw gr K f v vo x s (fun f' t=>f'.k = t.k) (fun f' t=>f'.k = t.k) w c w'):=by
 have c1 : w.cell? ⟨g,1,none⟩ = some (.int .i64 2):=by have:=h.on.dec.k; rw [hfk] at this; exact this
 have hlf:=hwf.left hk
 have HNow:=hide (Now.here hs h hm hwf hp hl hmost hx)
 have HB:=hide (stored_step B a o l hs g gf gw gr K f v vo q x s w h (by rw [stK_pos _ hlf.1]; exact hk) (hm.left hk) hm.last hm.tab (hp.eq (by omega)) (by have:=hp.eq (by omega); omega) hlf.2.1 hl hmost hx)
 have HL:=hide hlf.1
 have HK:=hide hfk
 clear hs h hk hfk hm hwf hp hl hmost hx hlf
 go_enter Tryz.func217,Tryz.ntmps217
 go_wp2_with fail
 refine (HB.out).mono ?_
 rintro e wL ⟨c,rfl,hSt⟩
 have hW:=hSt.went (.refl s) rfl (Since.refl _ _ _) (Same.refl f) (.inr ⟨Nat.le_refl _,HL.out⟩)
 clear hSt
 rcases hW.codes with rfl | rfl | rfl | rfl
 ·obtain ⟨fP,uP,hPP,hWp⟩:=hW.pick
  obtain ⟨qL,yL,voL,fL,uL,hN,rfl,rfl⟩:=HNow.out.went hWp (fun _ _ h hk0=>by rw [h.1,hPP.1]; exact hk0)
  have kL:=hN.rn.on.dec.k
  have qfL : wL.frozen? ⟨g,1,none⟩ = false:=Has.free hN.rn.on.dec 1
  have HBe:=hide (behind_any g fL wL hN.rn.on.dec)
  have HUB:=hide (aI hPP.2 hN.md.last)
  have HWp:=hide hWp
  clear hN hWp hW hPP
  generalize fL.k = zL at kL
  go_wp2_with fail
  refine (HBe.out).mono ?_
  rintro e wM ⟨rfl,rfl⟩
  go_wp2_with fail
  go_ret
  exact ⟨0,rfl,HWp.out.setk (behindK fL.last) (fun f' t h=>by rw [h.2,HUB.out.1,HUB.out.2])⟩
 all_goals
  have HW:=hide hW
  clear hW
  go_wp2_with fail
  go_ret
  exact ⟨_,rfl,HW.out.weak' (by decide) (fun _ _ h=>h.1.trans (Eq.trans (by first | exact HK.out | rfl) h.2.symm))⟩
set_option maxRecDepth 100000 in
set_option maxHeartbeats 16000000 in
theorem step1 (B : List UInt8) (a o : Nat) (l : List UInt8) (hs : Src B a o l) (g gf gw gr : Nat) (K : List Nat) (f : DF) (v vo : Value) (q : Nat) (x : List UInt8) (s : GSt) (w : World) (h : Rn w g gf gw gr K f v vo l q s.out x) (hk : s.k = 1) (hfk : f.k = 1)
 (hm : Md w f s) (hwf : s.Wf) (hp : Pt s o q) (hl : s.out.length <= f.most) (hmost : f.most <= 1073741824) (hx : x.length <= s.out.length) :
 Calls Tryz.prog 217 #[.pointer (some ⟨g,0,none⟩),.pointer (some ⟨gf,0,none⟩)] w (fun e w'=>∃ c : Nat,e = .returned (.int .i64 (c : Int)) /\ Went B a o l g gf gw gr K f v vo x s (fun f' t=>f'.k = t.k) (fun f' t=>f'.k = t.k) w c w'):=by
 have c1 : w.cell? ⟨g,1,none⟩ = some (.int .i64 1):=by have:=h.on.dec.k; rw [hfk] at this; exact this
 have hpt : s.p = 8 * o + (q + toByte q):=by unfold Pt at hp; rw [if_pos hk] at hp; exact hp
 have hlen:=hs.len
 have hoa:=hs.oa
 have htb : toByte (q + toByte q) = 0:=by unfold toByte; omega
 have ht8 : (q + toByte q) % 8 = 0:=by unfold toByte; omega
 have hnx:=GSt.nx_1 (L0:=fixedL) (D0:=fixedD2) (N:=num B) (most:=f.most) hk
 have HNow:=hide (Now.here hs h hm hwf hp hl hmost hx)
 have h11 : s.k ≠ 11:=by omega
 by_cases hq : q + toByte q + 32 <= 8 * l.length
 ·have hbits:=hs.bits (k:=q + toByte q) (n:=32) (by omega)
  rw [<- hpt] at hbits
  have hbb : bitsOf (num B) s.p 32 = num B / 2 ^ s.p % 2 ^ (16 + 16):=rfl
  have hparts:=bits_parts (num B) s.p 16 16
  rw [hbb] at hbits
  have hnear : s.p + 32 <= 8 * a:=by omega
  have hlo : num B / 2 ^ s.p % 2 ^ 16 < 65536:=Nat.mod_lt _ (by decide)
  have hhi : num B / 2 ^ (s.p + 16) % 2 ^ 16 < 65536:=Nat.mod_lt _ (by decide)
  rw [show (65536 : Nat) = 2 ^ 16 from rfl] at hnx
  obtain ⟨z,hz⟩ : ∃ z,z = num B / 2 ^ s.p % 2 ^ (16 + 16):=⟨_,rfl⟩
  rw [<- hz] at hbits hparts
  generalize num B / 2 ^ s.p % 2 ^ 16 = n at *
  generalize num B / 2 ^ (s.p + 16) % 2 ^ 16 = n2 at *
  have hz1 : z = n + 65536 * n2:=hparts
  clear hparts hz hbb
  dsimp only at hnx
  by_cases hgood : n2 = 65535 - n
  ·rw [if_pos hgood] at hnx
   have HB:=hide (size_ok g gf gw gr K f v vo l q s.out x w h hq n hlo (by rw [hbits,hz1,hgood]; omega))
   have HX:=hide (aI hnx (aI hnear (aI h11 (aI hpt (aI ht8 hlo)))))
   clear hs h hk hfk hm hwf hp hl hmost hx hpt hlen hoa htb ht8 hnx h11 hq hbits hnear hlo hhi hz1 hgood
   go_enter Tryz.func217,Tryz.ntmps217
   go_wp2_with fail
   refine (HB.out).mono ?_
   rintro e w1 ⟨rfl,hR,ho⟩
   have k1:=hR.on.dec.k
   have f1 : w1.frozen? ⟨g,1,none⟩ = false:=Has.free hR.on.dec 1
   have oW : Only [g] w1 (w1.setCell ⟨g,1,none⟩ (.int .i64 2)):=(Only.refl [g] _).setCell (by simp) _
   have hR2:=hR.cells oW (Dc.set_k hR.on.dec 2) rfl rfl (hR.keepX oW)
   have o2 : Only [g,gr] w (w1.setCell ⟨g,1,none⟩ (.int .i64 2)):=(ho.weak (by simp)).trans (oW.weak (T:=[g,gr]) (by simp)) (by simp)
   have hM:=hR.mdg (HNow.out.rn.mdo HNow.out.md ho) oW
   have hSS:=stored_step B a o l HNow.out.src g gf gw gr K { { f with left:=n } with k:=2 } v vo (q + toByte q + 32) x { s with k:=stK s.last n,left:=n,p:=s.p + 32 } _ hR2 rfl rfl HNow.out.md.last hM.tab (by show s.p + 32 = _; rw [HX.out.2.2.2.1]; omega) (by have:=HX.out.2.2.2.2.1; omega) HX.out.2.2.2.2.2 HNow.out.le HNow.out.most HNow.out.xl
   have HSS:=hide hSS
   have H1:=hide o2
   clear hSS hM hR2 o2 oW hR ho
   generalize DF.k _ = z1 at k1
   go_wp2_with fail
   refine (HSS.out).mono ?_
   rintro e wL ⟨c,rfl,hSt⟩
   have hone : Stp1 B a f.most s { s with k:=stK s.last n,left:=n,p:=s.p + 32 }:=.one HX.out.2.2.1 HX.out.1 HX.out.2.1
   have hW:=hSt.went (f:=f) (f1:={ { f with left:=n } with k:=2 }) (vo:=vo) (w:=w) (s:=s) hone.1 rfl ((Since.refl [g,gf,gw,gr] w vo).step (H1.out.weak (T:=[g,gf,gw,gr]) (by intro k hk _; simp only [List.mem_cons,List.not_mem_nil,or_false] at hk ⊢; omega))) ⟨rfl,rfl,rfl,rfl,rfl,rfl,rfl,rfl,rfl⟩ (.inl hone.2)
   clear hSt hone
   have HK : Hid ((2 : Nat) = 2):=hide rfl
   rcases hW.codes with rfl | rfl | rfl | rfl
   ·obtain ⟨fP,uP,hPP,hWp⟩:=hW.pick
    obtain ⟨qL,yL,voL,fL,uL,hN,rfl,rfl⟩:=HNow.out.went hWp (fun _ _ h _=>by rw [h.1,hPP.1]; dsimp only; decide)
    have kL:=hN.rn.on.dec.k
    have qfL : wL.frozen? ⟨g,1,none⟩ = false:=Has.free hN.rn.on.dec 1
    have HBe:=hide (behind_any g fL wL hN.rn.on.dec)
    have HUB:=hide (aI hPP.2 hN.md.last)
    have HWp:=hide hWp
    clear hN hWp hW hPP
    generalize fL.k = zL at kL
    go_wp2_with fail
    refine (HBe.out).mono ?_
    rintro e wM ⟨rfl,rfl⟩
    go_wp2_with fail
    go_ret
    exact ⟨0,rfl,HWp.out.setk (behindK fL.last) (fun f' t h=>by rw [h.2,HUB.out.1,HUB.out.2])⟩
   all_goals
    have HW:=hide hW
    clear hW
    go_wp2_with fail
    go_ret
    exact ⟨_,rfl,HW.out.weak' (by decide) (fun _ _ h=>h.1.trans (Eq.trans (by first | exact HK.out | rfl) h.2.symm))⟩
  ·rw [if_neg hgood] at hnx
   have HB:=hide (size_bad g gf gw gr K f v vo l q s.out x w h hq z (by omega) hbits (by rw [hz1]; omega))
   have HX:=hide (aI hnx (aI hnear h11))
   clear hs h hk hfk hm hwf hp hl hmost hx hpt hlen hoa htb ht8 hnx h11 hq hbits hnear hlo hhi hz1 hgood
   go_enter Tryz.func217,Tryz.ntmps217
   go_wp2_with fail
   refine (HB.out).mono ?_
   rintro e w1 ⟨rfl,hR,ho⟩
   have H1:=hide (aI hR ho)
   clear hR ho
   go_wp2_with fail
   go_ret
   exact ⟨3,rfl,HNow.out.bad (.inl rfl) ((Steps.refl _).bad HX.out.2.2 HX.out.1 HX.out.2.1) H1.out.1 (H1.out.2.weak (by simp)) (Same.refl f)⟩
 ·have HB:=hide (size_short g gf gw gr K f v vo l q s.out x w h (by omega))
  have HX:=hide (aI hnx (aI (show 8 * a < s.p + 32 by omega) (aI h11 (aI hpt (aI hk (aI htb hfk))))))
  clear hs h hk hfk hm hwf hp hl hmost hx hpt hlen hoa htb ht8 hnx h11 hq
  go_enter Tryz.func217,Tryz.ntmps217
  go_wp2_with fail
  refine (HB.out).mono ?_
  rintro e w1 ⟨rfl,hR,ho⟩
  have H1:=hide (aI hR ho)
  clear hR ho
  go_wp2_with fail
  go_ret
  exact ⟨2,rfl,HNow.out.short (.short _ HX.out.2.2.1 (by rw [HX.out.1]; exact HX.out.2.1)) rfl H1.out.1 (H1.out.2.weak (by simp)) (Same.refl f) (HNow.out.rn.mdr HNow.out.md H1.out.2) (by unfold Pt; rw [if_pos HX.out.2.2.2.2.1,HX.out.2.2.2.2.2.1]; exact HX.out.2.2.2.1) (by rw [HX.out.2.2.2.2.2.2,HX.out.2.2.2.2.1])⟩
theorem Now.drew {B : List UInt8} {a o : Nat} {l : List UInt8} {g gf gw gr : Nat} {K : List Nat} {f f1 : DF} {v vo vo1 : Value} {x x1 : List UInt8} {s t : GSt} {w w1 : World} {q1 : Nat} (h : Now B a o l g gf gw gr K f v vo x s w f1 vo1 q1 x1 t w1) : Now B a o l g gf gw gr K f v vo x s w f1 vo1 q1 x1 t w1.drew :=
 h.go (.refl t) rfl (h.rn.still ((Only.refl [] w1).drew)) ((Only.refl [g,gr] w1).drew) (Same.refl f1) (h.md.keep ((Only.refl [] w1).drew) (Other.nil _)) h.pt
set_option maxRecDepth 100000 in
set_option maxHeartbeats 16000000 in
theorem step6 (B : List UInt8) (a o : Nat) (l : List UInt8) (hs : Src B a o l) (g gf gw gr : Nat) (K : List Nat) (f : DF) (v vo : Value) (q : Nat) (x : List UInt8) (s : GSt) (w : World) (h : Rn w g gf gw gr K f v vo l q s.out x) (hk : s.k = 6) (hfk : f.k = 6)
 (hm : Md w f s) (hwf : s.Wf) (hp : Pt s o q) (hl : s.out.length <= f.most) (hmost : f.most <= 1073741824) (hx : x.length <= s.out.length) :
 Calls Tryz.prog 217 #[.pointer (some ⟨g,0,none⟩),.pointer (some ⟨gf,0,none⟩)] w (fun e w'=>∃ c : Nat,e = .returned (.int .i64 (c : Int)) /\ Went B a o l g gf gw gr K f v vo x s (fun f' t=>f'.k = t.k) (fun f' t=>f'.k = t.k) w c w'):=by
 have c1 : w.cell? ⟨g,1,none⟩ = some (.int .i64 6):=by have:=h.on.dec.k; rw [hfk] at this; exact this
 have HNow:=hide (Now.here hs h hm hwf hp hl hmost hx)
 clear hs h hm hwf hp hl hmost hx
 go_enter Tryz.func217,Tryz.ntmps217
 have HDA:=hide HNow.out.drew
 have cgfA : (w).cell? ⟨gf,0,none⟩ = some (.pointer (some ⟨gr,0,none⟩)):=Has.cell HNow.out.rn.on.flow 0
 have HRA:=hide (repeatH_any B a o l HDA.out.src g gf gw gr K f v vo q x s _ HDA.out.rn hk HDA.out.md HDA.out.wf (HDA.out.pt.eq (by rw [hk]; decide)) HDA.out.le)
 have HKA:=hide (aI hk hfk)
 clear hk hfk
 go_wp2_with fail
 go_region_with (go_at_call 226; refine (HRA.out).mono ?_; rintro e w2 ⟨c,rfl,hRp⟩)
 clear cgfA
 all_goals
  rcases hRp with ⟨rfl,fR,L,hL,hRn,ho,hsm,hkk,hnear,hLl,hM⟩ | ⟨hc,hW⟩
  ·have hwf:=HDA.out.wf
   have hhead:=hwf.head (by have:=HKA.out.1; omega) (by have:=HKA.out.1; omega)
   have hsaid:=hwf.said (by have:=HKA.out.1; omega) (by have:=HKA.out.1; omega)
   have hsy:=hwf.sym6 HKA.out.1
   have hh:=hM.hd (show 4 <= (s).k by have:=HKA.out.1; omega) (show (s).k <= 6 by have:=HKA.out.1; omega)
   have h15 : ∀ b ∈ L,b.toNat <= 15:=fun b hb=>by
    rw [hL] at hb
    rcases List.mem_append.1 hb with hb | hb
    ·exact hsaid.2.2 b hb
    ·rw [(List.mem_replicate.1 hb).2]; exact repV_le hsy.1 hsaid.2.2
   have hnx:=GSt.nx_6 (L0:=fixedL) (D0:=fixedD2) (N:=num B) (most:=(f).most) HKA.out.1
   dsimp only at hnx
   rw [<- hL,if_neg (by omega)] at hnx
   have hpt:=HDA.out.pt.eq (by rw [HKA.out.1]; decide)
   have hDe:=deal_step g gf gw gr K fR v vo l (q + repB (s).sym) (s).out x s L _ w2 hRn hh ⟨hhead.1,hhead.2.1⟩ ⟨hhead.2.2.1,hhead.2.2.2.1⟩ hLl h15
   have HDE:=hide hDe
   have HRN:=hide (aI hRn (aI ho (aI hsm (aI hkk (aI hnear (aI hM (aI hh (aI hnx hpt))))))))
   clear hwf hhead hsaid hsy hh h15 hnx hpt hDe hRn ho hsm hkk hnear hM hL hLl
   go_wp2_with fail
   refine (HDE.out).mono ?_
   rintro e w3 ⟨k,c,f2,rfl,hR3,ho3,hcase⟩
   have k1:=hR3.on.dec.k
   have f1_ : w3.frozen? ⟨g,1,none⟩ = false:=Has.free hR3.on.dec 1
   have H3:=hide (aI hR3 (aI ho3 hcase))
   clear hR3 ho3 hcase
   generalize f2.k = z1 at k1
   go_wp2_with fail
   go_ret
   have oW : Only [g] w3 (w3.setCell ⟨g,1,none⟩ (.int .i64 (k : Int))):=(Only.refl [g] _).setCell (by simp) _
   have hR4:=H3.out.1.cells oW (Dc.set_k H3.out.1.on.dec k) rfl rfl (H3.out.1.keepX oW)
   have o4 : Only [g,gr] (w).drew (w3.setCell ⟨g,1,none⟩ (.int .i64 (k : Int))):=(HRN.out.2.1.trans (H3.out.2.1.weak (T:=[g,gr]) (by simp)) (by simp)).trans (oW.weak (T:=[g,gr]) (by simp)) (by simp)
   have hM4:=H3.out.1.mdg (HRN.out.1.mdg HRN.out.2.2.2.2.2.1 H3.out.2.1) oW
   have hnx:=HRN.out.2.2.2.2.2.2.2.1
   have hne11 : (s).k ≠ 11:=by have:=HKA.out.1; omega
   have hnear : (s).p + repB (s).sym <= 8 * a:=by rw [HRN.out.2.2.2.2.2.2.2.2]; exact HRN.out.2.2.2.2.1
   have hp5 : (s).p + repB (s).sym = 8 * o + (q + repB (s).sym):=by rw [HRN.out.2.2.2.2.2.2.2.2]; omega
   rcases H3.out.2.2 with ⟨hlt,rfl,rfl,rfl⟩ | ⟨heq,hok,rfl,rfl,v',rfl,hcv⟩ | ⟨heq,hno,rfl,rfl,rfl⟩
   ·rw [if_pos hlt] at hnx
    have hh4:=hM4.hd (show 4 <= (s).k by have:=HKA.out.1; omega) (show (s).k <= 6 by have:=HKA.out.1; omega)
    exact ⟨0,rfl,HDA.out.ok (.one hne11 hnx hnear) rfl hR4 o4 (HRN.out.2.2.1.trans ⟨rfl,rfl,rfl,rfl,rfl,rfl,rfl,rfl,rfl⟩) ⟨hM4.last,fun h=>absurd (show (5 : Nat) = 2 from h) (by decide),fun h=>absurd (show (7 : Nat) <= 5 from h) (by decide),fun h=>absurd (show (5 : Nat) = 8 \/ (5 : Nat) = 10 from h) (by decide),fun h=>absurd (show (9 : Nat) <= 5 from h) (by decide),fun _ _=>⟨hh4.nl,hh4.nd,hh4.no,hh4.own,hh4.nOwn,fun _=>hh4.tb (show 5 <= (s).k by have:=HKA.out.1; omega),fun h=>absurd (show (5 : Nat) = 6 from h) (by decide),hh4.lens,hh4.n⟩,hM4.tab⟩ (.of hp5 (by show (5 : Nat) ≠ 1; decide)) rfl⟩
   ·rw [if_neg (by omega),if_pos (show mayBe (cn (L.take (s).nl)) = true /\ mayBe (cn (L.drop (s).nl)) = true /\ ln L 256 ≠ 0 from hok)] at hnx
    exact ⟨0,rfl,HDA.out.ok (.one hne11 hnx hnear) rfl hR4 o4 (HRN.out.2.2.1.trans ⟨rfl,rfl,rfl,rfl,rfl,rfl,rfl,rfl,rfl⟩) ⟨hM4.last,fun h=>absurd (show (7 : Nat) = 2 from h) (by decide),fun _ _=>H3.out.1.keepV oW hcv,fun h=>absurd (show (7 : Nat) = 8 \/ (7 : Nat) = 10 from h) (by decide),fun h=>absurd (show (9 : Nat) <= 7 from h) (by decide),fun _ h=>absurd (show (7 : Nat) <= 6 from h) (by decide),hM4.tab⟩ (.of hp5 (by show (7 : Nat) ≠ 1; decide)) rfl⟩
   ·rw [if_neg (by omega),if_neg (show ¬ (mayBe (cn (L.take (s).nl)) = true /\ mayBe (cn (L.drop (s).nl)) = true /\ ln L 256 ≠ 0) from hno)] at hnx
    exact ⟨3,rfl,HDA.out.bad (.inl rfl) ((Steps.refl _).bad hne11 hnx hnear) hR4 o4 (HRN.out.2.2.1.trans ⟨rfl,rfl,rfl,rfl,rfl,rfl,rfl,rfl,rfl⟩)⟩
  ·have HW:=hide (aI hc hW)
   have hco:=hW.codes
   clear hW hc
   rcases hco with rfl | rfl | rfl | rfl
   ·exact absurd rfl HW.out.1
   all_goals
    go_wp2_with fail
    go_ret
    exact ⟨_,rfl,(HDA.out.back _ _ _ w2 HW.out.2).weak' (by decide) (fun _ _ h=>h.1.trans (HKA.out.2.trans h.2.symm))⟩
set_option maxRecDepth 100000 in
set_option maxHeartbeats 16000000 in
theorem step5 (B : List UInt8) (a o : Nat) (l : List UInt8) (hs : Src B a o l) (g gf gw gr : Nat) (K : List Nat) (f : DF) (v vo : Value) (q : Nat) (x : List UInt8) (s : GSt) (w : World) (h : Rn w g gf gw gr K f v vo l q s.out x) (hk : s.k = 5) (hfk : f.k = 5)
 (hm : Md w f s) (hwf : s.Wf) (hp : Pt s o q) (hl : s.out.length <= f.most) (hmost : f.most <= 1073741824) (hx : x.length <= s.out.length) :
 Calls Tryz.prog 217 #[.pointer (some ⟨g,0,none⟩),.pointer (some ⟨gf,0,none⟩)] w (fun e w'=>∃ c : Nat,e = .returned (.int .i64 (c : Int)) /\ Went B a o l g gf gw gr K f v vo x s (fun f' t=>f'.k = t.k) (fun f' t=>f'.k = t.k) w c w'):=by
 have c1 : w.cell? ⟨g,1,none⟩ = some (.int .i64 5):=by have:=h.on.dec.k; rw [hfk] at this; exact this
 have HNow:=hide (Now.here hs h hm hwf hp hl hmost hx)
 clear hs h hm hwf hp hl hmost hx
 go_enter Tryz.func217,Tryz.ntmps217
 have HDA:=hide HNow.out.drew
 have cgfA : (w).cell? ⟨gf,0,none⟩ = some (.pointer (some ⟨gr,0,none⟩)):=Has.cell HNow.out.rn.on.flow 0
 have HRA:=hide (say_any B a o l HDA.out.src g gf gw gr K f v vo q x s _ HDA.out.rn hk HDA.out.md HDA.out.wf (HDA.out.pt.eq (by rw [hk]; decide)) HDA.out.le)
 have HKA:=hide (aI hk hfk)
 clear hk hfk
 go_wp2_with fail
 go_region_with (go_at_call 225; refine (HRA.out).mono ?_; rintro e w2 ⟨c,rfl,hW⟩)
 clear cgfA
 all_goals
  rcases hW.codes with rfl | rfl | rfl | rfl
  ·obtain ⟨qL,yL,voL,fL,uL,hN,hP⟩:=HDA.out.went hW
   have k1:=hN.rn.on.dec.k
   have f1_ : w2.frozen? ⟨g,1,none⟩ = false:=Has.free hN.rn.on.dec 1
   have hEx : ∃ (fN : DF) (tN : GSt),fN.k = 6 /\ tN.k = 6 /\ Now B a o l g gf gw gr K f v vo x s w fN voL qL (x ++ yL) tN (w2.setCell ⟨g,1,none⟩ (.int .i64 6)):=⟨_,_,rfl,hP.2,hN.setk 6⟩
   clear hN hW hP
   generalize fL.k = z1 at k1
   go_wp2_with fail
   generalize w2.setCell ⟨g,1,none⟩ (.int .i64 6) = wA at *
   obtain ⟨fA,tA,hfkn,hkn,hG⟩:=hEx
   have HNA:=hide hG
   clear hG k1 f1_
   generalize x ++ yL = xA at *
   obtain ⟨voA,hvoA⟩ : ∃ z,z = voL:=⟨_,rfl⟩
   obtain ⟨qA,hqA⟩ : ∃ z,z = qL:=⟨_,rfl⟩
   rw [<- hvoA,<- hqA] at HNA
   clear hvoA hqA
   have HDAN:=hide HNA.out.drew
   have cgfAN : (wA).cell? ⟨gf,0,none⟩ = some (.pointer (some ⟨gr,0,none⟩)):=Has.cell HNA.out.rn.on.flow 0
   have HRAN:=hide (repeatH_any B a o l HDAN.out.src g gf gw gr K fA v voA qA xA tA _ HDAN.out.rn hkn HDAN.out.md HDAN.out.wf (HDAN.out.pt.eq (by rw [hkn]; decide)) HDAN.out.le)
   have HKAN:=hide (aI hkn hfkn)
   clear hkn hfkn
   go_region_with (go_at_call 226; refine (HRAN.out).mono ?_; rintro e w2 ⟨c,rfl,hRp⟩)
   clear cgfAN
   all_goals
    rcases hRp with ⟨rfl,fR,L,hL,hRn,ho,hsm,hkk,hnear,hLl,hM⟩ | ⟨hc,hW⟩
    ·have hwf:=HDAN.out.wf
     have hhead:=hwf.head (by have:=HKAN.out.1; omega) (by have:=HKAN.out.1; omega)
     have hsaid:=hwf.said (by have:=HKAN.out.1; omega) (by have:=HKAN.out.1; omega)
     have hsy:=hwf.sym6 HKAN.out.1
     have hh:=hM.hd (show 4 <= (tA).k by have:=HKAN.out.1; omega) (show (tA).k <= 6 by have:=HKAN.out.1; omega)
     have h15 : ∀ b ∈ L,b.toNat <= 15:=fun b hb=>by
      rw [hL] at hb
      rcases List.mem_append.1 hb with hb | hb
      ·exact hsaid.2.2 b hb
      ·rw [(List.mem_replicate.1 hb).2]; exact repV_le hsy.1 hsaid.2.2
     have hnx:=GSt.nx_6 (L0:=fixedL) (D0:=fixedD2) (N:=num B) (most:=(fA).most) HKAN.out.1
     dsimp only at hnx
     rw [<- hL,if_neg (by omega)] at hnx
     have hpt:=HDAN.out.pt.eq (by rw [HKAN.out.1]; decide)
     have hDe:=deal_step g gf gw gr K fR v voA l (qA + repB (tA).sym) (tA).out xA tA L _ w2 hRn hh ⟨hhead.1,hhead.2.1⟩ ⟨hhead.2.2.1,hhead.2.2.2.1⟩ hLl h15
     have HDE:=hide hDe
     have HRN:=hide (aI hRn (aI ho (aI hsm (aI hkk (aI hnear (aI hM (aI hh (aI hnx hpt))))))))
     clear hwf hhead hsaid hsy hh h15 hnx hpt hDe hRn ho hsm hkk hnear hM hL hLl
     go_wp2_with fail
     refine (HDE.out).mono ?_
     rintro e w3 ⟨k,c,f2,rfl,hR3,ho3,hcase⟩
     have k1:=hR3.on.dec.k
     have f1_ : w3.frozen? ⟨g,1,none⟩ = false:=Has.free hR3.on.dec 1
     have H3:=hide (aI hR3 (aI ho3 hcase))
     clear hR3 ho3 hcase
     generalize f2.k = z1 at k1
     go_wp2_with fail
     go_ret
     have oW : Only [g] w3 (w3.setCell ⟨g,1,none⟩ (.int .i64 (k : Int))):=(Only.refl [g] _).setCell (by simp) _
     have hR4:=H3.out.1.cells oW (Dc.set_k H3.out.1.on.dec k) rfl rfl (H3.out.1.keepX oW)
     have o4 : Only [g,gr] (wA).drew (w3.setCell ⟨g,1,none⟩ (.int .i64 (k : Int))):=(HRN.out.2.1.trans (H3.out.2.1.weak (T:=[g,gr]) (by simp)) (by simp)).trans (oW.weak (T:=[g,gr]) (by simp)) (by simp)
     have hM4:=H3.out.1.mdg (HRN.out.1.mdg HRN.out.2.2.2.2.2.1 H3.out.2.1) oW
     have hnx:=HRN.out.2.2.2.2.2.2.2.1
     have hne11 : (tA).k ≠ 11:=by have:=HKAN.out.1; omega
     have hnear : (tA).p + repB (tA).sym <= 8 * a:=by rw [HRN.out.2.2.2.2.2.2.2.2]; exact HRN.out.2.2.2.2.1
     have hp5 : (tA).p + repB (tA).sym = 8 * o + (qA + repB (tA).sym):=by rw [HRN.out.2.2.2.2.2.2.2.2]; omega
     rcases H3.out.2.2 with ⟨hlt,rfl,rfl,rfl⟩ | ⟨heq,hok,rfl,rfl,v',rfl,hcv⟩ | ⟨heq,hno,rfl,rfl,rfl⟩
     ·rw [if_pos hlt] at hnx
      have hh4:=hM4.hd (show 4 <= (tA).k by have:=HKAN.out.1; omega) (show (tA).k <= 6 by have:=HKAN.out.1; omega)
      exact ⟨0,rfl,HDAN.out.ok (.one hne11 hnx hnear) rfl hR4 o4 (HRN.out.2.2.1.trans ⟨rfl,rfl,rfl,rfl,rfl,rfl,rfl,rfl,rfl⟩) ⟨hM4.last,fun h=>absurd (show (5 : Nat) = 2 from h) (by decide),fun h=>absurd (show (7 : Nat) <= 5 from h) (by decide),fun h=>absurd (show (5 : Nat) = 8 \/ (5 : Nat) = 10 from h) (by decide),fun h=>absurd (show (9 : Nat) <= 5 from h) (by decide),fun _ _=>⟨hh4.nl,hh4.nd,hh4.no,hh4.own,hh4.nOwn,fun _=>hh4.tb (show 5 <= (tA).k by have:=HKAN.out.1; omega),fun h=>absurd (show (5 : Nat) = 6 from h) (by decide),hh4.lens,hh4.n⟩,hM4.tab⟩ (.of hp5 (by show (5 : Nat) ≠ 1; decide)) rfl⟩
     ·rw [if_neg (by omega),if_pos (show mayBe (cn (L.take (tA).nl)) = true /\ mayBe (cn (L.drop (tA).nl)) = true /\ ln L 256 ≠ 0 from hok)] at hnx
      exact ⟨0,rfl,HDAN.out.ok (.one hne11 hnx hnear) rfl hR4 o4 (HRN.out.2.2.1.trans ⟨rfl,rfl,rfl,rfl,rfl,rfl,rfl,rfl,rfl⟩) ⟨hM4.last,fun h=>absurd (show (7 : Nat) = 2 from h) (by decide),fun _ _=>H3.out.1.keepV oW hcv,fun h=>absurd (show (7 : Nat) = 8 \/ (7 : Nat) = 10 from h) (by decide),fun h=>absurd (show (9 : Nat) <= 7 from h) (by decide),fun _ h=>absurd (show (7 : Nat) <= 6 from h) (by decide),hM4.tab⟩ (.of hp5 (by show (7 : Nat) ≠ 1; decide)) rfl⟩
     ·rw [if_neg (by omega),if_neg (show ¬ (mayBe (cn (L.take (tA).nl)) = true /\ mayBe (cn (L.drop (tA).nl)) = true /\ ln L 256 ≠ 0) from hno)] at hnx
      exact ⟨3,rfl,HDAN.out.bad (.inl rfl) ((Steps.refl _).bad hne11 hnx hnear) hR4 o4 (HRN.out.2.2.1.trans ⟨rfl,rfl,rfl,rfl,rfl,rfl,rfl,rfl,rfl⟩)⟩
    ·have HW:=hide (aI hc hW)
     have hco:=hW.codes
     clear hW hc
     rcases hco with rfl | rfl | rfl | rfl
     ·exact absurd rfl HW.out.1
     all_goals
      go_wp2_with fail
      go_ret
      exact ⟨_,rfl,(HDAN.out.back _ _ _ w2 HW.out.2).weak' (by decide) (fun _ _ h=>h.1.trans (HKAN.out.2.trans h.2.symm))⟩
  all_goals
   have HW:=hide hW
   clear hW
   go_wp2_with fail
   go_ret
   exact ⟨_,rfl,(HDA.out.back _ _ _ w2 HW.out).weak' (by decide) (fun _ _ h=>h.1.trans (HKA.out.2.trans h.2.symm))⟩
end Go.Proofs.YtmfoeihapalkpaaGreatDoor
