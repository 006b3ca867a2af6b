import Derived.Test.YtjfjmkkkbcgohaaGreatDoorMFlF
namespace Go.Proofs.YtjfjmkkkbcgohaaGreatDoor
open Go Go.RowKit
theorem dst_le : ∀ y,y < 30 -> dstM y + (2 ^ dstB y - 1) <= 32768 /\ dstM y <= 30000 /\ dstB y <= 13 /\ 1 <= dstM y:=by decide
section
variable {B : List UInt8} {a o : Nat} {l : List UInt8} {g gf gw gr : Nat} {K : List Nat} {f f1 f2 : DF} {v vo vo1 vo2 : Value} {q1 q2 : Nat} {x x1 : List UInt8} {s t u : GSt} {w w1 w2 : World} {P Q P' Q' : DF -> GSt -> Prop} {c : Nat}
theorem Went.codes (h : Went B a o l g gf gw gr K f v vo x s P Q w c w1) : c = 0 \/ c = 2 \/ c = 3 \/ c = 5:=by
 obtain ⟨_,_,_,_,_,_,_,_,h⟩:=h
 rcases h with ⟨h,_⟩ | ⟨h,_⟩ | ⟨h | h,_⟩ <;> omega
theorem Went.after (hst : Stp B a f.most s t) {y : List UInt8} (hout : t.out = s.out ++ y) (hS : Since [g,gf,gw,gr] w vo w1 vo1) (hsm : Same f f1) (hk : f.k ≠ 11 -> f1.k ≠ 11) (h : Went B a o l g gf gw gr K f1 v vo1 (x ++ y) t P Q w1 c w2) :
 Went B a o l g gf gw gr K f v vo x s P Q w c w2:=by
 obtain ⟨q',y',vo',f',hR,hS2,hsm2,hle,hcase⟩:=h
 rw [hout,List.append_assoc,List.append_assoc] at hR
 refine ⟨q',y ++ y',vo',f',hR,hS.trans hS2 (fun _ hi _=>hi),hsm.trans hsm2,?_,?_⟩
 ·rw [hsm.most,hout,List.length_append] at hle
  rw [List.length_append]; omega
 ·rw [hsm.most,hout,List.append_assoc] at hcase
  rcases hcase with ⟨rfl,r,h1,h2,h3⟩ | ⟨rfl,r,h1,h2⟩ | ⟨hc,hk2,r,h1⟩
  ·exact .inl ⟨rfl,r,hst.then_ h1,h2,h3⟩
  ·exact .inr (.inl ⟨rfl,r,hst.ends h1,h2⟩)
  ·exact .inr (.inr ⟨hc,fun h0=>hk2 (hk h0),r,hst.ends h1⟩)
theorem Went.weak' (h : Went B a o l g gf gw gr K f v vo x s P Q w c w1) (hc : c ≠ 0) (hQ : ∀ f' t,Q f' t -> Q' f' t) : Went B a o l g gf gw gr K f v vo x s P' Q' w c w1:=by
 obtain ⟨q',y',vo',f',hR,hS2,hsm2,hle,hcase⟩:=h
 refine ⟨q',y',vo',f',hR,hS2,hsm2,hle,?_⟩
 rcases hcase with ⟨h,_⟩ | ⟨rfl,r,h1,h2,h3,h4,h5⟩ | h
 ·exact absurd h hc
 ·exact .inr (.inl ⟨rfl,r,h1,h2,h3,h4,hQ _ _ h5⟩)
 ·exact .inr (.inr h)
structure Now (B : List UInt8) (a o : Nat) (l : List UInt8) (g gf gw gr : Nat) (K : List Nat) (f : DF) (v vo : Value) (x : List UInt8) (s : GSt) (w : World) (f1 : DF) (vo1 : Value) (q1 : Nat) (x1 : List UInt8) (t : GSt) (w1 : World) : Prop where
 rn : Rn w1 g gf gw gr K f1 v vo1 l q1 t.out x1
 md : Md w1 f1 t
 wf : t.Wf
 pt : Pt t o q1
 le : t.out.length <= f1.most
 most : f1.most <= 1073741824
 xl : x1.length <= t.out.length
 src : Src B a o l
 kk : f.k ≠ 11 -> f1.k ≠ 11
 back : ∀ (P Q : DF -> GSt -> Prop) (c : Nat) (w' : World),Went B a o l g gf gw gr K f1 v vo1 x1 t P Q w1 c w' -> Went B a o l g gf gw gr K f v vo x s P Q w c w'
theorem Now.here (hs : Src B a o l) (hr : Rn w g gf gw gr K f v vo l q1 s.out x) (hm : Md w f s) (hwf : s.Wf) (hp : Pt s o q1) (hle : s.out.length <= f.most) (hmost : f.most <= 1073741824) (hx : x.length <= s.out.length) : Now B a o l g gf gw gr K f v vo x s w f vo q1 x s w :=
 ⟨hr,hm,hwf,hp,hle,hmost,hx,hs,fun h=>h,fun _ _ _ _ h=>h⟩
theorem Now.went (h : Now B a o l g gf gw gr K f v vo x s w f1 vo1 q1 x1 t w1) (hw : Went B a o l g gf gw gr K f1 v vo1 x1 t P Q w1 0 w2) (hPk : ∀ f' t,P f' t -> f1.k ≠ 11 -> f'.k ≠ 11:=by exact fun _ _ h hk=>by rw [h.1]; exact hk) :
 ∃ q2 y vo2 f2 u,Now B a o l g gf gw gr K f v vo x s w f2 vo2 q2 (x1 ++ y) u w2 /\ P f2 u:=by
 obtain ⟨q2,y,vo2,f2,hR,hS,hsm,hle,hcase⟩:=hw
 rcases hcase with ⟨_,u,hst,hout,hM,hP,hp⟩ | ⟨h,_⟩ | ⟨h | h,_⟩
 ·refine ⟨q2,y,vo2,f2,u,⟨by rw [hout]; exact hR,hM,hst.1.wf okL okD h.wf,hP,by rw [hout,hsm.most,List.length_append]; exact hle,by rw [hsm.most]; exact h.most,by rw [hout,List.length_append,List.length_append]; have:=h.xl; omega,h.src,fun h0=>hPk _ _ hp (h.kk h0),fun P Q c w' hW=>h.back P Q c w' (Went.after hst.1 hout hS hsm (hPk _ _ hp) hW)⟩,hp⟩
 ·omega
 ·omega
 ·omega
theorem Now.go (h : Now B a o l g gf gw gr K f v vo x s w f1 vo1 q1 x1 t w1) (hst : Stp B a f1.most t u) (hout : u.out = t.out) (hr : Rn w2 g gf gw gr K f2 v vo1 l q2 t.out x1) (ho : Only [g,gr] w1 w2) (hsm : Same f1 f2) (hm : Md w2 f2 u) (hp : Pt u o q2) (hk : f1.k ≠ 11 -> f2.k ≠ 11:=by first | exact fun h=>h | (intro _; dsimp only; decide)) :
 Now B a o l g gf gw gr K f v vo x s w f2 vo1 q2 x1 u w2 :=
 ⟨by rw [hout]; exact hr,hm,hst.wf okL okD h.wf,hp,by rw [hout,hsm.most]; exact h.le,by rw [hsm.most]; exact h.most,by rw [hout]; exact h.xl,h.src,fun h0=>hk (h.kk h0),fun P Q c w' hW =>
   h.back P Q c w' (Went.after (y:=[]) hst (by rw [hout,List.append_nil]) ((Since.refl _ _ _).step (ho.weak (by intro k hk _; simp only [List.mem_cons,List.not_mem_nil,or_false] at hk ⊢; omega))) hsm hk (by rw [List.append_nil]; exact hW))⟩
theorem Now.bad (h : Now B a o l g gf gw gr K f v vo x s w f1 vo1 q1 x1 t w1) (hc : c = 3 \/ c = 5) (he : End B a f1.most t c u) (hr : Rn w2 g gf gw gr K f2 v vo1 l q2 t.out x1) (ho : Only [g,gr] w1 w2) (hsm : Same f1 f2) (hk : f1.k ≠ 11 -> f2.k ≠ 11:=by first | exact fun h=>h | (intro _; dsimp only; decide)) : Went B a o l g gf gw gr K f v vo x s P Q w c w2 :=
 h.back P Q c w2 ⟨q2,[],vo1,f2,by simpa using hr,(Since.refl _ _ _).step (ho.weak (by intro k hk _; simp only [List.mem_cons,List.not_mem_nil,or_false] at hk ⊢; omega)),hsm,by simpa using h.le,.inr (.inr ⟨hc,hk,u,he⟩)⟩
theorem Now.short (h : Now B a o l g gf gw gr K f v vo x s w f1 vo1 q1 x1 t w1) (he : End B a f1.most t 2 u) (hout : u.out = t.out) (hr : Rn w2 g gf gw gr K f2 v vo1 l q2 t.out x1) (ho : Only [g,gr] w1 w2) (hsm : Same f1 f2) (hm : Md w2 f2 u) (hp : Pt u o q2) (hq : Q f2 u) : Went B a o l g gf gw gr K f v vo x s P Q w 2 w2 :=
 h.back P Q 2 w2 ⟨q2,[],vo1,f2,by simpa using hr,(Since.refl _ _ _).step (ho.weak (by intro k hk _; simp only [List.mem_cons,List.not_mem_nil,or_false] at hk ⊢; omega)),hsm,by simpa using h.le,.inr (.inl ⟨rfl,u,he,by rw [hout,List.append_nil],hm,hp,hq⟩)⟩
theorem Now.ok (h : Now B a o l g gf gw gr K f v vo x s w f1 vo1 q1 x1 t w1) (hst : Stp1 B a f1.most t u) (hout : u.out = t.out) (hr : Rn w2 g gf gw gr K f2 v vo1 l q2 t.out x1) (ho : Only [g,gr] w1 w2) (hsm : Same f1 f2) (hm : Md w2 f2 u) (hp : Pt u o q2) (hq : P f2 u) : Went B a o l g gf gw gr K f v vo x s P Q w 0 w2 :=
 h.back P Q 0 w2 ⟨q2,[],vo1,f2,by simpa using hr,(Since.refl _ _ _).step (ho.weak (by intro k hk _; simp only [List.mem_cons,List.not_mem_nil,or_false] at hk ⊢; omega)),hsm,by simpa using h.le,.inl ⟨rfl,u,hst,by rw [hout,List.append_nil],hm,hp,hq⟩⟩
theorem Went.setk (h : Went B a o l g gf gw gr K f v vo x s P Q w 0 w1) (k : Nat) (hP : ∀ f' t,P f' t -> t.k = k) : Went B a o l g gf gw gr K f v vo x s (fun f' t=>f'.k = t.k) Q' w 0 (w1.setCell ⟨g,1,none⟩ (.int .i64 (k : Int))):=by
 obtain ⟨q',y',vo',f',hR,hS2,hsm2,hle,hcase⟩:=h
 have oW : Only [g] w1 (w1.setCell ⟨g,1,none⟩ (.int .i64 (k : Int))):=(Only.refl [g] _).setCell (by simp) _
 rcases hcase with ⟨_,r,h1,h2,hM,h4,h5⟩ | ⟨h,_⟩ | ⟨h | h,_⟩
 ·have hM:=hR.mdg hM oW
  exact ⟨q',y',vo',{ f' with k:=k },hR.cells oW (Dc.set_k hR.on.dec k) rfl rfl (hR.keepX oW),hS2.step (oW.weak (by simp)),hsm2.trans ⟨rfl,rfl,rfl,rfl,rfl,rfl,rfl,rfl,rfl⟩,hle,.inl ⟨rfl,r,h1,h2,⟨hM.last,hM.left,hM.co,hM.sy,hM.le,hM.hd,hM.tab⟩,h4,(hP _ _ h5).symm⟩⟩
 ·omega
 ·omega
 ·omega
end
theorem part_take' (B : List UInt8) (a j n : Nat) (h : j + n <= a) : ((B.take a).drop j).take n = (B.drop j).take n:=by
 rw [List.drop_take,List.take_take,Nat.min_eq_left (by omega)]
def tS (t : GSt) (n p : Nat) (out : List UInt8) : GSt:={ t with k:=stK t.last n,left:=n,p:=p,out:=out }
theorem bytes_steps {B : List UInt8} {a most : Nat} (t : GSt) (n p : Nat) (out : List UInt8) : ∀ j,j <= n -> p + 8 * j <= 8 * a -> out.length + j <= most -> Stp B a most (tS t n p out) (tS t (n - j) (p + 8 * j) (out ++ bytesAt (num B) p j))
 | 0,_,_,_=>by
   have e : out ++ bytesAt (num B) p 0 = out:=by simp [bytesAt]
   rw [e]; exact .refl _
 | j + 1,h1,h2,h3=>by
   have ih:=bytes_steps (B:=B) (a:=a) (most:=most) t n p out j (by omega) (by omega) (by omega)
   have hk : (tS t (n - j) (p + 8 * j) (out ++ bytesAt (num B) p j)).k = 2:=stK_pos _ (by omega)
   have hnx:=GSt.nx_2 (L0:=fixedL) (D0:=fixedD2) (N:=num B) (most:=most) hk
   rw [if_pos (by show (out ++ bytesAt (num B) p j).length < most; rw [List.length_append,bytesAt_length]; omega)] at hnx
   have hfin:=ih.snoc (by omega) hnx (by show p + 8 * j + 8 <= _; omega)
   have e : tS t (n - (j + 1)) (p + 8 * (j + 1)) (out ++ bytesAt (num B) p (j + 1)) = { tS t (n - j) (p + 8 * j) (out ++ bytesAt (num B) p j) with k:=stK t.last (n - j - 1),left:=n - j - 1,p:=p + 8 * j + 8,out:=out ++ bytesAt (num B) p j ++ [UInt8.ofNat (num B / 2 ^ (p + 8 * j))] }:=by
    unfold tS
    rw [bytesAt_succ,List.append_assoc,show n - (j + 1) = n - j - 1 by omega,show p + 8 * (j + 1) = p + 8 * j + 8 by omega]
   rw [e]
   exact hfin
theorem bytes_long {B : List UInt8} {a most : Nat} (t : GSt) (n p m : Nat) (out : List UInt8) (hm : m <= n) (hp : p + 8 * m <= 8 * a) (ho : out.length <= most) (hl : most < out.length + m) : ∃ u,End B a most (tS t n p out) 5 u:=by
 have h:=bytes_steps (B:=B) (a:=a) (most:=most) t n p out (most - out.length) (by omega) (by omega) (by omega)
 have hk : (tS t (n - (most - out.length)) (p + 8 * (most - out.length)) (out ++ bytesAt (num B) p (most - out.length))).k = 2:=stK_pos _ (by omega)
 have hnx:=GSt.nx_2 (L0:=fixedL) (D0:=fixedD2) (N:=num B) (most:=most) hk
 rw [if_neg (by show ¬ (out ++ bytesAt (num B) p (most - out.length)).length < most; rw [List.length_append,bytesAt_length]; omega)] at hnx
 exact ⟨_,h.bad (by omega) hnx (by show p + 8 * (most - out.length) + 8 <= _; omega)⟩
def Stored (B : List UInt8) (a o : Nat) (l : List UInt8) (g gf gw gr : Nat) (K : List Nat) (f : DF) (v vo : Value) (x : List UInt8) (t : GSt) (w : World) (c : Nat) (w' : World) : Prop :=
 ∃ (q' : Nat) (y : List UInt8) (vo' : Value) (f' : DF),Rn w' g gf gw gr K f' v vo' l q' (t.out ++ y) (x ++ y) /\ Since [g,gf,gw,gr] w vo w' vo' /\ Same f f' /\ t.out.length + y.length <= f.most /\ f'.k = f.k /\
   ((c = 0 /\ ∃ u,Stp B a f.most t u /\ u.out = t.out ++ y /\ Md w' f' u /\ Pt u o q' /\ u.k = behindK u.last /\ (0 < t.left -> u.ms a < t.ms a)) \/
     (c = 2 /\ ∃ u,End B a f.most t 2 u /\ u.out = t.out ++ y /\ Md w' f' u /\ Pt u o q' /\ u.k = 2) \/
     (c = 5 /\ ∃ u,End B a f.most t 5 u))
theorem stored_step (B : List UInt8) (a o : Nat) (l : List UInt8) (hs : Src B a o l) (g gf gw gr : Nat) (K : List Nat) (f : DF) (v vo : Value) (q : Nat) (x : List UInt8) (t : GSt) (w : World) (h : Rn w g gf gw gr K f v vo l q t.out x) (hkt : t.k = stK t.last t.left) (hfl : f.left = t.left) (hlast : f.last = t.last) (htab : Tab w)
 (hp : t.p = 8 * o + q) (hq : q % 8 = 0) (hlf : t.left < 65536) (hl : t.out.length <= f.most) (hmost : f.most <= 1073741824) (hx : x.length <= t.out.length) :
 Calls Tryz.prog 169 #[.pointer (some ⟨g,0,none⟩),.pointer (some ⟨gf,0,none⟩)] w (fun e w'=>∃ c : Nat,e = .returned (.int .i64 (c : Int)) /\ Stored B a o l g gf gw gr K f v vo x t w c w'):=by
 have hlen:=hs.len
 have hoa:=hs.oa
 have haB:=hs.aB
 have hqq:=h.rd.2.2.2
 obtain ⟨n,hn⟩ : ∃ n,n = min f.left ((8 * l.length - q) / 8):=⟨_,rfl⟩
 have het : t = tS t t.left t.p t.out:=by
  show t = { t with k:=stK t.last t.left,left:=t.left,p:=t.p,out:=t.out }
  rw [<- hkt]
 rcases Nat.lt_or_ge f.most (t.out.length + n) with hlong | hfit
 ·refine (stored_long g gf gw gr K f v vo l q t.out x w h n hn hl hlong hmost).mono ?_
  rintro e w' ⟨rfl,m,rfl⟩
  obtain ⟨u,hu⟩:=bytes_long (B:=B) (a:=a) (most:=f.most) t t.left t.p n t.out (by omega) (by omega) hl hlong
  rw [<- het] at hu
  exact ⟨5,rfl,q,[],vo,f,by simpa using h.drewN m,(Since.refl _ _ _).step ((Only.refl _ _).drewN m),Same.refl f,by simpa using hl,rfl,.inr (.inr ⟨rfl,u,hu⟩)⟩
 ·have hbs : (l.drop (q / 8)).take n = bytesAt (num B) t.p n:=by
   rw [hp,show 8 * o + q = 8 * (o + q / 8) by omega,bytesAt_num _ _ _ (by omega),hs.eq,List.drop_drop,part_take' _ _ _ _ (by omega)]
  refine (stored_ok g gf gw gr K f v vo l q t.out x w h n hn hq hfit hmost hx (by omega) _ hbs.symm).mono ?_
  rintro e w' ⟨rfl,vo',hR,hSi⟩
  have hst:=bytes_steps (B:=B) (a:=a) (most:=f.most) t t.left t.p t.out n (by omega) (by omega) hfit
  rw [<- het] at hst
  have hyl : (bytesAt (num B) t.p n).length = n:=bytesAt_length _ _ _
  have htab':=htab.only hSi.only (fun k hk hlt=>(h.other k hk hlt).2)
  rcases Nat.eq_zero_or_pos (f.left - n) with h0 | h0
  ·have hkk : (tS t (t.left - n) (t.p + 8 * n) (t.out ++ bytesAt (num B) t.p n)).k = behindK t.last:=by
    show stK t.last (t.left - n) = _
    rw [show t.left - n = 0 by omega]; rfl
   have hor:=behindK_or' t.last
   refine ⟨0,by rw [h0]; rfl,q + 8 * n,bytesAt (num B) t.p n,vo',_,hR,hSi,⟨rfl,rfl,rfl,rfl,rfl,rfl,rfl,rfl,rfl⟩,by rw [hyl]; exact hfit,rfl,.inl ⟨rfl,_,hst,rfl,⟨hlast,fun h=>absurd (hkk.symm.trans h) (by omega),fun h1 h2=>absurd (aI (hkk ▸ h1) (hkk ▸ h2)) (by omega),fun h=>absurd (hkk ▸ h) (by omega),fun h1 h2=>absurd (aI (hkk ▸ h1) (hkk ▸ h2)) (by omega),fun h1 h2=>absurd (aI (hkk ▸ h1) (hkk ▸ h2)) (by omega),htab'⟩,.of (by show t.p + 8 * n = _; omega) (by rw [hkk]; omega),hkk,fun hpos=>?_⟩⟩
   have h1 : 0 < n:=by omega
   have h2:=GSt.rk_le (tS t (t.left - n) (t.p + 8 * n) (t.out ++ bytesAt (num B) t.p n)).k
   show 2 * (8 * a - (t.p + 8 * n)) + GSt.rk _ < 2 * (8 * a - t.p) + GSt.rk t.k
   omega
  ·have hkk : (tS t (t.left - n) (t.p + 8 * n) (t.out ++ bytesAt (num B) t.p n)).k = 2:=stK_pos _ (by omega)
   refine ⟨2,by rw [if_pos h0]; rfl,q + 8 * n,bytesAt (num B) t.p n,vo',_,hR,hSi,⟨rfl,rfl,rfl,rfl,rfl,rfl,rfl,rfl,rfl⟩,by rw [hyl]; exact hfit,rfl,.inr (.inl ⟨rfl,_,hst.short (by omega) (by rw [GSt.nx_2 hkk]; show 8 * a < t.p + 8 * n + 8; omega),rfl,⟨hlast,fun _=>(by show f.left - n = t.left - n; omega),fun h1=>absurd (hkk ▸ h1) (by omega),fun h=>absurd (hkk ▸ h) (by omega),fun h1=>absurd (hkk ▸ h1) (by omega),fun h1=>absurd (hkk ▸ h1) (by omega),htab'⟩,.of (by show t.p + 8 * n = _; omega) (by omega),hkk⟩)⟩
end Go.Proofs.YtjfjmkkkbcgohaaGreatDoor
