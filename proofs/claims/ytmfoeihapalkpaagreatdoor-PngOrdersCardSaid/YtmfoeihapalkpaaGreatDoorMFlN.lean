import Derived.Test.YtmfoeihapalkpaaGreatDoorMFlI
namespace Go.Proofs.YtmfoeihapalkpaaGreatDoor
open Go Go.RowKit
set_option maxRecDepth 100000 in
set_option maxHeartbeats 2000000 in
theorem ringback_any (g gf gw : Nat) (K : List Nat) (f : DF) (rp vo : Value) (all x : List UInt8) (d : Nat) (w : World) (h : On w g gf gw K f rp vo all x) (hd1 : 1 <= d) (hd2 : d <= all.length) (hd3 : d <= 32768) (hn : all.length <= 1073741824) :
 Calls Tryz.prog 241 #[.pointer (some ⟨g,5,none⟩),.int .i64 (d : Int)] w fun e w'=>e = .returned (.int .u8 ((all.getD (all.length - d) 0).toNat : Int)) /\ ∃ m,w' = w.drewN m:=by
 obtain ⟨ws,hW,hs,hr⟩:=h.ring
 have c5 : w.cell? ⟨g,5,none⟩ = some (.slice (some ⟨gw,0,none⟩) 32768 32768):=by rw [<- h.wb]; exact h.dec.wb
 have c6 : w.cell? ⟨g,6,none⟩ = some (.int .i64 (all.length : Int)):=by rw [<- h.wn]; exact h.dec.wn
 have hi : all.length - d < all.length:=by omega
 have hb : all.getD (all.length - d) 0 = all[all.length - d]:=by rw [List.getD_eq_getElem?_getD,List.getElem?_eq_getElem hi]; rfl
 have cw : w.cell? ⟨gw,(all.length - d) % 32768,none⟩ = some (.int .u8 (all[all.length - d].toNat : Int)):=by rw [hW.cell]; exact hr _ hi (by omega)
 rw [hb]
 generalize all[all.length - d] = b at *
 obtain ⟨i,hi2⟩ : ∃ i,i = all.length - d:=⟨_,rfl⟩
 rw [<- hi2] at cw
 have e1 : (all.length : Int) - (d : Int) = (i : Int):=by omega
 have e2 : (i : Int).tmod 32768 = ((i % 32768 : Nat) : Int):=rfl
 have e3 : i % 32768 < 32768:=by omega
 have e4 : i % 32768 * 1 = i % 32768:=Nat.mul_one _
 have e5 : all.length <= 1073741824:=hn
 have hie : i <= 1073741824:=by omega
 clear h hW hs hr hd1 hd2 hd3 hn hb hi hi2
 generalize all.length = n at *
 generalize i % 32768 = j at *
 go_enter Tryz.func241,Tryz.ntmps241
 go_wp2_with fail
 go_region
 all_goals
  go_wp2_with fail
  go_ret
  exact ⟨rfl,_,rfl⟩
def BackP (f f' : DF) (t : GSt) : Prop:=f'.k = f.k /\ t.k = 7
def BackQ (f f' : DF) (t : GSt) : Prop:=f'.k = f.k /\ t.k = 10
theorem dst_le : ∀ y,y < 30 -> dstM y + (2 ^ dstB y - 1) <= 32768 /\ dstM y <= 30000 /\ dstB y <= 13 /\ 1 <= dstM y:=by decide
set_option maxRecDepth 100000 in
set_option maxHeartbeats 2000000 in
theorem back_bad (g gf : Nat) (f : DF) (w : World) (h : Dc w g f) (hs : 30 <= f.sy) :
 Calls Tryz.prog 239 #[.pointer (some ⟨g,0,none⟩),.pointer (some ⟨gf,0,none⟩)] w fun e w'=>e = .returned (.int .i64 3) /\ w = w':=by
 have c:=h.sy
 have hs2 : (30 : Int) <= (f.sy : Int):=by omega
 generalize f.sy = y at *
 clear h hs
 go_enter Tryz.func239,Tryz.ntmps239
 go_wp2_with fail
 go_ret
 exact ⟨rfl,rfl⟩
set_option maxRecDepth 100000 in
set_option maxHeartbeats 8000000 in
theorem back_step (B : List UInt8) (a o : Nat) (l : List UInt8) (hs : Src B a o l) (g gf gw gr : Nat) (K : List Nat) (f : DF) (v vo : Value) (q : Nat) (x : List UInt8) (s : GSt) (w : World) (h : Rn w g gf gw gr K f v vo l q s.out x) (hk : s.k = 10)
 (hm : Md w f s) (hwf : s.Wf) (hp : s.p = 8 * o + q) (hl : s.out.length <= f.most) (hmost : f.most <= 1073741824) (hx : x.length <= s.out.length) :
 Calls Tryz.prog 239 #[.pointer (some ⟨g,0,none⟩),.pointer (some ⟨gf,0,none⟩)] w (fun e w'=>∃ c : Nat,e = .returned (.int .i64 (c : Int)) /\ Went B a o l g gf gw gr K f v vo x s (BackP f) (BackQ f) w c w'):=by
 have hsy:=hm.sy (.inr hk)
 have hle:=hm.le (by omega) (by omega)
 have h29:=hwf.sym10 hk
 have hlen:=hwf.len (by omega) (by omega)
 have hdl:=dst_le s.sym (by omega)
 obtain ⟨y,hy⟩ : ∃ y,y = s.sym:=⟨_,rfl⟩
 obtain ⟨m,hmm⟩ : ∃ m,m = dstM s.sym:=⟨_,rfl⟩
 obtain ⟨n,hnn⟩ : ∃ n,n = dstB s.sym:=⟨_,rfl⟩
 have cs : w.cell? ⟨g,355,none⟩ = some (.int .i64 (y : Int)):=by have:=h.on.dec.sy; rw [hsy,<- hy] at this; exact this
 have ct:=hm.tab.dst s.sym (by omega)
 rw [<- hy] at ct
 have ct0 : w.cell? ⟨2,y * 2,none⟩ = some (.int .u16 (m : Int)):=by rw [hmm,<- hy,Nat.mul_comm]; exact ct.1
 have ct1 : w.cell? ⟨2,y * 2 + 1,none⟩ = some (.int .u8 (n : Int)):=by rw [hnn,<- hy,Nat.mul_comm]; exact ct.2
 have hy30 : y < 30:=by omega
 have hyI : ¬ (30 : Int) <= (y : Int):=by omega
 have hnx:=GSt.nx_10 (L0:=fixedL) (D0:=fixedD2) (N:=num B) (most:=f.most) (show 9 < s.k by omega)
 rw [<- hmm,<- hnn] at hnx hdl
 have hadd:=addF_any B a o l hs g gf gw gr K f v vo q s.out x w h m n hdl.2.1 hdl.2.2.1
 have h11 : s.k ≠ 11:=by omega
 have HH:=hide (aI h (aI hm (aI hp (aI hl (aI h11 (aI hk (aI hnx (aI hmost (aI hx (aI hle hlen))))))))))
 have HD:=hide (aI hdl (aI hmm hnn))
 rw [<- hp] at hadd
 clear hs h hm hwf hl hk hnx hmost hx hle hlen hdl hmm hnn hsy h29 ct hy h11
 rcases hadd with ⟨hfar,hA⟩ | ⟨hnear,hA⟩
 ·have HA:=hide (aI hA hfar)
  clear hA hfar hp
  go_enter Tryz.func239,Tryz.ntmps239
  go_wp2_with fail
  refine (HA.out.1).mono ?_
  rintro e w1 ⟨rfl,h1,ho1⟩
  have H1:=hide (aI h1 ho1)
  clear h1 ho1
  go_wp2_with fail
  go_ret
  have hH:=HH.out
  exact ⟨2,rfl,q,[],vo,f,by simpa using H1.out.1,(Since.refl _ _ _).step (H1.out.2.weak (by simp)),Same.refl f,by simpa using hH.2.2.2.1,.inr (.inl ⟨rfl,s,.short s hH.2.2.2.2.1 (by rw [hH.2.2.2.2.2.2.1]; exact HA.out.2),by simp,hH.1.mdr hH.2.1 H1.out.2,.of hH.2.2.1 (by have:=hH.2.2.2.2.2.1; omega),rfl,hH.2.2.2.2.2.1⟩)⟩
 ·obtain ⟨fr,hfr⟩ : ∃ fr,fr = m + num B / 2 ^ s.p % 2 ^ n:=⟨_,rfl⟩
  have hfr1 : 1 <= fr /\ fr <= 32768:=by
   have h1:=Nat.mod_lt (num B / 2 ^ s.p) (Nat.two_pow_pos n)
   have h2:=HD.out.1
   omega
  rw [<- hfr] at hA
  have hnx:=HH.out.2.2.2.2.2.2.1
  dsimp only at hnx
  rw [<- hfr] at hnx
  obtain ⟨n0,hn0⟩ : ∃ n0,n0 = s.out.length:=⟨_,rfl⟩
  have HF:=hide (aI hfr1 (aI hn0 hnear))
  rw [<- hn0] at hnx
  have HA:=hide hA
  clear hfr hA hnear hp
  by_cases hlt : n0 < fr
  ·rw [if_pos hlt] at hnx
   have HN:=hide hnx
   have hli : (n0 : Int) < (fr : Int):=by omega
   clear hnx hlt hn0 hfr1
   go_enter Tryz.func239,Tryz.ntmps239
   go_wp2_with fail
   refine (HA.out).mono ?_
   rintro e w1 ⟨rfl,h1,ho1⟩
   have c6 : w1.cell? ⟨g,6,none⟩ = some (.int .i64 (n0 : Int)):=by have:=h1.on.dec.wn; rw [h1.on.wn,<- HF.out.2.1] at this; exact this
   have H1:=hide (aI h1 ho1)
   clear h1 ho1
   go_wp2_with fail
   go_ret
   exact ⟨3,rfl,q + n,[],vo,f,by simpa using H1.out.1,(Since.refl _ _ _).step (H1.out.2.weak (by simp)),Same.refl f,by simpa using HH.out.2.2.2.1,.inr (.inr ⟨.inl rfl,fun h=>h,s,(Steps.refl s).bad HH.out.2.2.2.2.1 HN.out HF.out.2.2⟩)⟩
  ·rw [if_neg hlt] at hnx
   have hli : ¬ (n0 : Int) < (fr : Int):=by omega
   obtain ⟨le,hle⟩ : ∃ le,le = s.len:=⟨_,rfl⟩
   have hle2 : le <= 258:=by rw [hle]; exact HH.out.2.2.2.2.2.2.2.2.2.2
   have hn02 : n0 <= f.most:=by rw [hn0]; exact HH.out.2.2.2.1
   have hmost : f.most <= 1073741824:=HH.out.2.2.2.2.2.2.2.1
   rw [<- hle] at hnx
   by_cases hlong : f.most < n0 + le
   ·rw [if_pos hlong] at hnx
    have HN:=hide hnx
    have hli2 : (f.most : Int) - (n0 : Int) < (le : Int):=by omega
    have HLE:=hide hle
    clear hnx hlt hn0 hfr1 hlong hle
    go_enter Tryz.func239,Tryz.ntmps239
    go_wp2_with fail
    refine (HA.out).mono ?_
    rintro e w1 ⟨rfl,h1,ho1⟩
    have c6 : w1.cell? ⟨g,6,none⟩ = some (.int .i64 (n0 : Int)):=by have:=h1.on.dec.wn; rw [h1.on.wn,<- HF.out.2.1] at this; exact this
    have c356 : w1.cell? ⟨g,356,none⟩ = some (.int .i64 (le : Int)):=by have:=h1.on.dec.le; rw [HH.out.2.2.2.2.2.2.2.2.2.1,<- HLE.out] at this; exact this
    have c00:=h1.on.dec.most
    have H1:=hide (aI h1 ho1)
    clear h1 ho1
    go_wp2_with fail
    go_region
    all_goals
     go_wp2_with fail
     go_ret
     exact ⟨5,rfl,q + n,[],vo,f,by simpa using H1.out.1.still ((Only.refl [] w1).drew),(Since.refl _ _ _).step ((H1.out.2.weak (by simp)).drew),Same.refl f,by simpa using HH.out.2.2.2.1,.inr (.inr ⟨.inr rfl,fun h=>h,s,(Steps.refl s).bad HH.out.2.2.2.2.1 HN.out HF.out.2.2⟩)⟩
   ·rw [if_neg hlong] at hnx
    have HN:=hide hnx
    have hli2 : ¬ (f.most : Int) - (n0 : Int) < (le : Int):=by omega
    have HLE:=hide (aI hle (aI hlt hlong))
    clear hnx hlt hn0 hlong hle
    go_enter Tryz.func239,Tryz.ntmps239
    go_wp2_with fail
    refine (HA.out).mono ?_
    rintro e w1 ⟨rfl,h1,ho1⟩
    have c6 : w1.cell? ⟨g,6,none⟩ = some (.int .i64 (n0 : Int)):=by have:=h1.on.dec.wn; rw [h1.on.wn,<- HF.out.2.1] at this; exact this
    have c356 : w1.cell? ⟨g,356,none⟩ = some (.int .i64 (le : Int)):=by have:=h1.on.dec.le; rw [HH.out.2.2.2.2.2.2.2.2.2.1,<- HLE.out.1] at this; exact this
    have c00:=h1.on.dec.most
    have H1:=hide (aI h1 ho1)
    clear h1 ho1
    go_wp2_with fail
    go_region
    all_goals
     go_wp2_with fail
     clear c6 c00 hli hli2
     try generalize decide (n0 < fr) = b1
     try generalize decide ((f.most : Int) - (n0 : Int) < (le : Int)) = b2
     go_loopw [52] (fun i wr=>∃ (j : Nat) (y : List UInt8) (vo' : Value),i = .int .i64 (j : Int) /\ j <= le /\ again s.out fr j = s.out ++ y /\ y.length = j /\ Rn wr g gf gw gr K { f with wn:=f.wn + j } v vo' l (q + n) (s.out ++ y) (x ++ y) /\ Since [g,gf,gw,gr] w vo wr vo') (fun i _=>le - (intOf i).toNat)
     case atStart=>exact ⟨0,[],vo,rfl,Nat.zero_le _,by simp [again],rfl,by simpa using H1.out.1.still ((Only.refl [] w1).drew),(Since.refl _ _ _).step ((H1.out.2.weak (by simp)).drew)⟩
     case round =>
      obtain ⟨j,z,vo',rfl,hj,hag,hzl,hR,hS⟩:=hrel
      by_cases hjl : j < le
      ·have hji : (j : Int) < (le : Int):=by omega
       have hall : (s.out ++ z).length = n0 + j:=by rw [List.length_append,hzl,HF.out.2.1]
       have hb1:=ringback_any g gf gw K { f with wn:=f.wn + j } _ vo' (s.out ++ z) (x ++ z) fr wr hR.on hfr1.1 (by rw [hall]; have:=HLE.out.2.1; omega) hfr1.2 (by rw [hall]; have:=HLE.out.2.2; omega)
       have hsucc:=again_succ fr j s.out
       rw [hag] at hsucc
       obtain ⟨b,hb⟩ : ∃ b,b = (s.out ++ z).getD ((s.out ++ z).length - fr) 0:=⟨_,rfl⟩
       rw [<- hb] at hb1 hsucc
       have hLay:=fun k=>lay_any g gf gw K _ _ vo' _ _ b (wr.drewN k) (hR.drewN k).on (by rw [hall]; have:=HLE.out.2.2; omega) (by rw [List.length_append]; have:=HH.out.2.2.2.2.2.2.2.2.1; have:=HF.out.2.1; have:=HLE.out.2.2; omega)
       have HJ:=hide (aI hR (aI hS (aI hsucc (aI hzl (aI hb1 hLay)))))
       clear hR hS hsucc hzl hb1 hLay hag hall hb hj hjl
       go_wp2_with fail
       refine (HJ.out.2.2.2.2.1).mono ?_
       rintro e w2 ⟨rfl,mm,rfl⟩
       go_wp2_with fail
       refine (HJ.out.2.2.2.2.2 mm).mono ?_
       rintro e w3 ⟨rfl,vo3,hon3,hs3⟩
       have hR3:=(HJ.out.1.drewN mm).lay hon3 hs3 rfl
       rw [List.append_assoc,List.append_assoc] at hR3
       have hS3:=(HJ.out.2.1.step ((Only.refl _ wr).drewN mm)).trans hs3 (fun i hi _=>by simp only [List.mem_cons,List.not_mem_nil,or_false] at hi ⊢; omega)
       have H3:=hide (aI hR3 hS3)
       clear hR3 hS3 hon3 hs3
       go_wp2_with fail
       go_roundw
       case rel=>exact ⟨j + 1,z ++ [b],vo3,by go_num,by omega,by rw [HJ.out.2.2.1,List.append_assoc],by rw [List.length_append,HJ.out.2.2.2.1]; rfl,by exact H3.out.1,H3.out.2⟩
       case measure=>simp [intOf]; omega
      ·obtain rfl : j = le:=by omega
       have HJ:=hide (aI hR (aI hS (aI hag hzl)))
       clear hR hS hag hzl
       go_wp2_with fail
       go_ret
       have hH:=HH.out
       have hnx:=HN.out
       rw [HJ.out.2.2.1] at hnx
       have hMe:=hH.1.mds hH.2.1 HJ.out.2.1
       refine ⟨0,rfl,q + n,z,vo',_,HJ.out.1,HJ.out.2.1,⟨rfl,rfl,rfl,rfl,rfl,rfl,rfl,rfl,rfl⟩,by rw [HJ.out.2.2.2]; have:=HLE.out.2.2; have:=HF.out.2.1; omega,.inl ⟨rfl,_,.one hH.2.2.2.2.1 hnx HF.out.2.2,rfl,?_,.of (by show s.p + n = _; rw [hH.2.2.1]; omega) (by show (7 : Nat) ≠ 1; decide),rfl,rfl⟩⟩
       exact ⟨hMe.last,fun h=>absurd (show (7 : Nat) = 2 from h) (by decide),fun _ _=>hMe.co (by omega) (by omega),fun h=>absurd (show (7 : Nat) = 8 \/ (7 : Nat) = 10 from h) (by decide),fun h=>absurd (show (9 : Nat) <= 7 from h) (by decide),fun _ h=>absurd (show (7 : Nat) <= 6 from h) (by decide),hMe.tab⟩
def LitP (f : DF) (f' : DF) (t : GSt) : Prop:=f'.k = f.k /\ ((t.k = 8 /\ f'.sy = t.sym) \/ (f'.sy = 256 /\ t.k = behindK t.last))
def LitQ (f : DF) (f' : DF) (t : GSt) : Prop:=f'.k = f.k /\ t.k = 7
set_option maxRecDepth 100000 in
set_option maxHeartbeats 8000000 in
theorem literals_any (B : List UInt8) (a o : Nat) (l : List UInt8) (hs : Src B a o l) (g gf gw gr : Nat) (K : List Nat) (f : DF) (v vo : Value) (q : Nat) (x : List UInt8) (s : GSt) (w : World) (h : Rn w g gf gw gr K f v vo l q s.out x) (hk : s.k = 7)
 (hm : Md w f s) (hwf : s.Wf) (hp : s.p = 8 * o + q) (hl : s.out.length <= f.most) (hmost : f.most <= 1073741824) (hx : x.length <= s.out.length) :
 Calls Tryz.prog 237 #[.pointer (some ⟨g,0,none⟩),.pointer (some ⟨gf,0,none⟩)] w (fun e w'=>∃ c : Nat,e = .returned (.int .i64 (c : Int)) /\ Went B a o l g gf gw gr K f v vo x s (LitP f) (LitQ f) w c w'):=by
 have HS:=hide (aI hs (aI hk (aI hwf (aI hmost hx))))
 have HST:=hide (aI h (aI hm (aI hp hl)))
 clear h hm hp hl hs hk hwf hmost hx
 go_enter Tryz.func237,Tryz.ntmps237
 go_wp2_with fail
 go_loopw [5] (fun _ wr=>∃ (q' : Nat) (y : List UInt8) (vo' : Value) (t : GSt),t.k = 7 /\ Stp B a f.most s t /\ t.out = s.out ++ y /\ Rn wr g gf gw gr K { f with wn:=f.wn + y.length } v vo' l q' (s.out ++ y) (x ++ y) /\ Since [g,gf,gw,gr] w vo wr vo' /\ Md wr { f with wn:=f.wn + y.length } t /\ s.out.length + y.length <= f.most /\ t.p = 8 * o + q') (fun _ wr=>8 * l.length - posOf wr gr)
 case atStart=>exact ⟨q,[],vo,s,HS.out.2.1,.refl s,by simp,by simpa using HST.out.1,Since.refl _ _ _,HST.out.2.1,by simpa using HST.out.2.2.2,HST.out.2.2.1⟩
 case round =>
  obtain ⟨q',y,vo',t,htk,hst,hout,hR,hSi,hM,hy,hpt⟩:=hrel
  have hwt : t.Wf:=hst.wf okL okD HS.out.2.2.1
  have hcode:=hwt.code (by omega) (by omega)
  obtain ⟨gc,hco,gT,gD,hcd,hT,hD⟩:=hM.co (by omega) (by omega)
  have hqq:=hR.rd.2.2.2
  have hlen:=HS.out.1.len
  have hoa:=HS.out.1.oa
  have c1 : wr.cell? ⟨g,353,none⟩ = some (.pointer (some ⟨gc,0,none⟩)):=by have:=hR.on.dec.co; rw [hco] at this; exact this
  have c2 : wr.cell? ⟨gc,0,none⟩ = some (.pointer (some ⟨gT,0,none⟩)):=hcd.cell 0
  have c3 : wr.cell? ⟨gf,0,none⟩ = some (.pointer (some ⟨gr,0,none⟩)):=Has.cell hR.on.flow 0
  have hpos:=posOf_eq hR.rd
  obtain ⟨X,c,n,hRead,hcase⟩:=read_gen HS.out.1 gT gr v t.T q' wr.drew (hT.only (Only.refl [] wr).drew (by simp)) (hR.rd.drewN 1) hcode.1
  rw [<- hpt] at hcase
  have hnx:=GSt.nx_7 (L0:=fixedL) (D0:=fixedD2) (N:=num B) (most:=f.most) htk
  have HR:=hide (aI hR (aI hSi (aI hy (aI hM (aI hpos (aI hqq (aI hlen hoa)))))))
  have HT:=hide (aI htk (aI hst (aI hout (aI hpt (aI hwt hnx)))))
  have HC:=hide hRead
  have h11 : t.k ≠ 11:=by omega
  have H11:=hide h11
  clear hR hSi hy hM hpos hqq hlen hoa hRead hco hcd hT hD htk hst hout hpt hwt hnx hcode h11
  rcases hcase with ⟨rfl,rfl,hfar⟩ | ⟨rfl,rfl,hnear,herr⟩ | ⟨rfl,hn,hnear,hqn,hh⟩
  ·have hend:=HT.out.2.1.short H11.out (by rw [HT.out.2.2.2.2.2]; exact hfar)
   have HF:=hide hend
   clear hfar hend
   go_wp2_with fail
   go_region_with (go_at_call 233; refine (HC.out).mono ?_; rintro e w1 ⟨rfl,ho1,hr1⟩)
   clear c1 c2 c3
   all_goals
    have hR1:=(HR.out.1.drewN 1).read ho1 hr1
    have hM1:=(HR.out.1.drewN 1).mdr (HR.out.2.2.2.1.keep (S:=[]) ((Only.refl [] wr).drew) (Other.nil _)) ho1
    have H1:=hide (aI hR1 (aI ho1 hM1))
    clear hR1 ho1 hr1 hM1
    go_wp2_with fail
    go_ret
    exact ⟨2,rfl,q',y,vo',_,H1.out.1,HR.out.2.1.step ((((Only.refl [gr] wr).drew).trans H1.out.2.1 (by simp)).weak (by simp)),⟨rfl,rfl,rfl,rfl,rfl,rfl,rfl,rfl,rfl⟩,HR.out.2.2.1,.inr (.inl ⟨rfl,t,HF.out,HT.out.2.2.1,H1.out.2.2,.of HT.out.2.2.2.1 (by have:=HT.out.1; omega),rfl,HT.out.1⟩)⟩
  ·have hend : End B a f.most s 3 t:=HT.out.2.1.bad H11.out (by rw [HT.out.2.2.2.2.2]; dsimp only; rw [if_pos (.inl herr)]) hnear
   have HF:=hide hend
   clear hnear herr hend
   go_wp2_with fail
   go_region_with (go_at_call 233; refine (HC.out).mono ?_; rintro e w1 ⟨rfl,ho1,hr1⟩)
   clear c1 c2 c3
   all_goals
    have hR1:=(HR.out.1.drewN 1).read ho1 hr1
    have H1:=hide (aI hR1 ho1)
    clear hR1 ho1 hr1
    go_wp2_with fail
    go_ret
    exact ⟨3,rfl,q',y,vo',_,H1.out.1,HR.out.2.1.step ((((Only.refl [gr] wr).drew).trans H1.out.2 (by simp)).weak (by simp)),⟨rfl,rfl,rfl,rfl,rfl,rfl,rfl,rfl,rfl⟩,HR.out.2.2.1,.inr (.inr ⟨.inl rfl,fun h=>h,t,HF.out⟩)⟩
  ·have hnx:=HT.out.2.2.2.2.2
   rw [hh] at hnx
   dsimp only at hnx
   have HHN:=hide (aI hn (aI hnear hqn))
   clear hn hnear hqn hh
   rcases Nat.lt_or_ge 285 X with hX | hX
   ·rw [if_pos (.inr hX)] at hnx
    have hend : End B a f.most s 3 t:=HT.out.2.1.bad H11.out hnx HHN.out.2.1
    have HF:=hide hend
    have hX1 : (286 : Int) <= (X : Int):=by omega
    clear hnx hend hX
    go_wp2_with fail
    go_region_with (go_at_call 233; refine (HC.out).mono ?_; rintro e w1 ⟨rfl,ho1,hr1⟩)
    clear c1 c2 c3
    all_goals
     have hR1:=(HR.out.1.drewN 1).read ho1 hr1
     have H1:=hide (aI hR1 ho1)
     clear hR1 ho1 hr1
     go_wp2_with fail
     go_ret
     exact ⟨3,rfl,_,y,vo',_,H1.out.1,HR.out.2.1.step ((((Only.refl [gr] wr).drew).trans H1.out.2 (by simp)).weak (by simp)),⟨rfl,rfl,rfl,rfl,rfl,rfl,rfl,rfl,rfl⟩,HR.out.2.2.1,.inr (.inr ⟨.inl rfl,fun h=>h,t,HF.out⟩)⟩
   ·rw [if_neg (by omega)] at hnx
    have hX1 : ¬ (286 : Int) <= (X : Int):=by omega
    rcases Nat.lt_or_ge X 256 with hX2 | hX2
    ·rw [if_pos hX2] at hnx
     have hX3 : ¬ (256 : Int) <= (X : Int):=by omega
     have HX:=hide (aI hX2 hnx)
     clear hX hX2 hnx
     go_wp2_with fail
     go_region_with (go_at_call 233; refine (HC.out).mono ?_; rintro e w1 ⟨rfl,ho1,hr1⟩)
     clear c1 c2 c3
     all_goals
      have hR1:=(HR.out.1.drewN 1).read ho1 hr1
      have hM1:=(HR.out.1.drewN 1).mdr (HR.out.2.2.2.1.keep (S:=[]) ((Only.refl [] wr).drew) (Other.nil _)) ho1
      have k0 : w1.cell? ⟨g,0,none⟩ = some (.int .i64 (f.most : Int)):=hR1.on.dec.most
      have k6 : w1.cell? ⟨g,6,none⟩ = some (.int .i64 ((s.out ++ y).length : Int)):=by have:=hR1.on.dec.wn; rw [hR1.on.wn] at this; exact this
      have H1:=hide (aI hR1 (aI ho1 hM1))
      obtain ⟨z,hz⟩ : ∃ z,z = (s.out ++ y).length:=⟨_,rfl⟩
      rw [<- hz] at k6
      have HZ:=hide hz
      clear hR1 ho1 hr1 hM1 hz
      by_cases hfull : z = f.most
      ·have hd : ((z : Int) == (f.most : Int)) = true:=by simp [hfull]
       have hend : End B a f.most s 5 t:=HT.out.2.1.bad H11.out (by
        have h:=HX.out.2
        rw [if_neg (by rw [HT.out.2.2.1]; have:=HZ.out; omega)] at h
        exact h) HHN.out.2.1
       have HF:=hide hend
       clear hfull hend
       go_wp2_with fail
       go_region
       all_goals
        go_wp2_with fail
        go_ret
        exact ⟨5,rfl,_,y,vo',_,H1.out.1.drewN 1,(HR.out.2.1.step ((((Only.refl [gr] wr).drew).trans H1.out.2.1 (by simp)).weak (by simp))).step ((Only.refl _ w1).drew),⟨rfl,rfl,rfl,rfl,rfl,rfl,rfl,rfl,rfl⟩,HR.out.2.2.1,.inr (.inr ⟨.inr rfl,fun h=>h,t,HF.out⟩)⟩
      ·have hd : ((z : Int) == (f.most : Int)) = false:=by simp; omega
       have hd2 : ¬ (z : Int) = (f.most : Int):=by omega
       have hzm : s.out.length + y.length + 1 <= f.most:=by
        have h2:=HZ.out
        have h3:=HR.out.2.2.1
        rw [List.length_append] at h2
        omega
       have hib : (UInt8.ofNat X).toNat = X:=by rw [UInt8.toNat_ofNat']; exact Nat.mod_eq_of_lt HX.out.1
       have hLay:=lay_any g gf gw K _ _ vo' _ _ (UInt8.ofNat X) w1.drew (H1.out.1.drewN 1).on (by rw [List.length_append]; have:=HS.out.2.2.2.1; omega) (by rw [List.length_append]; have:=HS.out.2.2.2; omega)
       rw [hib] at hLay
       have HL:=hide (aI hLay hzm)
       have hX4 : (X : Int) < 256:=by omega
       clear hfull hzm hib hLay
       go_wp2_with fail
       go_region
       all_goals
        go_wp2_with fail
        refine (HL.out.1).mono ?_
        rintro e w2 ⟨rfl,vo2,hon2,hs2⟩
        have hR2:=(H1.out.1.drewN 1).lay hon2 hs2 rfl
        rw [List.append_assoc,List.append_assoc] at hR2
        have hM2:=(H1.out.1.drewN 1).mds (H1.out.2.2.keep (S:=[]) ((Only.refl [] w1).drew) (Other.nil _)) (hs2.more_)
        have hS2 : Since [g,gf,gw,gr] w vo w2 vo2:=((HR.out.2.1.step ((((Only.refl [gr] wr).drew).trans H1.out.2.1 (by simp)).weak (by simp))).step ((Only.refl _ w1).drew)).trans hs2 (fun i hi _=>by simp only [List.mem_cons,List.not_mem_nil,or_false] at hi ⊢; omega)
        have hp2:=posOf_eq hR2.rd
        have H2:=hide (aI hR2 (aI hS2 (aI hp2 hM2)))
        clear hR2 hS2 hp2 hon2 hs2 hM2
        go_wp2_with fail
        go_roundw
        case rel =>
         refine ⟨q' + n,y ++ [UInt8.ofNat X],vo2,{ t with p:=t.p + n,out:=t.out ++ [UInt8.ofNat X] },HT.out.1,HT.out.2.1.snoc H11.out (by
          have h:=HX.out.2
          rw [if_pos (by rw [HT.out.2.2.1,List.length_append]; have:=HL.out.2; omega)] at h
          exact h) HHN.out.2.1,by show t.out ++ _ = _; rw [HT.out.2.2.1,List.append_assoc],?_,H2.out.2.1,?_,by rw [List.length_append,List.length_singleton]; have:=HL.out.2; omega,by show t.p + n = _; rw [HT.out.2.2.2.1]; omega⟩
         ·rw [List.length_append,List.length_singleton,<- Nat.add_assoc]
          exact H2.out.1
         ·have hM:=H2.out.2.2.2
          have hk7:=HT.out.1
          exact ⟨hM.last,fun h=>absurd (show t.k = 2 from h) (by omega),hM.co,fun h=>absurd (show t.k = 8 \/ t.k = 10 from h) (by omega),fun h=>absurd (show 9 <= t.k from h) (by omega),fun _ h=>absurd (show t.k <= 6 from h) (by omega),hM.tab⟩
        case measure =>
         have h1:=HR.out.2.2.2.2.1
         have h2:=H2.out.1.rd.2.2.2
         have h3:=HHN.out.1
         rw [H2.out.2.2.1,h1]
         omega
    ·rw [if_neg (by omega)] at hnx
     have hX3 : (256 : Int) <= (X : Int):=by omega
     have HX:=hide (aI hX2 (aI hX hnx))
     clear hX hX2 hnx
     go_wp2_with fail
     go_region_with (go_at_call 233; refine (HC.out).mono ?_; rintro e w1 ⟨rfl,ho1,hr1⟩; have hR1:=(HR.out.1.drewN 1).read ho1 hr1; have hM1:=(HR.out.1.drewN 1).mdr (HR.out.2.2.2.1.keep (S:=[]) ((Only.refl [] wr).drew) (Other.nil _)) ho1; have k5:=hR1.on.dec.sy; have f5 : w1.frozen? ⟨g,355,none⟩ = false:=Has.free hR1.on.dec 355; have H1:=hide (aI hR1 (aI ho1 hM1)); clear hR1 ho1 hr1 hM1)
     clear c1 c2 c3
     all_goals
      go_wp2_with fail
      go_ret
      have oW : Only [g] w1 (w1.setCell ⟨g,355,none⟩ (.int .i64 (X : Int))):=(Only.refl [g] _).setCell (by simp) _
      have hM:=H1.out.1.mdg H1.out.2.2 oW
      have hk7:=HT.out.1
      have hnx:=HX.out.2.2
      refine ⟨0,rfl,q' + n,y,vo',_,H1.out.1.cells oW (Dc.set_sy H1.out.1.on.dec X) rfl rfl (H1.out.1.keepX oW),(HR.out.2.1.step ((((Only.refl [gr] wr).drew).trans H1.out.2.1 (by simp)).weak (by simp))).step (oW.weak (by simp)),⟨rfl,rfl,rfl,rfl,rfl,rfl,rfl,rfl,rfl⟩,HR.out.2.2.1,.inl ⟨rfl,?_⟩⟩
      by_cases h256 : X = 256
      ·rw [if_pos h256] at hnx
       have hb:=behindK_or' t.last
       refine ⟨_,HT.out.2.1.then_ (.one H11.out hnx HHN.out.2.1),HT.out.2.2.1,?_,.of (by show t.p + n = _; rw [HT.out.2.2.2.1]; omega) (by show behindK t.last ≠ 1; omega),rfl,.inr ⟨h256,rfl⟩⟩
       exact ⟨hM.last,fun h=>absurd (show behindK t.last = 2 from h) (by omega),fun h1 h2=>absurd (aI (show 7 <= behindK t.last from h1) (show behindK t.last <= 10 from h2)) (by omega),fun h=>absurd (show behindK t.last = 8 \/ behindK t.last = 10 from h) (by omega),fun h1 h2=>absurd (aI (show 9 <= behindK t.last from h1) (show behindK t.last <= 10 from h2)) (by omega),fun h1 h2=>absurd (aI (show 4 <= behindK t.last from h1) (show behindK t.last <= 6 from h2)) (by omega),hM.tab⟩
      ·rw [if_neg h256] at hnx
       refine ⟨_,HT.out.2.1.then_ (.one H11.out hnx HHN.out.2.1),HT.out.2.2.1,?_,.of (by show t.p + n = _; rw [HT.out.2.2.2.1]; omega) (by show (8 : Nat) ≠ 1; decide),rfl,.inl ⟨rfl,rfl⟩⟩
       exact ⟨hM.last,fun h=>absurd (show (8 : Nat) = 2 from h) (by decide),fun _ _=>hM.co (by omega) (by omega),fun _=>rfl,fun h=>absurd (show (9 : Nat) <= 8 from h) (by decide),fun _ h=>absurd (show (8 : Nat) <= 6 from h) (by decide),hM.tab⟩
section
variable {B : List UInt8} {a o : Nat} {l : List UInt8} {g gf gw gr : Nat} {K : List Nat} {f f1 f2 : DF} {v vo vo1 vo2 : Value} {q1 q2 : Nat} {x x1 : List UInt8} {s t u : GSt} {w w1 w2 : World} {P Q P' Q' : DF -> GSt -> Prop} {c : Nat}
theorem Went.codes (h : Went B a o l g gf gw gr K f v vo x s P Q w c w1) : c = 0 \/ c = 2 \/ c = 3 \/ c = 5:=by
 obtain ⟨_,_,_,_,_,_,_,_,h⟩:=h
 rcases h with ⟨h,_⟩ | ⟨h,_⟩ | ⟨h | h,_⟩ <;> omega
theorem Went.after (hst : Stp B a f.most s t) {y : List UInt8} (hout : t.out = s.out ++ y) (hS : Since [g,gf,gw,gr] w vo w1 vo1) (hsm : Same f f1) (hk : f.k ≠ 11 -> f1.k ≠ 11) (h : Went B a o l g gf gw gr K f1 v vo1 (x ++ y) t P Q w1 c w2) :
 Went B a o l g gf gw gr K f v vo x s P Q w c w2:=by
 obtain ⟨q',y',vo',f',hR,hS2,hsm2,hle,hcase⟩:=h
 rw [hout,List.append_assoc,List.append_assoc] at hR
 refine ⟨q',y ++ y',vo',f',hR,hS.trans hS2 (fun _ hi _=>hi),hsm.trans hsm2,?_,?_⟩
 ·rw [hsm.most,hout,List.length_append] at hle
  rw [List.length_append]; omega
 ·rw [hsm.most,hout,List.append_assoc] at hcase
  rcases hcase with ⟨rfl,r,h1,h2,h3⟩ | ⟨rfl,r,h1,h2⟩ | ⟨hc,hk2,r,h1⟩
  ·exact .inl ⟨rfl,r,hst.then_ h1,h2,h3⟩
  ·exact .inr (.inl ⟨rfl,r,hst.ends h1,h2⟩)
  ·exact .inr (.inr ⟨hc,fun h0=>hk2 (hk h0),r,hst.ends h1⟩)
theorem Went.weak' (h : Went B a o l g gf gw gr K f v vo x s P Q w c w1) (hc : c ≠ 0) (hQ : ∀ f' t,Q f' t -> Q' f' t) : Went B a o l g gf gw gr K f v vo x s P' Q' w c w1:=by
 obtain ⟨q',y',vo',f',hR,hS2,hsm2,hle,hcase⟩:=h
 refine ⟨q',y',vo',f',hR,hS2,hsm2,hle,?_⟩
 rcases hcase with ⟨h,_⟩ | ⟨rfl,r,h1,h2,h3,h4,h5⟩ | h
 ·exact absurd h hc
 ·exact .inr (.inl ⟨rfl,r,h1,h2,h3,h4,hQ _ _ h5⟩)
 ·exact .inr (.inr h)
structure Now (B : List UInt8) (a o : Nat) (l : List UInt8) (g gf gw gr : Nat) (K : List Nat) (f : DF) (v vo : Value) (x : List UInt8) (s : GSt) (w : World) (f1 : DF) (vo1 : Value) (q1 : Nat) (x1 : List UInt8) (t : GSt) (w1 : World) : Prop where
 rn : Rn w1 g gf gw gr K f1 v vo1 l q1 t.out x1
 md : Md w1 f1 t
 wf : t.Wf
 pt : Pt t o q1
 le : t.out.length <= f1.most
 most : f1.most <= 1073741824
 xl : x1.length <= t.out.length
 src : Src B a o l
 kk : f.k ≠ 11 -> f1.k ≠ 11
 back : ∀ (P Q : DF -> GSt -> Prop) (c : Nat) (w' : World),Went B a o l g gf gw gr K f1 v vo1 x1 t P Q w1 c w' -> Went B a o l g gf gw gr K f v vo x s P Q w c w'
theorem Now.here (hs : Src B a o l) (hr : Rn w g gf gw gr K f v vo l q1 s.out x) (hm : Md w f s) (hwf : s.Wf) (hp : Pt s o q1) (hle : s.out.length <= f.most) (hmost : f.most <= 1073741824) (hx : x.length <= s.out.length) : Now B a o l g gf gw gr K f v vo x s w f vo q1 x s w :=
 ⟨hr,hm,hwf,hp,hle,hmost,hx,hs,fun h=>h,fun _ _ _ _ h=>h⟩
theorem Now.went (h : Now B a o l g gf gw gr K f v vo x s w f1 vo1 q1 x1 t w1) (hw : Went B a o l g gf gw gr K f1 v vo1 x1 t P Q w1 0 w2) (hPk : ∀ f' t,P f' t -> f1.k ≠ 11 -> f'.k ≠ 11:=by exact fun _ _ h hk=>by rw [h.1]; exact hk) :
 ∃ q2 y vo2 f2 u,Now B a o l g gf gw gr K f v vo x s w f2 vo2 q2 (x1 ++ y) u w2 /\ P f2 u:=by
 obtain ⟨q2,y,vo2,f2,hR,hS,hsm,hle,hcase⟩:=hw
 rcases hcase with ⟨_,u,hst,hout,hM,hP,hp⟩ | ⟨h,_⟩ | ⟨h | h,_⟩
 ·refine ⟨q2,y,vo2,f2,u,⟨by rw [hout]; exact hR,hM,hst.1.wf okL okD h.wf,hP,by rw [hout,hsm.most,List.length_append]; exact hle,by rw [hsm.most]; exact h.most,by rw [hout,List.length_append,List.length_append]; have:=h.xl; omega,h.src,fun h0=>hPk _ _ hp (h.kk h0),fun P Q c w' hW=>h.back P Q c w' (Went.after hst.1 hout hS hsm (hPk _ _ hp) hW)⟩,hp⟩
 ·omega
 ·omega
 ·omega
theorem Now.go (h : Now B a o l g gf gw gr K f v vo x s w f1 vo1 q1 x1 t w1) (hst : Stp B a f1.most t u) (hout : u.out = t.out) (hr : Rn w2 g gf gw gr K f2 v vo1 l q2 t.out x1) (ho : Only [g,gr] w1 w2) (hsm : Same f1 f2) (hm : Md w2 f2 u) (hp : Pt u o q2) (hk : f1.k ≠ 11 -> f2.k ≠ 11:=by first | exact fun h=>h | (intro _; dsimp only; decide)) :
 Now B a o l g gf gw gr K f v vo x s w f2 vo1 q2 x1 u w2 :=
 ⟨by rw [hout]; exact hr,hm,hst.wf okL okD h.wf,hp,by rw [hout,hsm.most]; exact h.le,by rw [hsm.most]; exact h.most,by rw [hout]; exact h.xl,h.src,fun h0=>hk (h.kk h0),fun P Q c w' hW =>
   h.back P Q c w' (Went.after (y:=[]) hst (by rw [hout,List.append_nil]) ((Since.refl _ _ _).step (ho.weak (by intro k hk _; simp only [List.mem_cons,List.not_mem_nil,or_false] at hk ⊢; omega))) hsm hk (by rw [List.append_nil]; exact hW))⟩
theorem Now.bad (h : Now B a o l g gf gw gr K f v vo x s w f1 vo1 q1 x1 t w1) (hc : c = 3 \/ c = 5) (he : End B a f1.most t c u) (hr : Rn w2 g gf gw gr K f2 v vo1 l q2 t.out x1) (ho : Only [g,gr] w1 w2) (hsm : Same f1 f2) (hk : f1.k ≠ 11 -> f2.k ≠ 11:=by first | exact fun h=>h | (intro _; dsimp only; decide)) : Went B a o l g gf gw gr K f v vo x s P Q w c w2 :=
 h.back P Q c w2 ⟨q2,[],vo1,f2,by simpa using hr,(Since.refl _ _ _).step (ho.weak (by intro k hk _; simp only [List.mem_cons,List.not_mem_nil,or_false] at hk ⊢; omega)),hsm,by simpa using h.le,.inr (.inr ⟨hc,hk,u,he⟩)⟩
theorem Now.short (h : Now B a o l g gf gw gr K f v vo x s w f1 vo1 q1 x1 t w1) (he : End B a f1.most t 2 u) (hout : u.out = t.out) (hr : Rn w2 g gf gw gr K f2 v vo1 l q2 t.out x1) (ho : Only [g,gr] w1 w2) (hsm : Same f1 f2) (hm : Md w2 f2 u) (hp : Pt u o q2) (hq : Q f2 u) : Went B a o l g gf gw gr K f v vo x s P Q w 2 w2 :=
 h.back P Q 2 w2 ⟨q2,[],vo1,f2,by simpa using hr,(Since.refl _ _ _).step (ho.weak (by intro k hk _; simp only [List.mem_cons,List.not_mem_nil,or_false] at hk ⊢; omega)),hsm,by simpa using h.le,.inr (.inl ⟨rfl,u,he,by rw [hout,List.append_nil],hm,hp,hq⟩)⟩
theorem Now.ok (h : Now B a o l g gf gw gr K f v vo x s w f1 vo1 q1 x1 t w1) (hst : Stp1 B a f1.most t u) (hout : u.out = t.out) (hr : Rn w2 g gf gw gr K f2 v vo1 l q2 t.out x1) (ho : Only [g,gr] w1 w2) (hsm : Same f1 f2) (hm : Md w2 f2 u) (hp : Pt u o q2) (hq : P f2 u) : Went B a o l g gf gw gr K f v vo x s P Q w 0 w2 :=
 h.back P Q 0 w2 ⟨q2,[],vo1,f2,by simpa using hr,(Since.refl _ _ _).step (ho.weak (by intro k hk _; simp only [List.mem_cons,List.not_mem_nil,or_false] at hk ⊢; omega)),hsm,by simpa using h.le,.inl ⟨rfl,u,hst,by rw [hout,List.append_nil],hm,hp,hq⟩⟩
theorem Now.setk (h : Now B a o l g gf gw gr K f v vo x s w f1 vo1 q1 x1 t w1) (k : Nat) (hk11 : k ≠ 11:=by decide) : Now B a o l g gf gw gr K f v vo x s w { f1 with k:=k } vo1 q1 x1 t (w1.setCell ⟨g,1,none⟩ (.int .i64 (k : Int))):=by
 have oW : Only [g] w1 (w1.setCell ⟨g,1,none⟩ (.int .i64 (k : Int))):=(Only.refl [g] _).setCell (by simp) _
 have hM:=h.rn.mdg h.md oW
 exact h.go (.refl t) rfl (h.rn.cells oW (Dc.set_k h.rn.on.dec k) rfl rfl (h.rn.keepX oW)) (oW.weak (by simp)) ⟨rfl,rfl,rfl,rfl,rfl,rfl,rfl,rfl,rfl⟩ ⟨hM.last,hM.left,hM.co,hM.sy,hM.le,hM.hd,hM.tab⟩ h.pt (fun _=>hk11)
theorem Went.setk (h : Went B a o l g gf gw gr K f v vo x s P Q w 0 w1) (k : Nat) (hP : ∀ f' t,P f' t -> t.k = k) : Went B a o l g gf gw gr K f v vo x s (fun f' t=>f'.k = t.k) Q' w 0 (w1.setCell ⟨g,1,none⟩ (.int .i64 (k : Int))):=by
 obtain ⟨q',y',vo',f',hR,hS2,hsm2,hle,hcase⟩:=h
 have oW : Only [g] w1 (w1.setCell ⟨g,1,none⟩ (.int .i64 (k : Int))):=(Only.refl [g] _).setCell (by simp) _
 rcases hcase with ⟨_,r,h1,h2,hM,h4,h5⟩ | ⟨h,_⟩ | ⟨h | h,_⟩
 ·have hM:=hR.mdg hM oW
  exact ⟨q',y',vo',{ f' with k:=k },hR.cells oW (Dc.set_k hR.on.dec k) rfl rfl (hR.keepX oW),hS2.step (oW.weak (by simp)),hsm2.trans ⟨rfl,rfl,rfl,rfl,rfl,rfl,rfl,rfl,rfl⟩,hle,.inl ⟨rfl,r,h1,h2,⟨hM.last,hM.left,hM.co,hM.sy,hM.le,hM.hd,hM.tab⟩,h4,(hP _ _ h5).symm⟩⟩
 ·omega
 ·omega
 ·omega
end
theorem part_take' (B : List UInt8) (a j n : Nat) (h : j + n <= a) : ((B.take a).drop j).take n = (B.drop j).take n:=by
 rw [List.drop_take,List.take_take,Nat.min_eq_left (by omega)]
def tS (t : GSt) (n p : Nat) (out : List UInt8) : GSt:={ t with k:=stK t.last n,left:=n,p:=p,out:=out }
theorem bytes_steps {B : List UInt8} {a most : Nat} (t : GSt) (n p : Nat) (out : List UInt8) : ∀ j,j <= n -> p + 8 * j <= 8 * a -> out.length + j <= most -> Stp B a most (tS t n p out) (tS t (n - j) (p + 8 * j) (out ++ bytesAt (num B) p j))
 | 0,_,_,_=>by
   have e : out ++ bytesAt (num B) p 0 = out:=by simp [bytesAt]
   rw [e]; exact .refl _
 | j + 1,h1,h2,h3=>by
   have ih:=bytes_steps (B:=B) (a:=a) (most:=most) t n p out j (by omega) (by omega) (by omega)
   have hk : (tS t (n - j) (p + 8 * j) (out ++ bytesAt (num B) p j)).k = 2:=stK_pos _ (by omega)
   have hnx:=GSt.nx_2 (L0:=fixedL) (D0:=fixedD2) (N:=num B) (most:=most) hk
   rw [if_pos (by show (out ++ bytesAt (num B) p j).length < most; rw [List.length_append,bytesAt_length]; omega)] at hnx
   have hfin:=ih.snoc (by omega) hnx (by show p + 8 * j + 8 <= _; omega)
   have e : tS t (n - (j + 1)) (p + 8 * (j + 1)) (out ++ bytesAt (num B) p (j + 1)) = { tS t (n - j) (p + 8 * j) (out ++ bytesAt (num B) p j) with k:=stK t.last (n - j - 1),left:=n - j - 1,p:=p + 8 * j + 8,out:=out ++ bytesAt (num B) p j ++ [UInt8.ofNat (num B / 2 ^ (p + 8 * j))] }:=by
    unfold tS
    rw [bytesAt_succ,List.append_assoc,show n - (j + 1) = n - j - 1 by omega,show p + 8 * (j + 1) = p + 8 * j + 8 by omega]
   rw [e]
   exact hfin
theorem bytes_long {B : List UInt8} {a most : Nat} (t : GSt) (n p m : Nat) (out : List UInt8) (hm : m <= n) (hp : p + 8 * m <= 8 * a) (ho : out.length <= most) (hl : most < out.length + m) : ∃ u,End B a most (tS t n p out) 5 u:=by
 have h:=bytes_steps (B:=B) (a:=a) (most:=most) t n p out (most - out.length) (by omega) (by omega) (by omega)
 have hk : (tS t (n - (most - out.length)) (p + 8 * (most - out.length)) (out ++ bytesAt (num B) p (most - out.length))).k = 2:=stK_pos _ (by omega)
 have hnx:=GSt.nx_2 (L0:=fixedL) (D0:=fixedD2) (N:=num B) (most:=most) hk
 rw [if_neg (by show ¬ (out ++ bytesAt (num B) p (most - out.length)).length < most; rw [List.length_append,bytesAt_length]; omega)] at hnx
 exact ⟨_,h.bad (by omega) hnx (by show p + 8 * (most - out.length) + 8 <= _; omega)⟩
def Stored (B : List UInt8) (a o : Nat) (l : List UInt8) (g gf gw gr : Nat) (K : List Nat) (f : DF) (v vo : Value) (x : List UInt8) (t : GSt) (w : World) (c : Nat) (w' : World) : Prop :=
 ∃ (q' : Nat) (y : List UInt8) (vo' : Value) (f' : DF),Rn w' g gf gw gr K f' v vo' l q' (t.out ++ y) (x ++ y) /\ Since [g,gf,gw,gr] w vo w' vo' /\ Same f f' /\ t.out.length + y.length <= f.most /\ f'.k = f.k /\
   ((c = 0 /\ ∃ u,Stp B a f.most t u /\ u.out = t.out ++ y /\ Md w' f' u /\ Pt u o q' /\ u.k = behindK u.last /\ (0 < t.left -> u.ms a < t.ms a)) \/
     (c = 2 /\ ∃ u,End B a f.most t 2 u /\ u.out = t.out ++ y /\ Md w' f' u /\ Pt u o q' /\ u.k = 2) \/
     (c = 5 /\ ∃ u,End B a f.most t 5 u))
theorem stored_step (B : List UInt8) (a o : Nat) (l : List UInt8) (hs : Src B a o l) (g gf gw gr : Nat) (K : List Nat) (f : DF) (v vo : Value) (q : Nat) (x : List UInt8) (t : GSt) (w : World) (h : Rn w g gf gw gr K f v vo l q t.out x) (hkt : t.k = stK t.last t.left) (hfl : f.left = t.left) (hlast : f.last = t.last) (htab : Tab w)
 (hp : t.p = 8 * o + q) (hq : q % 8 = 0) (hlf : t.left < 65536) (hl : t.out.length <= f.most) (hmost : f.most <= 1073741824) (hx : x.length <= t.out.length) :
 Calls Tryz.prog 221 #[.pointer (some ⟨g,0,none⟩),.pointer (some ⟨gf,0,none⟩)] w (fun e w'=>∃ c : Nat,e = .returned (.int .i64 (c : Int)) /\ Stored B a o l g gf gw gr K f v vo x t w c w'):=by
 have hlen:=hs.len
 have hoa:=hs.oa
 have haB:=hs.aB
 have hqq:=h.rd.2.2.2
 obtain ⟨n,hn⟩ : ∃ n,n = min f.left ((8 * l.length - q) / 8):=⟨_,rfl⟩
 have het : t = tS t t.left t.p t.out:=by
  show t = { t with k:=stK t.last t.left,left:=t.left,p:=t.p,out:=t.out }
  rw [<- hkt]
 rcases Nat.lt_or_ge f.most (t.out.length + n) with hlong | hfit
 ·refine (stored_long g gf gw gr K f v vo l q t.out x w h n hn hl hlong hmost).mono ?_
  rintro e w' ⟨rfl,m,rfl⟩
  obtain ⟨u,hu⟩:=bytes_long (B:=B) (a:=a) (most:=f.most) t t.left t.p n t.out (by omega) (by omega) hl hlong
  rw [<- het] at hu
  exact ⟨5,rfl,q,[],vo,f,by simpa using h.drewN m,(Since.refl _ _ _).step ((Only.refl _ _).drewN m),Same.refl f,by simpa using hl,rfl,.inr (.inr ⟨rfl,u,hu⟩)⟩
 ·have hbs : (l.drop (q / 8)).take n = bytesAt (num B) t.p n:=by
   rw [hp,show 8 * o + q = 8 * (o + q / 8) by omega,bytesAt_num _ _ _ (by omega),hs.eq,List.drop_drop,part_take' _ _ _ _ (by omega)]
  refine (stored_ok g gf gw gr K f v vo l q t.out x w h n hn hq hfit hmost hx (by omega) _ hbs.symm).mono ?_
  rintro e w' ⟨rfl,vo',hR,hSi⟩
  have hst:=bytes_steps (B:=B) (a:=a) (most:=f.most) t t.left t.p t.out n (by omega) (by omega) hfit
  rw [<- het] at hst
  have hyl : (bytesAt (num B) t.p n).length = n:=bytesAt_length _ _ _
  have htab':=htab.only hSi.only (fun k hk hlt=>(h.other k hk hlt).2)
  rcases Nat.eq_zero_or_pos (f.left - n) with h0 | h0
  ·have hkk : (tS t (t.left - n) (t.p + 8 * n) (t.out ++ bytesAt (num B) t.p n)).k = behindK t.last:=by
    show stK t.last (t.left - n) = _
    rw [show t.left - n = 0 by omega]; rfl
   have hor:=behindK_or' t.last
   refine ⟨0,by rw [h0]; rfl,q + 8 * n,bytesAt (num B) t.p n,vo',_,hR,hSi,⟨rfl,rfl,rfl,rfl,rfl,rfl,rfl,rfl,rfl⟩,by rw [hyl]; exact hfit,rfl,.inl ⟨rfl,_,hst,rfl,⟨hlast,fun h=>absurd (hkk.symm.trans h) (by omega),fun h1 h2=>absurd (aI (hkk ▸ h1) (hkk ▸ h2)) (by omega),fun h=>absurd (hkk ▸ h) (by omega),fun h1 h2=>absurd (aI (hkk ▸ h1) (hkk ▸ h2)) (by omega),fun h1 h2=>absurd (aI (hkk ▸ h1) (hkk ▸ h2)) (by omega),htab'⟩,.of (by show t.p + 8 * n = _; omega) (by rw [hkk]; omega),hkk,fun hpos=>?_⟩⟩
   have h1 : 0 < n:=by omega
   have h2:=GSt.rk_le (tS t (t.left - n) (t.p + 8 * n) (t.out ++ bytesAt (num B) t.p n)).k
   show 2 * (8 * a - (t.p + 8 * n)) + GSt.rk _ < 2 * (8 * a - t.p) + GSt.rk t.k
   omega
  ·have hkk : (tS t (t.left - n) (t.p + 8 * n) (t.out ++ bytesAt (num B) t.p n)).k = 2:=stK_pos _ (by omega)
   refine ⟨2,by rw [if_pos h0]; rfl,q + 8 * n,bytesAt (num B) t.p n,vo',_,hR,hSi,⟨rfl,rfl,rfl,rfl,rfl,rfl,rfl,rfl,rfl⟩,by rw [hyl]; exact hfit,rfl,.inr (.inl ⟨rfl,_,hst.short (by omega) (by rw [GSt.nx_2 hkk]; show 8 * a < t.p + 8 * n + 8; omega),rfl,⟨hlast,fun _=>(by show f.left - n = t.left - n; omega),fun h1=>absurd (hkk ▸ h1) (by omega),fun h=>absurd (hkk ▸ h) (by omega),fun h1=>absurd (hkk ▸ h1) (by omega),fun h1=>absurd (hkk ▸ h1) (by omega),htab'⟩,.of (by show t.p + 8 * n = _; omega) (by omega),hkk⟩)⟩
end Go.Proofs.YtmfoeihapalkpaaGreatDoor
