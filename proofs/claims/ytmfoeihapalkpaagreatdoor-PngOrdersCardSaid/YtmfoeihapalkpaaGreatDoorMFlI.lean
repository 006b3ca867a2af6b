import Derived.Test.YtmfoeihapalkpaaGreatDoorMFlF
namespace Go.Proofs.YtmfoeihapalkpaaGreatDoor
open Go Go.RowKit
def numOf (w : World) (g i : Nat) : Nat:=match w.cell? ⟨g,i,none⟩ with
 | some (.int _ k)=>k.toNat
 | _=>0
theorem numOf_eq {w : World} {g i n : Nat} (h : w.cell? ⟨g,i,none⟩ = some (.int .i64 (n : Int))) : numOf w g i = n:=by
 unfold numOf
 rw [h]
 rfl
def lensS (s : GSt) (L : List UInt8) (p : Nat) : GSt:={ s with lens:=L,p:=p }
theorem Hd.set_len {w : World} {hd : Nat -> Value} {s : GSt} {L : List UInt8} {b : UInt8} {p p' n : Nat} (h : Hd w hd (lensS s L p)) (hn : n = L.length) (h19 : s.own.length = 19) (hl : n < 316) :
 Hd w (fun j=>if j = 352 then .int .i64 ((n + 1 : Nat) : Int) else if j = 36 + n then .int .u8 (b.toNat : Int) else hd j) (lensS s (L ++ [b]) p'):=by
 have key : ∀ j,j < 36 -> (fun j=>if j = 352 then Value.int .i64 ((n + 1 : Nat) : Int) else if j = 36 + n then .int .u8 (b.toNat : Int) else hd j) j = hd j:=fun j hj=>by
  show (if j = 352 then _ else if j = 36 + n then _ else hd j) = _
  rw [if_neg (by omega),if_neg (by omega)]
 refine ⟨(key 11 (by decide)).trans h.nl,(key 12 (by decide)).trans h.nd,(key 13 (by decide)).trans h.no,fun i hi=>?_,(key 33 (by decide)).trans h.nOwn,fun h5=>?_,fun h6=>(key 35 (by decide)).trans (h.sym h6),fun i hi=>?_,?_⟩
 ·have hi2 : i < s.own.length:=hi
  exact (key (14 + i) (by omega)).trans (h.own i hi)
 ·obtain ⟨gt,h1,h2⟩:=h.tb h5
  exact ⟨gt,(key 34 (by decide)).trans h1,h2⟩
 ·have hi3 : i < (L ++ [b]).length:=hi
  have hi2:=hi3
  rw [List.length_append,List.length_singleton] at hi2
  show (if 36 + i = 352 then _ else if 36 + i = 36 + n then _ else hd (36 + i)) = .int .u8 (((L ++ [b])[i]'hi3).toNat : Int)
  rw [if_neg (by omega)]
  by_cases hin : i = n
  ·rw [if_pos (by omega)]
   have : (L ++ [b])[i]'hi3 = b:=by
    have e : (L ++ [b])[i]? = some b:=by rw [hin,hn,List.getElem?_append_right (Nat.le_refl _)]; simp
    rw [List.getElem?_eq_getElem hi3] at e
    exact Option.some.inj e
   rw [this]
  ·rw [if_neg (by omega)]
   have hiL : i < L.length:=by omega
   have : (L ++ [b])[i]'hi3 = L[i]:=List.getElem_append_left hiL
   rw [this]
   exact h.lens i hiL
 ·show (if 352 = 352 then _ else _) = _
  rw [if_pos rfl,show (lensS s (L ++ [b]) p').lens.length = n + 1 by show (L ++ [b]).length = _; rw [List.length_append,hn]; rfl]
def RepQ (f f' : DF) (t : GSt) : Prop:=f'.k = f.k /\ t.k = 6
def Repd (B : List UInt8) (a o : Nat) (l : List UInt8) (g gf gw gr : Nat) (K : List Nat) (f : DF) (v vo : Value) (q : Nat) (x : List UInt8) (s : GSt) (w : World) (c : Nat) (w' : World) : Prop :=
 (c = 0 /\ ∃ (f' : DF) (L : List UInt8),L = s.lens ++ List.replicate (repM s.sym + num B / 2 ^ s.p % 2 ^ repB s.sym) (repV s.sym s.lens) /\ Rn w' g gf gw gr K f' v vo l (q + repB s.sym) s.out x /\ Only [g,gr] w w' /\ Same f f' /\ f'.k = f.k /\
     8 * o + q + repB s.sym <= 8 * a /\ L.length <= s.nl + s.nd /\ Md w' f' (lensS s L (8 * o + q + repB s.sym))) \/
   (c ≠ 0 /\ Went B a o l g gf gw gr K f v vo x s (fun _ _=>False) (RepQ f) w c w')
set_option maxRecDepth 100000 in
set_option maxHeartbeats 16000000 in
theorem repeatH_any (B : List UInt8) (a o : Nat) (l : List UInt8) (hs : Src B a o l) (g gf gw gr : Nat) (K : List Nat) (f : DF) (v vo : Value) (q : Nat) (x : List UInt8) (s : GSt) (w : World) (h : Rn w g gf gw gr K f v vo l q s.out x) (hk : s.k = 6)
 (hm : Md w f s) (hwf : s.Wf) (hp : s.p = 8 * o + q) (hl : s.out.length <= f.most) :
 Calls Tryz.prog 226 #[.pointer (some ⟨g,11,none⟩),.pointer (some ⟨gr,0,none⟩)] w (fun e w'=>∃ c : Nat,e = .returned (.int .i64 (c : Int)) /\ Repd B a o l g gf gw gr K f v vo q x s w c w'):=by
 have hHd:=hm.hd (by omega) (by omega)
 have hhead:=hwf.head (by omega) (by omega)
 have hsaid:=hwf.said (by omega) (by omega)
 have hsy:=hwf.sym6 hk
 have hnx:=GSt.nx_6 (L0:=fixedL) (D0:=fixedD2) (N:=num B) (most:=f.most) hk
 have h11 : s.k ≠ 11:=by omega
 have c35 : w.cell? ⟨g,35,none⟩ = some (.int .i64 (s.sym : Int)):=by rw [h.on.dec.hd (by decide) (by decide),hHd.sym hk]
 have hB:=bits_gen hs gr v q (repB s.sym) (by unfold repB; split <;> (try split) <;> (try split) <;> omega) w h.rd
 obtain ⟨y,hy⟩ : ∃ y,y = s.sym:=⟨_,rfl⟩
 rw [<- hy] at c35
 obtain ⟨nb,hnb⟩ : ∃ nb,nb = repB s.sym:=⟨_,rfl⟩
 obtain ⟨le,hle⟩ : ∃ le,le = repM s.sym:=⟨_,rfl⟩
 obtain ⟨nbI,hnbI⟩ : ∃ z : Int,z = (nb : Int):=⟨_,rfl⟩
 obtain ⟨leI,hleI⟩ : ∃ z : Int,z = (le : Int):=⟨_,rfl⟩
 rw [<- hnb,<- hp] at hB
 rw [<- hnb,<- hle] at hnx
 rw [<- hnbI] at hB
 have hcase : (y = 16 /\ nbI = 2 /\ leI = 3) \/ (y = 17 /\ nbI = 3 /\ leI = 3) \/ (y = 18 /\ nbI = 7 /\ leI = 11) \/ (y < 16 /\ nbI = 0 /\ leI = 1):=by
  rw [hnbI,hleI,hnb,hle,hy]
  have h18:=hsy.1
  unfold repB repM
  by_cases h1 : s.sym = 16
  ·rw [h1]; exact .inl ⟨rfl,rfl,rfl⟩
  by_cases h2 : s.sym = 17
  ·rw [h2]; exact .inr (.inl ⟨rfl,rfl,rfl⟩)
  by_cases h3 : s.sym = 18
  ·rw [h3]; exact .inr (.inr (.inl ⟨rfl,rfl,rfl⟩))
  ·refine .inr (.inr (.inr ⟨by omega,?_,?_⟩))
   ·rw [if_neg h1,if_neg h2,if_neg h3]; rfl
   ·rw [if_neg (by omega),if_neg h3]; rfl
 have hle11 : le <= 11 /\ nb <= 7:=by omega
 obtain ⟨z,hz⟩ : ∃ z,z = num B / 2 ^ s.p % 2 ^ nb:=⟨_,rfl⟩
 have hz2 : z < 128:=by
  have h1 : z < 2 ^ nb:=by rw [hz]; exact Nat.mod_lt _ (Nat.two_pow_pos _)
  have h2 : 2 ^ nb <= 2 ^ 7:=Nat.pow_le_pow_right (by decide) hle11.2
  omega
 obtain ⟨n0,hn0⟩ : ∃ n0,n0 = s.lens.length:=⟨_,rfl⟩
 obtain ⟨n1,hn1⟩ : ∃ n1,n1 = n0 + le:=⟨_,rfl⟩
 obtain ⟨pa,hpa⟩ : ∃ pa,pa = n1 + z:=⟨_,rfl⟩
 obtain ⟨sm,hsm⟩ : ∃ sm,sm = s.nl + s.nd:=⟨_,rfl⟩
 have e1 : (n0 : Int) + leI = (n1 : Int):=by omega
 have e2 : (n1 : Int) + (z : Int) = (pa : Int):=by omega
 have e3 : (s.nl : Int) + (s.nd : Int) = (sm : Int):=by omega
 have b1 : n0 < 316 /\ n1 < 400 /\ pa < 600 /\ sm <= 316:=by omega
 have b2 : s.nl <= 286 /\ s.nd <= 30:=by omega
 rw [<- hz] at hB hnx
 have HH:=hide (aI h (aI hm (aI hp (aI hl (aI h11 (aI hk (aI hHd (aI hhead (aI hsaid hsy)))))))))
 have HN:=hide (aI hnb (aI hle (aI hz (aI hn0 (aI hn1 (aI hpa (aI hsm hnx)))))))
 clear hs h hm hp hl hk hwf hnx hHd hhead hsaid hsy h11 hnb hle hz hn0 hn1 hpa hsm hnbI hleI hy
 rcases hB with ⟨hfar,hB⟩ | ⟨hnear,hB⟩
 ·have HB:=hide (aI hB hfar)
  clear hB hfar e1 e2 e3 b1 b2 hz2 hle11
  have hfin : ∀ w1,Only [gr] w w1 -> Rd w1 gr v l q -> Repd B a o l g gf gw gr K f v vo q x s w 2 w1:=fun w1 ho1 hr1=>by
   have hH:=HH.out
   exact .inr ⟨by decide,q,[],vo,f,by simpa using hH.1.read ho1 hr1,(Since.refl _ _ _).step (ho1.weak (by simp)),Same.refl f,by simpa using hH.2.2.2.1,.inr (.inl ⟨rfl,s,.short s hH.2.2.2.2.1 (by rw [HN.out.2.2.2.2.2.2.2]; exact HB.out.2),by simp,hH.1.mdr hH.2.1 ho1,.of hH.2.2.1 (by have:=hH.2.2.2.2.2.1; omega),rfl,hH.2.2.2.2.2.1⟩)⟩
  have HFin:=hide hfin
  clear hfin
  rcases hcase with ⟨rfl,rfl,rfl⟩ | ⟨rfl,rfl,rfl⟩ | ⟨rfl,rfl,rfl⟩ | ⟨hlt,rfl,rfl⟩
  all_goals
   go_enter Tryz.func226,Tryz.ntmps226
   go_wp2_with fail
   refine (HB.out.1).mono ?_
   rintro e w1 ⟨rfl,ho1,hr1⟩
   have H1:=hide (aI ho1 hr1)
   clear ho1 hr1
   go_wp2_with fail
   go_ret
   exact ⟨2,rfl,HFin.out w1 H1.out.1 H1.out.2⟩
 ·have HB:=hide (aI hB hnear)
  clear hB hnear
  by_cases hlong : sm < pa
  ·have hfin : ∀ w1,Only [gr] w w1 -> Rd w1 gr v l (q + nb) -> Repd B a o l g gf gw gr K f v vo q x s w 3 w1:=fun w1 ho1 hr1=>by
    have hH:=HH.out
    have hnx:=HN.out.2.2.2.2.2.2.2
    have hN:=HN.out
    rw [if_pos (by rw [List.length_append,List.length_replicate]; omega)] at hnx
    exact .inr ⟨by decide,q + nb,[],vo,f,by simpa using hH.1.read ho1 hr1,(Since.refl _ _ _).step (ho1.weak (by simp)),Same.refl f,by simpa using hH.2.2.2.1,.inr (.inr ⟨.inl rfl,fun h=>h,s,(Steps.refl s).bad hH.2.2.2.2.1 hnx HB.out.2⟩)⟩
   have HFin:=hide hfin
   have hli : (sm : Int) < (pa : Int):=by omega
   clear hfin hlong
   rcases hcase with ⟨rfl,rfl,rfl⟩ | ⟨rfl,rfl,rfl⟩ | ⟨rfl,rfl,rfl⟩ | ⟨hlt,rfl,rfl⟩
   all_goals
    go_enter Tryz.func226,Tryz.ntmps226
    go_wp2_with fail
    refine (HB.out.1).mono ?_
    rintro e w1 ⟨rfl,ho1,hr1⟩
    have h1:=HH.out.1.read ho1 hr1
    have c11 : w1.cell? ⟨g,11,none⟩ = some (.int .i64 (s.nl : Int)):=by rw [h1.on.dec.hd (by decide) (by decide),HH.out.2.2.2.2.2.2.1.nl]
    have c12 : w1.cell? ⟨g,12,none⟩ = some (.int .i64 (s.nd : Int)):=by rw [h1.on.dec.hd (by decide) (by decide),HH.out.2.2.2.2.2.2.1.nd]
    have c352 : w1.cell? ⟨g,352,none⟩ = some (.int .i64 (n0 : Int)):=by rw [h1.on.dec.hd (by decide) (by decide),HH.out.2.2.2.2.2.2.1.n,<- HN.out.2.2.2.1]
    have H1:=hide (aI ho1 hr1)
    clear ho1 hr1 h1
    go_wp2_with fail
    go_region
    all_goals
     go_wp2_with fail
     go_ret
     exact ⟨3,rfl,HFin.out _ (H1.out.1.drew) (H1.out.2.drewN 1)⟩
  ·have hli : ¬ (sm : Int) < (pa : Int):=by omega
   have HL:=hide hlong
   clear hlong
   rcases hcase with ⟨rfl,rfl,rfl⟩ | ⟨rfl,rfl,rfl⟩ | ⟨rfl,rfl,rfl⟩ | ⟨hlt,rfl,rfl⟩
   all_goals
    go_enter Tryz.func226,Tryz.ntmps226
    go_wp2_with fail
    refine (HB.out.1).mono ?_
    rintro e w1 ⟨rfl,ho1,hr1⟩
    have h1:=HH.out.1.read ho1 hr1
    have c11 : w1.cell? ⟨g,11,none⟩ = some (.int .i64 (s.nl : Int)):=by rw [h1.on.dec.hd (by decide) (by decide),HH.out.2.2.2.2.2.2.1.nl]
    have c12 : w1.cell? ⟨g,12,none⟩ = some (.int .i64 (s.nd : Int)):=by rw [h1.on.dec.hd (by decide) (by decide),HH.out.2.2.2.2.2.2.1.nd]
    have c352 : w1.cell? ⟨g,352,none⟩ = some (.int .i64 (n0 : Int)):=by rw [h1.on.dec.hd (by decide) (by decide),HH.out.2.2.2.2.2.2.1.n,<- HN.out.2.2.2.1]
    have hM1:=HH.out.1.mdr HH.out.2.1 ho1
    have hH:=HH.out
    have hMe:=meant_any g f s w1.drew (Has.only h1.on.dec (Only.refl [] w1).drew (by simp)) ((hM1.hd (by omega) (by omega)).keep (S:=[]) (Only.refl [] w1).drew (Other.nil _)) hH.2.2.2.2.2.1 hH.2.2.2.2.2.2.2.2.2.1 hH.2.2.2.2.2.2.2.2.2.2 (by have:=HN.out.2.2.2.1; omega)
    have H1:=hide (aI ho1 (aI h1 (aI hM1 hMe)))
    clear ho1 hr1 h1 hM1 hMe hH
    go_wp2_with fail
    go_region
    all_goals
     go_wp2_with fail
     refine (H1.out.2.2.2).mono ?_
     rintro e w2 ⟨rfl,mm,rfl⟩
     clear c11 c12 c352 e1 e2 e3
     go_wp2_with fail
     go_loopw [51] (fun _ wr=>∃ (j : Nat) (f' : DF),n0 + j <= pa /\ Rn wr g gf gw gr K f' v vo l (q + nb) s.out x /\ Only [g,gr] w wr /\ Same f f' /\ f'.k = f.k /\ Md wr f' (lensS s (s.lens ++ List.replicate j (repV s.sym s.lens)) (8 * o + q + nb))) (fun _ wr=>pa - numOf wr g 352)
     case atStart =>
      have oS : Only [] w1 (w1.drewN (1 + mm)):=(Only.refl [] w1).drewN _
      exact ⟨0,f,by have:=HN.out; omega,H1.out.2.1.still oS,(H1.out.1.weak (by simp)).trans oS (by simp),Same.refl f,rfl,by
       have hM:=H1.out.2.2.1.keep oS (Other.nil _)
       have e : lensS s (s.lens ++ List.replicate 0 (repV s.sym s.lens)) (8 * o + q + nb) = lensS s s.lens (8 * o + q + nb):=by rw [List.replicate_zero,List.append_nil]
       rw [e]
       exact ⟨hM.last,hM.left,hM.co,hM.sy,hM.le,fun h1 h2=>⟨(hM.hd h1 h2).nl,(hM.hd h1 h2).nd,(hM.hd h1 h2).no,(hM.hd h1 h2).own,(hM.hd h1 h2).nOwn,(hM.hd h1 h2).tb,(hM.hd h1 h2).sym,(hM.hd h1 h2).lens,(hM.hd h1 h2).n⟩,hM.tab⟩⟩
     case round =>
      obtain ⟨j,f',hj,hR,ho,hsme,hkk,hM⟩:=hrel
      have hk6:=HH.out.2.2.2.2.2.1
      have hHd:=hM.hd (show 4 <= s.k by omega) (show s.k <= 6 by omega)
      obtain ⟨nj,hnj⟩ : ∃ nj,nj = n0 + j:=⟨_,rfl⟩
      have hLl : (s.lens ++ List.replicate j (repV s.sym s.lens)).length = nj:=by rw [List.length_append,List.length_replicate,hnj,HN.out.2.2.2.1]
      have c352 : wr.cell? ⟨g,352,none⟩ = some (.int .i64 (nj : Int)):=by
       rw [hR.on.dec.hd (by decide) (by decide),hHd.n]
       show some (Value.int .i64 (((s.lens ++ List.replicate j (repV s.sym s.lens)).length : Nat) : Int)) = _
       rw [hLl]
      have hnum:=numOf_eq c352
      by_cases hlt : nj < pa
      ·have hli2 : (nj : Int) < (pa : Int):=by omega
       have hb316 : nj < 316:=by have:=HL.out; omega
       have cst : wr.cell? ⟨g,36 + nj,none⟩ = some (f'.hd (36 + nj)):=hR.on.dec.hd (by omega) (by omega)
       have fst : wr.frozen? ⟨g,36 + nj,none⟩ = false:=Has.free hR.on.dec _
       generalize f'.hd (36 + nj) = u at cst
       have HR:=hide (aI hR (aI ho (aI hsme (aI hkk (aI hM (aI hLl (aI hnj (aI hnum (aI hHd hlt)))))))))
       clear hR ho hsme hkk hM hLl hnj hnum hHd hj hlt
       go_wp2_with fail
       go_region
       all_goals
        obtain ⟨b,hb⟩ : ∃ b,b = repV s.sym s.lens:=⟨_,rfl⟩
        rw [<- hb]
        have d2 : Dc (wr.setCell ⟨g,36 + nj,none⟩ (.int .u8 (b.toNat : Int))).drew g { f' with hd:=fun i=>if i = 36 + nj then .int .u8 (b.toNat : Int) else f'.hd i }:=Dc.set_hd HR.out.1.on.dec (by omega) (by omega) _
        have o2 : Only [g] wr (wr.setCell ⟨g,36 + nj,none⟩ (.int .u8 (b.toNat : Int))).drew:=((Only.refl [g] wr).setCell (by simp) _).drew
        have k352 : (wr.setCell ⟨g,36 + nj,none⟩ (.int .u8 (b.toNat : Int))).drew.cell? ⟨g,352,none⟩ = some (.int .i64 (nj : Int)):=by
         rw [d2.hd (by decide) (by decide)]
         show some (if 352 = 36 + nj then _ else f'.hd 352) = _
         rw [if_neg (by omega),<- HR.out.1.on.dec.hd (by decide) (by decide)]
         exact c352
        have q352 : (wr.setCell ⟨g,36 + nj,none⟩ (.int .u8 (b.toNat : Int))).drew.frozen? ⟨g,352,none⟩ = false:=Has.free d2 352
        have H2:=hide (aI d2 (aI o2 hb))
        clear d2 o2 cst fst c352 hb
        generalize (wr.setCell ⟨g,36 + nj,none⟩ (.int .u8 (b.toNat : Int))).drew = w3 at *
        go_wp2_with fail
        have d3 : Dc (w3.setCell ⟨g,352,none⟩ (.int .i64 ((nj + 1 : Nat) : Int))) g { f' with hd:=fun i=>if i = 352 then .int .i64 ((nj + 1 : Nat) : Int) else if i = 36 + nj then .int .u8 (b.toNat : Int) else f'.hd i }:=Dc.set_hd H2.out.1 (by decide) (by decide) _
        have o3 : Only [g] wr (w3.setCell ⟨g,352,none⟩ (.int .i64 ((nj + 1 : Nat) : Int))):=H2.out.2.1.setCell (by simp) _
        have H3:=hide (aI d3 o3)
        clear d3 o3
        have hb:=H2.out.2.2
        subst hb
        go_roundw
        case rel =>
         have hR:=HR.out
         have hM:=hR.2.2.2.2.1
         have hHd:=hR.2.2.2.2.2.2.2.2.1.set_len (b:=repV s.sym s.lens) (p':=8 * o + q + nb) (n:=nj) hR.2.2.2.2.2.1.symm HH.out.2.2.2.2.2.2.2.1.2.2.2.2.2.2.1 hb316
         have e : s.lens ++ List.replicate j (repV s.sym s.lens) ++ [repV s.sym s.lens] = s.lens ++ List.replicate (j + 1) (repV s.sym s.lens):=by rw [List.append_assoc,List.replicate_succ']
         rw [e] at hHd
         have hM3 : Md wr { f' with hd:=fun i=>if i = 352 then .int .i64 ((nj + 1 : Nat) : Int) else if i = 36 + nj then .int .u8 ((repV s.sym s.lens).toNat : Int) else f'.hd i } (lensS s (s.lens ++ List.replicate (j + 1) (repV s.sym s.lens)) (8 * o + q + nb)) :=
          ⟨hM.last,fun h=>hM.left h,fun h1 h2=>hM.co h1 h2,fun h=>hM.sy h,fun h1 h2=>hM.le h1 h2,fun _ _=>hHd,hM.tab⟩
         exact ⟨j + 1,{ f' with hd:=fun i=>if i = 352 then .int .i64 ((nj + 1 : Nat) : Int) else if i = 36 + nj then .int .u8 ((repV s.sym s.lens).toNat : Int) else f'.hd i },by have:=hR.2.2.2.2.2.2.1; have:=hR.2.2.2.2.2.2.2.2.2; omega,hR.1.cells H3.out.2 H3.out.1 rfl rfl (hR.1.keepX H3.out.2),hR.2.1.trans (H3.out.2.weak (T:=[g,gr]) (by simp)) (by simp),hR.2.2.1.trans ⟨rfl,rfl,rfl,rfl,rfl,rfl,rfl,rfl,rfl⟩,hR.2.2.2.1,hR.1.mdg hM3 H3.out.2⟩
        case measure =>
         have h1:=HR.out.2.2.2.2.2.2.2.1
         have h2 : numOf (w3.setCell ⟨g,352,none⟩ (.int .i64 ((nj + 1 : Nat) : Int))) g 352 = nj + 1:=numOf_eq (by rw [H3.out.1.hd (by decide) (by decide)]; rfl)
         have h3:=HR.out.2.2.2.2.2.2.2.2.2
         show pa - numOf (w3.setCell ⟨g,352,none⟩ (.int .i64 ((nj + 1 : Nat) : Int))) g 352 < _
         rw [h1,h2]
         omega
      ·have hli2 : ¬ (nj : Int) < (pa : Int):=by omega
       have HR:=hide (aI hR (aI ho (aI hsme (aI hkk (aI hM (aI hLl (aI hnj (aI hj hlt))))))))
       clear hR ho hsme hkk hM hLl hnj hnum hHd hj hlt
       go_wp2_with fail
       go_ret
       have hR:=HR.out
       have hN:=HN.out
       have ej : j = repM s.sym + num B / 2 ^ s.p % 2 ^ repB s.sym:=by rw [<- hN.1,<- hN.2.2.1,<- hN.2.1]; omega
       refine ⟨0,rfl,.inl ⟨rfl,f',s.lens ++ List.replicate j (repV s.sym s.lens),by rw [ej],by rw [<- hN.1]; exact hR.1,hR.2.1,hR.2.2.1,hR.2.2.2.1,by rw [<- hN.1,<- HH.out.2.2.1]; exact HB.out.2,by rw [hR.2.2.2.2.2.1]; have:=HL.out; omega,by rw [<- hN.1]; exact hR.2.2.2.2.1⟩⟩
def CodesOk (nl : Nat) (L : List UInt8) : Prop:=mayBe (cn (L.take nl)) = true /\ mayBe (cn (L.drop nl)) = true /\ ln L 256 ≠ 0
theorem arr_elem : Tryz.prog.underlying 182 = some (.array (Tryz.prog.arrayLen 182) (Tryz.prog.elem 182)):=by kernel_rfl
theorem arr_len : Tryz.prog.arrayLen 182 = 316:=by kernel_rfl
theorem arr_size (w : World) : (sizeOf (Tryz.prog.elem 182)).run Tryz.prog w = .ok 1 w:=by kernel_rfl
theorem run_arr_h (g o n : Nat) (hn : n <= 316) (w : World) : (Instr.sliceAt 182 (.pointer (some ⟨g,o,none⟩)) none (some (.int .i64 (n : Int))) none).run Tryz.prog w = .ok (.slice (some ⟨g,o,none⟩) n 316) w:=by
 rw [run_sliceAt_array_h w 182 ⟨g,o,none⟩ arr_elem .i64 (n : Int) (by omega) (by rw [arr_len]; omega),arr_size]
 simp [slicedAt,Result.andThen,arr_len,Addr.add]
theorem run_arr_lh (g o l n m : Nat) (hl : l < 316) (hm : m = l + n) (hn : m <= 316) (w : World) : (Instr.sliceAt 182 (.pointer (some ⟨g,o,none⟩)) (some (.int .i64 (l : Int))) (some (.int .i64 (m : Int))) none).run Tryz.prog w = .ok (.slice (some ⟨g,o + l,none⟩) n (316 - l)) w:=by
 rw [run_sliceAt_array_lh w 182 ⟨g,o,none⟩ arr_elem .i64 .i64 (l : Int) (m : Int) (by omega) (by omega) (by rw [arr_len]; omega),arr_size]
 have h1 : ¬ (316 : Nat) = l:=by omega
 have h2 : m - l = n:=by omega
 simp [slicedAt,Result.andThen,arr_len,add_none,h1,h2]
set_option maxRecDepth 100000 in
set_option maxHeartbeats 8000000 in
theorem codesH_any (g : Nat) (f : DF) (s : GSt) (L : List UInt8) (p : Nat) (w : World) (hd : Dc w g f) (hh : Hd w f.hd (lensS s L p)) (hnl : 257 <= s.nl /\ s.nl <= 286) (hnd : 1 <= s.nd /\ s.nd <= 30) (hL : L.length = s.nl + s.nd) (h15 : ∀ b ∈ L,b.toNat <= 15) :
 Calls Tryz.prog 236 #[.pointer (some ⟨g,11,none⟩)] w fun e w'=>Only [] w w' /\
  ((CodesOk s.nl L /\ ∃ gc,e = .returned (.tuple #[.pointer (some ⟨gc,0,none⟩),.int .i64 0]) /\ Cd w' gc (L.take s.nl) (L.drop s.nl)) \/
    (¬ CodesOk s.nl L /\ e = .returned (.tuple #[.pointer none,.int .i64 3]))):=by
 have hlT : (L.take s.nl).length = s.nl:=by rw [List.length_take]; omega
 have hlD : (L.drop s.nl).length = s.nd:=by rw [List.length_drop]; omega
 have fT : far (L.take s.nl) = false:=far_of fun b hb=>h15 b (List.mem_of_mem_take hb)
 have fD : far (L.drop s.nl) = false:=far_of fun b hb=>h15 b (List.mem_of_mem_drop hb)
 have hHT : Holds w 1 (some ⟨g,36,none⟩) s.nl (bvals (L.take s.nl)):=by
  have:=Holds.cells (w:=w) (g:=g) (o:=36) (l:=L.take s.nl) (Has.lt hd) (fun i hi=>by
   have hi2 : i < L.length:=by omega
   rw [hd.hd (by omega) (by omega),hh.lens i hi2,List.getElem_take]
   rfl)
  rw [hlT] at this
  exact this
 have hHD : Holds w 1 (some ⟨g,36 + s.nl,none⟩) s.nd (bvals (L.drop s.nl)):=by
  have:=Holds.cells (w:=w) (g:=g) (o:=36 + s.nl) (l:=L.drop s.nl) (Has.lt hd) (fun i hi=>by
   have hi2 : s.nl + i < L.length:=by omega
   rw [Nat.add_assoc,hd.hd (by omega) (by omega),hh.lens _ hi2,List.getElem_drop]
   rfl)
  rw [hlD] at this
  exact this
 have c11 : w.cell? ⟨g,11,none⟩ = some (.int .i64 (s.nl : Int)):=by rw [hd.hd (by decide) (by decide),hh.nl]; rfl
 obtain ⟨n,hn⟩ : ∃ n,n = s.nl + s.nd:=⟨_,rfl⟩
 have hLn : ((lensS s L p).lens.length : Int) = (n : Int):=by show (L.length : Int) = _; omega
 have H0:=hide (aI hd (aI hh (aI hL (aI hn hLn))))
 have neT : ¬ mayBe (cn (L.take s.nl)) = true -> newE (L.take s.nl) = 3:=fun h=>by unfold newE; rw [if_neg (by rw [hlT,fT]; simp; omega),if_neg h]
 have neD : ¬ mayBe (cn (L.drop s.nl)) = true -> newE (L.drop s.nl) = 3:=fun h=>by unfold newE; rw [if_neg (by rw [hlD,fD]; simp; omega),if_neg h]
 have HT:=hide (aI hHT (aI hlT (aI fT neT)))
 have HD:=hide (aI hHD (aI hlD (aI fD neD)))
 clear hHT hHD hlT hlD fT fD neT neD hd hh hL hLn h15
 have e1 : (n : Int) - (s.nl : Int) = (s.nd : Int):=by omega
 have hs1:=run_arr_h g 36 s.nl (by omega)
 have hs2:=run_arr_lh g 36 s.nl s.nd n (by omega) hn (by omega)
 have r1 : s.nl <= 316:=by omega
 have r2 : n <= 316:=by omega
 have r3 : s.nl <= n:=by omega
 have HX0:=hide hn
 clear hn
 by_cases hA : mayBe (cn (L.take s.nl)) = true
 ·have HN:=hide (newT_any (some ⟨g,36,none⟩) s.nl 316 (L.take s.nl) w.drew HT.out.1 HT.out.2.1 (by omega) HT.out.2.2.1 hA)
  have hnext : ∀ w1 gT,Only [] w.drew w1 -> Tb w1 gT (L.take s.nl) -> Only [] w w1 /\ Tb w1.drew gT (L.take s.nl) /\ Dc w1 g f /\ w1.cell? ⟨g,11,none⟩ = some (.int .i64 (s.nl : Int)) /\ w1.cell? ⟨g,352,none⟩ = some (.int .i64 (n : Int)) /\ Holds w1.drew 1 (some ⟨g,36 + s.nl,none⟩) s.nd (bvals (L.drop s.nl)):=fun w1 gT ho1 hT1=>by
   have o1 : Only [] w w1:=((Only.refl [] w).drew).trans ho1 (by simp)
   have hd1 : Dc w1 g f:=Has.only H0.out.1 o1 (by simp)
   refine ⟨o1,hT1.only ((Only.refl [] w1).drew) (by simp),hd1,?_,?_,HD.out.1.keep (o1.drew) (by simp)⟩
   ·rw [hd1.hd (by decide) (by decide),H0.out.2.1.nl]; rfl
   ·rw [hd1.hd (by decide) (by decide),H0.out.2.1.n,H0.out.2.2.2.2]
  have HX:=hide hnext
  clear hnext
  by_cases hB : mayBe (cn (L.drop s.nl)) = true
  ·have HN2:=hide (fun w1 h=>newT_any (some ⟨g,36 + s.nl,none⟩) s.nd (316 - s.nl) (L.drop s.nl) w1 h HD.out.2.1 (by omega) HD.out.2.2.1 hB)
   obtain ⟨b256,hb⟩ : ∃ b : UInt8,b = L[256]'(by have:=H0.out.2.2.1; omega):=⟨_,rfl⟩
   have hln : ln L 256 = b256.toNat:=by rw [hb]; exact ln_get _
   have h292 : ∀ w1 w2,Only [] w w1 -> Only [] w1.drew w2 -> Only [] w w2 /\ w2.cell? ⟨g,292,none⟩ = some (.int .u8 (b256.toNat : Int)):=fun w1 w2 o1 ho2=>by
    have o2 : Only [] w w2:=o1.trans (((Only.refl [] w1).drew).trans ho2 (by simp)) (by simp)
    refine ⟨o2,?_⟩
    rw [Dc.hd (Has.only H0.out.1 o2 (by simp)) (by decide) (by decide),H0.out.2.1.lens 256 (by show 256 < L.length; have:=H0.out.2.2.1; omega),hb]
    rfl
   have HB:=hide (aI hln h292)
   clear hb hln h292
   by_cases hz : b256.toNat = 0
   ·have hzI : ((b256.toNat : Nat) : Int) = 0:=by omega
    go_enter Tryz.func236,Tryz.ntmps236
    go_wp2_with fail
    go_region_with (go_at_call 153; refine (HN.out).mono ?_; rintro e w1 ⟨gT,rfl,_,hT1,ho1⟩)
    clear c11
    all_goals
     obtain ⟨o1,hT1,hd1,c11,c352,hh1⟩:=HX.out w1 gT ho1 hT1
     have H1:=hide (aI o1 (aI hT1 hd1))
     have H1N:=hide (HN2.out w1.drew hh1)
     clear o1 hd1 hT1 ho1 hh1
     go_wp2_with fail
     go_region_with (go_at_call 153; refine (H1N.out).mono ?_; rintro e w2 ⟨gD,rfl,_,hT2,ho2⟩; obtain ⟨o2,c292⟩:=HB.out.2 w1 w2 H1.out.1 ho2; have H2:=hide (aI o2 (aI hT2 ho2)); clear o2 ho2 hT2; rw [hzI] at c292)
     all_goals
      go_wp2_with fail
      go_ret2
      exact ⟨H2.out.1,.inr ⟨fun h=>h.2.2 (by rw [HB.out.1]; exact hz),rfl⟩⟩
   ·have hzI : ¬ ((b256.toNat : Nat) : Int) = 0:=by omega
    go_enter Tryz.func236,Tryz.ntmps236
    go_wp2_with fail
    go_region_with (go_at_call 153; refine (HN.out).mono ?_; rintro e w1 ⟨gT,rfl,_,hT1,ho1⟩)
    clear c11
    all_goals
     obtain ⟨o1,hT1,hd1,c11,c352,hh1⟩:=HX.out w1 gT ho1 hT1
     have H1:=hide (aI o1 (aI hT1 hd1))
     have H1N:=hide (HN2.out w1.drew hh1)
     clear o1 hd1 hT1 ho1 hh1
     go_wp2_with fail
     go_region_with (go_at_call 153; refine (H1N.out).mono ?_; rintro e w2 ⟨gD,rfl,_,hT2,ho2⟩; obtain ⟨o2,c292⟩:=HB.out.2 w1 w2 H1.out.1 ho2; have H2:=hide (aI o2 (aI hT2 ho2)); clear o2 ho2 hT2)
     all_goals
      go_wp2_with fail
      go_ret2
      exact ⟨H2.out.1.alloc _,.inl ⟨⟨hA,hB,by rw [HB.out.1]; exact hz⟩,_,rfl,gT,gD,Has.new _ _ _,(H1.out.2.1.only H2.out.2.2 (by simp)).only ((Only.refl [] w2).alloc _) (by simp),H2.out.2.1.only ((Only.refl [] w2).alloc _) (by simp)⟩⟩
  ·have HN2:=hide (fun w1 h=>newF_any (some ⟨g,36 + s.nl,none⟩) s.nd (316 - s.nl) (L.drop s.nl) w1 h HD.out.2.1 (by omega) (by rw [HD.out.2.2.2 hB]; decide))
   rw [HD.out.2.2.2 hB] at HN2
   go_enter Tryz.func236,Tryz.ntmps236
   go_wp2_with fail
   go_region_with (go_at_call 153; refine (HN.out).mono ?_; rintro e w1 ⟨gT,rfl,_,hT1,ho1⟩)
   clear c11
   all_goals
    obtain ⟨o1,hT1,hd1,c11,c352,hh1⟩:=HX.out w1 gT ho1 hT1
    have H1:=hide (aI o1 (aI hT1 hd1))
    have H1N:=hide (HN2.out w1.drew hh1)
    clear o1 hd1 hT1 ho1 hh1
    go_wp2_with fail
    go_region_with (go_at_call 153; refine (H1N.out).mono ?_; rintro e w2 ⟨rfl,ho2⟩)
    all_goals
     go_wp2_with fail
     go_ret2
     exact ⟨H1.out.1.trans (((Only.refl [] w1).drew).trans ho2 (by simp)) (by simp),.inr ⟨fun h=>hB h.2.1,rfl⟩⟩
 ·have hF:=newF_any (some ⟨g,36,none⟩) s.nl 316 (L.take s.nl) w.drew HT.out.1 HT.out.2.1 (by omega) (by rw [HT.out.2.2.2 hA]; decide)
  rw [HT.out.2.2.2 hA] at hF
  have HN:=hide hF
  clear hF
  go_enter Tryz.func236,Tryz.ntmps236
  go_wp2_with fail
  go_region_with (go_at_call 153; refine (HN.out).mono ?_; rintro e w1 ⟨rfl,ho1⟩)
  all_goals
   go_wp2_with fail
   go_ret2
   exact ⟨((Only.refl [] w).drew).trans ho1 (by simp),.inr ⟨fun h=>hA h.1,rfl⟩⟩
set_option maxRecDepth 100000 in
set_option maxHeartbeats 2000000 in
theorem whole_any (g : Nat) (f : DF) (s : GSt) (L : List UInt8) (p : Nat) (w : World) (hd : Dc w g f) (hh : Hd w f.hd (lensS s L p)) (hnl : s.nl <= 286) (hnd : s.nd <= 30) (b : Bool) (hb : decide (L.length = s.nl + s.nd) = b) :
 Calls Tryz.prog 235 #[.pointer (some ⟨g,11,none⟩)] w fun e w'=>e = .returned (.bool b) /\ ∃ m,w' = w.drewN m:=by
 have c11 : w.cell? ⟨g,11,none⟩ = some (.int .i64 (s.nl : Int)):=by rw [hd.hd (by decide) (by decide),hh.nl]; rfl
 have c12 : w.cell? ⟨g,12,none⟩ = some (.int .i64 (s.nd : Int)):=by rw [hd.hd (by decide) (by decide),hh.nd]; rfl
 have c352 : w.cell? ⟨g,352,none⟩ = some (.int .i64 (L.length : Int)):=by rw [hd.hd (by decide) (by decide),hh.n]; rfl
 obtain ⟨sm,hsm⟩ : ∃ sm,sm = s.nl + s.nd:=⟨_,rfl⟩
 have e1 : (s.nl : Int) + (s.nd : Int) = (sm : Int):=by omega
 rw [<- hsm] at hb
 have b1 : sm <= 316:=by omega
 have hb2 : decide ((L.length : Int) = (sm : Int)) = b:=by rw [<- hb]; congr 1; exact propext ⟨fun h=>by omega,fun h=>by omega⟩
 generalize L.length = n at *
 clear hd hh hsm hb
 go_enter Tryz.func235,Tryz.ntmps235
 go_wp2_with fail
 go_region
 all_goals
  go_wp2_with fail
  go_ret
  exact ⟨by first | rfl | (rw [<- hb2]; rfl),_,rfl⟩
def Dealed (g gf gw gr : Nat) (K : List Nat) (f : DF) (v vo : Value) (l : List UInt8) (q : Nat) (all x : List UInt8) (s : GSt) (L : List UInt8) (w : World) (e : Ending) (w' : World) : Prop :=
 ∃ (k c : Nat) (f' : DF),e = .returned (.tuple #[.int .i64 (k : Int),.int .i64 (c : Int)]) /\ Rn w' g gf gw gr K f' v vo l q all x /\ Only [g] w w' /\
   ((L.length < s.nl + s.nd /\ k = 5 /\ c = 0 /\ f' = f) \/
     (L.length = s.nl + s.nd /\ CodesOk s.nl L /\ k = 7 /\ c = 0 /\ ∃ v',f' = { f with co:=v' } /\ CdV w' v' (L.take s.nl) (L.drop s.nl)) \/
     (L.length = s.nl + s.nd /\ ¬ CodesOk s.nl L /\ k = 5 /\ c = 3 /\ f' = f))
set_option maxRecDepth 100000 in
set_option maxHeartbeats 4000000 in
theorem deal_step (g gf gw gr : Nat) (K : List Nat) (f : DF) (v vo : Value) (l : List UInt8) (q : Nat) (all x : List UInt8) (s : GSt) (L : List UInt8) (p : Nat) (w : World) (h : Rn w g gf gw gr K f v vo l q all x) (hh : Hd w f.hd (lensS s L p))
 (hnl : 257 <= s.nl /\ s.nl <= 286) (hnd : 1 <= s.nd /\ s.nd <= 30) (hL : L.length <= s.nl + s.nd) (h15 : ∀ b ∈ L,b.toNat <= 15) :
 Calls Tryz.prog 227 #[.pointer (some ⟨g,0,none⟩)] w (Dealed g gf gw gr K f v vo l q all x s L w):=by
 have HH:=hide h
 by_cases hlt : L.length < s.nl + s.nd
 ·have HW:=hide (whole_any g f s L p w h.on.dec hh hnl.2 hnd.2 false (decide_eq_false (by omega)))
  clear h hh h15
  go_enter Tryz.func227,Tryz.ntmps227
  go_wp2_with fail
  refine (HW.out).mono ?_
  rintro e w1 ⟨rfl,m,rfl⟩
  go_wp2_with fail
  go_ret2
  exact ⟨5,0,f,rfl,HH.out.drewN m,(Only.refl [g] w).drewN m,.inl ⟨hlt,rfl,rfl,rfl⟩⟩
 ·have heq : L.length = s.nl + s.nd:=by omega
  have HW:=hide (whole_any g f s L p w h.on.dec hh hnl.2 hnd.2 true (decide_eq_true heq))
  have HC:=hide (fun m=>codesH_any g f s L p (w.drewN m) (h.drewN m).on.dec (hh.keep (S:=[]) ((Only.refl [] w).drewN m) (Other.nil _)) hnl hnd heq h15)
  have HQ:=hide heq
  clear h hh h15 hlt heq hL
  go_enter Tryz.func227,Tryz.ntmps227
  go_wp2_with fail
  refine (HW.out).mono ?_
  rintro e w1 ⟨rfl,m,rfl⟩
  go_wp2_with fail
  refine (HC.out m).mono ?_
  rintro e w2 ⟨ho2,hcase⟩
  have o2 : Only [] w w2:=((Only.refl [] w).drewN m).trans ho2 (by simp)
  have h2:=HH.out.still o2
  have c353 : w2.cell? ⟨g,353,none⟩ = some f.co:=h2.on.dec.co
  have f353 : w2.frozen? ⟨g,353,none⟩ = false:=Has.free h2.on.dec 353
  have H2:=hide (aI o2 h2)
  clear o2 h2 ho2
  generalize f.co = u at c353
  rcases hcase with ⟨hok,gc,rfl,hcd⟩ | ⟨hno,rfl⟩
  ·have HO:=hide (aI hok hcd)
   clear hok hcd
   go_wp2_with fail
   go_ret2
   have oW : Only [g] w2 (w2.setCell ⟨g,353,none⟩ (.pointer (some ⟨gc,0,none⟩))):=(Only.refl [g] _).setCell (by simp) _
   exact ⟨7,0,_,rfl,H2.out.2.cells oW (Dc.set_co H2.out.2.on.dec _) rfl rfl (H2.out.2.keepX oW),(H2.out.1.of_nil (T:=[g])).trans oW (by simp),.inr (.inl ⟨HQ.out,HO.out.1,rfl,rfl,_,rfl,H2.out.2.keepV oW ⟨gc,rfl,HO.out.2⟩⟩)⟩
  ·go_wp2_with fail
   go_ret2
   exact ⟨5,3,f,rfl,H2.out.2,H2.out.1.of_nil,.inr (.inr ⟨HQ.out,hno,rfl,rfl,rfl⟩)⟩
set_option maxRecDepth 100000 in
set_option maxHeartbeats 4000000 in
theorem addF_any (B : List UInt8) (a o : Nat) (l : List UInt8) (hs : Src B a o l) (g gf gw gr : Nat) (K : List Nat) (f : DF) (v vo : Value) (q : Nat) (all x : List UInt8) (w : World) (h : Rn w g gf gw gr K f v vo l q all x) (m n : Nat) (hm : m <= 30000) (hn : n <= 13) :
 (8 * a < 8 * o + q + n /\ Calls Tryz.prog 238 #[.pointer (some ⟨gf,0,none⟩),.agg #[.int .u16 (m : Int),.int .u8 (n : Int)]] w (fun e w'=>e = .returned (.tuple #[.int .i64 0,.int .i64 2]) /\ Rn w' g gf gw gr K f v vo l q all x /\ Only [gr] w w')) \/
 (8 * o + q + n <= 8 * a /\ Calls Tryz.prog 238 #[.pointer (some ⟨gf,0,none⟩),.agg #[.int .u16 (m : Int),.int .u8 (n : Int)]] w (fun e w'=>e = .returned (.tuple #[.int .i64 ((m + num B / 2 ^ (8 * o + q) % 2 ^ n : Nat) : Int),.int .i64 0]) /\ Rn w' g gf gw gr K f v vo l (q + n) all x /\ Only [gr] w w')):=by
 have hwn : IntKind.i64.wrap (n : Int) = (n : Int):=Go.Proofs.YtmfoeihapalkpaaGreatDoor.wrap64 rfl (by omega)
 have hwm : IntKind.i64.wrap (m : Int) = (m : Int):=Go.Proofs.YtmfoeihapalkpaaGreatDoor.wrap64 rfl (by omega)
 have HH:=hide h
 have HB:=fun W (hR : Rd W gr v l q)=>bits_gen hs gr v q n (by omega) W hR
 have o0 : Only [] w (w.alloc (.cells #[.int .u16 (m : Int),.int .u8 (n : Int)] 309)).drew:=((Only.refl [] w).alloc _).drew
 have hB0:=HB _ (h.still o0).rd
 have H0:=hide (aI (h.still o0) o0)
 have c0 : (w.alloc (.cells #[.int .u16 (m : Int),.int .u8 (n : Int)] 309)).cell? ⟨gf,0,none⟩ = some (.pointer (some ⟨gr,0,none⟩)):=Has.cell (Has.alloc h.on.flow _) 0
 have k0 : (w.alloc (.cells #[.int .u16 (m : Int),.int .u8 (n : Int)] 309)).cell? ⟨w.heap.size,0,none⟩ = some (.int .u16 (m : Int)):=Has.cell (Has.new w _ _) 0
 have k1 : (w.alloc (.cells #[.int .u16 (m : Int),.int .u8 (n : Int)] 309)).cell? ⟨w.heap.size,1,none⟩ = some (.int .u8 (n : Int)):=Has.cell (Has.new w _ _) 1
 have hlt : w.heap.size < ((w.alloc (.cells #[.int .u16 (m : Int),.int .u8 (n : Int)] 309)).drew).heap.size:=Has.lt (Has.new w _ _)
 have hngr : w.heap.size ≠ gr:=Nat.ne_of_gt h.rd.1.lt
 have HM:=hide (aI hlt hngr)
 clear HB o0 h hs hlt hngr
 rcases hB0 with ⟨hfar,hB⟩ | ⟨hnear,hB⟩
 ·refine .inl ⟨hfar,?_⟩
  have HBB:=hide hB
  clear hB hfar hm hwm
  go_enter Tryz.func238,Tryz.ntmps238
  go_wp2_with fail
  have HK:=hide (aI k0 (aI HM.out H0.out))
  clear HM H0 HH
  generalize w.alloc (.cells #[.int .u16 (m : Int),.int .u8 (n : Int)] 309) = w0 at *
  generalize w.heap.size = G at *
  go_region_with (go_at_call 208; refine (HBB.out).mono ?_; rintro e w1 ⟨rfl,ho1,hr1⟩)
  all_goals
   go_wp2_with fail
   go_ret2
   exact ⟨rfl,HK.out.2.2.1.read ho1 hr1,(HK.out.2.2.2.of_nil (T:=[gr])).trans ho1 (by simp)⟩
 ·refine .inr ⟨hnear,?_⟩
  have HBB:=hide hB
  clear hB hnear
  obtain ⟨z,hz⟩ : ∃ z,z = num B / 2 ^ (8 * o + q) % 2 ^ n:=⟨_,rfl⟩
  have hz2 : z < 8192:=by
   have h1 : z < 2 ^ n:=by rw [hz]; exact Nat.mod_lt _ (Nat.two_pow_pos _)
   have h2 : 2 ^ n <= 2 ^ 13:=Nat.pow_le_pow_right (by decide) hn
   omega
  rw [<- hz] at HBB ⊢
  clear hz
  go_enter Tryz.func238,Tryz.ntmps238
  go_wp2_with fail
  have HK:=hide (aI k0 (aI HM.out H0.out))
  clear HM H0 HH
  generalize w.alloc (.cells #[.int .u16 (m : Int),.int .u8 (n : Int)] 309) = w0 at *
  generalize w.heap.size = G at *
  go_region_with (go_at_call 208; refine (HBB.out).mono ?_; rintro e w1 ⟨rfl,ho1,hr1⟩; have cm:=(ho1.cell (p:=⟨G,0,none⟩) HK.out.2.1.1 (by simpa using HK.out.2.1.2)).trans HK.out.1; have H1:=hide (aI ho1 hr1); clear ho1 hr1)
  all_goals
   go_wp2_with fail
   go_ret2
   exact ⟨rfl,HK.out.2.2.1.read H1.out.1 H1.out.2,(HK.out.2.2.2.of_nil (T:=[gr])).trans H1.out.1 (by simp)⟩
end Go.Proofs.YtmfoeihapalkpaaGreatDoor
