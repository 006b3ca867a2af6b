import Derived.Test.YtmfoeihapalkpaaGreatDoorMInfO
import Derived.Deep.MidRow
namespace Go.Proofs.YtmfoeihapalkpaaGreatDoor
open Go Go.RowKit
theorem Only.setCells (S : List Nat) (g : Nat) (hg : g ∈ S) : ∀ (vs : List Value) (o : Nat) (a w : World),Only S a w -> Only S a (w.setCells g o vs)
 | [],_,_,_,h=>h
 | v :: r,o,a,w,h=>Only.setCells S g hg r (o + 1) a _ (h.setCell (by simp [hg]) v)
theorem Has.setCells (g : Nat) (t : TypeId) : ∀ (vs : List Value) (o : Nat) (w : World) (cs : Array Value),Has w g t cs ->
 ∃ cs',Has (w.setCells g o vs) g t cs' /\ cs'.size = cs.size /\ ∀ i : Nat,cs'[i]? = if o <= i /\ i < o + vs.length /\ i < cs.size then vs[i - o]? else cs[i]?
 | [],o,w,cs,h=>⟨cs,h,rfl,fun i=>by rw [if_neg (by simp only [List.length_nil]; omega)]⟩
 | v :: r,o,w,cs,h=>by
   obtain ⟨cs',h1,h2,h3⟩:=Has.setCells g t r (o + 1) _ _ (h.set o v)
   refine ⟨cs',h1,by rw [h2,Array.size_setIfInBounds],fun i=>?_⟩
   rw [h3,Array.size_setIfInBounds,Array.getElem?_setIfInBounds,List.length_cons]
   by_cases hi : o = i
   ·subst hi
    rw [if_neg (by omega),if_pos rfl]
    by_cases hs : o < cs.size
    ·rw [if_pos hs,if_pos (by omega)]; simp
    ·rw [if_neg hs,if_neg (by omega),Array.getElem?_eq_none (by omega)]
   ·by_cases hr : o + 1 <= i /\ i < o + 1 + r.length /\ i < cs.size
    ·rw [if_pos hr,if_pos (by omega),show i - o = (i - (o + 1)) + 1 by omega,List.getElem?_cons_succ]
    ·rw [if_neg hr,if_neg hi,if_neg (by omega)]
def DF.head (f : DF) (vs : List Value) : DF:={ f with hd:=fun j=>(vs[j - 11]?).getD (.int .i64 0) }
theorem Dc.set_head {w : World} {g : Nat} {f : DF} (h : Dc w g f) (vs : List Value) (hv : vs.length = 342) : Dc (w.setCells g 11 vs) g (f.head vs):=by
 obtain ⟨cs',h1,h2,h3⟩:=Has.setCells g f.ty vs 11 w f.cells h
 have : cs' = (f.head vs).cells:=by
  apply Array.ext_getElem?
  intro i
  rw [h3,hv,DF.cells_size]
  by_cases hi : i < 357
  ·rw [DF.cells_get _ hi,DF.cells_get _ hi]
   by_cases h4 : 11 <= i /\ i < 353
   ·have e : (f.head vs).at i = (vs[i - 11]?).getD (.int .i64 0):=by
     simp only [DF.at]
     iterate 15 rw [if_neg (by omega)]
     rfl
    rw [if_pos (by omega),e,List.getElem?_eq_getElem (by omega)]
    rfl
   ·rw [if_neg (by omega)]
    have e : (f.head vs).at i = f.at i:=by
     have key : ∀ j,j < 357 -> ¬ (11 <= j /\ j < 353) -> j = 0 \/ j = 1 \/ j = 2 \/ j = 3 \/ j = 4 \/ j = 5 \/ j = 6 \/ j = 7 \/ j = 8 \/ j = 9 \/ j = 10 \/ j = 353 \/ j = 354 \/ j = 355 \/ j = 356:=by intro j; omega
     rcases key i hi h4 with rfl | rfl | rfl | rfl | rfl | rfl | rfl | rfl | rfl | rfl | rfl | rfl | rfl | rfl | rfl <;> rfl
    rw [e]
  ·rw [if_neg (by omega),show i = 357 + (i - 357) by omega,DF.cells_tail,DF.cells_tail]
   rfl
 rw [this] at h1
 exact h1
theorem Dc.there {w : World} {g : Nat} {f : DF} (h : Dc w g f) : w.there g 11 342:=fun j hj=>⟨by rw [Dc.hd h (by omega) (by omega)]; rfl,Has.free h _⟩
def hdNewV (x y z : Value) : List Value:=[x,y,z] ++ (List.replicate 19 (.int .u8 0) ++ ([.int .i64 0,.pointer none,.int .i64 0] ++ (List.replicate 316 (.int .u8 0) ++ [.int .i64 0])))
def hdNew (nl nd no : Nat) : List Value:=hdNewV (.int .i64 (nl : Int)) (.int .i64 (nd : Int)) (.int .i64 (no : Int))
theorem hdNew_length (nl nd no : Nat) : (hdNew nl nd no).length = 342:=by
 unfold hdNew hdNewV
 simp only [List.length_append,List.length_replicate,List.length_cons,List.length_nil]
set_option maxRecDepth 100000 in
theorem zero_header (x y z : Value) : (((Tryz.zeroCells184.setIfInBounds 0 x).setIfInBounds 1 y).setIfInBounds 2 z) = (hdNewV x y z).toArray:=by kernel_rfl
theorem hdNew_one (nl nd no : Nat) : (hdNew nl nd no).toArray.all (·.oneCell') = true:=all_oneCell_toArray (by
 intro v hv
 simp only [hdNew,hdNewV,List.mem_append,List.mem_cons,List.not_mem_nil,or_false,List.mem_replicate] at hv
 rcases hv with (rfl | rfl | rfl) | ⟨_,rfl⟩ | (rfl | rfl | rfl) | ⟨_,rfl⟩ | rfl <;> rfl)
theorem hdNew_ok (w : World) (f : DF) (s : GSt) (h1 : s.own = List.replicate 19 0) (h2 : s.nOwn = 0) (h3 : s.lens = []) (hk : s.k = 4) : Hd w (f.head (hdNew s.nl s.nd s.no)).hd s:=by
 refine ⟨rfl,rfl,rfl,fun i hi=>?_,by rw [h2]; rfl,fun h=>absurd h (by omega),fun h=>absurd h (by omega),fun i hi=>?_,by rw [h3]; rfl⟩
 ·have hi2 : i < 19:=by rw [h1,List.length_replicate] at hi; exact hi
  have e : s.own[i]? = some 0:=by rw [h1,List.getElem?_replicate,if_pos hi2]
  rw [List.getElem?_eq_getElem hi] at e
  rw [Option.some.inj e]
  have key : ∀ j,j < 19 -> (f.head (hdNew s.nl s.nd s.no)).hd (14 + j) = .int .u8 0:=by
   intro j hj
   show ((hdNew s.nl s.nd s.no)[14 + j - 11]?).getD _ = _
   rw [show 14 + j - 11 = j + 3 by omega]
   unfold hdNew hdNewV
   rw [List.getElem?_append_right (by show 3 <= _; omega),List.getElem?_append_left (by rw [List.length_replicate]; show j + 3 - 3 < 19; omega)]
   show ((List.replicate 19 (Value.int .u8 0))[j + 3 - 3]?).getD _ = _
   rw [List.getElem?_replicate,if_pos (by omega)]
   rfl
  exact key i hi2
 ·rw [h3] at hi; exact absurd hi (by simp)
def CntP (f f' : DF) (t : GSt) : Prop:=f'.k = f.k /\ t.k = 4
def CntQ (f f' : DF) (t : GSt) : Prop:=f'.k = f.k /\ t.k = 3
theorem and31 (n : Nat) (h : n < 4294967296) : bits .and .u32 (n : Int) 31 = ((n % 32 : Nat) : Int):=by
 have:=u32_and_nat n 31 h (by omega)
 rw [show (31 : Nat) = 2 ^ 5 - 1 from rfl,Nat.and_two_pow_sub_one_eq_mod] at this
 exact this
set_option maxRecDepth 100000 in
set_option maxHeartbeats 8000000 in
theorem counts_any (B : List UInt8) (a o : Nat) (l : List UInt8) (hs : Src B a o l) (g gf gw gr : Nat) (K : List Nat) (f : DF) (v vo : Value) (q : Nat) (x : List UInt8) (s : GSt) (w : World) (h : Rn w g gf gw gr K f v vo l q s.out x) (hk : s.k = 3)
 (hm : Md w f s) (hp : s.p = 8 * o + q) (hl : s.out.length <= f.most) :
 Calls Tryz.prog 223 #[.pointer (some ⟨g,11,none⟩),.pointer (some ⟨gr,0,none⟩)] w (fun e w'=>∃ c : Nat,e = .returned (.int .i64 (c : Int)) /\ Went B a o l g gf gw gr K f v vo x s (CntP f) (CntQ f) w c w'):=by
 have hnx:=GSt.nx_3 (L0:=fixedL) (D0:=fixedD2) (N:=num B) (most:=f.most) hk
 have h11 : s.k ≠ 11:=by omega
 have HH:=hide (aI h (aI hm (aI hp (aI hl (aI h11 hk)))))
 rcases bits_gen hs gr v q 14 (by decide) w h.rd with ⟨hfar,hB⟩ | ⟨hnear,hB⟩
 ·have hend : End B a f.most s 2 s:=.short s h11 (by rw [hnx]; show 8 * a < s.p + 14; omega)
  have HB:=hide (aI hB hend)
  clear hs h hm hp hl hnx hfar hB hend h11 hk
  go_enter Tryz.func223,Tryz.ntmps223
  go_wp2_with fail
  refine (HB.out.1).mono ?_
  rintro e w1 ⟨rfl,ho1,hr1⟩
  have H1:=hide (aI ho1 hr1)
  clear ho1 hr1
  go_wp2_with fail
  go_ret
  have hH:=HH.out
  exact ⟨2,rfl,q,[],vo,f,by simpa using hH.1.read H1.out.1 H1.out.2,(Since.refl _ _ _).step (H1.out.1.weak (by simp)),Same.refl f,by simpa using hH.2.2.2.1,.inr (.inl ⟨rfl,s,HB.out.2,by simp,hH.1.mdr hH.2.1 H1.out.1,.of hH.2.2.1 (by omega),rfl,hH.2.2.2.2.2⟩)⟩
 ·rw [<- hp] at hB
  have hv : num B / 2 ^ s.p % 2 ^ 14 < 16384:=Nat.mod_lt _ (by decide)
  rw [show (16384 : Nat) = 2 ^ 14 from rfl] at hnx
  generalize num B / 2 ^ s.p % 2 ^ 14 = z at *
  have hz : z < 16384:=hv
  clear hv
  obtain ⟨m1,hm1⟩ : ∃ m1,m1 = z % 32:=⟨_,rfl⟩
  obtain ⟨d,hd⟩ : ∃ d,d = z / 32:=⟨_,rfl⟩
  obtain ⟨m2,hm2⟩ : ∃ m2,m2 = d % 32:=⟨_,rfl⟩
  obtain ⟨t,ht⟩ : ∃ t,t = z / 1024:=⟨_,rfl⟩
  obtain ⟨nl,hnl⟩ : ∃ nl,nl = 257 + m1:=⟨_,rfl⟩
  obtain ⟨nd,hnd⟩ : ∃ nd,nd = 1 + m2:=⟨_,rfl⟩
  obtain ⟨no,hno⟩ : ∃ no,no = 4 + t:=⟨_,rfl⟩
  have e1 : bits .and .u32 (z : Int) 31 = (m1 : Int):=by rw [hm1]; exact and31 z (by omega)
  have e2 : (z : Int) / 32 = (d : Int):=by omega
  have e3 : bits .and .u32 (d : Int) 31 = (m2 : Int):=by rw [hm2]; exact and31 d (by omega)
  have e4 : (z : Int) / 1024 = (t : Int):=by omega
  have e5 : (257 : Int) + (m1 : Int) = (nl : Int):=by omega
  have e6 : (1 : Int) + (m2 : Int) = (nd : Int):=by omega
  have e7 : (4 : Int) + (t : Int) = (no : Int):=by omega
  have r1 : m1 < 32:=by omega
  have r2 : m2 < 32:=by omega
  have r3 : t < 16:=by omega
  have r4 : nl < 289:=by omega
  have r5 : nd < 33:=by omega
  have r6 : d < 512:=by omega
  dsimp only at hnx
  rw [<- hm1,<- hd,<- hm2,<- ht,<- hnl,<- hnd,<- hno] at hnx
  have hbd:=zero_header
  have HB:=hide (aI hB (aI hnx hnear))
  have HN:=hide (aI hnl (aI hnd (aI hno (aI hm1 (aI hm2 (aI hd ht))))))
  clear hs h hm hp hl hnx hnear hB h11 hk hm1 hd hm2 ht hnl hnd hno
  go_enter Tryz.func223,Tryz.ntmps223
  go_wp2_with fail
  refine (HB.out.1).mono ?_
  rintro e w1 ⟨rfl,ho1,hr1⟩
  have h1:=HH.out.1.read ho1 hr1
  have ht:=h1.on.dec.there
  have HD:=hide (aI h1 ho1)
  clear ho1 hr1 h1
  go_wp2_with (refine wpList_store_mid rfl 184 (.tmp 29) (.tmp 28) rfl g 11 (hdNew nl nd no).toArray rfl rfl (by rw [List.size_toArray,hdNew_length]; exact ht) (by rw [List.size_toArray,hdNew_length]; kernel_rfl) (hdNew_one nl nd no) ?_; clear ht hbd; change wpList _ _ _ _ _ (w1.setCells g 11 (hdNew nl nd no)); have hD2:=HD.out.1.on.dec.set_head (hdNew nl nd no) (hdNew_length nl nd no); have oW:=Only.setCells [g] g (by simp) (hdNew nl nd no) 11 w1 w1 (Only.refl _ _); generalize w1.setCells g 11 (hdNew nl nd no) = w2 at *; have k11 : w2.cell? ⟨g,11,none⟩ = some (.int .i64 (nl : Int)):=hD2.hd (by decide) (by decide); have k12 : w2.cell? ⟨g,12,none⟩ = some (.int .i64 (nd : Int)):=hD2.hd (by decide) (by decide); have H2:=hide (aI hD2 oW); clear hD2 oW)
  all_goals
   go_ret
   have hR:=HD.out.1.cells H2.out.2 H2.out.1 rfl rfl (HD.out.1.keepX H2.out.2)
   have oW : Only [g,gf,gw,gr] w w2:=(HD.out.2.weak (by simp)).trans (H2.out.2.weak (T:=[g,gf,gw,gr]) (by simp)) (by simp)
   have hN:=HN.out
   have hnx:=HB.out.2.1
   by_cases hc : m1 <= 29 /\ m2 <= 29
   ·rw [if_pos hc] at hnx
    have hM:=HD.out.1.mdg (HH.out.1.mdr HH.out.2.1 HD.out.2) H2.out.2
    first
     | (exfalso; omega)
     | exact ⟨0,rfl,q + 14,[],vo,f.head (hdNew nl nd no),by simpa using hR,(Since.refl _ _ _).step oW,⟨rfl,rfl,rfl,rfl,rfl,rfl,rfl,rfl,rfl⟩,by simpa using HH.out.2.2.2.1,.inl ⟨rfl,_,.one HH.out.2.2.2.2.1 hnx (by rw [HH.out.2.2.1]; exact HB.out.2.2),by simp,⟨HH.out.2.1.last,fun h=>absurd (show (4 : Nat) = 2 from h) (by decide),fun h=>absurd (show (7 : Nat) <= 4 from h) (by decide),fun h=>absurd (show (4 : Nat) = 8 \/ (4 : Nat) = 10 from h) (by decide),fun h=>absurd (show (9 : Nat) <= 4 from h) (by decide),fun _ _=>hdNew_ok w2 f { s with k:=4,p:=s.p + 14,nl:=nl,nd:=nd,no:=no,own:=List.replicate 19 0,nOwn:=0,lens:=[] } rfl rfl rfl rfl,hM.tab⟩,.of (by show s.p + 14 = _; rw [HH.out.2.2.1]; omega) (by show (4 : Nat) ≠ 1; decide),rfl,rfl⟩⟩
   ·rw [if_neg hc] at hnx
    first
     | (exfalso; omega)
     | exact ⟨3,rfl,q + 14,[],vo,f.head (hdNew nl nd no),by simpa using hR,(Since.refl _ _ _).step oW,⟨rfl,rfl,rfl,rfl,rfl,rfl,rfl,rfl,rfl⟩,by simpa using HH.out.2.2.2.1,.inr (.inr ⟨.inl rfl,fun h=>h,s,(Steps.refl s).bad HH.out.2.2.2.2.1 hnx (by rw [HH.out.2.2.1]; exact HB.out.2.2)⟩)⟩
theorem Holds.cells {w : World} {g o : Nat} {l : List UInt8} (hg : g < w.heap.size) (h : ∀ i,(hi : i < l.length) -> w.cell? ⟨g,o + i,none⟩ = some (.int .u8 (l[i].toNat : Int))) : Holds w 1 (some ⟨g,o,none⟩) l.length (bvals l):=by
 refine ⟨by rw [bvals_length,Nat.mul_one],fun _=>⟨_,rfl,hg,fun j u hu=>?_⟩⟩
 rw [add_none]
 by_cases hj : j < l.length
 ·rw [bvals_get l j hj] at hu
  rw [h j hj]
  exact hu
 ·rw [List.getElem?_eq_none (by rw [bvals_length]; omega)] at hu
  cases hu
def ordS (s : GSt) (A : List UInt8) (n p : Nat) : GSt:={ s with own:=A,nOwn:=n,p:=p }
theorem rankN_lt : ∀ n,n < 19 -> rankN.getD n 0 < 19:=by decide
theorem Hd.set_own {w : World} {hd : Nat -> Value} {s : GSt} {A : List UInt8} {n p r p' : Nat} {b : UInt8} (h : Hd w hd (ordS s A n p)) (hr : r < 19) (hA : A.length = 19) :
 Hd w (fun j=>if j = 33 then .int .i64 ((n + 1 : Nat) : Int) else if j = 14 + r then .int .u8 (b.toNat : Int) else hd j) (ordS s (A.set r b) (n + 1) p') \/ 5 <= s.k:=by
 by_cases hk : 5 <= s.k
 ·exact .inr hk
 refine .inl ⟨?_,?_,?_,fun i hi=>?_,rfl,fun h5=>absurd h5 hk,fun h6=>absurd (show s.k = 6 from h6) (by omega),fun i hi=>?_,?_⟩
 ·show (if 11 = 33 then _ else if 11 = 14 + r then _ else hd 11) = _
  rw [if_neg (by decide),if_neg (by omega)]; exact h.nl
 ·show (if 12 = 33 then _ else if 12 = 14 + r then _ else hd 12) = _
  rw [if_neg (by decide),if_neg (by omega)]; exact h.nd
 ·show (if 13 = 33 then _ else if 13 = 14 + r then _ else hd 13) = _
  rw [if_neg (by decide),if_neg (by omega)]; exact h.no
 ·have hi2 : i < (A.set r b).length:=hi
  rw [List.length_set] at hi2
  have e : (A.set r b)[i]'hi = if r = i then b else A[i]:=List.getElem_set ..
  show (if 14 + i = 33 then _ else if 14 + i = 14 + r then _ else hd (14 + i)) = .int .u8 (((A.set r b)[i]'hi).toNat : Int)
  rw [if_neg (by omega),e]
  by_cases hir : r = i
  ·rw [if_pos (by omega),if_pos hir]
  ·rw [if_neg (by omega),if_neg hir]
   exact h.own i hi2
 ·have hi2 : i < s.lens.length:=hi
  by_cases h33 : 36 + i = 33
  ·omega
  ·show (if 36 + i = 33 then _ else if 36 + i = 14 + r then _ else hd (36 + i)) = _
   rw [if_neg h33,if_neg (by omega)]
   exact h.lens i hi
 ·show (if 352 = 33 then _ else if 352 = 14 + r then _ else hd 352) = _
  rw [if_neg (by decide),if_neg (by omega)]; exact h.n
theorem Hd.set_tb {w : World} {hd : Nat -> Value} {s : GSt} {gt : Nat} (h : Hd w hd s) (h19 : s.own.length = 19) (hT : Tb w gt s.own) :
 Hd w (fun j=>if j = 34 then .pointer (some ⟨gt,0,none⟩) else hd j) { s with k:=5 }:=by
 refine ⟨h.nl,h.nd,h.no,fun i hi=>?_,h.nOwn,fun _=>⟨gt,rfl,hT⟩,fun h6=>absurd (show (5 : Nat) = 6 from h6) (by decide),fun i hi=>?_,h.n⟩
 ·have hi2 : i < s.own.length:=hi
  show (if 14 + i = 34 then _ else hd (14 + i)) = _
  rw [if_neg (by omega)]; exact h.own i hi
 ·show (if 36 + i = 34 then _ else hd (36 + i)) = _
  rw [if_neg (by omega)]; exact h.lens i hi
theorem ordS_nx {L0 D0 : List UInt8} {N most : Nat} (s : GSt) (hk : s.k = 4) (A : List UInt8) (n p : Nat) : (ordS s A n p).nx L0 D0 N most = (p + 3,if n + 1 < s.no then .ok (ordS s (A.set (rankN.getD n 0) (UInt8.ofNat (N / 2 ^ p % 8))) (n + 1) (p + 3))
 else if mayBe (cn (A.set (rankN.getD n 0) (UInt8.ofNat (N / 2 ^ p % 8)))) = true then .ok { ordS s (A.set (rankN.getD n 0) (UInt8.ofNat (N / 2 ^ p % 8))) (n + 1) (p + 3) with k:=5 } else .error 3):=by
 rw [GSt.nx_4 (show (ordS s A n p).k = 4 from hk)]
 rfl
theorem Rn.still {w w' : World} {g gf gw gr : Nat} {K : List Nat} {f : DF} {v vo : Value} {l : List UInt8} {q : Nat} {all x : List UInt8} (h : Rn w g gf gw gr K f v vo l q all x) (ho : Only [] w w') : Rn w' g gf gw gr K f v vo l q all x :=
 h.read ho.of_nil (h.rd.only ho (by simp) (by simp))
def OrdP (f f' : DF) (t : GSt) : Prop:=f'.k = f.k /\ t.k = 5
def OrdQ (f f' : DF) (t : GSt) : Prop:=f'.k = f.k /\ t.k = 4
def OrdR (B : List UInt8) (a o : Nat) (l : List UInt8) (g gf gw gr : Nat) (K : List Nat) (f : DF) (v vo : Value) (x : List UInt8) (s : GSt) (w wr : World) (q' : Nat) (f' : DF) (A : List UInt8) (n : Nat) : Prop :=
 n <= s.no /\ A.length = 19 /\ (∀ b ∈ A,b.toNat <= 7) /\ Rn wr g gf gw gr K f' v vo l q' s.out x /\ Only [g,gr] w wr /\ Same f f' /\ f'.k = f.k /\ Md wr f' (ordS s A n (8 * o + q')) /\
   ((n < s.no /\ Stp B a f.most s (ordS s A n (8 * o + q'))) \/
     (n = s.no /\ ∃ t,Stp B a f.most s t /\ t.k = 4 /\ t.p + 3 <= 8 * a /\ Nx B f.most t = (t.p + 3,if mayBe (cn A) = true then .ok { ordS s A n (8 * o + q') with k:=5 } else .error 3)))
set_option maxRecDepth 100000 in
set_option maxHeartbeats 8000000 in
theorem lens_any (B : List UInt8) (a o : Nat) (l : List UInt8) (hs : Src B a o l) (g gf gw gr : Nat) (K : List Nat) (f : DF) (v vo : Value) (q : Nat) (x : List UInt8) (s : GSt) (w : World) (h : Rn w g gf gw gr K f v vo l q s.out x) (hk : s.k = 4)
 (hm : Md w f s) (hwf : s.Wf) (hp : s.p = 8 * o + q) (hl : s.out.length <= f.most) :
 Calls Tryz.prog 224 #[.pointer (some ⟨g,11,none⟩),.pointer (some ⟨gr,0,none⟩)] w (fun e w'=>∃ c : Nat,e = .returned (.int .i64 (c : Int)) /\ Went B a o l g gf gw gr K f v vo x s (OrdP f) (OrdQ f) w c w'):=by
 have hhd:=hwf.head (by omega) (by omega)
 have hnow:=hwf.now hk
 have HS:=hide (aI hs (aI hk (aI hl (aI hhd hnow))))
 have HST:=hide (show OrdR B a o l g gf gw gr K f v vo x s w w q f s.own s.nOwn from ⟨by omega,hhd.2.2.2.2.2.2.1,hhd.2.2.2.2.2.2.2,h,Only.refl _ _,Same.refl f,rfl,by rw [<- hp]; exact hm,.inl ⟨hnow.1,by rw [<- hp]; exact .refl s⟩⟩)
 have hno : s.no <= 19:=hhd.2.2.2.2.2.1
 clear h hm hp hl hs hk hwf hhd hnow
 go_enter Tryz.func224,Tryz.ntmps224
 go_wp2_with fail
 go_loopw [5] (fun _ wr=>∃ (q' : Nat) (f' : DF) (A : List UInt8) (n : Nat),OrdR B a o l g gf gw gr K f v vo x s w wr q' f' A n) (fun _ wr=>8 * l.length - posOf wr gr)
 case atStart=>exact ⟨q,f,s.own,s.nOwn,HST.out⟩
 case round =>
  obtain ⟨q',f',A,n,hn,hA,hA7,hR,ho,hsm,hkk,hM,hcase⟩:=hrel
  have hHd:=hM.hd (show 4 <= s.k by have:=HS.out.2.1; omega) (show s.k <= 6 by have:=HS.out.2.1; omega)
  have k13 : wr.cell? ⟨g,13,none⟩ = some (.int .i64 (s.no : Int)):=by rw [hR.on.dec.hd (by decide) (by decide)]; exact congrArg some hHd.no
  have k33 : wr.cell? ⟨g,33,none⟩ = some (.int .i64 (n : Int)):=by rw [hR.on.dec.hd (by decide) (by decide)]; exact congrArg some hHd.nOwn
  have hpos:=posOf_eq hR.rd
  have HR:=hide (aI hR (aI ho (aI hsm (aI hkk (aI hM (aI hpos (aI hA (aI hA7 hHd))))))))
  rcases hcase with ⟨hlt,hst⟩ | ⟨heq,t,hst,htk,hnear,hnx⟩
  ·have htab:=hM.tab.ranks n (by omega)
   have hlti : (n : Int) < (s.no : Int):=by omega
   have hr19:=rankN_lt n (by omega)
   have hnx:=ordS_nx (L0:=fixedL) (D0:=fixedD2) (N:=num B) (most:=f.most) s HS.out.2.1 A n (8 * o + q')
   generalize hrr : rankN.getD n 0 = r at *
   have hB:=bits_gen HS.out.1 gr v q' 3 (by decide) wr.drew (hR.rd.drewN 1)
   have hn19 : n < 19:=by omega
   have HT:=hide (aI hlt (aI hst (aI hnx hrr)))
   clear hn hA hA7 hR ho hsm hkk hM hHd hpos hlt hst hnx hrr
   rcases hB with ⟨hfar,hB⟩ | ⟨hnear,hB⟩
   ·have HB:=hide (aI hB hfar)
    clear hB hfar
    go_wp2_with fail
    go_region
    all_goals
     go_wp2_with fail
     refine (HB.out.1).mono ?_
     rintro e w1 ⟨rfl,ho1,hr1⟩
     have H1:=hide (aI ho1 hr1)
     clear ho1 hr1
     go_wp2_with fail
     go_ret
     have hR:=HR.out.1
     have o1 : Only [gr] wr w1:=((Only.refl [gr] wr).drew).trans H1.out.1 (by simp)
     refine ⟨2,rfl,q',[],vo,f',by simpa using hR.read o1 H1.out.2,(Since.refl _ _ _).step ((HR.out.2.1.trans o1 (by simp)).weak (by simp)),HR.out.2.2.1,by simpa using HS.out.2.2.1,.inr (.inl ⟨rfl,_,HT.out.2.1.short (by show s.k ≠ 11; have:=HS.out.2.1; omega) (by rw [HT.out.2.2.1]; exact HB.out.2),by simp [ordS],hR.mdr HR.out.2.2.2.2.1 o1,.of rfl (by show s.k ≠ 1; have:=HS.out.2.1; omega),HR.out.2.2.2.1,HS.out.2.1⟩)⟩
   ·obtain ⟨b,hb⟩ : ∃ b,b = num B / 2 ^ (8 * o + q') % 2 ^ 3:=⟨_,rfl⟩
    have hb8 : b < 8:=by rw [hb]; exact Nat.mod_lt _ (by decide)
    rw [<- hb] at hB
    have HB:=hide (aI hB (aI hnear hb))
    clear hB hnear hb
    go_wp2_with fail
    go_region
    all_goals
     go_wp2_with fail
     refine (HB.out.1).mono ?_
     rintro e w1 ⟨rfl,ho1,hr1⟩
     have o1 : Only [gr] wr w1:=((Only.refl [gr] wr).drew).trans ho1 (by simp)
     have hR1:=HR.out.1.read o1 hr1
     have hM1:=HR.out.1.mdr HR.out.2.2.2.2.1 o1
     have c33 : w1.cell? ⟨g,33,none⟩ = some (.int .i64 (n : Int)):=by rw [hR1.on.dec.hd (by decide) (by decide)]; exact congrArg some HR.out.2.2.2.2.2.2.2.2.nOwn
     have crk : w1.cell? ⟨0,n,none⟩ = some (.int .u8 (r : Int)):=by have:=hM1.tab.ranks n hn19; rw [HT.out.2.2.2] at this; exact this
     have cst : w1.cell? ⟨g,14 + r,none⟩ = some (f'.hd (14 + r)):=hR1.on.dec.hd (by omega) (by omega)
     have fst : w1.frozen? ⟨g,14 + r,none⟩ = false:=Has.free hR1.on.dec _
     generalize f'.hd (14 + r) = u at cst
     have H1:=hide (aI hR1 (aI o1 hM1))
     clear hR1 o1 hM1 ho1 hr1 k13 k33 htab
     go_wp2_with fail
     go_region
     all_goals
      have d2 : Dc (w1.setCell ⟨g,14 + r,none⟩ (.int .u8 (b : Int))).drew g { f' with hd:=fun j=>if j = 14 + r then .int .u8 (b : Int) else f'.hd j }:=Dc.set_hd H1.out.1.on.dec (by omega) (by omega) _
      have o2 : Only [g] w1 (w1.setCell ⟨g,14 + r,none⟩ (.int .u8 (b : Int))).drew:=((Only.refl [g] w1).setCell (by simp) _).drew
      have k33 : (w1.setCell ⟨g,14 + r,none⟩ (.int .u8 (b : Int))).drew.cell? ⟨g,33,none⟩ = some (.int .i64 (n : Int)):=by
       rw [d2.hd (by decide) (by decide)]
       show some (if 33 = 14 + r then _ else f'.hd 33) = _
       rw [if_neg (by omega)]
       exact congrArg some HR.out.2.2.2.2.2.2.2.2.nOwn
      have q33 : (w1.setCell ⟨g,14 + r,none⟩ (.int .u8 (b : Int))).drew.frozen? ⟨g,33,none⟩ = false:=Has.free d2 33
      have H2:=hide (aI d2 o2)
      clear d2 o2 c33 crk cst fst
      generalize (w1.setCell ⟨g,14 + r,none⟩ (.int .u8 (b : Int))).drew = w2 at *
      go_wp2_with fail
      go_roundw
      case rel =>
       have d3 : Dc (w2.setCell ⟨g,33,none⟩ (.int .i64 ((n + 1 : Nat) : Int))) g { f' with hd:=fun j=>if j = 33 then .int .i64 ((n + 1 : Nat) : Int) else if j = 14 + r then .int .u8 (b : Int) else f'.hd j }:=Dc.set_hd H2.out.1 (by decide) (by decide) _
       have o3 : Only [g] w1 (w2.setCell ⟨g,33,none⟩ (.int .i64 ((n + 1 : Nat) : Int))):=H2.out.2.setCell (by simp) _
       have hA:=HR.out.2.2.2.2.2.2.1
       have hb7 : (UInt8.ofNat b).toNat = b:=by rw [UInt8.toNat_ofNat']; omega
       have hnx:=HT.out.2.2.1
       rw [show num B / 2 ^ (8 * o + q') % 8 = b from HB.out.2.2.symm] at hnx
       have hM1:=H1.out.2.2
       have hHd1 : Hd w1 f'.hd (ordS s A n (8 * o + q')):=hM1.hd (show 4 <= s.k by have:=HS.out.2.1; omega) (show s.k <= 6 by have:=HS.out.2.1; omega)
       have hHd:=hHd1.set_own (p':=8 * o + (q' + 3)) (b:=UInt8.ofNat b) hr19 hA
       rw [hb7] at hHd
       have hk4:=HS.out.2.1
       have hM3 : Md w1 { f' with hd:=fun j=>if j = 33 then .int .i64 ((n + 1 : Nat) : Int) else if j = 14 + r then .int .u8 (b : Int) else f'.hd j } (ordS s (A.set r (UInt8.ofNat b)) (n + 1) (8 * o + (q' + 3))) :=
        ⟨hM1.last,fun h=>absurd (show s.k = 2 from h) (by omega),fun h=>absurd (show 7 <= s.k from h) (by omega),fun h=>absurd (show s.k = 8 \/ s.k = 10 from h) (by omega),fun h=>absurd (show 9 <= s.k from h) (by omega),fun _ _=>hHd.resolve_right (by omega),hM1.tab⟩
       refine ⟨q' + 3,{ f' with hd:=fun j=>if j = 33 then .int .i64 ((n + 1 : Nat) : Int) else if j = 14 + r then .int .u8 (b : Int) else f'.hd j },A.set r (UInt8.ofNat b),n + 1,HT.out.1,by rw [List.length_set]; exact hA,fun c hc=>?_,H1.out.1.cells o3 d3 rfl rfl (H1.out.1.keepX o3),(HR.out.2.1.trans (H1.out.2.1.weak (T:=[g,gr]) (by simp)) (by simp)).trans (o3.weak (T:=[g,gr]) (by simp)) (by simp),HR.out.2.2.1.trans ⟨rfl,rfl,rfl,rfl,rfl,rfl,rfl,rfl,rfl⟩,HR.out.2.2.2.1,H1.out.1.mdg hM3 o3,?_⟩
       ·rcases List.mem_or_eq_of_mem_set hc with h | h
        ·exact HR.out.2.2.2.2.2.2.2.1 c h
        ·rw [h,hb7]; omega
       ·by_cases hlast : n + 1 < s.no
        ·rw [if_pos hlast] at hnx
         exact .inl ⟨hlast,HT.out.2.1.snoc (show s.k ≠ 11 by omega) (by rw [show 8 * o + (q' + 3) = 8 * o + q' + 3 by omega]; exact hnx) HB.out.2.1⟩
        ·rw [if_neg hlast] at hnx
         exact .inr ⟨by have:=HT.out.1; omega,_,HT.out.2.1,hk4,HB.out.2.1,by rw [show 8 * o + (q' + 3) = 8 * o + q' + 3 by omega]; exact hnx⟩
      case measure =>
       have h1:=HR.out.2.2.2.2.2.1
       have h2:=H1.out.1.rd
       have h3 : Rd (w2.setCell ⟨g,33,none⟩ (.int .i64 ((n + 1 : Nat) : Int))) gr v l (q' + 3):=(H1.out.1.cells (H2.out.2.setCell (by simp) _) (Dc.set_hd H2.out.1 (by decide) (by decide) _) rfl rfl (H1.out.1.keepX (H2.out.2.setCell (by simp) _))).rd
       have h4:=posOf_eq h3
       have h5:=h2.2.2.2
       show 8 * l.length - posOf (w2.setCell ⟨g,33,none⟩ (.int .i64 ((n + 1 : Nat) : Int))) gr < _
       rw [h4,h1]
       omega
  ·have hlti : ¬ (n : Int) < (s.no : Int):=by omega
   have hHA : Holds wr.drew 1 (some ⟨g,14,none⟩) 19 (bvals A):=by
    have:=Holds.cells (w:=wr.drew) (g:=g) (o:=14) (l:=A) (Has.lt hR.on.dec) (fun i hi=>by
     show wr.cell? _ = _
     rw [hR.on.dec.hd (by omega) (by omega)]
     exact congrArg some (hHd.own i hi))
    rw [hA] at this
    exact this
   have HT:=hide (aI heq (aI hst (aI htk (aI hnear hnx))))
   have hfar : far A = false:=far_of (fun b hb=>by have:=hA7 b hb; omega)
   clear hn hA7 hR ho hsm hkk hM hHd hpos hst htk hnear hnx
   by_cases hmay : mayBe (cn A) = true
   ·have HN:=hide (newT_any (some ⟨g,14,none⟩) 19 19 A wr.drew hHA hA (by decide) hfar hmay)
    clear hHA hA hfar
    go_wp2_with fail
    go_region
    all_goals
     go_wp2_with fail
     refine (HN.out).mono ?_
     rintro e w1 ⟨gt,rfl,_,hT,ho1⟩
     have hR1:=HR.out.1.still (((Only.refl [] wr).drew).trans ho1 (by simp))
     have q34 : w1.frozen? ⟨g,34,none⟩ = false:=Has.free hR1.on.dec 34
     have c34 : w1.cell? ⟨g,34,none⟩ = some (f'.hd 34):=hR1.on.dec.hd (by decide) (by decide)
     generalize f'.hd 34 = u at c34
     have H1:=hide (aI hR1 (aI hT ho1))
     clear hR1 hT ho1 k13 k33
     go_wp2_with fail
     go_ret
     have o1 : Only [] wr w1:=((Only.refl [] wr).drew).trans H1.out.2.2 (by simp)
     have o2 : Only [g] w1 (w1.setCell ⟨g,34,none⟩ (.pointer (some ⟨gt,0,none⟩))):=(Only.refl [g] w1).setCell (by simp) _
     have d2 : Dc (w1.setCell ⟨g,34,none⟩ (.pointer (some ⟨gt,0,none⟩))) g { f' with hd:=fun j=>if j = 34 then .pointer (some ⟨gt,0,none⟩) else f'.hd j }:=Dc.set_hd H1.out.1.on.dec (by decide) (by decide) _
     have hst:=HT.out.2.1
     have htk:=HT.out.2.2.1
     have hnear:=HT.out.2.2.2.1
     have hnx:=HT.out.2.2.2.2
     rw [if_pos hmay] at hnx
     have hM1 : Md w1 f' (ordS s A n (8 * o + q')):=HR.out.2.2.2.2.1.keep o1 (Other.nil _)
     have hk4:=HS.out.2.1
     have hHd:=(hM1.hd (show 4 <= s.k by omega) (show s.k <= 6 by omega)).set_tb HR.out.2.2.2.2.2.2.1 H1.out.2.1
     have hM2 : Md w1 { f' with hd:=fun j=>if j = 34 then .pointer (some ⟨gt,0,none⟩) else f'.hd j } { ordS s A n (8 * o + q') with k:=5 } :=
      ⟨hM1.last,fun h=>absurd (show (5 : Nat) = 2 from h) (by decide),fun h=>absurd (show (7 : Nat) <= 5 from h) (by decide),fun h=>absurd (show (5 : Nat) = 8 \/ (5 : Nat) = 10 from h) (by decide),fun h=>absurd (show (9 : Nat) <= 5 from h) (by decide),fun _ _=>hHd,hM1.tab⟩
     exact ⟨0,rfl,q',[],vo,{ f' with hd:=fun j=>if j = 34 then .pointer (some ⟨gt,0,none⟩) else f'.hd j },by simpa using H1.out.1.cells o2 d2 rfl rfl (H1.out.1.keepX o2),(Since.refl _ _ _).step ((HR.out.2.1.weak (T:=[g,gf,gw,gr]) (by intro k hk _; simp only [List.mem_cons,List.not_mem_nil,or_false] at hk ⊢; omega)).trans ((o1.of_nil (T:=[g,gf,gw,gr])).trans (o2.weak (T:=[g,gf,gw,gr]) (by simp)) (by simp)) (by simp)),HR.out.2.2.1.trans ⟨rfl,rfl,rfl,rfl,rfl,rfl,rfl,rfl,rfl⟩,by simpa using HS.out.2.2.1,.inl ⟨rfl,_,hst.then_ (.one (by omega) hnx hnear),by simp [ordS],H1.out.1.mdg hM2 o2,.of rfl (by show (5 : Nat) ≠ 1; decide),HR.out.2.2.2.1,rfl⟩⟩
   ·have HN:=hide (newF_any (some ⟨g,14,none⟩) 19 19 A wr.drew hHA hA (by decide) (by unfold newE; rw [if_neg (by rw [hA,hfar]; decide),if_neg hmay]; decide))
    have hne : newE A = 3:=by unfold newE; rw [if_neg (by rw [hA,hfar]; decide),if_neg hmay]
    rw [hne] at HN
    clear hHA hA hfar hne
    go_wp2_with fail
    go_region
    all_goals
     go_wp2_with fail
     refine (HN.out).mono ?_
     rintro e w1 ⟨rfl,ho1⟩
     have hR1:=HR.out.1.still (((Only.refl [] wr).drew).trans ho1 (by simp))
     have q34 : w1.frozen? ⟨g,34,none⟩ = false:=Has.free hR1.on.dec 34
     have c34 : w1.cell? ⟨g,34,none⟩ = some (f'.hd 34):=hR1.on.dec.hd (by decide) (by decide)
     generalize f'.hd 34 = u at c34
     have H1:=hide (aI hR1 ho1)
     clear hR1 ho1 k13 k33
     go_wp2_with fail
     go_ret
     have o1 : Only [] wr w1:=((Only.refl [] wr).drew).trans H1.out.2 (by simp)
     have o2 : Only [g] w1 (w1.setCell ⟨g,34,none⟩ (.pointer none)):=(Only.refl [g] w1).setCell (by simp) _
     have d2 : Dc (w1.setCell ⟨g,34,none⟩ (.pointer none)) g { f' with hd:=fun j=>if j = 34 then .pointer none else f'.hd j }:=Dc.set_hd H1.out.1.on.dec (by decide) (by decide) _
     have hst:=HT.out.2.1
     have htk:=HT.out.2.2.1
     have hnear:=HT.out.2.2.2.1
     have hnx:=HT.out.2.2.2.2
     rw [if_neg hmay] at hnx
     exact ⟨3,rfl,q',[],vo,{ f' with hd:=fun j=>if j = 34 then .pointer none else f'.hd j },by simpa using H1.out.1.cells o2 d2 rfl rfl (H1.out.1.keepX o2),(Since.refl _ _ _).step ((HR.out.2.1.weak (T:=[g,gf,gw,gr]) (by intro k hk _; simp only [List.mem_cons,List.not_mem_nil,or_false] at hk ⊢; omega)).trans ((o1.of_nil (T:=[g,gf,gw,gr])).trans (o2.weak (T:=[g,gf,gw,gr]) (by simp)) (by simp)) (by simp)),HR.out.2.2.1.trans ⟨rfl,rfl,rfl,rfl,rfl,rfl,rfl,rfl,rfl⟩,by simpa using HS.out.2.2.1,.inr (.inr ⟨.inl rfl,fun h=>by show f'.k ≠ 11; rw [HR.out.2.2.2.1]; exact h,t,hst.bad (by omega) hnx hnear⟩)⟩
theorem okOwn {s : GSt} (h : s.Wf) (h5 : 5 <= s.k) (h6 : s.k <= 6) : OkT s.own:=by
 have hh:=h.head (by omega) (by omega)
 have hs:=h.said h5 h6
 exact ⟨by rw [hh.2.2.2.2.2.2.1]; decide,far_of (fun b hb=>by have:=hh.2.2.2.2.2.2.2 b hb; omega),hs.1⟩
def SayP (f f' : DF) (t : GSt) : Prop:=f'.k = f.k /\ t.k = 6
def SayQ (f f' : DF) (t : GSt) : Prop:=f'.k = f.k /\ t.k = 5
theorem Hd.set_sym {w : World} {hd : Nat -> Value} {s : GSt} {X p : Nat} (h : Hd w hd s) (h19 : s.own.length = 19) :
 Hd w (fun j=>if j = 35 then .int .i64 (X : Int) else hd j) { s with k:=6,sym:=X,p:=p } \/ s.k < 5:=by
 by_cases hk : s.k < 5
 ·exact .inr hk
 refine .inl ⟨h.nl,h.nd,h.no,fun i hi=>?_,h.nOwn,fun _=>h.tb (by omega),fun _=>rfl,fun i hi=>?_,h.n⟩
 ·have hi2 : i < s.own.length:=hi
  show (if 14 + i = 35 then _ else hd (14 + i)) = _
  rw [if_neg (by omega)]; exact h.own i hi
 ·show (if 36 + i = 35 then _ else hd (36 + i)) = _
  rw [if_neg (by omega)]; exact h.lens i hi
set_option maxRecDepth 100000 in
set_option maxHeartbeats 8000000 in
theorem say_any (B : List UInt8) (a o : Nat) (l : List UInt8) (hs : Src B a o l) (g gf gw gr : Nat) (K : List Nat) (f : DF) (v vo : Value) (q : Nat) (x : List UInt8) (s : GSt) (w : World) (h : Rn w g gf gw gr K f v vo l q s.out x) (hk : s.k = 5)
 (hm : Md w f s) (hwf : s.Wf) (hp : s.p = 8 * o + q) (hl : s.out.length <= f.most) :
 Calls Tryz.prog 225 #[.pointer (some ⟨g,11,none⟩),.pointer (some ⟨gr,0,none⟩)] w (fun e w'=>∃ c : Nat,e = .returned (.int .i64 (c : Int)) /\ Went B a o l g gf gw gr K f v vo x s (SayP f) (SayQ f) w c w'):=by
 have hHd:=hm.hd (by omega) (by omega)
 have h19:=(hwf.head (by omega) (by omega)).2.2.2.2.2.2.1
 obtain ⟨gt,h34,hT⟩:=hHd.tb (by omega)
 have c34 : w.cell? ⟨g,34,none⟩ = some (.pointer (some ⟨gt,0,none⟩)):=by rw [h.on.dec.hd (by decide) (by decide),h34]
 obtain ⟨X,c,n,hRead,hcase⟩:=read_gen hs gt gr v s.own q w hT h.rd (okOwn hwf (by omega) (by omega))
 rw [<- hp] at hcase
 have hnx:=GSt.nx_5 (L0:=fixedL) (D0:=fixedD2) (N:=num B) (most:=f.most) hk
 have h11 : s.k ≠ 11:=by omega
 have HH:=hide (aI h (aI hm (aI hp (aI hl (aI h11 (aI hk (aI hnx (aI hHd h19))))))))
 have HC:=hide hRead
 clear hs h hm hp hl hk hwf hnx hRead hHd h19 h34 hT h11
 rcases hcase with ⟨rfl,rfl,hfar⟩ | ⟨rfl,rfl,hnear,herr⟩ | ⟨rfl,hn,hnear,hqn,hh⟩
 ·have HF:=hide hfar
  clear hfar
  go_enter Tryz.func225,Tryz.ntmps225
  go_wp2_with fail
  refine (HC.out).mono ?_
  rintro e w1 ⟨rfl,ho1,hr1⟩
  have H1:=hide (aI ho1 hr1)
  clear ho1 hr1
  go_wp2_with fail
  go_ret
  have hH:=HH.out
  exact ⟨2,rfl,q,[],vo,f,by simpa using hH.1.read H1.out.1 H1.out.2,(Since.refl _ _ _).step (H1.out.1.weak (by simp)),Same.refl f,by simpa using hH.2.2.2.1,.inr (.inl ⟨rfl,s,.short s hH.2.2.2.2.1 (by rw [hH.2.2.2.2.2.2.1]; exact HF.out),by simp,hH.1.mdr hH.2.1 H1.out.1,.of hH.2.2.1 (by have:=hH.2.2.2.2.2.1; omega),rfl,hH.2.2.2.2.2.1⟩)⟩
 ·have HF:=hide (aI hnear herr)
  clear hnear herr
  go_enter Tryz.func225,Tryz.ntmps225
  go_wp2_with fail
  refine (HC.out).mono ?_
  rintro e w1 ⟨rfl,ho1,hr1⟩
  have H1:=hide (aI ho1 hr1)
  clear ho1 hr1
  go_wp2_with fail
  go_ret
  have hH:=HH.out
  have hnx:=hH.2.2.2.2.2.2.1
  rw [if_pos (.inl HF.out.2)] at hnx
  exact ⟨3,rfl,q,[],vo,f,by simpa using hH.1.read H1.out.1 H1.out.2,(Since.refl _ _ _).step (H1.out.1.weak (by simp)),Same.refl f,by simpa using hH.2.2.2.1,.inr (.inr ⟨.inl rfl,fun h=>h,s,(Steps.refl s).bad hH.2.2.2.2.1 hnx HF.out.1⟩)⟩
 ·have hnx:=HH.out.2.2.2.2.2.2.1
  rw [hh] at hnx
  dsimp only at hnx
  obtain ⟨m,hml⟩ : ∃ m,m = s.lens.length:=⟨_,rfl⟩
  have HF:=hide (aI hnear (aI hqn (aI hn hml)))
  by_cases hbad : X = 16 /\ m = 0
  ·obtain ⟨rfl,rfl⟩:=hbad
   rw [if_pos (.inr ⟨rfl,List.eq_nil_of_length_eq_zero hml.symm⟩)] at hnx
   have HN:=hide hnx
   clear hnx hh hnear hqn hn hml
   go_enter Tryz.func225,Tryz.ntmps225
   go_wp2_with fail
   refine (HC.out).mono ?_
   rintro e w1 ⟨rfl,ho1,hr1⟩
   have h1:=HH.out.1.read ho1 hr1
   have c352 : w1.cell? ⟨g,352,none⟩ = some (.int .i64 0):=by rw [h1.on.dec.hd (by decide) (by decide),HH.out.2.2.2.2.2.2.2.1.n,<- HF.out.2.2.2]; rfl
   have H1:=hide (aI ho1 h1)
   clear ho1 hr1 h1
   go_wp2_with fail
   go_ret
   have hH:=HH.out
   exact ⟨3,rfl,q + n,[],vo,f,by simpa using H1.out.2,(Since.refl _ _ _).step (H1.out.1.weak (by simp)),Same.refl f,by simpa using hH.2.2.2.1,.inr (.inr ⟨.inl rfl,fun h=>h,s,(Steps.refl s).bad hH.2.2.2.2.1 HN.out HF.out.1⟩)⟩
  ·rw [if_neg (by
    rintro (h | ⟨h1,h2⟩)
    ·exact h rfl
    ·exact hbad ⟨h1,by rw [hml,h2]; rfl⟩)] at hnx
   have HN:=hide hnx
   clear hnx hh hnear hqn hn hml
   rcases Decidable.em (X = 16) with rfl | hX
   ·have hb2 : ¬ (m : Int) = 0:=by omega
    clear hbad
    go_enter Tryz.func225,Tryz.ntmps225
    go_wp2_with fail
    refine (HC.out).mono ?_
    rintro e w1 ⟨rfl,ho1,hr1⟩
    have h1:=HH.out.1.read ho1 hr1
    have c352 : w1.cell? ⟨g,352,none⟩ = some (.int .i64 (m : Int)):=by rw [h1.on.dec.hd (by decide) (by decide),HH.out.2.2.2.2.2.2.2.1.n,<- HF.out.2.2.2]
    have c35 : w1.cell? ⟨g,35,none⟩ = some (f.hd 35):=h1.on.dec.hd (by decide) (by decide)
    have f35 : w1.frozen? ⟨g,35,none⟩ = false:=Has.free h1.on.dec 35
    generalize f.hd 35 = u at c35
    have H1:=hide (aI ho1 h1)
    clear ho1 hr1 h1
    go_wp2_with fail
    all_goals
     go_ret
     have hH:=HH.out
     have oW : Only [g] w1 (w1.setCell ⟨g,35,none⟩ (.int .i64 ((16 : Nat) : Int))):=(Only.refl [g] _).setCell (by simp) _
     have d2 : Dc (w1.setCell ⟨g,35,none⟩ (.int .i64 ((16 : Nat) : Int))) g { f with hd:=fun j=>if j = 35 then .int .i64 ((16 : Nat) : Int) else f.hd j }:=Dc.set_hd H1.out.2.on.dec (by decide) (by decide) _
     have hM1:=hH.1.mdr hH.2.1 H1.out.1
     have hHd:=((hM1.hd (by omega) (by omega)).set_sym (X:=16) (p:=s.p + n) hH.2.2.2.2.2.2.2.2).resolve_right (by omega)
     have hM2 : Md w1 { f with hd:=fun j=>if j = 35 then .int .i64 ((16 : Nat) : Int) else f.hd j } { s with k:=6,sym:=16,p:=s.p + n } :=
      ⟨hM1.last,fun h=>absurd (show (6 : Nat) = 2 from h) (by decide),fun h=>absurd (show (7 : Nat) <= 6 from h) (by decide),fun h=>absurd (show (6 : Nat) = 8 \/ (6 : Nat) = 10 from h) (by decide),fun h=>absurd (show (9 : Nat) <= 6 from h) (by decide),fun _ _=>hHd,hM1.tab⟩
     first
      | (exfalso; omega)
      | exact ⟨0,rfl,q + n,[],vo,{ f with hd:=fun j=>if j = 35 then .int .i64 ((16 : Nat) : Int) else f.hd j },by simpa using H1.out.2.cells oW d2 rfl rfl (H1.out.2.keepX oW),(Since.refl _ _ _).step ((H1.out.1.weak (T:=[g,gf,gw,gr]) (by simp)).trans (oW.weak (T:=[g,gf,gw,gr]) (by simp)) (by simp)),⟨rfl,rfl,rfl,rfl,rfl,rfl,rfl,rfl,rfl⟩,by simpa using hH.2.2.2.1,.inl ⟨rfl,_,.one hH.2.2.2.2.1 HN.out HF.out.1,by simp,H1.out.2.mdg hM2 oW,.of (by show s.p + n = _; rw [hH.2.2.1]; omega) (by show (6 : Nat) ≠ 1; decide),rfl,rfl⟩⟩
   ·have hb2 : ¬ (X : Int) = 16:=by omega
    clear hbad hX
    go_enter Tryz.func225,Tryz.ntmps225
    go_wp2_with fail
    refine (HC.out).mono ?_
    rintro e w1 ⟨rfl,ho1,hr1⟩
    have h1:=HH.out.1.read ho1 hr1
    have c352 : w1.cell? ⟨g,352,none⟩ = some (.int .i64 (m : Int)):=by rw [h1.on.dec.hd (by decide) (by decide),HH.out.2.2.2.2.2.2.2.1.n,<- HF.out.2.2.2]
    have c35 : w1.cell? ⟨g,35,none⟩ = some (f.hd 35):=h1.on.dec.hd (by decide) (by decide)
    have f35 : w1.frozen? ⟨g,35,none⟩ = false:=Has.free h1.on.dec 35
    generalize f.hd 35 = u at c35
    have H1:=hide (aI ho1 h1)
    clear ho1 hr1 h1
    go_wp2_with fail
    all_goals
     go_ret
     have hH:=HH.out
     have oW : Only [g] w1 (w1.setCell ⟨g,35,none⟩ (.int .i64 (X : Int))):=(Only.refl [g] _).setCell (by simp) _
     have d2 : Dc (w1.setCell ⟨g,35,none⟩ (.int .i64 (X : Int))) g { f with hd:=fun j=>if j = 35 then .int .i64 (X : Int) else f.hd j }:=Dc.set_hd H1.out.2.on.dec (by decide) (by decide) _
     have hM1:=hH.1.mdr hH.2.1 H1.out.1
     have hHd:=((hM1.hd (by omega) (by omega)).set_sym (X:=X) (p:=s.p + n) hH.2.2.2.2.2.2.2.2).resolve_right (by omega)
     have hM2 : Md w1 { f with hd:=fun j=>if j = 35 then .int .i64 (X : Int) else f.hd j } { s with k:=6,sym:=X,p:=s.p + n } :=
      ⟨hM1.last,fun h=>absurd (show (6 : Nat) = 2 from h) (by decide),fun h=>absurd (show (7 : Nat) <= 6 from h) (by decide),fun h=>absurd (show (6 : Nat) = 8 \/ (6 : Nat) = 10 from h) (by decide),fun h=>absurd (show (9 : Nat) <= 6 from h) (by decide),fun _ _=>hHd,hM1.tab⟩
     first
      | (exfalso; omega)
      | exact ⟨0,rfl,q + n,[],vo,{ f with hd:=fun j=>if j = 35 then .int .i64 (X : Int) else f.hd j },by simpa using H1.out.2.cells oW d2 rfl rfl (H1.out.2.keepX oW),(Since.refl _ _ _).step ((H1.out.1.weak (T:=[g,gf,gw,gr]) (by simp)).trans (oW.weak (T:=[g,gf,gw,gr]) (by simp)) (by simp)),⟨rfl,rfl,rfl,rfl,rfl,rfl,rfl,rfl,rfl⟩,by simpa using hH.2.2.2.1,.inl ⟨rfl,_,.one hH.2.2.2.2.1 HN.out HF.out.1,by simp,H1.out.2.mdg hM2 oW,.of (by show s.p + n = _; rw [hH.2.2.1]; omega) (by show (6 : Nat) ≠ 1; decide),rfl,rfl⟩⟩
set_option maxRecDepth 100000 in
set_option maxHeartbeats 2000000 in
theorem meant_any (g : Nat) (f : DF) (s : GSt) (w : World) (hd : Dc w g f) (hh : Hd w f.hd s) (hk : s.k = 6) (hs : s.sym <= 18) (hne : s.sym = 16 -> s.lens ≠ []) (hlen : s.lens.length <= 316) :
 Calls Tryz.prog 234 #[.pointer (some ⟨g,11,none⟩)] w fun e w'=>e = .returned (.int .u8 ((repV s.sym s.lens).toNat : Int)) /\ ∃ m,w' = w.drewN m:=by
 have c35 : w.cell? ⟨g,35,none⟩ = some (.int .i64 (s.sym : Int)):=by rw [hd.hd (by decide) (by decide),hh.sym hk]
 by_cases h16 : s.sym = 16
 ·have hpos : 0 < s.lens.length:=List.length_pos_iff.2 (hne h16)
  obtain ⟨m,hm⟩ : ∃ m,s.lens.length = m + 1:=⟨s.lens.length - 1,by omega⟩
  have c352 : w.cell? ⟨g,352,none⟩ = some (.int .i64 ((m + 1 : Nat) : Int)):=by rw [hd.hd (by decide) (by decide),hh.n,hm]
  have hlast : repV s.sym s.lens = s.lens[m]'(by omega):=by
   unfold repV
   rw [if_neg (by omega),if_pos h16]
   have : s.lens.getLast (List.ne_nil_of_length_pos hpos) = s.lens[m]'(by omega):=by rw [List.getLast_eq_getElem]; congr 1; omega
   rw [<- this,List.getLastD_eq_getLast?,List.getLast?_eq_some_getLast (List.ne_nil_of_length_pos hpos)]
   rfl
  have cl : w.cell? ⟨g,36 + m,none⟩ = some (.int .u8 ((s.lens[m]'(by omega)).toNat : Int)):=by rw [hd.hd (by omega) (by omega),hh.lens m (by omega)]
  rw [hlast]
  generalize s.lens[m]'(by omega) = b at *
  rw [h16] at c35
  have e1 : ((m + 1 : Nat) : Int) - 1 = (m : Int):=by omega
  have hm316 : m < 316:=by omega
  obtain ⟨m1,hm1⟩ : ∃ m1,m1 = m + 1:=⟨_,rfl⟩
  rw [<- hm1] at c352 e1
  have hm1b : m1 <= 316:=by omega
  clear hd hh hk hs hne hlen hpos hlast h16 hm hm1
  go_enter Tryz.func234,Tryz.ntmps234
  go_wp2_with fail
  go_region
  all_goals
   go_wp2_with fail
   go_ret
   exact ⟨rfl,_,rfl⟩
 ·by_cases h17 : s.sym = 17 \/ s.sym = 18
  ·have e0 : repV s.sym s.lens = 0:=by unfold repV; rw [if_neg (by omega),if_neg h16]
   rw [e0]
   rcases h17 with h | h <;>
   ·rw [h] at c35
    clear hd hh hk hs hne hlen h16 e0 h
    go_enter Tryz.func234,Tryz.ntmps234
    go_wp2_with fail
    go_ret
    exact ⟨rfl,0,rfl⟩
  ·have hlt : s.sym < 16:=by omega
   have e0 : (repV s.sym s.lens).toNat = s.sym:=by unfold repV; rw [if_pos hlt,UInt8.toNat_ofNat']; omega
   rw [e0]
   generalize s.sym = y at *
   have n1 : ¬ (y : Int) = 16:=by omega
   have n2 : ¬ (y : Int) = 17:=by omega
   have n3 : ¬ (y : Int) = 18:=by omega
   have hy : (y : Int) < 256:=by omega
   clear hd hh hk hs hne hlen h16 h17 e0
   go_enter Tryz.func234,Tryz.ntmps234
   go_wp2_with fail
   go_ret
   exact ⟨rfl,0,rfl⟩
end Go.Proofs.YtmfoeihapalkpaaGreatDoor
