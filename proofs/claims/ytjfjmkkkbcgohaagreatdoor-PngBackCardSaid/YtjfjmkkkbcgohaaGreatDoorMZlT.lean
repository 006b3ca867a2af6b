import Derived.Test.YtjfjmkkkbcgohaaGreatDoorMInfP
namespace Go.Proofs.YtjfjmkkkbcgohaaGreatDoor
open Go Go.RowKit
def UHead (b : List UInt8) : Prop:=2 <= b.length /\ mhB 2 (wz b 0) (wz b 1) = true
abbrev UEnd (b : List UInt8) (most e : Nat) (t : GSt) : Prop:=End (b.drop 2) (b.length - 2) most st0 e t
def ub (t : GSt) : Nat:=(t.p + 7) / 8
def UBad (b : List UInt8) (most c : Nat) : Prop :=
 (c = 3 /\ mhB (min b.length 2) (wz b 0) (wz b 1) = false) \/ (UHead b /\ (c = 3 \/ c = 5) /\ ∃ t,UEnd b most c t) \/
 (c = 4 /\ UHead b /\ ∃ t,UEnd b most 0 t /\ 2 + ub t + 4 <= b.length /\ (b.drop (2 + ub t)).take 4 ≠ bigN (adWord (adOf t.out)))
def UShort (b : List UInt8) (most : Nat) : Prop :=
 (b.length < 2 /\ mhB b.length (wz b 0) (wz b 1) = true) \/ (UHead b /\ ∃ t,UEnd b most 2 t) \/ (UHead b /\ ∃ t,UEnd b most 0 t /\ b.length < 2 + ub t + 4)
def UGood (b : List UInt8) (most : Nat) (t : GSt) : Prop:=UHead b /\ UEnd b most 0 t /\ 2 + ub t + 4 <= b.length /\ (b.drop (2 + ub t)).take 4 = bigN (adWord (adOf t.out))
theorem wz_wait (b : List UInt8) (i : Nat) (hi : i < 2) : wz (waitZ [0,0,0,0] b 0 (min b.length 2)) i = wz b i:=by
 unfold wz waitZ
 rw [List.take_zero,List.nil_append,Nat.zero_add]
 match b with
 | []=>match i,hi with
   | 0,_=>rfl
   | 1,_=>rfl
 | [x]=>match i,hi with
   | 0,_=>rfl
   | 1,_=>rfl
 | x :: y :: l =>
   have e : min (x :: y :: l).length 2 = 2:=by simp
   rw [e]
   match i,hi with
   | 0,_=>rfl
   | 1,_=>rfl
theorem wz_wait' {b : List UInt8} {n : Nat} (hbl : b.length = n) (i : Nat) (hi : i < 2) : wz (waitZ [0,0,0,0] b 0 (min n 2)) i = wz b i:=by subst hbl; exact wz_wait b i hi
def OutW (b : List UInt8) (most : Nat) (w : World) (g : Nat) (e : Ending) (w2 : World) : Prop :=
 ∃ (v : Value) (c : Nat) (f : DF) (sm : Value) (part : Nat) (wb : List UInt8) (k : Nat),e = .returned (.tuple #[v,.int .i64 (c : Int)]) /\ Dc w2 g f /\ f.tail = tailZ sm part wb k /\ f.used <= 1000000000 /\ Only [] w w2 /\
   ((c ≠ 0 /\ UBad b most c) \/ (c = 0 /\ part ≠ 3 /\ UShort b most) \/ (c = 0 /\ part = 3 /\ ∃ t,UGood b most t /\ f.used = ub t /\ w2.ownsRow 0 5 1 v t.out.length (bvals t.out)))
abbrev fz (most gw gt : Nat) (tl : List Value) : DF:={ DF.newZ most gw gt with tail:=tl }
def ifA (ga : Nat) : Value:=.iface 99 (.pointer (some ⟨ga,0,none⟩))
theorem part_of {w : World} {g : Nat} {f : DF} {sm : Value} {part k : Nat} {wb : List UInt8} (hd : Dc w g f) (ht : f.tail = tailZ sm part wb k) : w.cell? ⟨g,358,none⟩ = some (.int .i64 (part : Int)):=by
 have:=hd.tail 1
 rw [ht] at this
 exact this
def P0 (b : List UInt8) (most n g gw gt : Nat) (A : Option Addr) (w1 : World) (e : Ending) (w' : World) : Prop:=Only [g] w1 w' /\
 ((mhB (0 + min n 2) (wz (waitZ [0,0,0,0] b 0 (min n 2)) 0) (wz (waitZ [0,0,0,0] b 0 (min n 2)) 1) = false /\ e = .returned (.tuple #[.slice none 0 0,.int .i64 3]) /\ Dc w' g (fz most gw gt (tailZ .nilIface 0 (waitZ [0,0,0,0] b 0 (min n 2)) (0 + min n 2)))) \/
   (mhB (0 + min n 2) (wz (waitZ [0,0,0,0] b 0 (min n 2)) 0) (wz (waitZ [0,0,0,0] b 0 (min n 2)) 1) = true /\ ∃ A' c',e = .returned (.tuple #[.slice A' (n - min n 2) c',.int .i64 0]) /\ Holds w' 1 A' (n - min n 2) (bvals (b.drop (min n 2))) /\ n - min n 2 <= c' /\ (∀ ad',A' = some ad' -> ∃ ad,A = some ad /\ ad'.block = ad.block) /\ (A' = none -> c' = 0) /\
     ((0 + min n 2 < 2 /\ Dc w' g (fz most gw gt (tailZ .nilIface 0 (waitZ [0,0,0,0] b 0 (min n 2)) (0 + min n 2)))) \/
       (0 + min n 2 = 2 /\ ∃ ga,w1.heap.size <= ga /\ Adl w' ga [] /\ Dc w' g (fz most gw gt (tailZ (ifA ga) 1 (waitZ [0,0,0,0] b 0 (min n 2)) 0))))))
structure B0 (b : List UInt8) (most n g gw gt : Nat) (A : Option Addr) (w1 : World) (b1 : Value) (w2 : World) (ga : Nat) (A' : Option Addr) (c' : Nat) (wb : List UInt8) : Prop where
 head : UHead b
 only : Only [g] w1 w2
 b1 : b1 = .slice A' (n - 2) c'
 holds : Holds w2 1 A' (n - 2) (bvals (b.drop 2))
 cap : n - 2 <= c'
 blk : ∀ ad',A' = some ad' -> ∃ ad,A = some ad /\ ad'.block = ad.block
 nil : A' = none -> c' = 0
 gge : w1.heap.size <= ga
 ad : Adl w2 ga []
 wl : wb.length = 4
 dec : Dc w2 g (fz most gw gt (tailZ (ifA ga) 1 wb 0))
set_option maxRecDepth 100000 in
theorem b0_of {b : List UInt8} {most n g gw gt : Nat} {A : Option Addr} {w1 : World} {b1 : Value} {w2 : World} (hbl : b.length = n) (h : P0 b most n g gw gt A w1 (.returned (.tuple #[b1,.int .i64 0])) w2) (hp : w2.cell? ⟨g,358,none⟩ = some (.int .i64 1)) :
 ∃ ga A' c' wb,B0 b most n g gw gt A w1 b1 w2 ga A' c' wb:=by
 subst hbl
 obtain ⟨ho,h | h⟩:=h
 ·obtain ⟨_,he,_⟩:=h
  injection he with he; injection he with he; simp at he
 ·obtain ⟨hm,A',c',he,hb,hc,hblk,hnil,hx⟩:=h
  injection he with he; injection he with he
  simp only [Array.mk.injEq,List.cons.injEq,and_true] at he
  rcases hx with ⟨_,hd⟩ | ⟨h2,ga,hga,had,hd⟩
  ·have:=part_of hd rfl
   rw [hp] at this
   simp at this
  ·have hn2 : min b.length 2 = 2:=by omega
   rw [wz_wait b 0 (by omega),wz_wait b 1 (by omega)] at hm
   rw [hn2] at hm hb hc he
   have hwl : (waitZ [0,0,0,0] b 0 (min b.length 2)).length = 4:=waitZ_length rfl (by omega) (by omega)
   exact ⟨ga,A',c',_,⟨by omega,hm⟩,ho,he,hb,hc,hblk,hnil,hga,had,hwl,hd⟩
abbrev BodiedT (b : List UInt8) (most n g gw gt ga : Nat) (wb : List UInt8) (w2 : World) : Ending -> World -> Prop:=Bodied (b.drop 2) 0 (n - 2) g gw gt ga (fz most gw gt (tailZ (ifA ga) 1 wb 0)) st0 (ifA ga) wb w2
def P1 (b : List UInt8) (most n g gw gt : Nat) (A : Option Addr) (w1 : World) (b1 : Value) (w2 : World) (e : Ending) (w3 : World) : Prop :=
 ∃ ga A' c' wb,B0 b most n g gw gt A w1 b1 w2 ga A' c' wb /\ ∃ f sm v wb' u c e1 w1' A'' c'',BodiedT b most n g gw gt ga wb w2 e1 w1' /\ ReadOf g (n - 2) f sm v wb' u c e1 w1' /\ e = .returned (.tuple #[v,.slice A'' (n - 2 - u) c'',.int .i64 (c : Int)]) /\ Only [g] w1' w3 /\
   Dc w3 g (if f.k = 11 then { f with tail:=tailZ sm 2 wb' 0 } else f) /\ Holds w2 1 A'' (n - 2 - u) (bvals ((b.drop 2).drop u)) /\ n - 2 - u <= c'' /\ (∀ ad',A'' = some ad' -> ∃ ad,A' = some ad /\ ad'.block = ad.block) /\ ((A' = none -> c' = 0) -> A'' = none -> c'' = 0)
theorem bodied_shape {b : List UInt8} {most n g gw gt ga : Nat} {wb : List UInt8} {w2 w3 : World} {e : Ending} (h : BodiedT b most n g gw gt ga wb w2 e w3) : ∃ f sm v wb' u c,ReadOf g (n - 2) f sm v wb' u c e w3:=by
 rcases h.2 with ⟨y,v,f',u,he,hu,_,_,_,ht,hd,_,_,_,_,_,_,hx⟩ | ⟨c,f',hc,he,_,_,_,ht,_,_,hd,_⟩
 ·refine ⟨f',ifA ga,v,wb,u,0,he,?_,hd,ht⟩
  rcases hx with ⟨_,t,_,h1,h2,_⟩ | ⟨h1,_⟩
  ·omega
  ·omega
 ·exact ⟨f',ifA ga,_,wb,0,c,he,Nat.zero_le _,hd,ht⟩
theorem readBody_new {b : List UInt8} {P : GSt -> Prop} (hBy : StepsBy (b.drop 2) P) (hs0 : P st0) {most n g gw gt : Nat} {A : Option Addr} {w w1 : World} {b1 : Value} {w2 : World} {ga : Nat} {A' : Option Addr} {c' : Nat} {wb : List UInt8} (hm : most <= 1073741824) (hN : Newed most w g gw gt w1) (hT : Tab w1) (hG : g ∉ Gs /\ gw ∉ Gs /\ gt ∉ Gs) (hgg : g ≠ gw /\ g ≠ gt)
 (hGl : ∀ k ∈ Gs,k < w.heap.size) (hA : 0 < n -> ∀ ad,A = some ad -> ad.block < w.heap.size) (hbl : b.length = n) (hn : n <= 90000) (h : B0 b most n g gw gt A w1 b1 w2 ga A' c' wb) :
 Calls Tryz.prog 127 #[.pointer (some ⟨g,0,none⟩),b1] w2 (P1 b most n g gw gt A w1 b1 w2):=by
 obtain ⟨n1,n2,n3,n4,n5,n6,n7,n8⟩:=hN
 have hs:=n8.size
 have hgw2 : Rg w2 gw []:=n6.only h.only (by simp; exact fun e=>hgg.1 e.symm)
 have hgt2 : w2.ownsRow 0 5 1 (.slice (some ⟨gt,0,none⟩) 0 4) 0 []:=own_keep n7 h.only (by intro k hk; injection hk with hk; subst hk; simp; exact fun e=>hgg.2 e.symm)
 have hT2 : Tab w2:=hT.only h.only (by intro k hk _; simp at hk; subst hk; exact hG.1)
 have hrest:=rest_new (B:=b.drop 2) h.dec hgw2 hgt2 (fun e=>n4 e.symm) hT2 hG
 have hlen : (b.drop 2).length = n - 2:=by rw [List.length_drop,hbl]
 have hgaG : ga ∉ Gs:=fun hm=>by have:=hGl _ hm; have:=h.gge; omega
 have hb' : Holds w2 1 A' (n - 2) (bvals (((b.drop 2).drop 0).take (n - 2))):=by
  rw [List.drop_zero,List.take_of_length_le (by omega)]; exact h.holds
 have hread:=bodyRead_by (b.drop 2) hBy 0 0 (n - 2) c' A' g gw gt ga _ st0 wb w2 hrest rfl rfl h.ad hgaG hb' h.cap (by omega) (by omega) (Nat.zero_le _) hm (by show 0 + (n - 2) <= 1000000000; omega) (by show (0 : Nat) <= 1000000000; omega) (fun h0 ad had=>by
  obtain ⟨ad0,e1,e2⟩:=h.blk ad had
  have:=hA (by omega) ad0 e1
  simp only [List.mem_cons,List.not_mem_nil,or_false]
  omega) hs0
 have hb1:=h.b1
 subst hb1
 refine (readBody_gen g (n - 2) c' A' (b.drop 2) w2 _ h.holds hlen h.cap hread (fun e w' hx=>bodied_shape hx)).mono ?_
 intro e w' hx
 exact ⟨ga,A',c',wb,h,hx⟩
theorem dc_same {w : World} {g : Nat} {f f' : DF} (h : Dc w g f) (h' : Dc w g f') : (∀ i,i < 357 -> f.at i = f'.at i) /\ f.tail = f'.tail:=by
 unfold Dc Has at *
 rw [h] at h'
 injection h' with h'
 injection h' with h1
 unfold DF.cells at h1
 have h2 : (List.range 357).map f.at ++ f.tail = (List.range 357).map f'.at ++ f'.tail:=by simpa using h1
 obtain ⟨h3,h4⟩:=List.append_inj h2 (by simp)
 refine ⟨fun i hi=>?_,h4⟩
 have:=congrArg (fun l=>l[i]?) h3
 simpa [hi] using this
theorem tail_same {sm sm' : Value} {p q : Nat} {wb wb' : List UInt8} {k : Nat} (h : tailZ sm p wb k = tailZ sm' p wb' k) : tailZ sm q wb k = tailZ sm' q wb' k:=by
 unfold tailZ at *
 have h1 : sm :: Value.int .i64 (p : Int) :: (bvals wb ++ [.int .i64 (k : Int)]) = sm' :: Value.int .i64 (p : Int) :: (bvals wb' ++ [.int .i64 (k : Int)]):=h
 injection h1 with h2 h3
 injection h3 with _ h4
 rw [h2]
 show [sm',Value.int .i64 (q : Int)] ++ _ = [sm',Value.int .i64 (q : Int)] ++ _
 rw [h4]
structure Sm2 (b : List UInt8) (most n g gw gt : Nat) (A : Option Addr) (w1 : World) (v b2 : Value) (w3 : World) (t : GSt) (ga : Nat) (A'' : Option Addr) (c'' : Nat) (f : DF) (wb : List UInt8) : Prop where
 head : UHead b
 ends : UEnd b most 0 t
 le : 2 + ub t <= n
 b2 : b2 = .slice A'' (n - (2 + ub t)) c''
 only : Only [g,gw,gt,ga] w1 w3
 gge : w1.heap.size <= ga
 holds : Holds w3 1 A'' (n - (2 + ub t)) (bvals (b.drop (2 + ub t)))
 cap : n - (2 + ub t) <= c''
 blk : ∀ ad',A'' = some ad' -> ∃ ad,A = some ad /\ ad'.block = ad.block
 nil : A'' = none -> c'' = 0
 ad : Adl w3 ga t.out
 own : w3.ownsRow 0 5 1 v t.out.length (bvals t.out)
 new : ∀ k,v.ownBlock = some k -> w1.heap.size <= k
 wl : wb.length = 4
 used : f.used = ub t
 dec : Dc w3 g f
 tail : f.tail = tailZ (ifA ga) 2 wb 0
theorem own_block' {w : World} {B e n c g : Nat} {xs : List Value} (h : w.ownsRow B e 1 (.slice (some ⟨g,0,none⟩) n c) n xs) : g < w.heap.size:=by
 rcases h.2 with ⟨hv,_⟩ | ⟨gb,cap,cur,hv,_,hg,_⟩
 ·cases hv
 ·injection hv with hA
  injection hA with hA
  injection hA with hA
  subst hA
  exact Has.lt (cs:=cur) hg
theorem sm_of {b : List UInt8} {most n g gw gt : Nat} {A : Option Addr} {w w1 : World} {b1 : Value} {w2 : World} {v b2 : Value} {w3 : World} (hN : Newed most w g gw gt w1) (hA : 0 < n -> ∀ ad,A = some ad -> ad.block < w.heap.size) (hbl : b.length = n)
 (h : P1 b most n g gw gt A w1 b1 w2 (.returned (.tuple #[v,b2,.int .i64 0])) w3) (hp : w3.cell? ⟨g,358,none⟩ = some (.int .i64 2)) :
 ∃ t ga A'' c'' f wb,Sm2 b most n g gw gt A w1 v b2 w3 t ga A'' c'' f wb:=by
 obtain ⟨ga,A',c',wb,hB,f,sm,v',wb',u,c,e1,w1',A'',c'',hx,hro,he,ho3,hd3,hh,hc2,hblk,hnil⟩:=h
 obtain ⟨he1,hu,hd,ht⟩:=hro
 injection he with he
 injection he with he
 simp only [Array.mk.injEq,List.cons.injEq,and_true] at he
 obtain ⟨rfl,rfl,hc0⟩:=he
 have hc0 : c = 0:=by injection hc0 with _ h; omega
 subst hc0
 obtain ⟨hox,hx⟩:=hx
 rcases hx with ⟨y,v2,f',u2,he2,hus,hnw,_,_,ht',hd',_,_,how,_,_,had,hx⟩ | ⟨c2,f',hc,he2,_⟩
 ·rw [he1] at he2
  injection he2 with he2
  injection he2 with he2
  simp only [Array.mk.injEq,List.cons.injEq,and_true] at he2
  obtain ⟨rfl,hu2,_⟩:=he2
  have hu2 : u = u2:=by injection hu2 with _ h; omega
  subst hu2
  have hgl : g < w1.heap.size:=by have:=hN.2.2.2.2.1; exact Has.lt this
  have hs2:=hB.only.size
  obtain ⟨hat,htl⟩:=dc_same hd hd'
  have hk : f.k = f'.k:=by
   have:=hat 1 (by decide)
   unfold DF.at at this
   simp at this
   omega
  have hus3 : f.used = f'.used:=by
   have:=hat 3 (by decide)
   unfold DF.at at this
   simp at this
   omega
  rw [ht,ht'] at htl
  have h11 : f.k = 11:=Classical.byContradiction fun hne=>by
   rw [if_neg hne] at hd3
   have:=part_of hd3 ht
   rw [hp] at this
   simp at this
  rw [if_pos h11,tail_same (q:=2) htl] at hd3
  rcases hx with ⟨_,t,hend,hut,htp,hto,_⟩ | ⟨_,o',t,_,_,hrest⟩
  ·have hub : u = ub t:=by unfold ub; omega
   have hle : ub t <= n - 2:=by omega
   have hh2:=hB.head.1
   have hgaN : ga ∉ [g,gw,gt]:=by
    have h1:=hB.gge
    have h2 : gw < w1.heap.size:=by obtain ⟨ws,hws,_⟩:=hN.2.2.2.2.2.1; exact Has.lt hws
    have h3 : gt < w1.heap.size:=(own_block' hN.2.2.2.2.2.2.1)
    simp only [List.mem_cons,List.not_mem_nil,or_false]
    omega
   have ho13 : Only [g,gw,gt,ga] w2 w3:=hox.trans ho3 (by intro i hi _; simp at hi; simp [hi])
   have ho : Only [g,gw,gt,ga] w1 w3:=((Only.refl [g,gw,gt,ga] w1).trans hB.only (by intro i hi _; simp at hi; simp [hi])).trans ho13 (fun i hi _=>hi)
   have hn2 : n - 2 - u = n - (2 + ub t):=by omega
   rw [hn2] at hh hc2
   rw [List.drop_drop,show 2 + u = 2 + ub t by omega] at hh
   refine ⟨t,ga,A'',c'',_,wb,hB.head,?_,by omega,?_,ho,hB.gge,?_,hc2,?_,hnil hB.nil,?_,?_,?_,hB.wl,?_,hd3,rfl⟩
   ·have h:=hend
    rw [Nat.zero_add,<- hbl] at h
    exact h
   ·rw [hn2]
   ·refine hh.keepPos ho13 fun h0 ad had _=>?_
    obtain ⟨ad0,e1,e2⟩:=hblk ad had
    obtain ⟨ad1,e3,e4⟩:=hB.blk ad0 e1
    have:=hA (by omega) ad1 e3
    obtain ⟨n1,n2,n3,_,_,_,_,n8⟩:=hN
    have:=n8.size
    have:=hB.gge
    simp only [List.mem_cons,List.not_mem_nil,or_false]
    omega
   ·intro ad' had
    obtain ⟨ad0,e1,e2⟩:=hblk ad' had
    obtain ⟨ad1,e3,e4⟩:=hB.blk ad0 e1
    exact ⟨ad1,e3,by rw [e2,e4]⟩
   ·have:=had.only ho3 (by simp at hgaN ⊢; exact hgaN.1)
    rw [hto]
    exact this
   ·have:=own_keep how ho3 (fun k hk=>by have:=hnw k hk; simp; omega)
    rw [show t.out = y from hto]
    exact this
   ·intro k hk; have:=hnw k hk; omega
   ·show f.used = ub t
    rw [hus3,hus]
    show 0 + u = ub t
    omega
  ·exact absurd (hk ▸ h11) (by rw [hrest.k]; exact hrest.k11)
 ·rw [he1] at he2
  injection he2 with he2
  injection he2 with he2
  simp only [Array.mk.injEq,List.cons.injEq,and_true] at he2
  have:=he2.2.2
  injection this with _ h
  omega
def P2 (b : List UInt8) (most n g gw gt : Nat) (A : Option Addr) (w1 : World) (b2 : Value) (w3 : World) (e : Ending) (w4 : World) : Prop :=
 ∃ v t ga A'' c'' f wb,Sm2 b most n g gw gt A w1 v b2 w3 t ga A'' c'' f wb /\ Only [g] w3 w4 /\ ∃ (c part k : Nat) (wb2 : List UInt8),e = .returned (.int .i64 (c : Int)) /\ Dc w4 g { f with tail:=tailZ (ifA ga) part wb2 k } /\
   ((c = 0 /\ part = 2 /\ n < 2 + ub t + 4) \/ (c = 0 /\ part = 3 /\ 2 + ub t + 4 <= n /\ (b.drop (2 + ub t)).take 4 = bigN (adWord (adOf t.out))) \/ (c = 4 /\ 2 + ub t + 4 <= n /\ (b.drop (2 + ub t)).take 4 ≠ bigN (adWord (adOf t.out))))
theorem readSum_new {b : List UInt8} {most n g gw gt : Nat} {A : Option Addr} {w w1 : World} {v b2 : Value} {w3 : World} {t : GSt} {ga : Nat} {A'' : Option Addr} {c'' : Nat} {f : DF} {wb : List UInt8} (hN : Newed most w g gw gt w1) (hA : 0 < n -> ∀ ad,A = some ad -> ad.block < w.heap.size) (hbl : b.length = n) (hn : n <= 90000)
 (h : Sm2 b most n g gw gt A w1 v b2 w3 t ga A'' c'' f wb) : Calls Tryz.prog 128 #[.pointer (some ⟨g,0,none⟩),b2] w3 (P2 b most n g gw gt A w1 b2 w3):=by
 have hb2:=h.b2
 have hle:=h.le
 obtain ⟨m,hm⟩ : ∃ m,m = n - (2 + ub t):=⟨_,rfl⟩
 have hlen : (b.drop (2 + ub t)).length = m:=by rw [List.length_drop,hbl,hm]
 have hh:=h.holds
 have hcap:=h.cap
 rw [<- hm] at hh hcap hb2
 subst hb2
 have hg : 0 < m -> ∀ ad,A'' = some ad -> ad.block ≠ g:=fun h0 ad had=>by
  obtain ⟨ad0,e1,e2⟩:=h.blk ad had
  have:=hA (by omega) ad0 e1
  have:=hN.1
  omega
 by_cases hf : m < 4
 ·refine (readSum_few g ga f 0 m c'' wb _ A'' t.out w3 h.dec h.tail h.wl (by omega) h.ad hh hlen hcap hg h.nil (by omega) (min m (4 - 0)) rfl _ rfl (by omega)).mono ?_
  rintro e w4 ⟨ho,_,rfl,hd⟩
  exact ⟨v,t,ga,A'',c'',f,wb,h,ho,0,2,_,_,rfl,hd,.inl ⟨rfl,rfl,by omega⟩⟩
 ·refine (readSum_all g ga f 0 m c'' wb _ A'' t.out w3 h.dec h.tail h.wl (by omega) h.ad hh hlen hcap hg h.nil (by omega) (min m (4 - 0)) rfl _ rfl (by omega)).mono ?_
  have hw : waitZ wb (b.drop (2 + ub t)) 0 (min m (4 - 0)) = (b.drop (2 + ub t)).take 4:=by
   have hd4 : wb.drop 4 = []:=List.drop_eq_nil_of_le (by rw [h.wl]; exact Nat.le_refl _)
   unfold waitZ
   rw [show min m (4 - 0) = 4 by omega,List.take_zero,List.nil_append,Nat.zero_add,hd4,List.append_nil]
  rw [hw]
  rintro e w4 ⟨ho,_,⟨heq,rfl,hd⟩ | ⟨hne,rfl,hd⟩⟩
  ·exact ⟨v,t,ga,A'',c'',f,wb,h,ho,0,3,_,_,rfl,hd,.inr (.inl ⟨rfl,rfl,by omega,heq⟩)⟩
  ·exact ⟨v,t,ga,A'',c'',f,wb,h,ho,4,2,_,_,rfl,hd,.inr (.inr ⟨rfl,by omega,hne⟩)⟩
theorem only_new {w w1 w2 : World} {S : List Nat} (h : Only [] w w1) (ho : Only S w1 w2) (hS : ∀ k ∈ S,w.heap.size <= k) : Only [] w w2:=h.trans ho (by intro i hi hlt; have:=hS i hi; omega)
set_option maxRecDepth 100000 in
theorem write_new {b : List UInt8} {P : GSt -> Prop} (hBy : StepsBy (b.drop 2) P) (hs0 : P st0) {most n cb g gw gt : Nat} {A : Option Addr} {w w1 : World} (hm : most <= 1073741824) (hN : Newed most w g gw gt w1) (hT : Tab w1) (hG : g ∉ Gs /\ gw ∉ Gs /\ gt ∉ Gs) (hgg : g ≠ gw /\ g ≠ gt)
 (hGl : ∀ k ∈ Gs,k < w.heap.size) (hA : 0 < n -> ∀ ad,A = some ad -> ad.block < w.heap.size) (hA0 : A = none -> cb = 0) (hb : Holds w1 1 A n (bvals b)) (hbl : b.length = n) (hcb : n <= cb) (hn : n <= 90000) :
 Calls Tryz.prog 90 #[.pointer (some ⟨g,0,none⟩),.slice A n cb] w1 (OutW b most w g):=by
 have hd:=hN.2.2.2.2.1
 have htl : (DF.newZ most gw gt).tail = tailZ .nilIface 0 [0,0,0,0] 0:=rfl
 have hsz:=hN.2.2.2.2.2.2.2
 have hgA : 0 < n -> ∀ ad,A = some ad -> ad.block ≠ g:=fun h0 ad had=>by have:=hA h0 ad had; have:=hN.1; omega
 have r1 : ∀ b1 w2,Reach1 g 0 (.slice A n cb) w1 (P0 b most n g gw gt A w1) b1 w2 -> ∃ ga A' c' wb,B0 b most n g gw gt A w1 b1 w2 ga A' c' wb:=fun b1 w2 h=>by
  rcases h with ⟨h,_⟩ | ⟨_,h,hp⟩
  ·omega
  ·exact b0_of hbl h hp
 have r2 : ∀ v b2 w3,Reach2 g 0 (.slice A n cb) w1 (P0 b most n g gw gt A w1) (P1 b most n g gw gt A w1) v b2 w3 -> ∃ t ga A'' c'' f wb,Sm2 b most n g gw gt A w1 v b2 w3 t ga A'' c'' f wb:=fun v b2 w3 h=>by
  rcases h with ⟨h,_⟩ | ⟨b1,w2,_,h,hp⟩
  ·omega
  ·exact sm_of hN hA hbl h hp
 refine (zwrite_gen g 0 A n cb w1 (part_of hd htl) (by decide) (P0 b most n g gw gt A w1) (P1 b most n g gw gt A w1) (P2 b most n g gw gt A w1) (fun _=>?_) (fun e w2 h=>?_) (fun b1 w2 h=>?_) (fun b1 w2 e w3 h=>?_) (fun v b2 w3 h=>?_) (fun b2 w3 e w4 h=>?_)).mono ?_
 ·exact readHead_any g (DF.newZ most gw gt) .nilIface 0 n cb [0,0,0,0] b A w1 hd htl rfl (by decide) hb hbl hcb hgA hA0 (by omega) (min n 2) rfl _ rfl
 ·obtain ⟨_,⟨_,rfl,h⟩ | ⟨_,A',c',rfl,_,_,_,_,⟨_,h⟩ | ⟨_,ga,_,_,h⟩⟩⟩:=h
  ·exact ⟨_,3,0,rfl,part_of h rfl,.inl rfl⟩
  ·exact ⟨_,0,0,rfl,part_of h rfl,.inl rfl⟩
  ·exact ⟨_,0,1,rfl,part_of h rfl,.inr rfl⟩
 ·obtain ⟨ga,A',c',wb,hB⟩:=r1 b1 w2 h
  exact readBody_new hBy hs0 hm hN hT hG hgg hGl hA hbl hn hB
 ·obtain ⟨ga,A',c',wb,hB,f,sm,v',wb',u,c,e1,w1',A'',c'',hx,hro,he,ho3,hd3,_⟩:=h
  by_cases h11 : f.k = 11
  ·rw [if_pos h11] at hd3
   exact ⟨_,_,c,2,he,part_of hd3 rfl,.inr rfl⟩
  ·rw [if_neg h11] at hd3
   exact ⟨_,_,c,1,he,part_of hd3 hro.2.2.2,.inl rfl⟩
 ·obtain ⟨t,ga,A'',c'',f,wb,hS⟩:=r2 v b2 w3 h
  exact readSum_new hN hA hbl hn hS
 ·obtain ⟨v,t,ga,A'',c'',f,wb,hS,ho,c,part,k,wb2,he,_⟩:=h
  exact ⟨c,he⟩
 ·intro e w' h
  have hg0:=hN.1
  rcases h with ⟨_,b1,c,h,hc,rfl⟩ | ⟨_,b1,h,hp,rfl⟩ | ⟨b1,w2,hr,v,b2,c,h,hc,rfl⟩ | ⟨b1,w2,hr,v,b2,h,hp,rfl⟩ | ⟨v,b2,w3,hr,c,h,he⟩ | ⟨h,_⟩
  ·obtain ⟨ho,⟨hmh,he,hd'⟩ | ⟨_,A',c',he,_⟩⟩:=h
   ·injection he with he; injection he with he
    simp only [Array.mk.injEq,List.cons.injEq,and_true] at he
    have hc3 : c = 3:=by have:=he.2; injection this with _ h; omega
    rw [Nat.zero_add,wz_wait' hbl 0 (by omega),wz_wait' hbl 1 (by omega)] at hmh
    refine ⟨_,c,_,_,_,_,_,rfl,hd',rfl,by show (0 : Nat) <= 1000000000; omega,only_new hsz ho (by simpa using hg0),.inl ⟨hc,.inl ⟨hc3,by rw [hbl]; exact hmh⟩⟩⟩
   ·injection he with he; injection he with he
    simp only [Array.mk.injEq,List.cons.injEq,and_true] at he
    have : c = 0:=by have:=he.2; injection this with _ h; omega
    exact absurd this hc
  ·obtain ⟨ho,⟨_,he,_⟩ | ⟨hmh,A',c',he,_,_,_,_,⟨hlt,hd'⟩ | ⟨_,ga,_,_,hd'⟩⟩⟩:=h
   ·injection he with he; injection he with he
    simp at he
   ·rw [Nat.zero_add,wz_wait' hbl 0 (by omega),wz_wait' hbl 1 (by omega)] at hmh
    refine ⟨_,0,_,_,0,_,_,rfl,hd',rfl,by show (0 : Nat) <= 1000000000; omega,only_new hsz ho (by simpa using hg0),.inr (.inl ⟨rfl,by decide,.inl ⟨by omega,?_⟩⟩)⟩
    rw [hbl]
    rw [show min n 2 = n by omega] at hmh
    exact hmh
   ·have:=part_of hd' rfl
    rw [hp] at this
    simp at this
  ·obtain ⟨ga,A',c',wb,hB,f,sm,v',wb',u,cc,e1,w1',A'',c'',hx,hro,he,ho3,hd3,_⟩:=h
   obtain ⟨he1,hu,hd1,ht1⟩:=hro
   injection he with he; injection he with he
   simp only [Array.mk.injEq,List.cons.injEq,and_true] at he
   have hcc : c = cc:=by have:=he.2.2; injection this with _ h; omega
   obtain ⟨hox,⟨y,v2,f',u2,he2,_⟩ | ⟨c2,f',hc2,he2,_,_,_,_,hus,_,hd',t,hend,_⟩⟩:=hx
   ·rw [he1] at he2
    injection he2 with he2; injection he2 with he2
    simp only [Array.mk.injEq,List.cons.injEq,and_true] at he2
    have : cc = 0:=by have:=he2.2.2; injection this with _ h; omega
    omega
   ·rw [he1] at he2
    injection he2 with he2; injection he2 with he2
    simp only [Array.mk.injEq,List.cons.injEq,and_true] at he2
    have hc3 : cc = c2:=by have:=he2.2.2; injection this with _ h; omega
    have hus3 : f.used = f'.used:=by
     have:=(dc_same hd1 hd').1 3 (by decide)
     unfold DF.at at this
     simp at this
     omega
    have hu0 : f.used = 0:=by rw [hus3,hus]; rfl
    have hon : Only [] w w':=only_new (only_new (only_new hsz hB.only (by simpa using hg0)) hox (by
     have:=hB.gge; have:=hsz.size; have:=hN.2.1; have:=hN.2.2.1
     intro k hk; simp at hk; omega)) ho3 (by simpa using hg0)
    have hbad : UBad b most c:=.inr (.inl ⟨hB.head,by omega,t,by
     have h:=hend
     rw [Nat.zero_add,<- hbl,<- hc3,<- hcc] at h
     exact h⟩)
    by_cases h11 : f.k = 11
    ·rw [if_pos h11] at hd3
     exact ⟨_,c,_,_,_,_,_,rfl,hd3,rfl,by show f.used <= 1000000000; omega,hon,.inl ⟨hc,hbad⟩⟩
    ·rw [if_neg h11] at hd3
     exact ⟨_,c,_,_,_,_,_,rfl,hd3,ht1,by omega,hon,.inl ⟨hc,hbad⟩⟩
  ·obtain ⟨ga,A',c',wb,hB,f,sm,v',wb',u,cc,e1,w1',A'',c'',hx,hro,he,ho3,hd3,_⟩:=h
   obtain ⟨he1,hu,hd1,ht1⟩:=hro
   injection he with he; injection he with he
   simp only [Array.mk.injEq,List.cons.injEq,and_true] at he
   have hcc : cc = 0:=by have:=he.2.2; injection this with _ h; omega
   have h11 : f.k ≠ 11:=fun h11=>by
    rw [if_pos h11] at hd3
    have:=part_of hd3 rfl
    rw [hp] at this
    simp at this
   rw [if_neg h11] at hd3
   obtain ⟨hox,⟨y,v2,f',u2,he2,hus,_,_,_,_,hd',_,_,_,_,_,_,hx⟩ | ⟨c2,f',hc2,he2,_⟩⟩:=hx
   ·have hk : f.k = f'.k:=by
     have:=(dc_same hd1 hd').1 1 (by decide)
     unfold DF.at at this
     simp at this
     omega
    have hus3 : f.used = f'.used:=by
     have:=(dc_same hd1 hd').1 3 (by decide)
     unfold DF.at at this
     simp at this
     omega
    rcases hx with ⟨hk11,_⟩ | ⟨hun,o',t,hend,_,_⟩
    ·omega
    ·have hon : Only [] w w':=only_new (only_new (only_new hsz hB.only (by simpa using hg0)) hox (by
      have:=hB.gge; have:=hsz.size; have:=hN.2.1; have:=hN.2.2.1
      intro k hk; simp at hk; omega)) ho3 (by simpa using hg0)
     have hf0 : (fz most gw gt (tailZ (ifA ga) 1 wb 0)).used = 0:=rfl
     exact ⟨_,0,_,_,_,_,_,rfl,hd3,ht1,by rw [hus3,hus,hf0]; omega,hon,.inr (.inl ⟨rfl,by decide,.inr (.inl ⟨hB.head,t,by
      have h:=hend
      rw [Nat.zero_add,<- hbl] at h
      exact h⟩)⟩)⟩
   ·rw [he1] at he2
    injection he2 with he2; injection he2 with he2
    simp only [Array.mk.injEq,List.cons.injEq,and_true] at he2
    have : cc = c2:=by have:=he2.2.2; injection this with _ h; omega
    omega
  ·obtain ⟨t,ga,A'',c'',f,wb,hS⟩:=r2 v b2 w3 hr
   obtain ⟨v2,t2,ga2,A2,c2,f2,wb2,hS2,ho,cc,part,k,wb3,he2,hd2,hx⟩:=h
   obtain rfl : t = t2:=(Ends.det hS.ends hS2.ends).2
   have hcc : c = cc:=by injection he2 with he2; injection he2 with _ h; omega
   subst hcc
   have hon : Only [] w w':=only_new (only_new hsz hS2.only (by
    have:=hS2.gge; have:=hsz.size; have:=hN.2.1; have:=hN.2.2.1
    intro k hk; simp at hk; omega)) ho (by simpa using hg0)
   have hub : ub t <= 90000:=by have:=hS2.le; omega
   have hu9 : f2.used <= 1000000000:=by rw [hS2.used]; omega
   have hglt : g < w1.heap.size:=Has.lt hd
   rcases he with ⟨hc,rfl⟩ | ⟨hc,rfl⟩
   ·rcases hx with ⟨h0,_⟩ | ⟨h0,_⟩ | ⟨h4,hle,hne⟩
    ·omega
    ·omega
    ·exact ⟨_,c,_,_,_,_,_,rfl,hd2,rfl,hu9,hon,.inl ⟨hc,.inr (.inr ⟨h4,hS.head,t,hS.ends,by omega,hne⟩)⟩⟩
   ·rcases hx with ⟨_,hp2,hlt⟩ | ⟨_,hp3,hle,heq⟩ | ⟨h4,_⟩
    ·exact ⟨_,0,_,_,_,_,_,rfl,hd2,rfl,hu9,hon,.inr (.inl ⟨rfl,by omega,.inr (.inr ⟨hS.head,t,hS.ends,by omega⟩)⟩)⟩
    ·exact ⟨_,0,_,_,_,_,_,rfl,hd2,rfl,hu9,hon,.inr (.inr ⟨rfl,hp3,t,⟨hS.head,hS.ends,by omega,heq⟩,hS2.used,own_keep hS.own ho (fun k hk=>by have:=hS.new k hk; simp; omega)⟩)⟩
    ·omega
  ·omega
theorem has_ty {w : World} {g : Nat} {t t' : TypeId} {cs cs' : Array Value} (h : Has w g t cs) (h' : Has w g t' cs') : t = t':=by
 unfold Has at *
 rw [h] at h'
 injection h' with h'
 injection h'
theorem newed_ne {most g gw gt : Nat} {w w1 : World} (h : Newed most w g gw gt w1) : g ≠ gw /\ g ≠ gt:=by
 obtain ⟨_,_,_,_,hd,⟨ws,hws,_⟩,how,_⟩:=h
 constructor
 ·rintro rfl
  exact absurd (has_ty hd hws) (show 172 ≠ 5 by decide)
 ·rintro rfl
  rcases how.2 with ⟨hv,_⟩ | ⟨gb,cap,cur,hv,_,hg,_⟩
  ·cases hv
  ·injection hv with hA
   injection hA with hA
   injection hA with hA
   subst hA
   exact absurd (has_ty hd hg) (show 172 ≠ 5 by decide)
theorem Tab.lts {w : World} (h : Tab w) : ∀ k ∈ Gs,k < w.heap.size:=by
 intro k hk
 unfold Gs at hk
 simp only [List.mem_cons,List.not_mem_nil,or_false] at hk
 rcases hk with rfl | rfl | rfl
 ·exact h.lt0
 ·exact h.lt1
 ·exact h.lt2
def Unp (b : List UInt8) (most : Nat) (w : World) (e : Ending) (w' : World) : Prop:=Only [] w w' /\
 ((∃ c : Nat,c ≠ 0 /\ UBad b most c /\ e = .returned (.tuple #[.slice none 0 0,.int .i64 0,.int .i64 (c : Int)])) \/
   (UShort b most /\ e = .returned (.tuple #[.slice none 0 0,.int .i64 0,.int .i64 2])) \/
   (∃ t v,UGood b most t /\ e = .returned (.tuple #[v,.int .i64 ((2 + ub t + 4 : Nat) : Int),.int .i64 0]) /\ w'.ownsRow 0 5 1 v t.out.length (bvals t.out)))
theorem unpack_by {P : GSt -> Prop} (b : List UInt8) (hBy : StepsBy (b.drop 2) P) (hs0 : P st0) (most n cb : Nat) (A : Option Addr) (w : World) (hm : most <= 1073741824) (hT : Tab w) (hb : Holds w 1 A n (bvals b)) (hbl : b.length = n) (hcb : n <= cb) (hA0 : A = none -> cb = 0) (hn : n <= 90000) :
 Calls Tryz.prog 52 #[.slice A n cb,.int .i64 (most : Int)] w (Unp b most w):=by
 refine (unpack_gen most A n cb w hm (fun g _=>OutW b most w g) (fun g gw gt w1 hN=>?_) (fun g w1 e w2 h=>?_)).mono ?_
 ·have hN':=hN
  obtain ⟨n1,n2,n3,_,_,_,_,n8⟩:=hN'
  have hG : g ∉ Gs /\ gw ∉ Gs /\ gt ∉ Gs:=⟨fun h=>by have:=hT.lts _ h; omega,fun h=>by have:=hT.lts _ h; omega,fun h=>by have:=hT.lts _ h; omega⟩
  exact write_new hBy hs0 hm hN (hT.only n8 (by simp)) hG (newed_ne hN) hT.lts (fun h0 ad had=>hb.blk h0 ad had) hA0 (hb.keep n8 (by simp)) hbl hcb hn
 ·obtain ⟨v,c,f,sm,part,wb,k,he,hd,ht,hu,_⟩:=h
  exact ⟨v,c,f,sm,part,wb,k,he,hd,ht,hu⟩
 ·rintro e w' ⟨g,gw,gt,w1,hN,v,c,f,sm,part,wb,k,⟨v',c',f',sm',part',wb',k',he,hd',ht',_,ho,hx⟩,hd,ht,hy⟩
  injection he with he; injection he with he
  simp only [Array.mk.injEq,List.cons.injEq,and_true] at he
  obtain ⟨rfl,hc⟩:=he
  have hc : c = c':=by injection hc with _ h; omega
  subst hc
  obtain ⟨hat,htl⟩:=dc_same hd hd'
  have hp : part = part':=by
   have h1:=part_of hd ht
   have h2:=part_of hd' ht'
   rw [h1] at h2
   simp at h2
   omega
  have hus : f.used = f'.used:=by
   have:=hat 3 (by decide)
   unfold DF.at at this
   simp at this
   omega
  refine ⟨ho,?_⟩
  rcases hx with ⟨hc,hbad⟩ | ⟨hc,hp3,hsh⟩ | ⟨hc,hp3,t,hg,hut,how⟩
  ·rcases hy with ⟨_,rfl⟩ | ⟨h0,_⟩ | ⟨h0,_⟩
   ·exact .inl ⟨c,hc,hbad,rfl⟩
   ·omega
   ·omega
  ·rcases hy with ⟨h0,_⟩ | ⟨_,_,rfl⟩ | ⟨_,h3,_⟩
   ·omega
   ·exact .inr (.inl ⟨hsh,rfl⟩)
   ·omega
  ·rcases hy with ⟨h0,_⟩ | ⟨_,h3,_⟩ | ⟨_,_,rfl⟩
   ·omega
   ·omega
   ·refine .inr (.inr ⟨t,v,hg,?_,how⟩)
    rw [hus,hut]
theorem UHead.of {b : List UInt8} (rest : List UInt8) (h : b = 0x78 :: 0x01 :: rest) : UHead b:=by subst h; exact ⟨by simp,by show mhB 2 120 1 = true; decide⟩
theorem UHead.no {b : List UInt8} (h : UHead b) : ¬ (b.length < 2) /\ ¬ mhB (min b.length 2) (wz b 0) (wz b 1) = false:=by
 have h1:=h.1
 refine ⟨by omega,?_⟩
 rw [show min b.length 2 = 2 by omega,h.2]
 decide
theorem unp_whole {b : List UInt8} {most : Nat} {w w' : World} {e : Ending} {t : GSt} (h : Unp b most w e w') (hh : UHead b) (ht : UEnd b most 0 t) :
 (2 + ub t + 4 <= b.length -> (b.drop (2 + ub t)).take 4 = bigN (adWord (adOf t.out)) -> ∃ v,e = .returned (.tuple #[v,.int .i64 ((2 + ub t + 4 : Nat) : Int),.int .i64 0]) /\ w'.ownsRow 0 5 1 v t.out.length (bvals t.out)) /\
   (2 + ub t + 4 <= b.length -> (b.drop (2 + ub t)).take 4 ≠ bigN (adWord (adOf t.out)) -> e = .returned (.tuple #[.slice none 0 0,.int .i64 0,.int .i64 4])) /\
   (b.length < 2 + ub t + 4 -> e = .returned (.tuple #[.slice none 0 0,.int .i64 0,.int .i64 2])):=by
 have hno:=hh.no
 rcases h.2 with ⟨c,hc,hbad,he⟩ | ⟨hsh,he⟩ | ⟨t',v,hg,he,how⟩
 ·rcases hbad with ⟨_,hm⟩ | ⟨_,_,t',ht'⟩ | ⟨h4,_,t',ht',hle,hne⟩
  ·exact absurd hm hno.2
  ·exact absurd (Ends.det ht ht').1.symm hc
  ·obtain rfl:=(Ends.det ht ht').2
   subst h4
   exact ⟨fun _ h=>absurd h hne,fun _ _=>he,fun h=>by omega⟩
 ·rcases hsh with ⟨h2,_⟩ | ⟨_,t',ht'⟩ | ⟨_,t',ht',hlt⟩
  ·exact absurd h2 hno.1
  ·exact absurd (Ends.det ht ht').1 (by decide)
  ·obtain rfl:=(Ends.det ht ht').2
   exact ⟨fun h=>by omega,fun h=>by omega,fun _=>he⟩
 ·obtain rfl:=(Ends.det ht hg.2.1).2
  exact ⟨fun _ _=>⟨v,he,how⟩,fun _ h=>absurd hg.2.2.2 h,fun h=>by have:=hg.2.2.1; omega⟩
def StoP (N : Nat) (t : GSt) : Prop:=(t.k = 0 /\ N / 2 ^ t.p % 8 = 1) \/ (t.k = 1 /\ t.last = true) \/ (t.k = 2 /\ t.last = true) \/ t.k = 11
theorem sto_last (n : Nat) : stK true n = 2 \/ stK true n = 11:=by
 unfold stK
 split
 ·exact .inr rfl
 ·exact .inl rfl
theorem sto_nx {L0 D0 : List UInt8} {N most : Nat} {s t : GSt} (h : StoP N s) (h11 : s.k ≠ 11) (ht : (s.nx L0 D0 N most).2 = .ok t) : StoP N t:=by
 rcases h with ⟨hk,hv⟩ | ⟨hk,hl⟩ | ⟨hk,hl⟩ | hk
 ·rw [GSt.nx_0 hk] at ht
  simp only [hv] at ht
  rw [if_pos (by decide)] at ht
  injection ht with ht
  subst ht
  exact .inr (.inl ⟨rfl,rfl⟩)
 ·rw [GSt.nx_1 hk] at ht
  dsimp only at ht
  split at ht
  ·injection ht with ht
   subst ht
   rw [hl]
   rcases sto_last (N / 2 ^ s.p % 65536) with h | h
   ·exact .inr (.inr (.inl ⟨h,rfl⟩))
   ·exact .inr (.inr (.inr h))
  ·cases ht
 ·rw [GSt.nx_2 hk] at ht
  dsimp only at ht
  split at ht
  ·injection ht with ht
   subst ht
   rw [hl]
   rcases sto_last (s.left - 1) with h | h
   ·exact .inr (.inr (.inl ⟨h,rfl⟩))
   ·exact .inr (.inr (.inr h))
  ·cases ht
 ·exact absurd hk h11
theorem sto_steps {L0 D0 : List UInt8} {N a most : Nat} {s t : GSt} (r : Steps L0 D0 N a most s t) : StoP N s -> StoP N t:=by
 induction r with
 | refl=>exact id
 | go s t u h hp ht r ih=>exact fun hs=>ih (sto_nx hs h ht)
set_option maxRecDepth 100000 in
set_option maxHeartbeats 16000000 in
theorem step0s (B : List UInt8) (a o : Nat) (l : List UInt8) (hs : Src B a o l) (g gf gw gr : Nat) (K : List Nat) (f : DF) (v vo : Value) (q : Nat) (x : List UInt8) (s : GSt) (w : World) (h : Rn w g gf gw gr K f v vo l q s.out x) (hk : s.k = 0) (hv : num B / 2 ^ s.p % 8 = 1) (hfk : f.k = 0)
 (hm : Md w f s) (hwf : s.Wf) (hp : Pt s o q) (hl : s.out.length <= f.most) (hmost : f.most <= 1073741824) (hx : x.length <= s.out.length) :
 Calls Tryz.prog 165 #[.pointer (some ⟨g,0,none⟩),.pointer (some ⟨gf,0,none⟩)] w (fun e w'=>∃ c : Nat,e = .returned (.int .i64 (c : Int)) /\ Went B a o l g gf gw gr K f v vo x s (fun f' t=>f'.k = t.k) (fun f' t=>f'.k = t.k) w c w'):=by
 have c1 : w.cell? ⟨g,1,none⟩ = some (.int .i64 0):=by have:=h.on.dec.k; rw [hfk] at this; exact this
 have hpt:=hp.eq (by omega)
 have hlen:=hs.len
 have hoa:=hs.oa
 have hnx:=GSt.nx_0 (L0:=fixedL) (D0:=fixedD2) (N:=num B) (most:=f.most) hk
 have HN:=hide (Now.here hs h hm hwf hp hl hmost hx)
 have h11 : s.k ≠ 11:=by omega
 by_cases hq : q + 3 <= 8 * l.length
 ·have hbits:=hs.bits (k:=q) (n:=3) (by omega)
  rw [<- hpt] at hbits
  have hbb : bitsOf (num B) s.p 3 = num B / 2 ^ s.p % 8:=rfl
  rw [hbb] at hbits
  generalize num B / 2 ^ s.p % 8 = z at *
  have hz8 : z < 8:=by rw [<- hbits]; exact Nat.mod_lt _ (by decide)
  dsimp only at hnx
  have hlz : z = (z % 2 == 1).toNat + 2 * (z / 2):=by
   have : z % 2 = 0 \/ z % 2 = 1:=by omega
   rcases this with h | h <;> (rw [h]; simp; omega)
  generalize hlb : (z % 2 == 1) = last at *
  have hnear : s.p + 3 <= 8 * a:=by omega
  have hz : z / 2 = 0:=by omega
  ·have HB:=hide (begin_plain g gf gw gr K f v vo l q s.out x w h hq last 0 1 0 (.inl ⟨rfl,rfl,rfl⟩) (by rw [hbits,hlz,hz]))
   rw [if_pos hz] at hnx
   have HX:=hide (aI hnx (aI hnear (aI h11 hpt)))
   clear hv hs h hk hfk hm hwf hp hl hmost hx hpt hlen hoa hnx h11 hq hbits hbb hlz hnear hz8 hz hlb
   go_enter Tryz.func165,Tryz.ntmps165
   go_wp2_with fail
   refine (HB.out).mono ?_
   rintro e w1 ⟨rfl,hR,ho⟩
   have k1:=hR.on.dec.k
   have f1 : w1.frozen? ⟨g,1,none⟩ = false:=Has.free hR.on.dec 1
   have H1:=hide (aI hR ho)
   clear hR ho
   generalize DF.k _ = z1 at k1
   go_wp2_with fail
   go_ret
   have oW : Only [g] w1 (w1.setCell ⟨g,1,none⟩ (.int .i64 1)):=(Only.refl [g] _).setCell (by simp) _
   have hR2:=H1.out.1.cells oW (Dc.set_k H1.out.1.on.dec 1) rfl rfl (H1.out.1.keepX oW)
   have hM:=H1.out.1.mdg (HN.out.rn.mdo HN.out.md H1.out.2) oW
   exact ⟨0,rfl,HN.out.ok (.one HX.out.2.2.1 HX.out.1 HX.out.2.1) rfl hR2 ((H1.out.2.weak (by simp)).trans (oW.weak (T:=[g,gr]) (by simp)) (by simp)) ⟨rfl,rfl,rfl,rfl,rfl,rfl,rfl,rfl,rfl⟩ (.plain rfl hM.tab (.inr (.inl rfl))) (by show (s.p + 10) / 8 * 8 = 8 * o + (if 1 = 1 then q + 3 + toByte (q + 3) else q + 3); rw [if_pos rfl]; have:=HX.out.2.2.2; unfold toByte; omega) rfl⟩
 ·have HB:=hide (begin_short g gf gw gr K f v vo l q s.out x w h (by omega))
  have HX:=hide (aI hnx (aI (show 8 * a < s.p + 3 by omega) (aI h11 (aI hpt (aI hk hm)))))
  clear hv hs h hk hfk hm hwf hp hl hmost hx hpt hlen hoa hnx h11 hq
  go_enter Tryz.func165,Tryz.ntmps165
  go_wp2_with fail
  refine (HB.out).mono ?_
  rintro e w1 ⟨rfl,hR,ho⟩
  have k1:=hR.on.dec.k
  have f1 : w1.frozen? ⟨g,1,none⟩ = false:=Has.free hR.on.dec 1
  have H1:=hide (aI hR ho)
  clear hR ho
  generalize DF.k _ = z1 at k1
  go_wp2_with fail
  go_ret
  have oW : Only [g] w1 (w1.setCell ⟨g,1,none⟩ (.int .i64 0)):=(Only.refl [g] _).setCell (by simp) _
  have hR2:=H1.out.1.cells oW (Dc.set_k H1.out.1.on.dec 0) rfl rfl (H1.out.1.keepX oW)
  have hM:=H1.out.1.mdg (HN.out.rn.mdr HN.out.md H1.out.2) oW
  exact ⟨2,rfl,HN.out.short (.short _ HX.out.2.2.1 (by rw [HX.out.1]; exact HX.out.2.1)) rfl hR2 ((H1.out.2.weak (by simp)).trans (oW.weak (T:=[g,gr]) (by simp)) (by simp)) ⟨rfl,rfl,rfl,rfl,rfl,rfl,rfl,rfl,rfl⟩ (.plain HX.out.2.2.2.2.2.last hM.tab (.inl HX.out.2.2.2.2.1)) (.of HX.out.2.2.2.1 (by rw [HX.out.2.2.2.2.1]; decide)) HX.out.2.2.2.2.1.symm⟩
theorem steps_sto (B : List UInt8) : StepsBy B (StoP (num B)):=by
 refine ⟨fun _ _ _ _ r h=>sto_steps r h,fun a o l hs g gf gw gr K f v vo q x s w h hk hfk hm hwf hp hl hmost hx hs0=>?_⟩
 rcases hs0 with ⟨k,hv⟩ | ⟨k,_⟩ | ⟨k,_⟩ | k
 ·exact step0s B a o l hs g gf gw gr K f v vo q x s w h k hv (hfk.trans k) hm hwf hp hl hmost hx
 ·exact step1 B a o l hs g gf gw gr K f v vo q x s w h k (hfk.trans k) hm hwf hp hl hmost hx
 ·exact step2 B a o l hs g gf gw gr K f v vo q x s w h k (hfk.trans k) hm hwf hp hl hmost hx
 ·exact absurd k hk
theorem sto_num (b more : List UInt8) (hb : b.length < 65536) : ∃ R,num (storeB true b ++ more) = 1 + 256 * (b.length + 65536 * (65535 - b.length)) + 1099511627776 * R:=by
 refine ⟨num (b ++ more),?_⟩
 unfold storeB
 rw [List.append_assoc,num_append,num_hdr _ _ hb,show (hdr true b.length).length = 5 from rfl]
 rfl
theorem sto_end {b : List UInt8} (more : List UInt8) (hb : b.length < 65536) {a most : Nat} (ha : 5 + b.length <= a) (hm : b.length <= most) :
 ∃ t,End (storeB true b ++ more) a most st0 0 t /\ t.out = b /\ t.p = 8 * (5 + b.length):=by
 obtain ⟨R,hR⟩:=sto_num b more hb
 obtain ⟨N,hN⟩ : ∃ N,N = num (storeB true b ++ more):=⟨_,rfl⟩
 rw [<- hN] at hR
 have h0:=GSt.nx_0 (s:=st0) (L0:=fixedL) (D0:=fixedD2) (N:=N) (most:=most) rfl
 have hv : N / 2 ^ st0.p % 8 = 1:=by
  show N / 2 ^ 0 % 8 = 1
  rw [Nat.pow_zero,Nat.div_one]; omega
 simp only [hv] at h0
 rw [if_pos (by decide)] at h0
 obtain ⟨t1,ht1⟩ : ∃ t1 : GSt,t1 = { st0 with k:=1,last:=1 % 2 == 1,p:=(st0.p + 10) / 8 * 8 }:=⟨_,rfl⟩
 rw [<- ht1] at h0
 have h1:=GSt.nx_1 (s:=t1) (L0:=fixedL) (D0:=fixedD2) (N:=N) (most:=most) (by rw [ht1])
 have hp1 : t1.p = 8:=by rw [ht1]; rfl
 have hl1 : t1.last = true:=by rw [ht1]; rfl
 have ho1 : t1.out = []:=by rw [ht1]; rfl
 have hk1 : t1.k = 1:=by rw [ht1]
 have hn1 : N / 2 ^ t1.p % 65536 = b.length:=by rw [hp1]; omega
 have hn2 : N / 2 ^ (t1.p + 16) % 65536 = 65535 - b.length:=by
  rw [hp1,show (2 : Nat) ^ (8 + 16) = 16777216 from rfl]
  have hg : N / 16777216 = (65535 - b.length) + 65536 * R:=by rw [hR]; clear hn1 hR; omega
  rw [hg]
  clear hn1 hR hg
  omega
 simp only [hn1,hn2] at h1
 rw [if_pos trivial] at h1
 have e2 : ({ t1 with k:=stK t1.last b.length,left:=b.length,p:=t1.p + 32 } : GSt) = tS t1 b.length 40 []:=by
  unfold tS; rw [hp1,<- ho1]
 rw [e2] at h1
 rw [hN] at h0 h1
 have s1 : Stp (storeB true b ++ more) a most st0 t1:=Steps.one (by decide) h0 (by show 0 + 3 <= 8 * a; omega)
 have s2 : Stp (storeB true b ++ more) a most t1 (tS t1 b.length 40 []):=Steps.one (by rw [hk1]; decide) h1 (by rw [hp1]; omega)
 have s3:=bytes_steps (B:=storeB true b ++ more) (a:=a) (most:=most) t1 b.length 40 [] b.length (Nat.le_refl _) (by omega) (by simpa using hm)
 have hby : bytesAt (num (storeB true b ++ more)) 40 b.length = b:=by
  have:=bytesAt_num (storeB true b ++ more) 5 b.length (by rw [List.length_append,storeB_length]; omega)
  rw [show 8 * 5 = 40 from rfl] at this
  rw [this]
  unfold storeB
  rw [List.append_assoc,show (5 : Nat) = (hdr true b.length).length from rfl,List.drop_left,List.take_left]
 rw [hby,Nat.sub_self,List.nil_append] at s3
 refine ⟨_,(s1.trans (s2.trans s3)).done ?_,rfl,?_⟩
 ·show stK t1.last 0 = 11
  rw [hl1]; rfl
 ·show 40 + 8 * b.length = _
  omega
def PackS (b s : List UInt8) : Prop:=b.length < 65536 /\ s = [0x78,0x01] ++ storeB true b ++ bigN (adWord (adOf b))
theorem unpack_sto {b s : List UInt8} (h : PackS b s) (more : List UInt8) (A : Option Addr) (n cb most : Nat) (w : World) (hT : Tab w) (hn : n = s.length + more.length) (hb : Holds w 1 A n (bvals (s ++ more))) (hcb : n <= cb) (hA0 : A = none -> cb = 0) (hB : n <= 90000) (hm : b.length <= most) (hmost : most <= 1073741824) :
 Calls Tryz.prog 52 #[.slice A n cb,.int .i64 (most : Int)] w fun e w'=>Only [] w w' /\ ∃ v,e = .returned (.tuple #[v,.int .i64 (s.length : Int),.int .i64 0]) /\ w'.ownsRow 0 5 1 v b.length (bvals b):=by
 obtain ⟨hb65,hs⟩:=h
 have hs4 : (bigN (adWord (adOf b))).length = 4:=by simp [bigN]
 have hsl : s.length = 2 + (5 + b.length) + 4:=by rw [hs,List.length_append,List.length_append,storeB_length,hs4]; rfl
 have hdrop : (s ++ more).drop 2 = storeB true b ++ (bigN (adWord (adOf b)) ++ more):=by
  rw [hs]; simp
 have hh : UHead (s ++ more):=UHead.of (storeB true b ++ (bigN (adWord (adOf b)) ++ more)) (by rw [hs]; simp)
 obtain ⟨t,hend,hout,hp⟩:=sto_end (bigN (adWord (adOf b)) ++ more) hb65 (a:=(s ++ more).length - 2) (most:=most) (by rw [List.length_append]; omega) hm
 have hUE : UEnd (s ++ more) most 0 t:=by
  show End ((s ++ more).drop 2) _ most st0 0 t
  rw [hdrop]; exact hend
 have hub : ub t = 5 + b.length:=by unfold ub; rw [hp]; omega
 obtain ⟨R,hR⟩:=sto_num b (bigN (adWord (adOf b)) ++ more) hb65
 refine (unpack_by (s ++ more) (P:=StoP (num ((s ++ more).drop 2))) (steps_sto _) (.inl ⟨rfl,?_⟩) most n cb A w hmost hT hb (by rw [List.length_append]; exact hn.symm) hcb hA0 hB).mono fun e w' hu=>⟨hu.1,?_⟩
 ·show num ((s ++ more).drop 2) / 2 ^ 0 % 8 = 1
  rw [hdrop,hR,Nat.pow_zero,Nat.div_one]; omega
 ·have key:=(unp_whole hu hh hUE).1 (by rw [hub,List.length_append]; omega) (by
   rw [hub,hout,<- List.drop_drop,hdrop,show 5 + b.length = (storeB true b).length from (storeB_length _ _).symm,List.drop_left,List.take_append_of_le_length (by omega),List.take_of_length_le (by omega)])
  obtain ⟨v,he,how⟩:=key
  rw [hub,<- hsl] at he
  rw [hout] at how
  exact ⟨v,he,how⟩
end Go.Proofs.YtjfjmkkkbcgohaaGreatDoor
