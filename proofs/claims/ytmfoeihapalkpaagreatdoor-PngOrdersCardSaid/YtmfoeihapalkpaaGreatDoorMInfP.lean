import Derived.Test.YtmfoeihapalkpaaGreatDoorMFlNw
namespace Go.Proofs.YtmfoeihapalkpaaGreatDoor
open Go Go.RowKit
structure AtG (T : List UInt8) (s : St) (g : GSt) : Prop where
 k : g.k = s.k
 last : g.last = s.last
 left : s.k = 2 -> g.left = s.left
 p : g.p = s.p
 out : g.out = s.out
 tab : s.k = 7 -> g.T = T
theorem half16 {N p n : Nat} (h : N / 2 ^ p % 4294967296 = n + (65535 - n) * 65536) (hn : n < 65536) : N / 2 ^ p % 65536 = n /\ N / 2 ^ (p + 16) % 65536 = 65535 - n:=by
 have e : N / 2 ^ (p + 16) = N / 2 ^ p / 65536:=by rw [Nat.pow_add,<- Nat.div_div_eq_div_mul]
 rw [e]
 omega
variable {T D0 : List UInt8} {N most : Nat}
theorem Mv.nx (hread : ∀ i p,ln T i ≠ 0 -> N / 2 ^ p % 2 ^ ln T i = rev (cd T i) (ln T i) -> huffN T N p = (i,0,ln T i)) {s t : St} (h : Mv T N s t) {g : GSt} (hg : AtG T s g) (hm : t.out.length <= most) :
 ∃ q g',s.k ≠ 11 /\ g.nx T D0 N most = (q,.ok g') /\ q <= t.p /\ AtG T t g':=by
 obtain ⟨hk,hl,hle,hp,ho,ht⟩:=hg
 cases h with
 | stored l0 last p p' out h hp' =>
   replace hk : g.k = 0:=hk
   replace hp : g.p = p:=hp
   have hv : N / 2 ^ g.p % 8 = last.toNat:=by rw [hp]; exact h
   have h2 : last.toNat / 2 = 0:=by cases last <;> rfl
   have h3 : (last.toNat % 2 == 1) = last:=by cases last <;> rfl
   refine ⟨g.p + 3,{ g with k:=1,last:=last,p:=(g.p + 10) / 8 * 8 },by show (0 : Nat) ≠ 11; decide,?_,by show g.p + 3 <= p'; omega,⟨rfl,rfl,fun h=>absurd h (by show (1 : Nat) ≠ 2; decide),by show (g.p + 10) / 8 * 8 = p'; rw [hp,hp'],ho,fun h=>absurd h (by show (1 : Nat) ≠ 7; decide)⟩⟩
   rw [GSt.nx_0 hk]
   simp only [hv,h2,h3,if_true]
 | fixed l0 last p out h =>
   replace hk : g.k = 0:=hk
   replace hp : g.p = p:=hp
   have hv : N / 2 ^ g.p % 8 = last.toNat + 2:=by rw [hp]; exact h
   have h1 : ¬ (last.toNat + 2) / 2 = 0:=by omega
   have h2 : (last.toNat + 2) / 2 = 1:=by cases last <;> rfl
   have h3 : ((last.toNat + 2) % 2 == 1) = last:=by cases last <;> rfl
   refine ⟨g.p + 3,{ g with k:=7,last:=last,p:=g.p + 3,T:=T,D:=D0 },by show (0 : Nat) ≠ 11; decide,?_,by show g.p + 3 <= p + 3; omega,⟨rfl,rfl,fun h=>absurd h (by show (7 : Nat) ≠ 2; decide),by show g.p + 3 = p + 3; rw [hp],ho,fun _=>rfl⟩⟩
   rw [GSt.nx_0 hk]
   simp only [hv,h2,h3,if_true]
   rw [if_neg (by decide)]
 | size last n p out hn h8 h =>
   replace hk : g.k = 1:=hk
   replace hp : g.p = p:=hp
   replace hl : g.last = last:=hl
   obtain ⟨e1,e2⟩:=half16 h hn
   refine ⟨g.p + 32,{ g with k:=stK last n,left:=n,p:=g.p + 32 },by show (1 : Nat) ≠ 11; decide,?_,by show g.p + 32 <= p + 32; omega,⟨rfl,hl,fun _=>rfl,by show g.p + 32 = p + 32; rw [hp],ho,fun h=>absurd h (by
    show stK last n ≠ 7
    unfold stK behindK
    split <;> (try split) <;> decide)⟩⟩
   rw [GSt.nx_1 hk]
   simp only [hp,e1,e2,if_true,hl]
 | byte last n p out h8 =>
   replace hk : g.k = 2:=hk
   replace hp : g.p = p:=hp
   replace hl : g.last = last:=hl
   replace ho : g.out = out:=ho
   have hleft : g.left = n + 1:=hle rfl
   have hm' : g.out.length < most:=by rw [ho]; have : (out ++ [UInt8.ofNat (N / 2 ^ p)]).length <= most:=hm; simp at this; omega
   refine ⟨g.p + 8,{ g with k:=stK last n,left:=n,p:=g.p + 8,out:=g.out ++ [UInt8.ofNat (N / 2 ^ g.p)] },by show (2 : Nat) ≠ 11; decide,?_,by show g.p + 8 <= p + 8; omega,⟨rfl,hl,fun _=>rfl,by show g.p + 8 = p + 8; rw [hp],by show g.out ++ _ = out ++ _; rw [ho,hp],fun h=>absurd h (by
    show stK last n ≠ 7
    unfold stK behindK
    split <;> (try split) <;> decide)⟩⟩
   rw [GSt.nx_2 hk]
   simp only [hm',if_true,hleft,hl,Nat.add_sub_cancel]
 | lit last i p out hi h0 h =>
   replace hk : g.k = 7:=hk
   replace hp : g.p = p:=hp
   replace hl : g.last = last:=hl
   replace ho : g.out = out:=ho
   have hT : g.T = T:=ht rfl
   have hm' : g.out.length < most:=by rw [ho]; have : (out ++ [UInt8.ofNat i]).length <= most:=hm; simp at this; omega
   have hr:=hread i p h0 h
   have hneed : needN T N p = ln T i:=by unfold needN; rw [hr]; rfl
   refine ⟨g.p + ln T i,{ g with p:=g.p + ln T i,out:=g.out ++ [UInt8.ofNat i] },by show (7 : Nat) ≠ 11; decide,?_,by show g.p + ln T i <= p + ln T i; omega,⟨hk,hl,fun h=>absurd h (by show (7 : Nat) ≠ 2; decide),by show g.p + ln T i = p + ln T i; rw [hp],by show g.out ++ _ = out ++ _; rw [ho],fun _=>hT⟩⟩
   rw [GSt.nx_7 hk]
   simp only [hT,hp,hneed,hr]
   rw [if_neg (by omega),if_pos hi,if_pos hm']
 | eob last p out h0 h =>
   replace hk : g.k = 7:=hk
   replace hp : g.p = p:=hp
   replace hl : g.last = last:=hl
   replace ho : g.out = out:=ho
   have hT : g.T = T:=ht rfl
   have hr:=hread 256 p h0 h
   have hneed : needN T N p = ln T 256:=by unfold needN; rw [hr]; rfl
   have hb : behindK last ≠ 7 /\ behindK last ≠ 2:=by cases last <;> decide
   refine ⟨g.p + ln T 256,{ g with k:=behindK last,p:=g.p + ln T 256 },by show (7 : Nat) ≠ 11; decide,?_,by show g.p + ln T 256 <= p + ln T 256; omega,⟨rfl,hl,fun h=>absurd h hb.2,by show g.p + ln T 256 = p + ln T 256; rw [hp],ho,fun h=>absurd h hb.1⟩⟩
   rw [GSt.nx_7 hk]
   simp only [hT,hp,hneed,hr,hl]
   rw [if_neg (by omega),if_neg (by omega),if_pos trivial]
theorem Way.steps (hS : Sm (cn T) 16 <= 32768) (h15 : ∀ i,ln T i <= 15) {a : Nat} {s e : St} (h : Way T N s e) : ∀ {g : GSt},AtG T s g -> e.out.length <= most -> e.p <= 8 * a ->
 ∃ g',Steps T D0 N a most g g' /\ AtG T e g':=by
 have hread : ∀ i p,ln T i ≠ 0 -> N / 2 ^ p % 2 ^ ln T i = rev (cd T i) (ln T i) -> huffN T N p = (i,0,ln T i):=fun i p hi hb=>read_back hS h15 hi (by have:=h15 i; omega) hb
 induction h with
 | stop s=>exact fun hg _ _=>⟨_,.refl _,hg⟩
 | go h r ih =>
   intro g hg hm hp
   have h1:=r.out_le
   have h2:=r.grow
   obtain ⟨q,g1,hk,hn,hq,hg1⟩:=h.nx (D0:=D0) (most:=most) hread hg (by omega)
   obtain ⟨g',hs,hg'⟩:=ih hg1 hm hp
   exact ⟨g',(Steps.one (by rw [hg.k]; exact hk) hn (by omega)).trans hs,hg'⟩
end Go.Proofs.YtmfoeihapalkpaaGreatDoor
namespace Go.Proofs.YtmfoeihapalkpaaGreatDoor
def IsStream (b bs : List UInt8) : Prop:=(bs = storeB true b /\ b.length < 65536) \/ IsFixed b bs
theorem syms_bytes (b : List UInt8) : (symsOf b).reverse.map UInt8.ofNat = b:=by
 unfold symsOf
 rw [List.reverse_reverse,List.map_map]
 have : (UInt8.ofNat ∘ UInt8.toNat) = id:=by funext x; simp
 rw [this,List.map_id]
theorem IsStream.way {b bs : List UInt8} (h : IsStream b bs) (N j : Nat) (l0 : Bool) (out more : List UInt8) (hN : N / 2 ^ (8 * j) = num (bs ++ more)) :
 ∃ p,0 < p /\ (p + 7) / 8 = bs.length /\ Way fixedL N ⟨0,l0,0,8 * j,out⟩ ⟨11,true,0,8 * j + p,out ++ b⟩:=by
 rcases h with ⟨rfl,hb⟩ | ⟨h1,h2⟩
 ·refine ⟨8 * (5 + b.length),by omega,by rw [storeB_length]; omega,?_⟩
  refine way_stored l0 true b j (num more) out hb ?_ _ ?_
  ·rw [hN,num_append,storeB_length]; rfl
  ·rw [show 8 * j + 8 * (5 + b.length) = 8 * (j + 5 + b.length) by omega]
   exact .stop _
 ·obtain ⟨L,hL⟩ : ∃ L,L = bitsL fixedL (256 :: symsOf b):=⟨_,rfl⟩
  refine ⟨3 + L,by omega,by rw [h2,hL],?_⟩
  refine way_fixed l0 true (8 * j) (2 ^ (8 * bs.length - 3 - L) * num more) (symsOf b) out (fun i hi=>?_) (fixL_pos 256 (by decide)) ?_ _ ?_
  ·unfold symsOf at hi
   rw [List.mem_reverse,List.mem_map] at hi
   obtain ⟨x,_,rfl⟩:=hi
   have:=x.toNat_lt
   exact ⟨this,fixL_pos _ (by omega)⟩
  ·rw [hN,num_append,h1,<- hL,pow_256]
   have e : 8 * bs.length = 3 + L + (8 * bs.length - 3 - L):=by omega
   rw [e,Nat.pow_add,Nat.pow_add,Nat.mul_add,show 3 + L + (8 * bs.length - 3 - L) - 3 - L = 8 * bs.length - 3 - L by omega]
   rw [Nat.mul_assoc,Nat.mul_assoc]
   show 3 + _ + _ = 1 + 2 + _
   omega
  ·rw [syms_bytes,<- hL,Nat.add_assoc]
   exact .stop _
theorem IsStream.alone {b bs : List UInt8} (h : IsStream b bs) (more : List UInt8) : ∃ p,0 < p /\ (p + 7) / 8 = bs.length /\ Way fixedL (num (bs ++ more)) ⟨0,false,0,0,[]⟩ ⟨11,true,0,p,b⟩:=by
 obtain ⟨p,h0,h1,h2⟩:=h.way (num (bs ++ more)) 0 false [] more (by simp)
 exact ⟨p,h0,h1,by simpa using h2⟩
theorem fixL_sm : Sm (cn fixedL) 16 <= 32768:=by decide +kernel
theorem IsStream.ends {b bs : List UInt8} (h : IsStream b bs) (more : List UInt8) {a most : Nat} (D0 : List UInt8) (ha : bs.length <= a) (hm : b.length <= most) {g : GSt} (hg : AtG fixedL ⟨0,false,0,0,[]⟩ g) :
 ∃ u,Ends fixedL D0 (num (bs ++ more)) a most g 0 u /\ u.k = 11 /\ u.out = b /\ 0 < u.p /\ (u.p + 7) / 8 = bs.length:=by
 obtain ⟨p,hp0,hp8,hway⟩:=h.alone more
 obtain ⟨u,hs,hu⟩:=hway.steps (D0:=D0) (most:=most) fixL_sm fixL_far' (a:=a) hg hm (by show p <= 8 * a; omega)
 exact ⟨u,hs.done hu.k,hu.k,hu.out,by rw [hu.p]; exact hp0,by rw [hu.p]; exact hp8⟩
end Go.Proofs.YtmfoeihapalkpaaGreatDoor
namespace Go.Proofs.YtmfoeihapalkpaaGreatDoor
open Go Go.RowKit
def Packed (b s : List UInt8) : Prop:=∃ bs,IsStream b bs /\ s = [0x78,0x01] ++ bs ++ bigN (adWord (adOf b))
def st0 : GSt:=⟨0,false,0,0,[],[],[],0,0,0,[],0,0,[],0⟩
theorem st0_at : AtG fixedL ⟨0,false,0,0,[]⟩ st0:=⟨rfl,rfl,fun h=>absurd h (by decide),rfl,rfl,fun h=>absurd h (by decide)⟩
theorem st0_wf : st0.Wf:=by
 constructor
 all_goals simp [st0]
theorem rest_new {most g gw gt : Nat} {tl : List Value} {B : List UInt8} {w : World} (hd : Dc w g { DF.newZ most gw gt with tail:=tl }) (hr : Rg w gw []) (ht : w.ownsRow 0 5 1 (.slice (some ⟨gt,0,none⟩) 0 4) 0 [])
 (hne : gw ≠ gt) (hT : Tab w) (hg : g ∉ Gs /\ gw ∉ Gs /\ gt ∉ Gs) : Rest w g gw gt { DF.newZ most gw gt with tail:=tl } B 0 0 st0 where
 dec:=hd
 ring:=hr
 wb:=rfl
 wn:=rfl
 wt:=rfl
 wts:=ht
 gwt:=hne
 md:=⟨rfl,fun _=>rfl,fun h=>absurd h (by decide),fun h=>absurd h (by decide),fun h=>absurd h (by decide),fun h=>absurd h (by decide),hT⟩
 k:=rfl
 wf:=st0_wf
 pt:=Pt.of rfl (by decide)
 ps:=by show (0 : Nat) < 8; decide
 oa:=Nat.le_refl _
 aB:=Nat.zero_le _
 pa:=Nat.le_refl _
 fx:=.inl rfl
 gg:=hg
 k11:=by decide
 far:=by
  show 8 * 0 < (st0.nx fixedL fixedD2 (num B) most).1
  rw [GSt.nx_0 rfl]
  exact (by decide : 8 * 0 < st0.p + 3)
 fault:=rfl
theorem Rest.still {w w' : World} {g gw gt : Nat} {f : DF} {B : List UInt8} {a o : Nat} {s : GSt} {S : List Nat} (h : Rest w g gw gt f B a o s) (ho : Only S w w') (h1 : g ∉ S) (h2 : gw ∉ S) (h3 : gt ∉ S) (hO : Other w S) : Rest w' g gw gt f B a o s:=by
 have hM:=h.md.keep ho hO
 exact ⟨Has.only h.dec ho h1,h.ring.only ho h2,h.wb,h.wn,h.wt,own_keep h.wts ho (fun b hb hm=>by
  injection hb with hb
  exact h3 (by rw [show gt = b from hb]; exact hm)),h.gwt,hM,h.k,h.wf,h.pt,h.ps,h.oa,h.aB,h.pa,h.fx.imp id (fun hx=>hx.keep ho hO),h.gg,h.k11,h.far,h.fault⟩
def Bodied (B : List UInt8) (a n : Nat) (g gw gt ga : Nat) (f : DF) (s : GSt) (sm : Value) (wb : List UInt8) (w : World) (e : Ending) (w' : World) : Prop :=
 Only [g,gw,gt,ga] w w' /\
  ((∃ (y : List UInt8) (v : Value) (f' : DF) (u : Nat),e = .returned (.tuple #[v,.int .i64 (u : Int),.int .i64 0]) /\ f'.used = f.used + u /\ (∀ b,v.ownBlock = some b -> w.heap.size <= b) /\ f'.most = f.most /\ f'.z = f.z /\ f'.tail = tailZ sm 1 wb 0 /\ Dc w' g f' /\ f'.fault = 0 /\ f'.wb = .slice (some ⟨gw,0,none⟩) 32768 32768 /\
      w'.ownsRow 0 5 1 v y.length (bvals y) /\ f'.total = f.total + y.length /\ s.out.length + y.length <= f.most /\ Adl w' ga (s.out ++ y) /\
      ((f'.k = 11 /\ ∃ t,End B (a + n) f.most s 0 t /\ u = (t.p + 7) / 8 - a /\ t.p <= 8 * (a + n) /\ t.out = s.out ++ y /\ ∃ z,f'.wt = .slice (some ⟨gt,0,none⟩) z 4) \/
        (u = n /\ ∃ o' t,End B (a + n) f.most s 2 t /\ t.out = s.out ++ y /\ Rest w' g gw gt f' B (a + n) o' t))) \/
    (∃ (c : Nat) (f' : DF),(c = 3 \/ c = 5) /\ e = .returned (.tuple #[.slice none 0 0,.int .i64 0,.int .i64 (c : Int)]) /\ f'.fault = c /\ f'.most = f.most /\ f'.z = f.z /\ f'.tail = tailZ sm 1 wb 0 /\ f'.used = f.used /\ f'.wb = .slice (some ⟨gw,0,none⟩) 32768 32768 /\ Dc w' g f' /\ ∃ t,End B (a + n) f.most s c t /\ f'.k ≠ 11 /\ ∃ z,f'.wt = .slice (some ⟨gt,0,none⟩) z 4))
set_option maxRecDepth 100000 in
set_option maxHeartbeats 8000000 in
theorem bodyRead_any (B : List UInt8) (a o n cb : Nat) (A : Option Addr) (g gw gt ga : Nat) (f : DF) (s : GSt) (wb : List UInt8) (w : World) (h : Rest w g gw gt f B a o s) (hz : f.z = true)
 (ht : f.tail = tailZ (.iface 116 (.pointer (some ⟨ga,0,none⟩))) 1 wb 0) (ha : Adl w ga s.out) (hgG : ga ∉ Gs)
 (hb : Holds w 1 A n (bvals ((B.drop a).take n))) (hcb : n <= cb) (han : a + n <= B.length) (hB : B.length <= 90000) (hl : s.out.length <= f.most) (hmost : f.most <= 1073741824) (hu : f.used + n <= 1000000000) (htt : f.total <= 1000000000)
 (hA : 0 < n -> ∀ ad,A = some ad -> ad.block ∉ [g,gw,gt]) :
 Calls Tryz.prog 183 #[.pointer (some ⟨g,0,none⟩),.slice A n cb] w (Bodied B a n g gw gt ga f s (.iface 116 (.pointer (some ⟨ga,0,none⟩))) wb w):=by
 have hW:=write_all B a o n cb A g gw gt f s w h hb hcb han hB hl hmost hu htt hA
 have hU:=used_any g f w h.dec
 have hne : ga ∉ [g,gw,gt]:=by
  obtain ⟨x,_,_,hA⟩:=ha
  obtain ⟨ws,hws,_⟩:=h.ring
  intro hm
  simp only [List.mem_cons,List.not_mem_nil,or_false] at hm
  rcases hm with e | e | e
  ·exact Has.ne h.dec hA (f.ne_ty (by decide) (by decide)) e.symm
  ·exact Has.ne hws hA (by decide) e.symm
  ·exact own_ne h.wts hA (by decide) (by rw [e]; rfl)
 have HI:=hide (aI h (aI hz (aI ht (aI ha (aI hne (aI hl (aI hmost (aI hgG hu))))))))
 have HW:=hide hW
 have HU:=hide hU
 have hub : f.used <= 1000000000:=by omega
 have m1:=adler_write
 clear hW hU h hz ht ha hb hcb han hB hl hmost hu htt hA hne hgG
 go_enter Tryz.func183,Tryz.ntmps183
 go_wp2_with fail
 refine (HU.out).mono ?_
 rintro e w0 ⟨rfl,rfl⟩
 go_wp2_with fail
 refine (HW.out).mono ?_
 rintro e w1 ⟨c,y,v,f',rfl,hfr,hv,hmo,hz',htl,hd1,hfa,hwb,hcase⟩
 rcases hcase with ⟨rfl,hown,hto,hle,hfin⟩ | ⟨hc,rfl,hus,t,hE⟩
 ·obtain ⟨A1,c1,rfl,hc1,_⟩:=own_shape hown
  have c357 : w1.cell? ⟨g,357,none⟩ = some (.iface 116 (.pointer (some ⟨ga,0,none⟩))):=by
   have:=hd1.tail 0
   rw [htl,HI.out.2.2.1,tailZ_s] at this
   exact this
  have ha1 : Adl w1 ga s.out:=HI.out.2.2.2.1.only hfr HI.out.2.2.2.2.1
  have hgalt:=HI.out.2.2.2.1.lt
  have hAW:=adlerWrite_any ga s.out A1 y.length c1 y w1 ha1 (Holds.of_own hown) rfl (by have:=HI.out.2.2.2.2.2.2.1; omega) hc1 (fun _ ad had=>by
   have:=hv ad.block (by rw [had]; rfl)
   omega)
  have HAW:=hide hAW
  have H1:=hide (aI hfr (aI hv (aI hmo (aI hz' (aI htl (aI hd1 (aI hfa (aI hwb (aI hown (aI hto (aI hle (aI hfin hgalt))))))))))))
  clear hfr hv hmo hz' htl hd1 hfa hwb hown hto hle hfin ha1 hAW hgalt
  go_wp2_with fail
  refine (HAW.out).mono ?_
  rintro e w2 ⟨rfl,ha2,ho2⟩
  have hnm:=HI.out.2.2.2.2.1
  simp only [List.mem_cons,List.not_mem_nil,or_false,not_or] at hnm
  have hd2 : Dc w2 g f':=Has.only H1.out.2.2.2.2.2.1 ho2 (by simpa using fun e=>hnm.1 e.symm)
  have HU2:=hide (used_any g f' w2 hd2)
  have hO : Other w1 [ga]:=fun k hk _=>by
   obtain rfl : k = ga:=by simpa using hk
   obtain ⟨x,_,_,hA⟩:=HI.out.2.2.2.1
   have hA1 : Has w1 k 173 _:=hA.only H1.out.1 HI.out.2.2.2.2.1
   exact ⟨⟨_,_,_,hA1,by decide,by decide⟩,HI.out.2.2.2.2.2.2.2.1⟩
  have o12 : Only [g,gw,gt,ga] w w2:=(H1.out.1.weak (T:=[g,gw,gt,ga]) (by intro k hk _; simp only [List.mem_cons,List.not_mem_nil,or_false] at hk ⊢; omega)).trans (ho2.weak (T:=[g,gw,gt,ga]) (by simp)) (by simp)
  have hown2 : w2.ownsRow 0 5 1 (.slice A1 y.length c1) y.length (bvals y):=own_keep H1.out.2.2.2.2.2.2.2.2.1 ho2 (fun b hb hm=>by
   have h1:=H1.out.2.1 b hb
   have h2:=H1.out.2.2.2.2.2.2.2.2.2.2.2.2
   obtain h3 : b = ga:=by simpa using hm
   omega)
  obtain ⟨u,hu,hfin2⟩ : ∃ u,f'.used = f.used + u /\ u <= n /\ ((f'.k = 11 /\ ∃ t,End B (a + n) f.most s 0 t /\ u = (t.p + 7) / 8 - a /\ t.p <= 8 * (a + n) /\ t.out = s.out ++ y /\ ∃ z,f'.wt = .slice (some ⟨gt,0,none⟩) z 4) \/
   (u = n /\ ∃ o' t,End B (a + n) f.most s 2 t /\ t.out = s.out ++ y /\ Rest w2 g gw gt f' B (a + n) o' t)):=by
   rcases H1.out.2.2.2.2.2.2.2.2.2.2.2.1 with ⟨h11,t,h1,h2,h3,h4⟩ | ⟨h1,o',t,h2,h3,h4⟩
   ·exact ⟨(t.p + 7) / 8 - a,h2,by omega,.inl ⟨h11,t,h1,rfl,h3,h4⟩⟩
   ·exact ⟨n,h1,Nat.le_refl _,.inr ⟨rfl,o',t,h2,h3,h4.still ho2 (by simpa using fun e=>hnm.1 e.symm) (by simpa using fun e=>hnm.2.1 e.symm) (by simpa using fun e=>hnm.2.2 e.symm) hO⟩⟩
  have hub2 : f'.used <= 1000000000:=by have:=HI.out.2.2.2.2.2.2.2.2; omega
  have e1 : (f'.used : Int) - (f.used : Int) = (u : Int):=by omega
  have H2:=hide (aI o12 (aI hown2 (aI hd2 (aI ha2 (aI hu hfin2)))))
  clear o12 hown2 hd2 ha2 hu hfin2 ho2 hO hnm
  go_wp2_with fail
  refine (HU2.out).mono ?_
  rintro e w3 ⟨rfl,rfl⟩
  go_wp2_with fail
  go_ret3
  exact ⟨H2.out.1,.inl ⟨y,_,f',u,rfl,H2.out.2.2.2.2.1,H1.out.2.1,H1.out.2.2.1,H1.out.2.2.2.1,by rw [H1.out.2.2.2.2.1,HI.out.2.2.1],H2.out.2.2.1,H1.out.2.2.2.2.2.2.1,H1.out.2.2.2.2.2.2.2.1,H2.out.2.1,H1.out.2.2.2.2.2.2.2.2.2.1,H1.out.2.2.2.2.2.2.2.2.2.2.1,H2.out.2.2.2.1,H2.out.2.2.2.2.2.2⟩⟩
 ·have H1:=hide (aI hfr (aI hmo (aI hz' (aI htl (aI hd1 (aI hfa (aI hwb (aI hus hE))))))))
  clear hfr hv hmo hz' htl hd1 hfa hwb hus hE
  rcases hc with rfl | rfl
  all_goals
   go_wp2_with fail
   go_ret3
   have h1:=H1.out
   exact ⟨h1.1.weak (by intro k hk _; simp only [List.mem_cons,List.not_mem_nil,or_false] at hk ⊢; omega),.inr ⟨_,f',by first | exact .inl rfl | exact .inr rfl,rfl,h1.2.2.2.2.2.1,h1.2.1,h1.2.2.1,by rw [h1.2.2.2.1,HI.out.2.2.1],h1.2.2.2.2.2.2.2.1,h1.2.2.2.2.2.2.1,h1.2.2.2.2.1,t,h1.2.2.2.2.2.2.2.2⟩⟩
end Go.Proofs.YtmfoeihapalkpaaGreatDoor
