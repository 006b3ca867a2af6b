import Derived.Test.YtjfjmkkkbcgohaaGreatDoorMFlNw
namespace Go.Proofs.YtjfjmkkkbcgohaaGreatDoor
open Go Go.RowKit
variable {T D0 : List UInt8} {N most : Nat}
end Go.Proofs.YtjfjmkkkbcgohaaGreatDoor
namespace Go.Proofs.YtjfjmkkkbcgohaaGreatDoor
end Go.Proofs.YtjfjmkkkbcgohaaGreatDoor
namespace Go.Proofs.YtjfjmkkkbcgohaaGreatDoor
open Go Go.RowKit
def st0 : GSt:=⟨0,false,0,0,[],[],[],0,0,0,[],0,0,[],0⟩
theorem st0_wf : st0.Wf:=by
 constructor
 all_goals simp [st0]
theorem rest_new {most g gw gt : Nat} {tl : List Value} {B : List UInt8} {w : World} (hd : Dc w g { DF.newZ most gw gt with tail:=tl }) (hr : Rg w gw []) (ht : w.ownsRow 0 5 1 (.slice (some ⟨gt,0,none⟩) 0 4) 0 [])
 (hne : gw ≠ gt) (hT : Tab w) (hg : g ∉ Gs /\ gw ∉ Gs /\ gt ∉ Gs) : Rest w g gw gt { DF.newZ most gw gt with tail:=tl } B 0 0 st0 where
 dec:=hd
 ring:=hr
 wb:=rfl
 wn:=rfl
 wt:=rfl
 wts:=ht
 gwt:=hne
 md:=⟨rfl,fun _=>rfl,fun h=>absurd h (by decide),fun h=>absurd h (by decide),fun h=>absurd h (by decide),fun h=>absurd h (by decide),hT⟩
 k:=rfl
 wf:=st0_wf
 pt:=Pt.of rfl (by decide)
 ps:=by show (0 : Nat) < 8; decide
 oa:=Nat.le_refl _
 aB:=Nat.zero_le _
 pa:=Nat.le_refl _
 fx:=.inl rfl
 gg:=hg
 k11:=by decide
 far:=by
  show 8 * 0 < (st0.nx fixedL fixedD2 (num B) most).1
  rw [GSt.nx_0 rfl]
  exact (by decide : 8 * 0 < st0.p + 3)
 fault:=rfl
theorem Rest.still {w w' : World} {g gw gt : Nat} {f : DF} {B : List UInt8} {a o : Nat} {s : GSt} {S : List Nat} (h : Rest w g gw gt f B a o s) (ho : Only S w w') (h1 : g ∉ S) (h2 : gw ∉ S) (h3 : gt ∉ S) (hO : Other w S) : Rest w' g gw gt f B a o s:=by
 have hM:=h.md.keep ho hO
 exact ⟨Has.only h.dec ho h1,h.ring.only ho h2,h.wb,h.wn,h.wt,own_keep h.wts ho (fun b hb hm=>by
  injection hb with hb
  exact h3 (by rw [show gt = b from hb]; exact hm)),h.gwt,hM,h.k,h.wf,h.pt,h.ps,h.oa,h.aB,h.pa,h.fx.imp id (fun hx=>hx.keep ho hO),h.gg,h.k11,h.far,h.fault⟩
def Bodied (B : List UInt8) (a n : Nat) (g gw gt ga : Nat) (f : DF) (s : GSt) (sm : Value) (wb : List UInt8) (w : World) (e : Ending) (w' : World) : Prop :=
 Only [g,gw,gt,ga] w w' /\
  ((∃ (y : List UInt8) (v : Value) (f' : DF) (u : Nat),e = .returned (.tuple #[v,.int .i64 (u : Int),.int .i64 0]) /\ f'.used = f.used + u /\ (∀ b,v.ownBlock = some b -> w.heap.size <= b) /\ f'.most = f.most /\ f'.z = f.z /\ f'.tail = tailZ sm 1 wb 0 /\ Dc w' g f' /\ f'.fault = 0 /\ f'.wb = .slice (some ⟨gw,0,none⟩) 32768 32768 /\
      w'.ownsRow 0 5 1 v y.length (bvals y) /\ f'.total = f.total + y.length /\ s.out.length + y.length <= f.most /\ Adl w' ga (s.out ++ y) /\
      ((f'.k = 11 /\ ∃ t,End B (a + n) f.most s 0 t /\ u = (t.p + 7) / 8 - a /\ t.p <= 8 * (a + n) /\ t.out = s.out ++ y /\ ∃ z,f'.wt = .slice (some ⟨gt,0,none⟩) z 4) \/
        (u = n /\ ∃ o' t,End B (a + n) f.most s 2 t /\ t.out = s.out ++ y /\ Rest w' g gw gt f' B (a + n) o' t))) \/
    (∃ (c : Nat) (f' : DF),(c = 3 \/ c = 5) /\ e = .returned (.tuple #[.slice none 0 0,.int .i64 0,.int .i64 (c : Int)]) /\ f'.fault = c /\ f'.most = f.most /\ f'.z = f.z /\ f'.tail = tailZ sm 1 wb 0 /\ f'.used = f.used /\ f'.wb = .slice (some ⟨gw,0,none⟩) 32768 32768 /\ Dc w' g f' /\ ∃ t,End B (a + n) f.most s c t /\ f'.k ≠ 11 /\ ∃ z,f'.wt = .slice (some ⟨gt,0,none⟩) z 4))
set_option maxRecDepth 100000 in
set_option maxHeartbeats 8000000 in
theorem bodyRead_by (B : List UInt8) {P : GSt -> Prop} (hBy : StepsBy B P) (a o n cb : Nat) (A : Option Addr) (g gw gt ga : Nat) (f : DF) (s : GSt) (wb : List UInt8) (w : World) (h : Rest w g gw gt f B a o s) (hz : f.z = true)
 (ht : f.tail = tailZ (.iface 99 (.pointer (some ⟨ga,0,none⟩))) 1 wb 0) (ha : Adl w ga s.out) (hgG : ga ∉ Gs)
 (hb : Holds w 1 A n (bvals ((B.drop a).take n))) (hcb : n <= cb) (han : a + n <= B.length) (hB : B.length <= 90000) (hl : s.out.length <= f.most) (hmost : f.most <= 1073741824) (hu : f.used + n <= 1000000000) (htt : f.total <= 1000000000)
 (hA : 0 < n -> ∀ ad,A = some ad -> ad.block ∉ [g,gw,gt]) (hs0 : P s) :
 Calls Tryz.prog 147 #[.pointer (some ⟨g,0,none⟩),.slice A n cb] w (Bodied B a n g gw gt ga f s (.iface 99 (.pointer (some ⟨ga,0,none⟩))) wb w):=by
 have hW:=write_by B hBy a o n cb A g gw gt f s w h hb hcb han hB hl hmost hu htt hA hs0
 have hU:=used_any g f w h.dec
 have hne : ga ∉ [g,gw,gt]:=by
  obtain ⟨x,_,_,hA⟩:=ha
  obtain ⟨ws,hws,_⟩:=h.ring
  intro hm
  simp only [List.mem_cons,List.not_mem_nil,or_false] at hm
  rcases hm with e | e | e
  ·exact Has.ne h.dec hA (f.ne_ty (by decide) (by decide)) e.symm
  ·exact Has.ne hws hA (by decide) e.symm
  ·exact own_ne h.wts hA (by decide) (by rw [e]; rfl)
 have HI:=hide (aI h (aI hz (aI ht (aI ha (aI hne (aI hl (aI hmost (aI hgG hu))))))))
 have HW:=hide hW
 have HU:=hide hU
 have hub : f.used <= 1000000000:=by omega
 have m1:=adler_write
 clear hBy hs0 hW hU h hz ht ha hb hcb han hB hl hmost hu htt hA hne hgG
 go_enter Tryz.func147,Tryz.ntmps147
 go_wp2_with fail
 refine (HU.out).mono ?_
 rintro e w0 ⟨rfl,rfl⟩
 go_wp2_with fail
 refine (HW.out).mono ?_
 rintro e w1 ⟨c,y,v,f',rfl,hfr,hv,hmo,hz',htl,hd1,hfa,hwb,hcase⟩
 rcases hcase with ⟨rfl,hown,hto,hle,hfin⟩ | ⟨hc,rfl,hus,t,hE⟩
 ·obtain ⟨A1,c1,rfl,hc1,_⟩:=own_shape hown
  have c357 : w1.cell? ⟨g,357,none⟩ = some (.iface 99 (.pointer (some ⟨ga,0,none⟩))):=by
   have:=hd1.tail 0
   rw [htl,HI.out.2.2.1,tailZ_s] at this
   exact this
  have ha1 : Adl w1 ga s.out:=HI.out.2.2.2.1.only hfr HI.out.2.2.2.2.1
  have hgalt:=HI.out.2.2.2.1.lt
  have hAW:=adlerWrite_any ga s.out A1 y.length c1 y w1 ha1 (Holds.of_own hown) rfl (by have:=HI.out.2.2.2.2.2.2.1; omega) hc1 (fun _ ad had=>by
   have:=hv ad.block (by rw [had]; rfl)
   omega)
  have HAW:=hide hAW
  have H1:=hide (aI hfr (aI hv (aI hmo (aI hz' (aI htl (aI hd1 (aI hfa (aI hwb (aI hown (aI hto (aI hle (aI hfin hgalt))))))))))))
  clear hfr hv hmo hz' htl hd1 hfa hwb hown hto hle hfin ha1 hAW hgalt
  go_wp2_with fail
  refine (HAW.out).mono ?_
  rintro e w2 ⟨rfl,ha2,ho2⟩
  have hnm:=HI.out.2.2.2.2.1
  simp only [List.mem_cons,List.not_mem_nil,or_false,not_or] at hnm
  have hd2 : Dc w2 g f':=Has.only H1.out.2.2.2.2.2.1 ho2 (by simpa using fun e=>hnm.1 e.symm)
  have HU2:=hide (used_any g f' w2 hd2)
  have hO : Other w1 [ga]:=fun k hk _=>by
   obtain rfl : k = ga:=by simpa using hk
   obtain ⟨x,_,_,hA⟩:=HI.out.2.2.2.1
   have hA1 : Has w1 k 152 _:=hA.only H1.out.1 HI.out.2.2.2.2.1
   exact ⟨⟨_,_,_,hA1,by decide,by decide⟩,HI.out.2.2.2.2.2.2.2.1⟩
  have o12 : Only [g,gw,gt,ga] w w2:=(H1.out.1.weak (T:=[g,gw,gt,ga]) (by intro k hk _; simp only [List.mem_cons,List.not_mem_nil,or_false] at hk ⊢; omega)).trans (ho2.weak (T:=[g,gw,gt,ga]) (by simp)) (by simp)
  have hown2 : w2.ownsRow 0 5 1 (.slice A1 y.length c1) y.length (bvals y):=own_keep H1.out.2.2.2.2.2.2.2.2.1 ho2 (fun b hb hm=>by
   have h1:=H1.out.2.1 b hb
   have h2:=H1.out.2.2.2.2.2.2.2.2.2.2.2.2
   obtain h3 : b = ga:=by simpa using hm
   omega)
  obtain ⟨u,hu,hfin2⟩ : ∃ u,f'.used = f.used + u /\ u <= n /\ ((f'.k = 11 /\ ∃ t,End B (a + n) f.most s 0 t /\ u = (t.p + 7) / 8 - a /\ t.p <= 8 * (a + n) /\ t.out = s.out ++ y /\ ∃ z,f'.wt = .slice (some ⟨gt,0,none⟩) z 4) \/
   (u = n /\ ∃ o' t,End B (a + n) f.most s 2 t /\ t.out = s.out ++ y /\ Rest w2 g gw gt f' B (a + n) o' t)):=by
   rcases H1.out.2.2.2.2.2.2.2.2.2.2.2.1 with ⟨h11,t,h1,h2,h3,h4⟩ | ⟨h1,o',t,h2,h3,h4⟩
   ·exact ⟨(t.p + 7) / 8 - a,h2,by omega,.inl ⟨h11,t,h1,rfl,h3,h4⟩⟩
   ·exact ⟨n,h1,Nat.le_refl _,.inr ⟨rfl,o',t,h2,h3,h4.still ho2 (by simpa using fun e=>hnm.1 e.symm) (by simpa using fun e=>hnm.2.1 e.symm) (by simpa using fun e=>hnm.2.2 e.symm) hO⟩⟩
  have hub2 : f'.used <= 1000000000:=by have:=HI.out.2.2.2.2.2.2.2.2; omega
  have e1 : (f'.used : Int) - (f.used : Int) = (u : Int):=by omega
  have H2:=hide (aI o12 (aI hown2 (aI hd2 (aI ha2 (aI hu hfin2)))))
  clear o12 hown2 hd2 ha2 hu hfin2 ho2 hO hnm
  go_wp2_with fail
  refine (HU2.out).mono ?_
  rintro e w3 ⟨rfl,rfl⟩
  go_wp2_with fail
  go_ret3
  exact ⟨H2.out.1,.inl ⟨y,_,f',u,rfl,H2.out.2.2.2.2.1,H1.out.2.1,H1.out.2.2.1,H1.out.2.2.2.1,by rw [H1.out.2.2.2.2.1,HI.out.2.2.1],H2.out.2.2.1,H1.out.2.2.2.2.2.2.1,H1.out.2.2.2.2.2.2.2.1,H2.out.2.1,H1.out.2.2.2.2.2.2.2.2.2.1,H1.out.2.2.2.2.2.2.2.2.2.2.1,H2.out.2.2.2.1,H2.out.2.2.2.2.2.2⟩⟩
 ·have H1:=hide (aI hfr (aI hmo (aI hz' (aI htl (aI hd1 (aI hfa (aI hwb (aI hus hE))))))))
  clear hfr hv hmo hz' htl hd1 hfa hwb hus hE
  rcases hc with rfl | rfl
  all_goals
   go_wp2_with fail
   go_ret3
   have h1:=H1.out
   exact ⟨h1.1.weak (by intro k hk _; simp only [List.mem_cons,List.not_mem_nil,or_false] at hk ⊢; omega),.inr ⟨_,f',by first | exact .inl rfl | exact .inr rfl,rfl,h1.2.2.2.2.2.1,h1.2.1,h1.2.2.1,by rw [h1.2.2.2.1,HI.out.2.2.1],h1.2.2.2.2.2.2.2.1,h1.2.2.2.2.2.2.1,h1.2.2.2.2.1,t,h1.2.2.2.2.2.2.2.2⟩⟩
end Go.Proofs.YtjfjmkkkbcgohaaGreatDoor
