import Derived.Test.YtjfjmkkkbcgohaaGreatDoorMFlWr
import Derived.Test.YtjfjmkkkbcgohaaGreatDoorMSumM
namespace Go.Proofs.YtjfjmkkkbcgohaaGreatDoor
open Go Go.RowKit
def waitZ (wb b : List UInt8) (k c : Nat) : List UInt8:=wb.take k ++ b.take c ++ wb.drop (k + c)
theorem waitZ_length {wb b : List UInt8} {k c : Nat} (hw : wb.length = 4) (hc : c <= b.length) (hk : k + c <= 4) : (waitZ wb b k c).length = 4:=by
 unfold waitZ
 rw [List.length_append,List.length_append,List.length_take,List.length_take,List.length_drop,hw]; omega
theorem gather_all (g : Nat) (f : DF) (sm : Value) (part k n m cb : Nat) (wb b : List UInt8) (A : Option Addr) (w : World) (hd : Dc w g f) (ht : f.tail = tailZ sm part wb k) (hw : wb.length = 4) (hk : k < n) (hn : n <= 4)
 (hb : Holds w 1 A m (bvals b)) (hbl : b.length = m) (hcb : m <= cb) (hA : 0 < m -> ∀ ad,A = some ad -> ad.block ≠ g) (hA0 : A = none -> cb = 0) (hm : m <= 1000000000) (c : Nat) (hc : c = min m (n - k)) :
 Calls Tryz.prog 145 #[.pointer (some ⟨g,0,none⟩),.slice A m cb,.int .i64 (n : Int)] w fun e w' =>
  ∃ A' c',e = .returned (.slice A' (m - c) c') /\ Dc w' g { f with tail:=tailZ sm part (waitZ wb b k c) (k + c) } /\ Only [g] w w' /\ Holds w' 1 A' (m - c) (bvals (b.drop c)) /\ m - c <= c' /\ (∀ ad',A' = some ad' -> ∃ ad,A = some ad /\ ad'.block = ad.block) /\ (A' = none -> c' = 0):=by
 cases A with
 | some ad =>
   refine (gather_any g f sm part k n m cb wb b ad w hd ht hw hk hn hb hbl hcb (fun h=>hA h ad rfl) hm c hc).mono ?_
   rintro e w' ⟨A',c',h1,h2,h3,h4,h5,h6,h7⟩
   exact ⟨A',c',h1,h2,h3,h4,h5,fun ad' ha=>⟨ad,rfl,h6 ad' ha⟩,fun h=>absurd h h7⟩
 | none =>
   have hm0 : m = 0:=by
    rcases Nat.eq_zero_or_pos m with h | h
    ·exact h
    ·obtain ⟨ad,h1,_⟩:=hb.2 h; cases h1
   obtain rfl:=hm0
   obtain rfl:=hA0 rfl
   obtain rfl : b = []:=List.eq_nil_of_length_eq_zero hbl
   obtain rfl : c = 0:=by omega
   refine (gather_none g f sm part k n wb w hd ht hw hk hn).mono ?_
   rintro e w' ⟨rfl,h1,h2⟩
   refine ⟨none,0,rfl,?_,h2,Holds.empty _ _ _,Nat.le_refl _,(fun _ h=>absurd h (by simp)),fun _=>rfl⟩
   have e : tailZ sm part (waitZ wb [] k 0) (k + 0) = f.tail:=by
    rw [ht]; unfold waitZ; simp
   rw [e]; exact h1
def mhB (n x y : Nat) : Bool:=decide (n = 0) || ((decide (x % 16 = 8) && decide (x / 16 <= 7)) && (decide (n = 1) || (decide ((x * 256 + y) % 31 = 0) && decide (y / 32 % 2 = 0))))
def wz (wb : List UInt8) (i : Nat) : Nat:=(wb.getD i 0).toNat
theorem tailZ_w (sm : Value) (part : Nat) (wb : List UInt8) (n i : Nat) (h : wb.length = 4) (hi : i < 4) : (tailZ sm part wb n)[2 + i]? = some (.int .u8 (wz wb i : Int)):=by
 unfold tailZ wz
 rw [List.getElem?_append_right (by show 2 <= 2 + i; omega),List.getElem?_append_left (by rw [bvals_length,h]; show 2 + i - 2 < 4; omega),show 2 + i - ([sm,Value.int .i64 (part : Int)]).length = i by show 2 + i - 2 = i; omega,bvals_get _ _ (by omega),List.getD_eq_getElem?_getD,List.getElem?_eq_getElem (by omega)]
 rfl
theorem tailZ_s (sm : Value) (part : Nat) (wb : List UInt8) (n : Nat) : (tailZ sm part wb n)[0]? = some sm:=rfl
set_option maxRecDepth 100000 in
set_option maxHeartbeats 8000000 in
theorem readHead_any (g : Nat) (f : DF) (sm : Value) (k m cb : Nat) (wb b : List UInt8) (A : Option Addr) (w : World) (hd : Dc w g f) (ht : f.tail = tailZ sm 0 wb k) (hw : wb.length = 4) (hk : k < 2)
 (hb : Holds w 1 A m (bvals b)) (hbl : b.length = m) (hcb : m <= cb) (hA : 0 < m -> ∀ ad,A = some ad -> ad.block ≠ g) (hA0 : A = none -> cb = 0) (hm : m <= 1000000000) (c : Nat) (hc : c = min m (2 - k)) (wb2 : List UInt8) (hwb : wb2 = waitZ wb b k c) :
 Calls Tryz.prog 126 #[.pointer (some ⟨g,0,none⟩),.slice A m cb] w fun e w'=>Only [g] w w' /\
  ((mhB (k + c) (wz wb2 0) (wz wb2 1) = false /\ e = .returned (.tuple #[.slice none 0 0,.int .i64 3]) /\ Dc w' g { f with tail:=tailZ sm 0 wb2 (k + c) }) \/
    (mhB (k + c) (wz wb2 0) (wz wb2 1) = true /\ ∃ A' c',e = .returned (.tuple #[.slice A' (m - c) c',.int .i64 0]) /\ Holds w' 1 A' (m - c) (bvals (b.drop c)) /\ m - c <= c' /\ (∀ ad',A' = some ad' -> ∃ ad,A = some ad /\ ad'.block = ad.block) /\ (A' = none -> c' = 0) /\
      ((k + c < 2 /\ Dc w' g { f with tail:=tailZ sm 0 wb2 (k + c) }) \/
        (k + c = 2 /\ ∃ ga,w.heap.size <= ga /\ Adl w' ga [] /\ Dc w' g { f with tail:=tailZ (.iface 99 (.pointer (some ⟨ga,0,none⟩))) 1 wb2 0 })))):=by
 have hG:=gather_all g f sm 0 k 2 m cb wb b A w hd ht hw hk (by decide) hb hbl hcb hA hA0 hm c hc
 rw [<- hwb] at hG
 have hwl : wb2.length = 4:=by rw [hwb]; exact waitZ_length hw (by omega) (by omega)
 have HG:=hide (aI hG hwl)
 have hkc : k + c <= 2:=by omega
 have hglt : g < w.heap.size:=Has.lt hd
 have HI:=hide (aI hb (aI hA hglt))
 obtain ⟨n,hn⟩ : ∃ n,n = k + c:=⟨_,rfl⟩
 rw [<- hn] at hkc HG ⊢
 clear hG hwl hd ht hw hb hbl hcb hA hA0 hm hc hwb hn hk hglt
 have hs1:=run_arr4_h g 359 n (by omega)
 go_enter Tryz.func126,Tryz.ntmps126
 go_wp2_with fail
 refine (HG.out.1).mono ?_
 rintro e w1 ⟨A',c',rfl,hd1,ho1,hh1,hc1,hb1,ha1⟩
 have c359 : w1.drew.cell? ⟨g,359,none⟩ = some (.int .u8 (wz wb2 0 : Int)):=(hd1.tail 2).trans (tailZ_w sm 0 wb2 n 0 HG.out.2 (by decide))
 have c360 : w1.drew.cell? ⟨g,360,none⟩ = some (.int .u8 (wz wb2 1 : Int)):=(hd1.tail 3).trans (tailZ_w sm 0 wb2 n 1 HG.out.2 (by decide))
 have c363 : w1.cell? ⟨g,363,none⟩ = some (.int .i64 (n : Int)):=(hd1.tail 6).trans (tailZ_n sm 0 wb2 n HG.out.2)
 obtain ⟨r,hr⟩ : ∃ r,r = mhB n (wz wb2 0) (wz wb2 1):=⟨_,rfl⟩
 have HM:=hide (mayBegin_any g n (wz wb2 0) (wz wb2 1) w1.drew (by unfold wz; exact UInt8.toNat_lt _) (by unfold wz; exact UInt8.toNat_lt _) hkc c359 c360 r hr)
 have H1:=hide (aI hd1 (aI ho1 (aI hh1 (aI hc1 (aI hb1 (aI ha1 hr))))))
 clear hd1 ho1 hh1 hc1 hb1 ha1 c359 c360 hr
 cases r with
 | false =>
   go_wp2_with fail
   go_region_with (go_at_call 146; refine (HM.out).mono ?_; rintro e w2 ⟨rfl,mm,rfl⟩)
   all_goals
    go_wp2_with fail
    go_ret2
    exact ⟨H1.out.2.1.drewN _,.inl ⟨H1.out.2.2.2.2.2.2.symm,rfl,Has.only H1.out.1 ((Only.refl [] w1).drewN _) (by simp)⟩⟩
 | true =>
   by_cases h2 : n = 2
   ·subst h2
    have c363' : w1.cell? ⟨g,363,none⟩ = some (.int .i64 2):=c363
    go_wp2_with fail
    go_region_with (go_at_call 146; refine (HM.out).mono ?_; rintro e w2 ⟨rfl,mm,rfl⟩)
    all_goals
     have hdD : Dc (w1.drewN (1 + mm)) g { f with tail:=tailZ sm 0 wb2 2 }:=Has.only H1.out.1 ((Only.refl [] w1).drewN _) (by simp)
     have q363 : (w1.drewN (1 + mm)).frozen? ⟨g,363,none⟩ = false:=Has.free hdD 363
     have hd2 : Dc ((w1.drewN (1 + mm)).setCell ⟨g,363,none⟩ (.int .i64 0)) g { f with tail:=tailZ sm 0 wb2 0 }:=by
      have h1:=Dc.set_tail hdD 6 (.int .i64 ((0 : Nat) : Int))
      rw [show ({ f with tail:=tailZ sm 0 wb2 2 } : DF).tail = tailZ sm 0 wb2 2 from rfl,tailZ_set_n _ _ _ _ _ HG.out.2] at h1
      exact h1
     have o2 : Only [g] w ((w1.drewN (1 + mm)).setCell ⟨g,363,none⟩ (.int .i64 0)):=(H1.out.2.1.drewN _).setCell (by simp) _
     have H2:=hide (aI hd2 o2)
     clear hdD hd2 o2
     go_wp2_with fail
     refine (newAdler_any _).mono ?_
     rintro e w3 ⟨ga,rfl,hga,hadl,ho3⟩
     have hd3 : Dc w3 g { f with tail:=tailZ sm 0 wb2 0 }:=Has.only H2.out.1 ho3 (by simp)
     have c357 : w3.cell? ⟨g,357,none⟩ = some sm:=hd3.tail 0
     have f357 : w3.frozen? ⟨g,357,none⟩ = false:=Has.free hd3 357
     have hd4 : Dc (w3.setCell ⟨g,357,none⟩ (.iface 99 (.pointer (some ⟨ga,0,none⟩)))) g { f with tail:=tailZ (.iface 99 (.pointer (some ⟨ga,0,none⟩))) 0 wb2 0 }:=Dc.set_tail hd3 0 _
     have c358 : (w3.setCell ⟨g,357,none⟩ (.iface 99 (.pointer (some ⟨ga,0,none⟩)))).cell? ⟨g,358,none⟩ = some (.int .i64 0):=hd4.tail 1
     have f358 : (w3.setCell ⟨g,357,none⟩ (.iface 99 (.pointer (some ⟨ga,0,none⟩)))).frozen? ⟨g,358,none⟩ = false:=Has.free hd4 358
     have H3:=hide (aI hd4 (aI ho3 (aI hadl hga)))
     clear hd3 hd4 ho3 hadl hga
     go_wp2_with fail
     go_ret2
     have hd5 : Dc ((w3.setCell ⟨g,357,none⟩ (.iface 99 (.pointer (some ⟨ga,0,none⟩)))).setCell ⟨g,358,none⟩ (.int .i64 1)) g { f with tail:=tailZ (.iface 99 (.pointer (some ⟨ga,0,none⟩))) 1 wb2 0 }:=Dc.set_tail H3.out.1 1 _
     have o5 : Only [g] w3 ((w3.setCell ⟨g,357,none⟩ (.iface 99 (.pointer (some ⟨ga,0,none⟩)))).setCell ⟨g,358,none⟩ (.int .i64 1)):=((Only.refl [g] w3).setCell (by simp) _).setCell (by simp) _
     have hsz:=H2.out.2.size
     have hgl:=HI.out.2.2
     have hga2 : w.heap.size <= ga:=Nat.le_trans hsz H3.out.2.2.2
     have oAll : Only [g] w1 ((w3.setCell ⟨g,357,none⟩ (.iface 99 (.pointer (some ⟨ga,0,none⟩)))).setCell ⟨g,358,none⟩ (.int .i64 1)):=((((Only.refl [g] w1).drewN (1 + mm)).setCell (by simp) _).trans H3.out.2.1 (by simp)).trans o5 (by simp)
     have hH : Holds ((w3.setCell ⟨g,357,none⟩ (.iface 99 (.pointer (some ⟨ga,0,none⟩)))).setCell ⟨g,358,none⟩ (.int .i64 1)) 1 A' (m - c) (bvals (b.drop c)):=H1.out.2.2.1.keepPos oAll (fun h0 ad' ha _ hm=>by
      obtain ⟨ad,h1,h2⟩:=H1.out.2.2.2.2.1 ad' ha
      exact HI.out.2.1 (by omega) ad h1 (by rw [<- h2]; simpa using hm))
     exact ⟨(H2.out.2.trans H3.out.2.1 (by simp)).trans o5 (by simp),.inr ⟨H1.out.2.2.2.2.2.2.symm,A',c',rfl,hH,by have:=H1.out.2.2.2.1; omega,H1.out.2.2.2.2.1,H1.out.2.2.2.2.2.1,by first | exact .inr ⟨rfl,ga,hga2,H3.out.2.2.1.only o5 (by simp; omega),hd5⟩ | exact ⟨ga,hga2,H3.out.2.2.1.only o5 (by simp; omega),hd5⟩⟩⟩
   ·have hn2 : ¬ (n : Int) = 2:=by omega
    go_wp2_with fail
    go_region_with (go_at_call 146; refine (HM.out).mono ?_; rintro e w2 ⟨rfl,mm,rfl⟩)
    all_goals
     go_wp2_with fail
     go_ret2
     exact ⟨H1.out.2.1.drewN _,.inr ⟨H1.out.2.2.2.2.2.2.symm,A',c',rfl,H1.out.2.2.1.keep ((Only.refl [] w1).drewN _) (by simp),H1.out.2.2.2.1,H1.out.2.2.2.2.1,H1.out.2.2.2.2.2.1,.inl ⟨by omega,Has.only H1.out.1 ((Only.refl [] w1).drewN _) (by simp)⟩⟩⟩
def bigN (s : Nat) : List UInt8:=[UInt8.ofNat (s / 16777216),UInt8.ofNat (s / 65536),UInt8.ofNat (s / 256),UInt8.ofNat s]
theorem u8of_int (z : Nat) : ((UInt8.ofNat z).toNat : Int) = (z : Int) % 256:=by
 rw [UInt8.toNat_ofNat']
 omega
set_option maxRecDepth 100000 in
set_option maxHeartbeats 4000000 in
theorem big_any (s : Nat) (hs : s < 4294967296) (w : World) : Calls Tryz.prog 46 #[.int .u32 (s : Int)] w fun e w'=>e = .returned (.agg (bvals (bigN s)).toArray) /\ Only [] w w':=by
 obtain ⟨a,ha⟩ : ∃ a,a = s / 16777216:=⟨_,rfl⟩
 obtain ⟨b,hb⟩ : ∃ b,b = s / 65536:=⟨_,rfl⟩
 obtain ⟨c,hc⟩ : ∃ c,c = s / 256:=⟨_,rfl⟩
 have e1 : (s : Int) / 16777216 = (a : Int):=by omega
 have e2 : (s : Int) / 65536 = (b : Int):=by omega
 have e3 : (s : Int) / 256 = (c : Int):=by omega
 have HH:=hide (aI ha (aI hb hc))
 clear ha hb hc
 go_enter Tryz.func46,Tryz.ntmps46
 go_wp2_with fail
 have hr : Has (w.alloc (.cells #[.int .u8 (a : Int),.int .u8 ((b : Int) % 256),.int .u8 ((c : Int) % 256),.int .u8 ((s : Int) % 256)] 70)) w.heap.size 70 #[.int .u8 (a : Int),.int .u8 ((b : Int) % 256),.int .u8 ((c : Int) % 256),.int .u8 ((s : Int) % 256)]:=Has.new w _ _
 have hv : (bvals (bigN s)).toArray = #[.int .u8 (a : Int),.int .u8 ((b : Int) % 256),.int .u8 ((c : Int) % 256),.int .u8 ((s : Int) % 256)]:=by
  unfold bigN bvals
  simp only [List.map_cons,List.map_nil,u8of_int]
  have ha : (a : Int) % 256 = (a : Int):=by have:=HH.out.1; omega
  rw [<- HH.out.1,<- HH.out.2.1,<- HH.out.2.2,ha]
 rw [hv]
 exact bodyPost_ret (results_cell_row Tryz.results46 _ _ w.heap.size 70 _ (0,0) _ rfl hr Tryz.underlying70 rfl (by kernel_rfl)) rfl ⟨rfl,(Only.refl [] w).alloc _⟩
set_option maxRecDepth 100000 in
set_option maxHeartbeats 8000000 in
theorem readSum_few (g ga : Nat) (f : DF) (k m cb : Nat) (wb b : List UInt8) (A : Option Addr) (l : List UInt8) (w : World) (hd : Dc w g f) (ht : f.tail = tailZ (.iface 99 (.pointer (some ⟨ga,0,none⟩))) 2 wb k) (hw : wb.length = 4) (hk : k < 4) (ha : Adl w ga l)
 (hb : Holds w 1 A m (bvals b)) (hbl : b.length = m) (hcb : m <= cb) (hA : 0 < m -> ∀ ad,A = some ad -> ad.block ≠ g) (hA0 : A = none -> cb = 0) (hm : m <= 1000000000) (c : Nat) (hc : c = min m (4 - k)) (wb2 : List UInt8) (hwb : wb2 = waitZ wb b k c) (h4 : k + c < 4) :
 Calls Tryz.prog 128 #[.pointer (some ⟨g,0,none⟩),.slice A m cb] w fun e w'=>Only [g] w w' /\ Adl w' ga l /\
  e = .returned (.int .i64 0) /\ Dc w' g { f with tail:=tailZ (.iface 99 (.pointer (some ⟨ga,0,none⟩))) 2 wb2 (k + c) }:=by
 have hG:=gather_all g f _ 2 k 4 m cb wb b A w hd ht hw hk (by decide) hb hbl hcb hA hA0 hm c hc
 rw [<- hwb] at hG
 have hwl : wb2.length = 4:=by rw [hwb]; exact waitZ_length hw (by omega) (by omega)
 have hgaN : ga ≠ g:=by
  obtain ⟨x,_,_,hA⟩:=ha
  exact fun e=>Has.ne hd hA (f.ne_ty (by decide) (by decide)) e.symm
 have HG:=hide (aI hG (aI hwl (aI ha hgaN)))
 obtain ⟨n,hn⟩ : ∃ n,n = k + c:=⟨_,rfl⟩
 rw [<- hn] at HG h4 ⊢
 clear hG hwl hd ht hw hb hbl hcb hA hA0 hm hc hwb hn hk ha hgaN
 go_enter Tryz.func128,Tryz.ntmps128
 go_wp2_with fail
 refine (HG.out.1).mono ?_
 rintro e w1 ⟨A',c',rfl,hd1,ho1,_,_,_,_⟩
 have c363 : w1.cell? ⟨g,363,none⟩ = some (.int .i64 (n : Int)):=(hd1.tail 6).trans (tailZ_n _ 2 wb2 n HG.out.2.1)
 have ha1 : Adl w1 ga l:=HG.out.2.2.1.only ho1 (by simpa using HG.out.2.2.2)
 have H1:=hide (aI hd1 (aI ho1 ha1))
 clear hd1 ho1 ha1
 have hli : (n : Int) < 4:=by omega
 go_wp2_with fail
 go_ret
 all_goals first | exact ⟨H1.out.2.1,H1.out.2.2,rfl,H1.out.1⟩ | (exfalso; omega)
theorem neq_four (xs ys : List UInt8) (hx : xs.length = 4) (hy : ys.length = 4) (w : World) : (binOp .neq 70 (.agg (bvals xs).toArray) (.agg (bvals ys).toArray)).run Tryz.prog w = .ok (.bool (!decide (xs = ys))) w:=by
 rw [run_neq_struct,run_equalIn_ints w 9998 70 5 4 .u8 .u8 (bvals xs).toArray (bvals ys).toArray (fun i=>(wz xs i : Int)) (fun i=>(wz ys i : Int)) Tryz.underlying70 Tryz.underlying5 (by kernel_rfl) (by kernel_rfl)
  (fun i hi=>by rw [List.getElem?_toArray,bvals_get _ _ (by omega)]; unfold wz; rw [List.getD_eq_getElem?_getD,List.getElem?_eq_getElem (by omega)]; rfl)
  (fun i hi=>by rw [List.getElem?_toArray,bvals_get _ _ (by omega)]; unfold wz; rw [List.getD_eq_getElem?_getD,List.getElem?_eq_getElem (by omega)]; rfl)]
 simp only [Result.andThen_ok]
 congr 3
 rw [Bool.eq_iff_iff,decide_eq_true_iff]
 unfold allEq
 simp only [List.all_eq_true,List.mem_range',beq_iff_eq]
 constructor
 ·intro h
  apply List.ext_getElem (by omega)
  intro i h1 h2
  have:=h i ⟨i,by omega,by omega⟩
  unfold wz at this
  rw [List.getD_eq_getElem?_getD,List.getElem?_eq_getElem h1,List.getD_eq_getElem?_getD,List.getElem?_eq_getElem h2] at this
  exact UInt8.toNat_inj.1 (Int.ofNat_inj.1 this)
 ·rintro rfl i _
  rfl
theorem four_agg (xs : List UInt8) (hx : xs.length = 4) : (bvals xs).toArray = #[.int .u8 (wz xs 0 : Int),.int .u8 (wz xs 1 : Int),.int .u8 (wz xs 2 : Int),.int .u8 (wz xs 3 : Int)]:=by
 match xs,hx with
 | [a,b,c,d],_=>rfl
set_option maxRecDepth 100000 in
set_option maxHeartbeats 8000000 in
theorem readSum_all (g ga : Nat) (f : DF) (k m cb : Nat) (wb b : List UInt8) (A : Option Addr) (l : List UInt8) (w : World) (hd : Dc w g f) (ht : f.tail = tailZ (.iface 99 (.pointer (some ⟨ga,0,none⟩))) 2 wb k) (hw : wb.length = 4) (hk : k < 4) (ha : Adl w ga l)
 (hb : Holds w 1 A m (bvals b)) (hbl : b.length = m) (hcb : m <= cb) (hA : 0 < m -> ∀ ad,A = some ad -> ad.block ≠ g) (hA0 : A = none -> cb = 0) (hm : m <= 1000000000) (c : Nat) (hc : c = min m (4 - k)) (wb2 : List UInt8) (hwb : wb2 = waitZ wb b k c) (h4 : k + c = 4) :
 Calls Tryz.prog 128 #[.pointer (some ⟨g,0,none⟩),.slice A m cb] w fun e w'=>Only [g] w w' /\ Adl w' ga l /\
  ((wb2 = bigN (adWord (adOf l)) /\ e = .returned (.int .i64 0) /\ Dc w' g { f with tail:=tailZ (.iface 99 (.pointer (some ⟨ga,0,none⟩))) 3 wb2 4 }) \/
    (wb2 ≠ bigN (adWord (adOf l)) /\ e = .returned (.int .i64 4) /\ Dc w' g { f with tail:=tailZ (.iface 99 (.pointer (some ⟨ga,0,none⟩))) 2 wb2 4 })):=by
 have hG:=gather_all g f _ 2 k 4 m cb wb b A w hd ht hw hk (by decide) hb hbl hcb hA hA0 hm c hc
 rw [<- hwb,h4] at hG
 have hwl : wb2.length = 4:=by rw [hwb]; exact waitZ_length hw (by omega) (by omega)
 have hgaN : ga ≠ g:=by
  obtain ⟨x,_,_,hA⟩:=ha
  exact fun e=>Has.ne hd hA (f.ne_ty (by decide) (by decide)) e.symm
 have HG:=hide (aI hG (aI hwl (aI ha hgaN)))
 clear hG hwl hd ht hw hb hbl hcb hA hA0 hm hc hwb hk ha hgaN h4
 go_enter Tryz.func128,Tryz.ntmps128
 go_wp2_with fail
 refine (HG.out.1).mono ?_
 rintro e w1 ⟨A',c',rfl,hd1,ho1,_,_,_,_⟩
 have ha1 : Adl w1 ga l:=HG.out.2.2.1.only ho1 (by simpa using HG.out.2.2.2)
 have H1:=hide (aI hd1 (aI ho1 ha1))
 clear hd1 ho1 ha1
 have c363' : w1.cell? ⟨g,363,none⟩ = some (.int .i64 4):=(H1.out.1.tail 6).trans (tailZ_n _ 2 wb2 4 HG.out.2.1)
 have c357 : w1.cell? ⟨g,357,none⟩ = some (.iface 99 (.pointer (some ⟨ga,0,none⟩))):=(H1.out.1.tail 0).trans rfl
 have hcell : ∀ i,i < 4 -> w1.cell? ⟨g,359 + i,none⟩ = some (.int .u8 (wz wb2 i : Int)):=fun i hi=>by
  rw [show 359 + i = 357 + (2 + i) by omega]
  exact (H1.out.1.tail (2 + i)).trans (tailZ_w _ 2 wb2 4 i HG.out.2.1 hi)
 have k0 : w1.cell? ⟨g,359,none⟩ = some (.int .u8 (wz wb2 0 : Int)):=hcell 0 (by decide)
 have k1 : w1.cell? ⟨g,360,none⟩ = some (.int .u8 (wz wb2 1 : Int)):=hcell 1 (by decide)
 have k2 : w1.cell? ⟨g,361,none⟩ = some (.int .u8 (wz wb2 2 : Int)):=hcell 2 (by decide)
 have k3 : w1.cell? ⟨g,362,none⟩ = some (.int .u8 (wz wb2 3 : Int)):=hcell 3 (by decide)
 have m2:=adler_sum
 obtain ⟨s,hs⟩ : ∃ s,s = adWord (adOf l):=⟨_,rfl⟩
 have hs32 : s < 4294967296:=by rw [hs]; have:=adOf_lt l; unfold adWord; omega
 have HSum:=hide (adlerSum_any ga l w1.drew (H1.out.2.2.only ((Only.refl [] w1).drew) (by simp)))
 have HBig:=hide (fun w'=>big_any s hs32 w')
 rw [<- hs] at HSum
 have HS:=hide hs
 have hneq:=neq_four wb2 (bigN s) HG.out.2.1 rfl
 rw [four_agg wb2 HG.out.2.1] at hneq
 clear hs hs32 hcell
 have hk : ∀ n w3,Only [] (w1.drewN n) w3 -> (∀ i,i < 4 -> w3.cell? ⟨g,359 + i,none⟩ = some (.int .u8 (wz wb2 i : Int))) /\ Only [] w1 w3:=fun n w3 ho=>by
  have o13 : Only [] w1 w3:=((Only.refl [] w1).drewN n).trans ho (by simp)
  have hd3 : Dc w3 g { f with tail:=tailZ (.iface 99 (.pointer (some ⟨ga,0,none⟩))) 2 wb2 4 }:=Has.only H1.out.1 o13 (by simp)
  refine ⟨fun i hi=>?_,o13⟩
  rw [show 359 + i = 357 + (2 + i) by omega]
  exact (hd3.tail (2 + i)).trans (tailZ_w _ 2 wb2 4 i HG.out.2.1 hi)
 have HK:=hide (fun n w3 (ho : Only [] (w1.drewN n) w3)=>(⟨(hk n w3 ho).1 0 (by decide),(hk n w3 ho).1 1 (by decide),(hk n w3 ho).1 2 (by decide),(hk n w3 ho).1 3 (by decide),(hk n w3 ho).2⟩ : w3.cell? ⟨g,359,none⟩ = some (.int .u8 (wz wb2 0 : Int)) /\ w3.cell? ⟨g,360,none⟩ = some (.int .u8 (wz wb2 1 : Int)) /\ w3.cell? ⟨g,361,none⟩ = some (.int .u8 (wz wb2 2 : Int)) /\ w3.cell? ⟨g,362,none⟩ = some (.int .u8 (wz wb2 3 : Int)) /\ Only [] w1 w3))
 clear hk
 generalize wz wb2 0 = p0 at *
 generalize wz wb2 1 = p1 at *
 generalize wz wb2 2 = p2 at *
 generalize wz wb2 3 = p3 at *
 generalize (bvals (bigN s)).toArray = Y at *
 by_cases heq : wb2 = bigN s
 ·have hdc : (!decide (wb2 = bigN s)) = false:=by simp [heq]
  rw [hdc] at hneq
  have HE:=hide heq
  clear heq hdc
  go_wp2_with fail
  go_region_with (first | (go_at_call 210; refine (HSum.out).mono ?_; rintro e w2 ⟨rfl,mm,rfl⟩) | (go_at_call 46; refine (HBig.out _).mono ?_; rintro e w3 ⟨rfl,ho3⟩; obtain ⟨j0,j1,j2,j3,o13⟩:=HK.out _ w3 ho3; clear ho3))
  all_goals
   have hd3 : Dc w3 g { f with tail:=tailZ (.iface 99 (.pointer (some ⟨ga,0,none⟩))) 2 wb2 4 }:=Has.only H1.out.1 o13 (by simp)
   have k358 : w3.cell? ⟨g,358,none⟩ = some (.int .i64 2):=hd3.tail 1
   have q358 : w3.frozen? ⟨g,358,none⟩ = false:=Has.free hd3 358
   have H3:=hide (aI hd3 o13)
   clear hd3 o13 j0 j1 j2 j3
   go_wp2_with fail
   go_ret
   have oW : Only [g] w3 (w3.setCell ⟨g,358,none⟩ (.int .i64 3)):=(Only.refl [g] _).setCell (by simp) _
   exact ⟨(H1.out.2.1.trans H3.out.2 (by simp)).trans oW (by simp),(H1.out.2.2.only H3.out.2 (by simp)).only oW (by simpa using HG.out.2.2.2),.inl ⟨by rw [<- HS.out]; exact HE.out,rfl,Dc.set_tail H3.out.1 1 _⟩⟩
 ·have hdc : (!decide (wb2 = bigN s)) = true:=by simp [heq]
  rw [hdc] at hneq
  have HE:=hide heq
  clear heq hdc
  go_wp2_with fail
  go_region_with (first | (go_at_call 210; refine (HSum.out).mono ?_; rintro e w2 ⟨rfl,mm,rfl⟩) | (go_at_call 46; refine (HBig.out _).mono ?_; rintro e w3 ⟨rfl,ho3⟩; obtain ⟨j0,j1,j2,j3,o13⟩:=HK.out _ w3 ho3; clear ho3))
  all_goals
   have hd3 : Dc w3 g { f with tail:=tailZ (.iface 99 (.pointer (some ⟨ga,0,none⟩))) 2 wb2 4 }:=Has.only H1.out.1 o13 (by simp)
   have k358 : w3.cell? ⟨g,358,none⟩ = some (.int .i64 2):=hd3.tail 1
   have q358 : w3.frozen? ⟨g,358,none⟩ = false:=Has.free hd3 358
   have H3:=hide (aI hd3 o13)
   clear hd3 o13 j0 j1 j2 j3
   go_wp2_with fail
   go_ret
   exact ⟨H1.out.2.1.trans H3.out.2 (by simp),H1.out.2.2.only H3.out.2 (by simp),.inr ⟨by rw [<- HS.out]; exact HE.out,rfl,H3.out.1⟩⟩
set_option maxRecDepth 100000 in
theorem zdone_any (g : Nat) (f : DF) (sm : Value) (part n : Nat) (wb : List UInt8) (w : World) (h : Dc w g f) (ht : f.tail = tailZ sm part wb n) (b : Bool) (hb : decide (part = 3) = b) :
 Calls Tryz.prog 91 #[.pointer (some ⟨g,0,none⟩)] w fun e w'=>e = .returned (.bool b) /\ w = w':=by
 have c1 : w.cell? ⟨g,358,none⟩ = some (.int .i64 (part : Int)):=by have:=h.tail 1; rw [ht] at this; exact this
 have hb' : ((part : Int) == 3) = b:=by
  rw [<- hb]
  by_cases hp : part = 3
  ·subst hp; rfl
  ·rw [decide_eq_false hp]; simp; omega
 clear h ht hb
 generalize (part : Int) = x at *
 go_enter Tryz.func91,Tryz.ntmps91
 go_wp2_with fail
 go_ret
 exact ⟨rfl,rfl⟩
theorem run_from0 {w : World} {A : Option Addr} {n c : Nat} {l : List UInt8} (h : Holds w 1 A n (bvals l)) (hl : l.length = n) (hn : n <= c) (k : Nat) (hk : k <= n) :
 ∃ A' c',(∀ w',(Instr.slice 22 (.slice A n c) (some (.int .i64 k)) none none).run Tryz.prog w' = .ok (.slice A' (n - k) c') w') /\ Holds w 1 A' (n - k) (bvals (l.drop k)) /\ n - k <= c' /\
   (∀ ad',A' = some ad' -> ∃ ad,A = some ad /\ ad'.block = ad.block) /\ ((A = none -> c = 0) -> A' = none -> c' = 0):=by
 obtain ⟨A',c',h1,h2,h3,h4⟩:=run_from h hl hn k hk
 refine ⟨A',c',h1,h2,h3,h4,fun h0 hA'=>?_⟩
 have e:=run_slice_l (w:=w) 22 A n c bytes_elem .i64 k (by omega) (by omega)
 rw [h1 w,bytes_size] at e
 simp only [Result.andThen_ok,sliced] at e
 injection e with e
 injection e with e1 e2 e3
 rw [hA'] at e1
 cases A with
 | none=>have:=h0 rfl; omega
 | some ad=>split at e1 <;> cases e1
def ReadOf (g n : Nat) (f : DF) (sm v : Value) (wb : List UInt8) (u c : Nat) (e : Ending) (w1 : World) : Prop :=
 e = .returned (.tuple #[v,.int .i64 (u : Int),.int .i64 (c : Int)]) /\ u <= n /\ Dc w1 g f /\ f.tail = tailZ sm 1 wb 0
set_option maxRecDepth 100000 in
set_option maxHeartbeats 8000000 in
theorem readBody_gen (g n cb : Nat) (A : Option Addr) (b : List UInt8) (w : World) (R : Ending -> World -> Prop) (hb : Holds w 1 A n (bvals b)) (hbl : b.length = n) (hcb : n <= cb)
 (hR : Calls Tryz.prog 147 #[.pointer (some ⟨g,0,none⟩),.slice A n cb] w R)
 (hsh : ∀ e w1,R e w1 -> ∃ f sm v wb u c,ReadOf g n f sm v wb u c e w1) :
 Calls Tryz.prog 127 #[.pointer (some ⟨g,0,none⟩),.slice A n cb] w fun e w' =>
  ∃ f sm v wb u c e1 w1 A' c',R e1 w1 /\ ReadOf g n f sm v wb u c e1 w1 /\ e = .returned (.tuple #[v,.slice A' (n - u) c',.int .i64 (c : Int)]) /\ Only [g] w1 w' /\
    Dc w' g (if f.k = 11 then { f with tail:=tailZ sm 2 wb 0 } else f) /\ Holds w 1 A' (n - u) (bvals (b.drop u)) /\ n - u <= c' /\ (∀ ad',A' = some ad' -> ∃ ad,A = some ad /\ ad'.block = ad.block) /\ ((A = none -> cb = 0) -> A' = none -> c' = 0):=by
 have HR:=hide hR
 have HS:=hide hsh
 have HB:=hide (aI hb (aI hbl hcb))
 clear hR hsh hb hbl hcb
 go_enter Tryz.func127,Tryz.ntmps127
 go_wp2_with fail
 refine (HR.out).mono ?_
 intro e w1 hr
 obtain ⟨f,sm,v,wb,u,c,hro⟩:=HS.out e w1 hr
 obtain ⟨rfl,hu,hd,ht⟩:=hro
 obtain ⟨A',c',hsl,hhl,hc',hblk⟩:=run_from0 HB.out.1 HB.out.2.1 HB.out.2.2 u hu
 have hcell : w1.cell? ⟨g,358,none⟩ = some (.int .i64 1):=by have:=hd.tail 1; rw [ht] at this; exact this
 have H1:=hide (aI hr (aI hu (aI hd (aI ht (aI hhl (aI hc' hblk))))))
 by_cases h11 : f.k = 11
 ·have hD:=hide (done_any g f w1 hd true (decide_eq_true (by omega)))
  have hd2 : Dc (w1.setCell ⟨g,358,none⟩ (.int .i64 2)) g { f with tail:=tailZ sm 2 wb 0 }:=by
   have h1:=Dc.set_tail hd 1 (.int .i64 ((2 : Nat) : Int))
   rw [ht] at h1
   exact h1
  have f358 : w1.frozen? ⟨g,358,none⟩ = false:=Has.free hd 358
  have H2:=hide (aI hd2 ((Only.refl [g] w1).setCell (p:=⟨g,358,none⟩) (by simp) (.int .i64 2)))
  clear hr hu hd ht hhl hc' hblk hd2
  go_wp2_with fail
  refine (hD.out).mono ?_
  rintro e w2 ⟨rfl,rfl⟩
  go_wp2_with fail
  go_region
  all_goals
   go_wp2_with fail
   go_ret3
   have h1:=H1.out
   exact ⟨f,sm,v,wb,u,c,_,w1,A',c',h1.1,⟨rfl,h1.2.1,h1.2.2.1,h1.2.2.2.1⟩,rfl,H2.out.2.drewN _,by rw [if_pos h11]; exact Has.only H2.out.1 ((Only.refl [] _).drewN _) (by simp),h1.2.2.2.2.1,h1.2.2.2.2.2.1,h1.2.2.2.2.2.2⟩
 ·have hD:=hide (done_any g f w1 hd false (decide_eq_false (by omega)))
  clear hr hu hd ht hhl hc' hblk
  go_wp2_with fail
  refine (hD.out).mono ?_
  rintro e w2 ⟨rfl,rfl⟩
  go_wp2_with fail
  go_region
  all_goals
   go_wp2_with fail
   go_ret3
   have h1:=H1.out
   exact ⟨f,sm,v,wb,u,c,_,w1,A',c',h1.1,⟨rfl,h1.2.1,h1.2.2.1,h1.2.2.2.1⟩,rfl,(Only.refl [g] w1).drewN _,by rw [if_neg h11]; exact Has.only h1.2.2.1 ((Only.refl [] _).drewN _) (by simp),h1.2.2.2.2.1,h1.2.2.2.2.2.1,h1.2.2.2.2.2.2⟩
def Reach1 (g p : Nat) (b : Value) (w : World) (R0 : Ending -> World -> Prop) (b1 : Value) (w1 : World) : Prop :=
 (p = 1 /\ b1 = b /\ w1 = w) \/ (p = 0 /\ R0 (.returned (.tuple #[b1,.int .i64 0])) w1 /\ w1.cell? ⟨g,358,none⟩ = some (.int .i64 1))
def Reach2 (g p : Nat) (b : Value) (w : World) (R0 : Ending -> World -> Prop) (R1 : Value -> World -> Ending -> World -> Prop) (v b2 : Value) (w2 : World) : Prop :=
 (p = 2 /\ v = .slice none 0 0 /\ b2 = b /\ w2 = w) \/ (∃ b1 w1,Reach1 g p b w R0 b1 w1 /\ R1 b1 w1 (.returned (.tuple #[v,b2,.int .i64 0])) w2 /\ w2.cell? ⟨g,358,none⟩ = some (.int .i64 2))
def ZWrote (g p : Nat) (b : Value) (w : World) (R0 : Ending -> World -> Prop) (R1 : Value -> World -> Ending -> World -> Prop) (R2 : Value -> World -> Ending -> World -> Prop) (e : Ending) (w' : World) : Prop :=
 (p = 0 /\ ∃ (b1 : Value) (c : Nat),R0 (.returned (.tuple #[b1,.int .i64 (c : Int)])) w' /\ c ≠ 0 /\ e = .returned (.tuple #[.slice none 0 0,.int .i64 (c : Int)])) \/
 (p = 0 /\ ∃ b1 : Value,R0 (.returned (.tuple #[b1,.int .i64 0])) w' /\ w'.cell? ⟨g,358,none⟩ = some (.int .i64 0) /\ e = .returned (.tuple #[.slice none 0 0,.int .i64 0])) \/
 (∃ b1 w1,Reach1 g p b w R0 b1 w1 /\ ∃ (v b2 : Value) (c : Nat),R1 b1 w1 (.returned (.tuple #[v,b2,.int .i64 (c : Int)])) w' /\ c ≠ 0 /\ e = .returned (.tuple #[.slice none 0 0,.int .i64 (c : Int)])) \/
 (∃ b1 w1,Reach1 g p b w R0 b1 w1 /\ ∃ v b2 : Value,R1 b1 w1 (.returned (.tuple #[v,b2,.int .i64 0])) w' /\ w'.cell? ⟨g,358,none⟩ = some (.int .i64 1) /\ e = .returned (.tuple #[v,.int .i64 0])) \/
 (∃ v b2 w2,Reach2 g p b w R0 R1 v b2 w2 /\ ∃ c : Nat,R2 b2 w2 (.returned (.int .i64 (c : Int))) w' /\ ((c ≠ 0 /\ e = .returned (.tuple #[.slice none 0 0,.int .i64 (c : Int)])) \/ (c = 0 /\ e = .returned (.tuple #[v,.int .i64 0])))) \/
 (p = 3 /\ w' = w /\ e = .returned (.tuple #[.slice none 0 0,.int .i64 0]))
set_option maxRecDepth 100000 in
set_option maxHeartbeats 8000000 in
theorem zwrite_gen (g p : Nat) (A : Option Addr) (n cb : Nat) (w : World) (hp : w.cell? ⟨g,358,none⟩ = some (.int .i64 (p : Int))) (hp3 : p <= 3)
 (R0 : Ending -> World -> Prop) (R1 : Value -> World -> Ending -> World -> Prop) (R2 : Value -> World -> Ending -> World -> Prop)
 (h0 : p = 0 -> Calls Tryz.prog 126 #[.pointer (some ⟨g,0,none⟩),.slice A n cb] w R0)
 (s0 : ∀ e w1,R0 e w1 -> ∃ (b1 : Value) (c p1 : Nat),e = .returned (.tuple #[b1,.int .i64 (c : Int)]) /\ w1.cell? ⟨g,358,none⟩ = some (.int .i64 (p1 : Int)) /\ (p1 = 0 \/ p1 = 1))
 (h1 : ∀ b1 w1,Reach1 g p (.slice A n cb) w R0 b1 w1 -> Calls Tryz.prog 127 #[.pointer (some ⟨g,0,none⟩),b1] w1 (R1 b1 w1))
 (s1 : ∀ b1 w1 e w2,R1 b1 w1 e w2 -> ∃ (v b2 : Value) (c p2 : Nat),e = .returned (.tuple #[v,b2,.int .i64 (c : Int)]) /\ w2.cell? ⟨g,358,none⟩ = some (.int .i64 (p2 : Int)) /\ (p2 = 1 \/ p2 = 2))
 (h2 : ∀ v b2 w2,Reach2 g p (.slice A n cb) w R0 R1 v b2 w2 -> Calls Tryz.prog 128 #[.pointer (some ⟨g,0,none⟩),b2] w2 (R2 b2 w2))
 (s2 : ∀ b2 w2 e w3,R2 b2 w2 e w3 -> ∃ c : Nat,e = .returned (.int .i64 (c : Int))) :
 Calls Tryz.prog 90 #[.pointer (some ⟨g,0,none⟩),.slice A n cb] w (ZWrote g p (.slice A n cb) w R0 R1 R2):=by
 have HA:=hide (aI h0 (aI s0 (aI h1 (aI s1 (aI h2 s2)))))
 clear h0 s0 h1 s1 h2 s2
 have hpp : p = 0 \/ p = 1 \/ p = 2 \/ p = 3:=by omega
 rcases hpp with rfl | rfl | rfl | rfl
 ·have hp0 : w.cell? ⟨g,358,none⟩ = some (.int .i64 0):=hp
  clear hp
  have HC0:=hide (HA.out.1 rfl)
  go_enter Tryz.func90,Tryz.ntmps90
  go_wp2_with fail
  refine (HC0.out).mono ?_
  intro e w3 hr3
  obtain ⟨b1,c3,p1,rfl,hcell3,hp1⟩:=HA.out.2.1 _ _ hr3
  have H3:=hide hr3
  clear hr3
  by_cases hc3 : c3 = 0
  ·subst hc3
   rcases hp1 with rfl | rfl
   ·have hc30 : w3.cell? ⟨g,358,none⟩ = some (.int .i64 0):=hcell3
    clear hcell3
    go_wp2_with fail
    go_ret2
    exact .inr (.inl ⟨rfl,b1,H3.out,hc30,rfl⟩)
   ·have hc31 : w3.cell? ⟨g,358,none⟩ = some (.int .i64 1):=hcell3
    clear hcell3
    have HR1:=hide (show Reach1 g 0 (.slice A n cb) w R0 b1 w3 from .inr ⟨rfl,H3.out,hc31⟩)
    have HC1:=hide (HA.out.2.2.1 _ _ HR1.out)
    go_wp2_with fail
    refine (HC1.out).mono ?_
    intro e w5 hr5
    obtain ⟨v,b2,c5,p2,rfl,hcell5,hp2⟩:=HA.out.2.2.2.1 _ _ _ _ hr5
    have H5:=hide hr5
    clear hr5
    by_cases hc5 : c5 = 0
    ·subst hc5
     rcases hp2 with rfl | rfl
     ·have hc51 : w5.cell? ⟨g,358,none⟩ = some (.int .i64 1):=hcell5
      clear hcell5
      go_wp2_with fail
      go_ret2
      exact .inr (.inr (.inr (.inl ⟨_,_,HR1.out,v,b2,H5.out,hc51,rfl⟩)))
     ·have hc52 : w5.cell? ⟨g,358,none⟩ = some (.int .i64 2):=hcell5
      clear hcell5
      have HR2:=hide (show Reach2 g _ (.slice A n cb) w R0 R1 v b2 w5 from .inr ⟨_,_,HR1.out,H5.out,hc52⟩)
      have HC2:=hide (HA.out.2.2.2.2.1 _ _ _ HR2.out)
      go_wp2_with fail
      refine (HC2.out).mono ?_
      intro e w9 hr9
      obtain ⟨c9,rfl⟩:=HA.out.2.2.2.2.2 _ _ _ _ hr9
      have H9:=hide hr9
      clear hr9
      by_cases hc9 : c9 = 0
      ·subst hc9
       go_wp2_with fail
       go_ret2
       exact .inr (.inr (.inr (.inr (.inl ⟨_,_,_,HR2.out,0,H9.out,.inr ⟨rfl,rfl⟩⟩))))
      ·have hcz : ¬ (c9 : Int) = 0:=by omega
       go_wp2_with fail
       go_ret2
       exact .inr (.inr (.inr (.inr (.inl ⟨_,_,_,HR2.out,c9,H9.out,.inl ⟨hc9,rfl⟩⟩))))
    ·have hcz : ¬ (c5 : Int) = 0:=by omega
     clear hcell5
     go_wp2_with fail
     go_ret2
     exact .inr (.inr (.inl ⟨_,_,HR1.out,v,b2,c5,H5.out,hc5,rfl⟩))
  ·have hcz : ¬ (c3 : Int) = 0:=by omega
   clear hcell3
   go_wp2_with fail
   go_ret2
   exact .inl ⟨rfl,b1,c3,H3.out,hc3,rfl⟩
 ·have hp1 : w.cell? ⟨g,358,none⟩ = some (.int .i64 1):=hp
  clear hp
  go_enter Tryz.func90,Tryz.ntmps90
  have HR1:=hide (show Reach1 g 1 (.slice A n cb) w R0 (.slice A n cb) w from .inl ⟨rfl,rfl,rfl⟩)
  have HC1:=hide (HA.out.2.2.1 _ _ HR1.out)
  go_wp2_with fail
  refine (HC1.out).mono ?_
  intro e w5 hr5
  obtain ⟨v,b2,c5,p2,rfl,hcell5,hp2⟩:=HA.out.2.2.2.1 _ _ _ _ hr5
  have H5:=hide hr5
  clear hr5
  by_cases hc5 : c5 = 0
  ·subst hc5
   rcases hp2 with rfl | rfl
   ·have hc51 : w5.cell? ⟨g,358,none⟩ = some (.int .i64 1):=hcell5
    clear hcell5
    go_wp2_with fail
    go_ret2
    exact .inr (.inr (.inr (.inl ⟨_,_,HR1.out,v,b2,H5.out,hc51,rfl⟩)))
   ·have hc52 : w5.cell? ⟨g,358,none⟩ = some (.int .i64 2):=hcell5
    clear hcell5
    have HR2:=hide (show Reach2 g _ (.slice A n cb) w R0 R1 v b2 w5 from .inr ⟨_,_,HR1.out,H5.out,hc52⟩)
    have HC2:=hide (HA.out.2.2.2.2.1 _ _ _ HR2.out)
    go_wp2_with fail
    refine (HC2.out).mono ?_
    intro e w9 hr9
    obtain ⟨c9,rfl⟩:=HA.out.2.2.2.2.2 _ _ _ _ hr9
    have H9:=hide hr9
    clear hr9
    by_cases hc9 : c9 = 0
    ·subst hc9
     go_wp2_with fail
     go_ret2
     exact .inr (.inr (.inr (.inr (.inl ⟨_,_,_,HR2.out,0,H9.out,.inr ⟨rfl,rfl⟩⟩))))
    ·have hcz : ¬ (c9 : Int) = 0:=by omega
     go_wp2_with fail
     go_ret2
     exact .inr (.inr (.inr (.inr (.inl ⟨_,_,_,HR2.out,c9,H9.out,.inl ⟨hc9,rfl⟩⟩))))
  ·have hcz : ¬ (c5 : Int) = 0:=by omega
   clear hcell5
   go_wp2_with fail
   go_ret2
   exact .inr (.inr (.inl ⟨_,_,HR1.out,v,b2,c5,H5.out,hc5,rfl⟩))
 ·have hp2 : w.cell? ⟨g,358,none⟩ = some (.int .i64 2):=hp
  clear hp
  go_enter Tryz.func90,Tryz.ntmps90
  have HR2:=hide (show Reach2 g 2 (.slice A n cb) w R0 R1 (.slice none 0 0) (.slice A n cb) w from .inl ⟨rfl,rfl,rfl,rfl⟩)
  have HC2:=hide (HA.out.2.2.2.2.1 _ _ _ HR2.out)
  go_wp2_with fail
  refine (HC2.out).mono ?_
  intro e w9 hr9
  obtain ⟨c9,rfl⟩:=HA.out.2.2.2.2.2 _ _ _ _ hr9
  have H9:=hide hr9
  clear hr9
  by_cases hc9 : c9 = 0
  ·subst hc9
   go_wp2_with fail
   go_ret2
   exact .inr (.inr (.inr (.inr (.inl ⟨_,_,_,HR2.out,0,H9.out,.inr ⟨rfl,rfl⟩⟩))))
  ·have hcz : ¬ (c9 : Int) = 0:=by omega
   go_wp2_with fail
   go_ret2
   exact .inr (.inr (.inr (.inr (.inl ⟨_,_,_,HR2.out,c9,H9.out,.inl ⟨hc9,rfl⟩⟩))))
 ·have hp3' : w.cell? ⟨g,358,none⟩ = some (.int .i64 3):=hp
  clear hp
  go_enter Tryz.func90,Tryz.ntmps90
  go_wp2_with fail
  go_ret2
  exact .inr (.inr (.inr (.inr (.inr ⟨rfl,rfl,rfl⟩))))
end Go.Proofs.YtjfjmkkkbcgohaaGreatDoor
