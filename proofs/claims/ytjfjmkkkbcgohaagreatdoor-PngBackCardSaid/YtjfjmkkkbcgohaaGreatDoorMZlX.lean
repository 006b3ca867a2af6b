import Derived.Test.YtjfjmkkkbcgohaaGreatDoorMPiM
import Derived.Test.YtjfjmkkkbcgohaaGreatDoorCards
import Derived.Test.YtjfjmkkkbcgohaaGreatDoorTie
import Derived.LaidMore
import Derived.Lib.LaidTab
import Derived.Lay
import Derived.SevenTiedAt
import Derived.Stop.Joined
namespace Go.Proofs.YtjfjmkkkbcgohaaGreatDoor
open Go Go.RowKit Go.ChangeShapes Go.WideShapes Go.ChangeAt
def laidI : List (String × DataW Unit):=[("phosphor/inflate.ranks",Rows.laid_phosphor_inflate_ranks),("phosphor/inflate.lengths",Rows.laid_phosphor_inflate_lengths),("phosphor/inflate.distances",Rows.laid_phosphor_inflate_distances)]
def reachD (l : List (Nat × Nat)) : DataW Unit:=.agg (l.map fun x=>.agg [.lit (.int .u16 (x.1 : Int)),.lit (.int .u8 (x.2 : Int))])
def lenL : List (Nat × Nat):=(List.range 29).map fun i=>(lenM (257 + i),lenB (257 + i))
def dstL : List (Nat × Nat):=(List.range 30).map fun i=>(dstM i,dstB i)
theorem ranks_data : (Rows.laid_phosphor_inflate_ranks : DataW Unit) = Lib.tabData .u8 (rankN.map fun (n : Nat)=>(n : Int)):=by rfl
theorem lengths_data : (Rows.laid_phosphor_inflate_lengths : DataW Unit) = reachD lenL:=by rfl
theorem dists_data : (Rows.laid_phosphor_inflate_distances : DataW Unit) = reachD dstL:=by rfl
set_option maxRecDepth 100000 in
theorem cells_of_reach {W : World} {enc : TypeId × Value -> Unit} {base : Nat} {sp : Nat -> Bool} {held : Bool} {fuel n : Nat} {t : TypeId} {cs : List Value} {l : List (Nat × Nat)} {p : List MemPlace}
 (ht : Tryz.prog.underlying t = some (.array n 266)) (hl : l.length = n) (h : DataW.trod enc Tryz.prog W base sp held fuel t cs = some (reachD l,p)) (i : Nat) (hi : i < n) :
 cs[2 * i]? = some (.int .u16 ((l.getD i (0,0)).1 : Int)) /\ cs[2 * i + 1]? = some (.int .u8 ((l.getD i (0,0)).2 : Int)):=by
 obtain ⟨xs,m,_,hx,_,hxl,hat⟩:=DataW.trod_array ht h
 have hc : Tryz.prog.cellsOf 266 = 2:=by kernel_rfl
 have h1:=hat i hi
 rw [hc] at h1
 have hxi : xs[i]? = some xs[i]:=List.getElem?_eq_getElem (by omega)
 rw [hxi] at h1
 have hd : (xs[i]'(by omega)).1 = .agg [.lit (.int .u16 ((l.getD i (0,0)).1 : Int)),.lit (.int .u8 ((l.getD i (0,0)).2 : Int))]:=by
  have hm : xs.map (·.1) = l.map fun x=>(DataW.agg [.lit (.int .u16 (x.1 : Int)),.lit (.int .u8 (x.2 : Int))] : DataW Unit):=by
   have:=congrArg Prod.fst hx
   simp only [reachD] at this
   injection this with h
   exact h.symm
  have hi2:=congrArg (fun z=>z[i]?) hm
  simp only [List.getElem?_map,hxi,List.getElem?_eq_getElem (show i < l.length by omega),Option.map_some,Option.some.injEq] at hi2
  rw [hi2,List.getD_eq_getElem?_getD,List.getElem?_eq_getElem (by omega)]
  rfl
 obtain ⟨y0,y1,k,hy,_,f0,f1⟩:=trod_struct2 Tryz.underlying266 h1
 have c0 : Tryz.prog.cellsOf 202 = 1:=by kernel_rfl
 have c1 : Tryz.prog.cellsOf 5 = 1:=by kernel_rfl
 obtain ⟨a,ha,hya,_⟩:=DataW.trod_int Tryz.underlying202 f0
 obtain ⟨b,hb,hyb,_⟩:=DataW.trod_int Tryz.underlying5 f1
 rw [hy,hya,hyb] at hd
 simp at hd
 obtain ⟨rfl,rfl⟩:=hd
 have ha' : List.take (Tryz.prog.cellsOf 202) (List.drop 0 (List.take 2 (List.drop (i * 2) cs))) = _:=ha
 have hb' : List.take (Tryz.prog.cellsOf 5) (List.drop 1 (List.take 2 (List.drop (i * 2) cs))) = _:=hb
 rw [c0] at ha'
 rw [c1] at hb'
 have ha2:=congrArg (fun z=>z[0]?) ha'
 have hb2:=congrArg (fun z=>z[0]?) hb'
 simp only [List.getElem?_take,List.getElem?_drop,List.getElem?_cons_zero] at ha2 hb2
 simp at ha2 hb2
 rw [Nat.mul_comm i 2] at ha2 hb2
 rw [List.getD_eq_getElem?_getD]
 exact ⟨ha2,hb2⟩
set_option maxRecDepth 100000 in
theorem tab_of_laid {W : World} (h : laidMetH Tryz.prog laidI W) : Tab W:=by
 rw [MakeChecks.laidMetH_plain _ _ _ (by kernel_rfl)] at h
 obtain ⟨ps,⟨g0,t0,cs0,f0,p0,q0,hg0,ht0,hv0,hd0,⟨g1,t1,cs1,f1,p1,q1,hg1,ht1,hv1,hd1,⟨g2,t2,cs2,f2,p2,q2,hg2,ht2,hv2,hd2,_,_⟩,_⟩,_⟩,_,_⟩:=h
 have gR : Tryz.prog.globalNamed "phosphor/inflate.ranks" = some 0:=by kernel_rfl
 have gL : Tryz.prog.globalNamed "phosphor/inflate.lengths" = some 1:=by kernel_rfl
 have gD : Tryz.prog.globalNamed "phosphor/inflate.distances" = some 2:=by kernel_rfl
 obtain rfl:=Option.some.inj (gR.symm.trans hg0)
 obtain rfl:=Option.some.inj (gL.symm.trans hg1)
 obtain rfl:=Option.some.inj (gD.symm.trans hg2)
 obtain rfl:=Option.some.inj ((show (Tryz.prog.globals[0]?).map (·.type) = some 160 by kernel_rfl).symm.trans ht0)
 obtain rfl:=Option.some.inj ((show (Tryz.prog.globals[1]?).map (·.type) = some 267 by kernel_rfl).symm.trans ht1)
 obtain rfl:=Option.some.inj ((show (Tryz.prog.globals[2]?).map (·.type) = some 269 by kernel_rfl).symm.trans ht2)
 rw [ranks_data] at hd0
 rw [lengths_data] at hd1
 rw [dists_data] at hd2
 have e0:=Lib.cells_of_tab Tryz.underlying160 Tryz.underlying5 (by kernel_rfl) (by kernel_rfl) hd0
 have i0 : Lib.TabIs Tryz.prog W "phosphor/inflate.ranks" .u8 (rankN.map fun (n : Nat)=>(n : Int)):=by unfold Lib.TabIs; rw [hv0,<- e0]
 have l1 : lenL.length = 29:=by simp [lenL]
 have l2 : dstL.length = 30:=by simp [dstL]
 refine ⟨fun i hi=>?_,fun i hi=>?_,fun i hi=>?_⟩
 ·have h:=i0.cell gR i (by simpa [rankN] using hi)
  rw [h]
  congr 2
  simp only [List.getD_eq_getElem?_getD,List.getElem?_map]
  cases rankN[i]? <;> rfl
 ·obtain ⟨q1,q2⟩:=cells_of_reach Tryz.underlying267 l1 hd1 i hi
  have e : lenL.getD i (0,0) = (lenM (257 + i),lenB (257 + i)):=by simp [lenL,List.getD_eq_getElem?_getD,hi]
  rw [e] at q1 q2
  rw [Array.getElem?_toList] at q1 q2
  exact ⟨(World.var?_cell gL hv1 _).trans q1,(World.var?_cell gL hv1 _).trans q2⟩
 ·obtain ⟨q1,q2⟩:=cells_of_reach Tryz.underlying269 l2 hd2 i hi
  have e : dstL.getD i (0,0) = (dstM i,dstB i):=by simp [dstL,List.getD_eq_getElem?_getD,hi]
  rw [e] at q1 q2
  rw [Array.getElem?_toList] at q1 q2
  exact ⟨(World.var?_cell gD hv2 _).trans q1,(World.var?_cell gD hv2 _).trans q2⟩
theorem door_met (os : Os) (args : Array Value) : laidMetH Tryz.prog laidI ((World.doorLaid Tryz.prog 400 os).forCall (fun _ _=>0) ⟨#[],args,[]⟩).memory :=
 laidMetH_of_parts3 (fuel:=8) (laidMet_of_run' 8 (by kernel_rfl) (by kernel_rfl)) (by kernel_rfl) (by kernel_rfl)
end Go.Proofs.YtjfjmkkkbcgohaaGreatDoor
