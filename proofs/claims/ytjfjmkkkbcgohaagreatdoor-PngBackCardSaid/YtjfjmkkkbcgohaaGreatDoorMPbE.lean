import Derived.Test.YtjfjmkkkbcgohaaGreatDoorMPbL
import Derived.Test.YtjfjmkkkbcgohaaGreatDoorMPhN
namespace Go.Proofs.YtjfjmkkkbcgohaaGreatDoor
open Go Go.RowKit
set_option maxRecDepth 100000 in
set_option maxHeartbeats 16000000 in
theorem rEnc_any (W H : Nat) (A : Option Addr) (n c : Nat) (M : List UInt8) (lace : Bool) (kind : Int) (w : World) (hW : 1 <= W /\ W <= 64) (hH : 1 <= H /\ H <= 64)
 (hb : Holds w 1 A n (bvals M)) (hM : M.length = n) (hn : n = 4 * (W * H)) :
 Calls Tryz.prog 8 #[mval W H A n c,.bool lace,.int .i64 kind] w fun e w'=>∃ v,e = .returned v /\ w'.ownsRow w.heap.size 5 1 v (encB (kindQ kind) M W H lace.toNat).length (bvals (encB (kindQ kind) M W H lace.toNat)) /\ Only [] w w':=by
 have HB:=hide (aI hb (aI hM (aI hn (aI hW hH))))
 clear hb hM hn
 show Calls Tryz.prog 8 #[.agg #[.int .i64 (W : Int),.int .i64 (H : Int),.slice A n c],.bool lace,.int .i64 kind] w _
 obtain ⟨q,hq⟩ : ∃ q,q = kindQ kind:=⟨_,rfl⟩
 have hq4:=kindQ_le kind
 obtain ⟨l,hl⟩ : ∃ l,l = lace.toNat:=⟨_,rfl⟩
 rw [<- hq] at hq4 ⊢
 rw [<- hl]
 go_enter Tryz.func8,Tryz.ntmps8
 go_upto_region 1 with fail
 obtain ⟨bd,hbd⟩ : ∃ bd,bd = decide (kind < 0 \/ 4 < kind):=⟨_,rfl⟩
 go_cut [27] (fun t wx=>t = .bool bd /\ wx = w.alloc (.cells #[.int .i64 (W : Int),.int .i64 (H : Int),.slice A n c] 32))
 case first =>
  clear hq
  by_cases h0 : 0 <= kind
  ·by_cases h4 : kind <= 4
   ·obtain rfl : bd = false:=by rw [hbd]; exact decide_eq_false (by omega)
    clear hbd
    go_wp2_with fail
    go_meet
    exact ⟨by rw [decide_eq_false (show ¬ kind < 0 by omega),decide_eq_false (show ¬ 4 < kind by omega)]; rfl,rfl⟩
   ·obtain rfl : bd = true:=by rw [hbd]; exact decide_eq_true (by omega)
    clear hbd
    go_wp2_with fail
    go_meet
    exact ⟨rfl,rfl⟩
  ·obtain rfl : bd = true:=by rw [hbd]; exact decide_eq_true (by omega)
   clear hbd
   go_wp2_with fail
   go_meet
   exact ⟨rfl,rfl⟩
 case rest =>
 obtain ⟨rfl,rfl⟩:=hcut
 have hkq : bd = false /\ kind = (q : Int) \/ bd = true /\ q = 0:=by
  rw [hbd,hq]
  unfold kindQ
  by_cases h : 0 <= kind /\ kind <= 4
  ·rw [if_pos h]; exact .inl ⟨decide_eq_false (by omega),by omega⟩
  ·rw [if_neg h]; exact .inr ⟨decide_eq_true (by omega),rfl⟩
 have HQ:=hide (aI hq hbd)
 clear hq hbd
 go_upto_if 27 with fail
 go_cut [2] (fun k wx=>k = .int .i64 (q : Int) /\ wx = w.alloc (.cells #[.int .i64 (W : Int),.int .i64 (H : Int),.slice A n c] 32))
 case first =>
  clear HQ
  rcases hkq with ⟨rfl,rfl⟩ | ⟨rfl,rfl⟩
  ·go_wp2_with fail
   go_meet
   exact ⟨rfl,rfl⟩
  ·go_wp2_with fail
   go_meet
   exact ⟨rfl,rfl⟩
 case rest =>
 obtain ⟨rfl,rfl⟩:=hcut
 clear hkq
 go_upto_region 4 with fail
 go_upto_if 35 with fail
 go_cut [36] (fun t wx=>EnS w W H l A n c M wx)
 case first =>
  have h1:=(Has.new w 32 #[.int .i64 (W : Int),.int .i64 (H : Int),.slice A n c]).alloc (.cells #[.int .i64 (W : Int),.int .i64 (H : Int),.int .i64 8,.int .i64 6,.int .i64 (l : Int),.slice none 0 0,.bool false,.slice none 0 0,.bool false,.slice none 0 0,.bool false,.bool false] 64)
  have h2:=Has.new' (w.alloc (.cells #[.int .i64 (W : Int),.int .i64 (H : Int),.slice A n c] 32)) 64 #[.int .i64 (W : Int),.int .i64 (H : Int),.int .i64 8,.int .i64 6,.int .i64 (l : Int),.slice none 0 0,.bool false,.slice none 0 0,.bool false,.slice none 0 0,.bool false,.bool false] (w.heap.size + 1) (by simp)
  have h3 : Only [] w _:=((Only.refl [] w).alloc (.cells #[.int .i64 (W : Int),.int .i64 (H : Int),.slice A n c] 32)).alloc (.cells #[.int .i64 (W : Int),.int .i64 (H : Int),.int .i64 8,.int .i64 6,.int .i64 (l : Int),.slice none 0 0,.bool false,.slice none 0 0,.bool false,.slice none 0 0,.bool false,.bool false] 64)
  have HH:=hide (aI h1 (aI h2 h3))
  clear h1 h2 h3 HQ
  cases lace with
  | false =>
    obtain rfl : l = 0:=hl
    go_upto_region 6 with fail
    go_meet
    exact ⟨HH.out.1,HH.out.2.1,HH.out.2.2⟩
  | true =>
    obtain rfl : l = 1:=hl
    go_upto_region 6 with fail
    go_meet
    exact ⟨HH.out.1,HH.out.2.1,HH.out.2.2⟩
 case rest =>
 have hl1 : l = 0 \/ l = 1:=by cases lace <;> simp at hl <;> omega
 clear hl
 have HP:=hide (fPasses_any (w.heap.size + 1) _ (l : Int) wc hcut.file rfl)
 obtain ⟨pe1,pe2⟩:=pgPs_eq (l : Int) (by omega)
 rw [pe1,pe2] at HP
 clear pe1 pe2
 go_upto_region 7 with fail
 have HC:=hide hcut
 clear hcut
 go_wp2_with fail
 refine (HP.out).mono ?_
 rintro e w2 ⟨Ap,cp,rfl,hps,ho2⟩
 have hS2:=HC.out.later ho2 (by simp)
 have hpN:=pgN_pos (l : Int)
 have H2:=hide (aI hS2 (aI hps hpN))
 clear hS2 hps ho2 HP HC
 go_upto_region 8 with fail
 obtain ⟨T,hT⟩ : ∃ T : Nat -> List UInt8,T = fun j=>(doL (q : Int) M W (rowsTo W H l j)).1:=⟨_,rfl⟩
 have HT:=hide hT
 generalize hN : pgN (l : Int) = N at *
 go_wp2_with fail
 go_loopw [8,10] (fun v i wr=>∃ (j : Nat) (Ar : Option Addr) (cr : Nat),j <= N /\ v = .slice Ar (T j).length cr /\ i = .int .i64 j /\ wr.ownsRow w2.heap.size 5 1 (.slice Ar (T j).length cr) (T j).length (bvals (T j)) /\ Only [] w2 wr) (fun _ i _=>N - (intOf i).toNat)
 case atStart=>exact ⟨0,none,0,Nat.zero_le _,by rw [hT]; rfl,rfl,by rw [hT]; exact World.ownsRow_nil _ _ _ _,Only.refl [] _⟩
 case round =>
  obtain ⟨j,Ar,cr,hj,rfl,rfl,hown,ho⟩:=hrel
  by_cases hlt : j < N
  ·have hS:=H2.out.1.later ho (by simp)
   obtain ⟨g0,g1,g2,g3⟩:=pgPs_get (l : Int) j (by rw [hN]; exact hlt)
   obtain ⟨b,o,rfl,hcell⟩:=(H2.out.2.1.keep ho (by simp)).addr (by have:=H2.out.2.1.1; omega)
   have p0:=later_cell (hcell _ _ g0)
   have p1:=later_cell (show wr.cell? ⟨b,o + j * 4 + 1,none⟩ = some (.int .i64 (psY (l : Int) j)) from by rw [Nat.add_assoc]; exact hcell _ _ g1)
   have p2:=later_cell (show wr.cell? ⟨b,o + j * 4 + 2,none⟩ = some (.int .i64 (psDX (l : Int) j)) from by rw [Nat.add_assoc]; exact hcell _ _ g2)
   have p3:=later_cell (show wr.cell? ⟨b,o + j * 4 + 3,none⟩ = some (.int .i64 (psDY (l : Int) j)) from by rw [Nat.add_assoc]; exact hcell _ _ g3)
   have l1:=later_cell (show wr.cell? _ = some (.int .i64 (W : Int)) from hS.mat.cell 0)
   have l2:=later_cell (show wr.cell? _ = some (.int .i64 (H : Int)) from hS.mat.cell 1)
   obtain ⟨s0,s1,s2,s3⟩:=ps_small (l : Int) j
   have HSZ:=hide (fun X : World=>refSize_any (psX l j) (psY l j) (psDX l j) (psDY l j) W H X (by omega) (by omega) (by omega) (by omega))
   have hrg:=size_range (psX l j) (psY l j) (psDX l j) (psDY l j) W H
   obtain ⟨U,hU⟩ : ∃ U : Nat,psW W H l j = (U : Int):=Int.eq_ofNat_of_zero_le (by unfold psW; omega)
   obtain ⟨V,hV⟩ : ∃ V : Nat,sizeH (psX l j) (psY l j) (psDX l j) (psDY l j) W H = (V : Int):=Int.eq_ofNat_of_zero_le (by omega)
   have hV2 : psH W H l j = V:=by unfold psH; rw [hV]; rfl
   have hU2 : sizeW (psX l j) (psY l j) (psDX l j) (psDY l j) W H = (U : Int):=hU
   rw [hU2,hV] at HSZ
   have hjN : (j : Int) < (N : Int):=by omega
   have hUV : U <= 16384 /\ V <= 16384:=by omega
   have HJ:=hide (aI hS (aI hown (aI ho (aI hlt (aI hU (aI hV2 hT))))))
   clear hS hown ho hlt hU hV2 hU2 hV hrg s0 s1 s2 s3 g0 g1 g2 g3 hcell hT
   go_upto_region 11 with fail
   refine region_frm 13 150 (fun i=>if i = 8 then some (fsVal (.tuple #[.int .i64 (U : Int),.int .i64 (V : Int)])) else none) (fun _=>none) (by kernel_rfl) (by kernel_rfl) (by kernel_rfl) (by kernel_rfl) (by rfl) (by rfl) (fun i hi=>?_) (fun i S hS=>?_) ?_
   ·have hi : 14 <= i:=hi
    show (if i = 8 then _ else _) = none
    rw [if_neg (by omega)]
   ·repeat' split at hS
    all_goals first | (injection hS with hS; subst hS; exact fun _ _ _ _ _ _ _=>trivial) | cases hS
   simp only [List.take_succ_cons,List.take_zero,List.drop_succ_cons,List.drop_zero]
   refine wpFrm_chunk 8 (by kernel_rfl) (by rfl) ?_
   simp only [List.take_succ_cons,List.take_zero,List.drop_succ_cons,List.drop_zero,List.length_cons,List.length_nil,Nat.zero_add,Nat.reduceAdd]
   iterate 8 (go_big_quiet_step (fail))
   refine wpQuiet_nil ?_
   refine wpFrm_step (fsVal (.tuple #[.int .i64 (U : Int),.int .i64 (V : Int)])) rfl (by rfl) ⟨_,rfl⟩ (fun w' ho hk=>?_) (fun v hv=>?_)
   ·clear hk
    change frmUpon _ _ [] _ _
    go_simp
    refine ⟨rfl,(HSZ.out w').mono ?_⟩
    rintro e y ⟨rfl,hoy⟩
    exact ⟨_,rfl,hoy,rfl,trivial,fun k hk=>absurd hk (by simp [fsVal])⟩
   cases hv
   go_simp
   refine wpFrm_chunk 4 (by kernel_rfl) (by rfl) ?_
   simp only [List.take_succ_cons,List.take_zero,List.drop_succ_cons,List.drop_zero,List.length_cons,List.length_nil,Nat.zero_add,Nat.reduceAdd]
   iterate 4 (go_big_quiet_step (fail))
   refine wpQuiet_nil ?_
   intro w4 ho4 hT
   obtain ⟨hS,hown,ho,hlt,hU,hV2,hT2⟩:=HJ.out
   have o24:=ho.trans ho4 (S:=[]) (by simp)
   have hS4:=hS.later ho4 (by simp)
   have hown4:=own_keep hown ho4 (by simp)
   have hfr:=fun m=>rows_front (W : Int) H l (k:=j) (m:=m) (by rw [hN]; exact hlt)
   obtain ⟨R,hR⟩ : ∃ R : Nat -> List UInt8 × List UInt8,R = fun m=>doL (q : Int) M W (rowsTo W H l j ++ (rowsP W H l j).take m):=⟨_,rfl⟩
   have hR0 : T j = (R 0).1:=by rw [hT2,hR]; simp
   have hR1 : (R V).1 = T (j + 1):=by rw [hT2,hR,<- hV2]; simp only; rw [rowsTo_succ,List.take_of_length_le (by rw [rowsP_length]; omega)]
   rw [hR0] at hown4 ⊢
   have H4:=hide (aI hS4 (aI hown4 (aI o24 (aI hfr (aI hR hR1)))))
   clear hT hS hown ho hlt hU hV2 hT2 o24 hS4 hown4 hfr p0 p1 p2 p3 l1 l2 HSZ ho4 hR hR0 hR1
   go_upto_region 14 with fail
   go_loopw [8,13,14] (fun v al i wr=>∃ (m : Nat) (Ar : Option Addr) (cr : Nat) (Aa : Option Addr) (ca : Nat) (u : List UInt8),m <= V /\ v = .slice Ar (R m).1.length cr /\ al = .slice Aa u.length ca /\ u = (if m = 0 then [] else (R m).2) /\ i = .int .i64 m /\ wr.ownsRow w2.heap.size 5 1 (.slice Ar (R m).1.length cr) (R m).1.length (bvals (R m).1) /\ Holds wr 1 Aa u.length (bvals u) /\ Only [] w2 wr) (fun _ _ i _=>V - (intOf i).toNat)
   case atStart=>exact ⟨0,Ar,cr,none,0,[],Nat.zero_le _,rfl,rfl,rfl,rfl,H4.out.2.1,Holds.empty _ _ _,H4.out.2.2.1⟩
   case round =>
    obtain ⟨m,Ar,cr,Aa,ca,u,hm,rfl,rfl,hu,rfl,hown,hah,ho⟩:=hrel
    by_cases hmV : m < V
    ·obtain ⟨x,hx⟩ : ∃ x,x = rowOf (W : Int) H l j m:=⟨_,rfl⟩
     have hmp : m < psH (W : Int) H l j:=by rw [HJ.out.2.2.2.2.2.1]; exact hmV
     have hpre : (rowsTo (W : Int) H l j ++ (rowsP (W : Int) H l j).take m) ++ [x] <+: rowsL W H l:=by
      have h:=H4.out.2.2.2.1 (m + 1)
      rw [rowsP_take _ _ _ _ _ hmp,<- List.append_assoc,<- hx] at h
      exact h
     have hok : RwOk x W H:=rows_ok W H l x (hpre.subset (by simp))
     have hnn : (M.length : Int) = 4 * ((W : Int) * (H : Int)):=by rw [HB.out.2.1,HB.out.2.2.1]; push_cast; rfl
     obtain ⟨n1,n2⟩:=doL_next q hq4 M W H l (by omega) (by omega) hnn _ _ x rfl hpre
     have hR:=H4.out.2.2.2.2.1
     have hxy : x.y = m:=by rw [hx]; rfl
     have hxw : x.w = (U : Int):=by rw [hx]; exact HJ.out.2.2.2.2.1
     have hxw' : x.w.toNat = U:=by rw [hxw]; rfl
     have hRm : doL (q : Int) M W (rowsTo W H l j ++ (rowsP W H l j).take m) = R m:=by rw [hR]
     have hRs : doL (q : Int) M W ((rowsTo W H l j ++ (rowsP W H l j).take m) ++ [x]) = R (m + 1):=by rw [hR]; simp only; rw [rowsP_take _ _ _ _ _ hmp,<- List.append_assoc,hx]
     rw [hRm,hxy,hxw',<- hu] at n1 n2
     rw [hRs] at n2
     have hpl:=pickL_length hok (by omega) (by omega) hnn
     have hsm:=doL_small (q : Int) M W H l (by omega) (by omega) _ ((List.prefix_append _ _).trans hpre)
     rw [hRm] at hsm
     have hS:=H2.out.1.later ho (by simp)
     have HM:=hide (aI hok (aI n1 (aI n2 (aI hx (aI hu (aI hxw hnn))))))
     have HR:=hide (aI hown (aI hah (aI ho (aI hS (aI hsm hpl)))))
     clear hok n1 n2 hx hu hxw hxw' hnn hown hah ho hS hsm hR hRm hRs hpre hmp hpl hxy
     have hmV' : (m : Int) < (V : Int):=by omega
     rename World=>wo
     go_upto_region 18 with fail
     go_loopw [15,16] (fun v i wr=>∃ (k : Nat) (A6 : Option Addr) (c6 : Nat),k <= U /\ v = .slice A6 (4 * k) c6 /\ i = .int .i64 k /\ wr.ownsRow wo.heap.size 5 1 (.slice A6 (4 * k) c6) (4 * k) (bvals (pickL M x W k)) /\ Only [] wo wr) (fun _ i _=>U - (intOf i).toNat)
     case atStart=>exact ⟨0,none,0,Nat.zero_le _,rfl,rfl,World.ownsRow_nil _ _ _ _,Only.refl [] _⟩
     case round =>
      obtain ⟨k,A6,c6,hk,rfl,rfl,hown6,ho6⟩:=hrel
      by_cases hkU : k < U
      ·have hSk:=HR.out.2.2.2.1.later ho6 (by simp)
       have o2k:=HR.out.2.2.1.trans ho6 (S:=[]) (by simp)
       obtain ⟨g0,g1,g2,g3⟩:=pgPs_get (l : Int) j (by rw [hN]; exact HJ.out.2.2.2.1)
       have hps:=H2.out.2.1.keep o2k (by simp)
       have hcell:=hps.at_ _ rfl
       simp only [add_none] at hcell
       have p0:=later_cell (show wr.cell? ⟨b,o + j * 4,none⟩ = some (.int .i64 (psX (l : Int) j)) from hcell _ _ g0)
       have p1:=later_cell (show wr.cell? ⟨b,o + j * 4 + 1,none⟩ = some (.int .i64 (psY (l : Int) j)) from by rw [Nat.add_assoc]; exact hcell _ _ g1)
       have p2:=later_cell (show wr.cell? ⟨b,o + j * 4 + 2,none⟩ = some (.int .i64 (psDX (l : Int) j)) from by rw [Nat.add_assoc]; exact hcell _ _ g2)
       have p3:=later_cell (show wr.cell? ⟨b,o + j * 4 + 3,none⟩ = some (.int .i64 (psDY (l : Int) j)) from by rw [Nat.add_assoc]; exact hcell _ _ g3)
       have l0:=later_cell (show wr.cell? ⟨w.heap.size,0,none⟩ = some (.int .i64 (W : Int)) from hSk.mat.cell 0)
       have l1:=later_cell (show wr.cell? ⟨w.heap.size,1,none⟩ = some (.int .i64 (H : Int)) from hSk.mat.cell 1)
       have l2:=later_cell (show wr.cell? ⟨w.heap.size,2,none⟩ = some (.slice A n c) from hSk.mat.cell 2)
       obtain ⟨hok,n1,n2,hx,hu,hxw,hnn⟩:=HM.out
       clear n1 n2 hu
       obtain ⟨hin,hpx⟩:=row_spot hok (by omega) (by omega) (by rw [HB.out.2.1,HB.out.2.2.1]) k (by rw [hxw]; omega)
       have hxX : x.X = psX l j:=by rw [hx]; rfl
       have hxY : x.Y = psY l j:=by rw [hx]; rfl
       have hxDX : x.DX = psDX l j:=by rw [hx]; rfl
       have hxDY : x.DY = psDY l j:=by rw [hx]; rfl
       have hxy : x.y = m:=by rw [hx]; rfl
       have b1:=hok.row
       have b2:=hok.col k (by rw [hxw]; omega)
       have b3:=hok.x0
       have b4:=hok.y0
       have b5:=hok.dx
       have b6:=hok.dy
       rw [hxX,hxY,hxDX,hxDY,hxy] at hin hpx
       rw [hxY,hxDY,hxy] at b1
       rw [hxX,hxDX] at b2
       rw [hxX] at b3
       rw [hxY] at b4
       rw [hxDX] at b5
       rw [hxDY] at b6
       have q1 : 0 <= (k : Int) * psDX l j:=Int.mul_nonneg (by omega) (by omega)
       have q2 : 0 <= (m : Int) * psDY l j:=Int.mul_nonneg (by omega) (by omega)
       generalize psX (l : Int) j = X0 at *
       generalize psY (l : Int) j = Y0 at *
       generalize psDX (l : Int) j = DX at *
       generalize psDY (l : Int) j = DY at *
       obtain ⟨mx,hmx⟩ : ∃ a,a = (k : Int) * DX:=⟨_,rfl⟩
       obtain ⟨my,hmy⟩ : ∃ a,a = (m : Int) * DY:=⟨_,rfl⟩
       rw [<- hmx] at b2 hin hpx q1
       rw [<- hmy] at b1 hin hpx q2
       obtain ⟨ax,hax⟩ : ∃ a,a = X0 + mx:=⟨_,rfl⟩
       obtain ⟨ay,hay⟩ : ∃ a,a = Y0 + my:=⟨_,rfl⟩
       rw [<- hax] at b2 hin hpx
       rw [<- hay] at b1 hin hpx
       have v1 : IntKind.i64.wrap ((k : Int) * DX) = mx:=by rw [<- hmx]; exact IntWalk.i64_in _ ⟨by omega,by omega⟩
       have v2 : IntKind.i64.wrap ((m : Int) * DY) = my:=by rw [<- hmy]; exact IntWalk.i64_in _ ⟨by omega,by omega⟩
       have v3 : IntKind.i64.wrap (X0 + mx) = ax:=by rw [<- hax]; exact IntWalk.i64_in _ ⟨by omega,by omega⟩
       have v4 : IntKind.i64.wrap (Y0 + my) = ay:=by rw [<- hay]; exact IntWalk.i64_in _ ⟨by omega,by omega⟩
       have u1 : Go.RowKit.wrap64 ((k : Int) * DX) = mx:=by rw [<- hmx]; exact IntWalk.wrap64_in _ ⟨by omega,by omega⟩
       have u2 : Go.RowKit.wrap64 ((m : Int) * DY) = my:=by rw [<- hmy]; exact IntWalk.wrap64_in _ ⟨by omega,by omega⟩
       have u3 : Go.RowKit.wrap64 (X0 + mx) = ax:=by rw [<- hax]; exact IntWalk.wrap64_in _ ⟨by omega,by omega⟩
       have u4 : Go.RowKit.wrap64 (Y0 + my) = ay:=by rw [<- hay]; exact IntWalk.wrap64_in _ ⟨by omega,by omega⟩
       have hokM : okM W H n:=⟨.inr ⟨hW.1,by omega,hH.1,by omega,by have:=Nat.mul_le_mul hW.2 hH.2; omega⟩,HB.out.2.2.1⟩
       have hAt:=fun (X : World) (hX : Only [] wr X)=>tAt_any W H A n c M ax ay X (HB.out.1.keep (hSk.only.trans hX (S:=[]) (by simp)) (by simp)) HB.out.2.1 hokM
       rw [hin] at hAt
       obtain ⟨px,hpx0⟩ : ∃ px,px = atP W H M ax ay:=⟨_,rfl⟩
       rw [<- hpx0] at hAt hpx
       have HAT:=hide hAt
       have H6:=hide (aI hown6 (aI ho6 hpx))
       have hkU' : (k : Int) < (U : Int):=by omega
       clear hAt hpx0 hpx hokM hin b1 b2 b3 b4 b5 b6 q1 q2 hmx hmy hax hay hown6 ho6 hxX hxY hxDX hxDY hxy hx hxw hnn hok hcell hps g0 g1 g2 g3 o2k hSk
       go_upto_region 20 with fail
       refine region_loose_add 32 150 32 30 (fun i=>if i = 27 then some (isVal (.tuple #[px.val,.bool true])) else if i = 31 then some (isBox wr.heap.size 70 px0.cells) else none) (by kernel_rfl) (by kernel_rfl) (by kernel_rfl) (by kernel_rfl) (by kernel_rfl) (by kernel_rfl) (by kernel_rfl) (by rfl) (by rfl) (fun i hi=>?_) (fun i S hS=>?_) ?_
       ·have hi : 34 <= i:=hi
        show (if i = 27 then _ else _) = none
        iterate 2 rw [if_neg (by omega)]
       ·repeat' split at hS
        all_goals first | (injection hS with hS; subst hS; first | exact isBox_later _ _ _ | exact fun _ _ _ _ _=>trivial) | cases hS
       simp only [addE_s,addE_z,List.take_succ_cons,List.take_zero,List.drop_succ_cons,List.drop_zero]
       refine wpLoose_chunk 27 (by kernel_rfl) (by rfl) ?_
       simp only [List.take_succ_cons,List.take_zero,List.drop_succ_cons,List.drop_zero,List.length_cons,List.length_nil,Nat.zero_add,Nat.reduceAdd]
       iterate 27 (go_big_quiet_step (fail))
       refine wpQuiet_nil ?_
       refine wpLoose_step (isVal (.tuple #[px.val,.bool true])) rfl (by rfl) ⟨_,rfl⟩ (fun w' ho hk=>?_) (fun v hv=>?_)
       ·clear hk
        go_simp
        exact ⟨rfl,(HAT.out w' ho).mono fun e w'' h=>isVal_of h⟩
       obtain rfl:=hv
       go_simp
       refine wpLoose_chunk 3 (by kernel_rfl) (by rfl) ?_
       simp only [List.take_succ_cons,List.take_zero,List.drop_succ_cons,List.drop_zero,List.length_cons,List.length_nil,Nat.zero_add,Nat.reduceAdd]
       iterate 3 (go_big_quiet_step (fail))
       refine wpQuiet_nil ?_
       refine wpLoose_step (isBox wr.heap.size 70 px0.cells) rfl (by rfl) ⟨_,0,rfl⟩ (fun w' ho hk=>?_) (fun v hv=>?_)
       ·clear hk
        go_simp
        exact isBox_new ho.size
       obtain ⟨g17,rfl⟩:=hv
       go_simp
       intro w7 ho7 hT
       have h31:=hT 31 (by omega)
       have h31 : (isBox wr.heap.size 70 px0.cells).1 (.pointer (some ⟨g17,0,none⟩)) /\ (isBox wr.heap.size 70 px0.cells).2 (.pointer (some ⟨g17,0,none⟩)) w7:=h31
       obtain ⟨hB7,h17⟩:=h31.2 g17 rfl
       have H7:=hide (aI hB7 (aI h17 ho7))
       clear hT h31 p0 p1 p2 p3 l0 l1 l2 v1 v2 v3 v4 u1 u2 u3 u4 HAT hB7 h17 ho7
       go_wp2_with (refine list_store_row' rfl 70 (.tmp 17) (.tmp 99) rfl g17 px.cells rfl rfl 70 _ H7.out.2.1 (by kernel_rfl) rfl (px_one px) ?_; intro w8 hT8 hO8)
       refine normalOnly_intro ?_
       have o78 : Only [] wr w8:=H7.out.2.2.trans hO8 (fun i hi hlt=>by have:=H7.out.1; simp at hi; omega)
       have e0 : w8.cell? ⟨g17,0,none⟩ = some (.int .u8 (px.r.toNat : Int)):=hT8.cell 0
       have e1 : w8.cell? ⟨g17,1,none⟩ = some (.int .u8 (px.g.toNat : Int)):=hT8.cell 1
       have e2 : w8.cell? ⟨g17,2,none⟩ = some (.int .u8 (px.b.toNat : Int)):=hT8.cell 2
       have e3 : w8.cell? ⟨g17,3,none⟩ = some (.int .u8 (px.a.toNat : Int)):=hT8.cell 3
       have hown8:=own_keep H6.out.1 o78 (by simp)
       have o08:=H6.out.2.1.trans o78 (S:=[]) (by simp)
       have hl8:=own_keep hown8 ((Only.refl [] w8).alloc (.cells px.cells 5)) (by simp)
       have hb8:=Holds.lit w8 px.cells 5
       rw [<- px_vals px] at hb8
       have o09:=o08.alloc (.cells px.cells 5)
       have hr8 : 4 * k + 4 <= 140737488355328:=by omega
       have HW:=hide (aI hb8 (aI hl8 o09))
       clear hT8 hO8 o78 hown8 o08 hl8 hb8 o09
       go_upto_region 19 with (at_builtin; refine list_more rfl (.tmp 101) (.tmp 110) rfl wo _ (l:=px.bytes) rfl HW.out.1 hr8 HW.out.2.1 HW.out.2.2 rfl rfl ?_; intro A9 c9 w9 hown9 ho9)
       have hpk : pickL M x W k ++ px.bytes = pickL M x W (k + 1):=by rw [pickL_succ,H6.out.2.2]
       have hln : 4 * k + px.bytes.length = 4 * (k + 1):=by show 4 * k + 4 = _; omega
       rw [hpk] at hown9
       rw [hln] at hown9 ⊢
       have H9:=hide (aI hown9 ho9)
       clear hown9 ho9 hpk hln e0 e1 e2 e3
       have hkk : IntKind.i64.wrap ((k : Int) + 1) = (k : Int) + 1:=IntWalk.i64_in _ ⟨by omega,by omega⟩
       have hk1 : k + 1 <= U:=by omega
       go_wp2_with fail
       go_roundw
       case rel=>exact ⟨k + 1,A9,c9,hk1,rfl,by go_num,H9.out.1,H9.out.2⟩
       case measure=>simp [intOf]; omega
      ·obtain rfl : k = U:=by omega
       obtain ⟨hok,n1,n2,hx,hu,hxw,hnn⟩:=HM.out
       obtain ⟨hown,hah,ho,hS,hsm,hpl⟩:=HR.out
       have hrow:=Holds.of_own hown6
       have hah6:=hah.keep ho6 (by simp)
       have hlen : (pickL M x W k).length = 4 * k:=hpl k (by rw [hxw]; exact Int.le_refl _)
       have hk64 : k <= 16384:=by have:=HJ.out; omega
       have HBo:=hide (both_do (q : Int) 4 A6 Aa (4 * k) c6 u.length ca (pickL M x W k) u wr hrow hlen hah6 rfl (by omega))
       rw [n1] at HBo
       have hfl : (flR false (q : Int) 4 (pickL M x W k) u).length = 4 * k:=by
        unfold flR
        rw [if_pos (by rw [hlen]; exact n1),fl_length,hlen]
       obtain ⟨fr,hfr⟩ : ∃ fr,fr = flR false (q : Int) 4 (pickL M x W k) u:=⟨_,rfl⟩
       rw [<- hfr] at n2 HBo hfl
       have e1 : (R (m + 1)).1 = (R m).1 ++ [UInt8.ofNat q] ++ fr:=by rw [n2]; simp
       have e2 : (R (m + 1)).2 = pickL M x W k:=by rw [n2]
       have hl5 : (R (m + 1)).1.length = (R m).1.length + 1 + fr.length:=by rw [e1]; simp; omega
       have kq : IntKind.u8.wrap (q : Int) = (q : Int):=by rw [IntKind.wrap_u8]; omega
       have hr1 : (R m).1.length + 1 <= 140737488355328:=by omega
       have hr2 : (R m).1.length + 1 + fr.length <= 140737488355328:=by omega
       have HWO:=hide ho6.size
       have hO : ∀ w3,Only [] wr w3 -> OutS w2 wo.heap.size w3.heap.size w3 Ar (R m).1.length cr (R m).1:=fun w3 h=>⟨own_keep (own_keep hown ho6 (by simp)) h (by simp),fun b hb=>.inl (hown.lt b hb).2,(ho.trans ho6 (S:=[]) (by simp)).trans h (by simp),Nat.le_refl _⟩
       have hA6 : 0 < 4 * k -> ∀ ad,A6 = some ad -> wo.heap.size <= ad.block /\ ad.block < wr.heap.size:=fun h0 ad ha=>by
        subst ha
        exact ⟨(hown6.lt ad.block rfl).1,hrow.blk h0 ad rfl⟩
       have hq8 : (UInt8.ofNat q).toNat = q:=by rw [UInt8.toNat_ofNat']; omega
       have HO:=hide (aI hO (aI hrow (aI hA6 (aI hlen (aI e1 (aI e2 (aI hl5 hq8)))))))
       clear hok n1 n2 hx hu hxw hnn hown hah ho hS hsm hpl hrow hah6 hlen hO hA6 hown6 ho6 e1 e2 hl5 hfl hfr hq8
       have hkU2 : ¬ ((k : Int) < (k : Int)):=by omega
       go_upto_region 22 with fail
       go_wp2_with fail
       refine (HBo.out).mono ?_
       rintro e w3 ⟨v3,rfl,hown3,ho3⟩
       obtain ⟨A3,c3,rfl,hs1,hs2⟩:=own_shape hown3
       clear hs1 hs2
       obtain ⟨hO,hrow,hA6,hlen,e1,e2,hl5,hq8⟩:=HO.out
       have out3:=(hO w3 ho3).later ((Only.refl [] w3).alloc (.cells #[.int .u8 (q : Int)] 5))
       have hq3 : Holds (w3.alloc (.cells #[.int .u8 (q : Int)] 5)) 1 (some ⟨w3.heap.size,0,none⟩) 1 (bvals [UInt8.ofNat q]):=by
        have h:=Holds.lit w3 #[.int .u8 (q : Int)] 5
        have e : bvals [UInt8.ofNat q] = (#[Value.int .u8 (q : Int)] : Array Value).toList:=by simp [bvals,hq8]
        rw [e]
        exact h
       have hfr3 : Holds (w3.alloc (.cells #[.int .u8 (q : Int)] 5)) 1 A3 fr.length (bvals fr):=(Holds.of_own hown3).keep ((Only.refl [] w3).alloc _) (by simp)
       have hf3 : 0 < fr.length -> ∀ ad,A3 = some ad -> wo.heap.size <= ad.block /\ ad.block < w3.heap.size:=fun h0 ad ha=>by
        subst ha
        exact ⟨Nat.le_trans (HWO.out) (hown3.lt ad.block rfl).1,(Holds.of_own hown3).blk h0 ad rfl⟩
       have hr6 : 0 < 4 * k -> ∀ ad,A6 = some ad -> wo.heap.size <= ad.block /\ ad.block < w3.heap.size:=fun h0 ad ha=>⟨(hA6 h0 ad ha).1,Nat.lt_of_lt_of_le (hA6 h0 ad ha).2 ho3.size⟩
       have hrow3 : Holds (w3.alloc (.cells #[.int .u8 (q : Int)] 5)) 1 A6 (4 * k) (bvals (pickL M x W k)):=(hrow.keep ho3 (by simp)).keep ((Only.refl [] w3).alloc _) (by simp)
       have H3:=hide (aI hrow3 (aI hr6 (aI hlen (aI e1 (aI e2 hl5)))))
       clear hO hrow hA6 hlen e1 e2 hl5 hq8 HO hown3 ho3 hrow3 hr6 HBo
       go_upto_region 24 with (at_builtin; first | (refine list_out rfl (.tmp 119) (.tmp 122) rfl out3 (l:=[UInt8.ofNat q]) hq3 hr1 rfl rfl ?_; intro A4 c4 w4 out4 on4; have hfr4:=out3.spare on4 hfr3 hf3; have hrow4:=out3.spare on4 H3.out.1 H3.out.2.1) | (refine list_out rfl (.tmp 123) (.tmp 124) rfl out4 (l:=fr) hfr4 hr2 rfl rfl ?_; intro A5 c5 w5 out5 on5; have hrow5:=out4.spare on5 hrow4 H3.out.2.1))
       obtain ⟨_,_,hlen,e1,e2,hl5⟩:=H3.out
       have own5:=out5.own
       rw [<- e1,<- hl5] at own5
       rw [<- hl5]
       have hah5 : Holds w5 1 A6 (pickL M x W k).length (bvals (pickL M x W k)):=by rw [hlen]; exact hrow5
       have H5:=hide (aI own5 (aI hah5 (aI out5.only (aI hlen e2))))
       clear own5 hah5 hlen e1 e2 hl5 H3 out3 out4 out5 hq3 hfr3 hf3 on4 hfr4 hrow4 on5 hrow5 HWO
       have hmm : IntKind.i64.wrap ((m : Int) + 1) = (m : Int) + 1:=IntWalk.i64_in _ ⟨by omega,by omega⟩
       go_wp2_with fail
       go_roundw
       case rel=>exact ⟨m + 1,A5,c5,A6,c6,pickL M x W k,by omega,rfl,by rw [H5.out.2.2.2.1],by rw [if_neg (Nat.succ_ne_zero m)]; exact H5.out.2.2.2.2.symm,by go_num,H5.out.1,H5.out.2.1,H5.out.2.2.1⟩
       case measure=>simp [intOf]; omega
    ·obtain rfl : m = V:=by omega
     have e1:=H4.out.2.2.2.2.2
     rw [e1] at hown ⊢
     have H5:=hide (aI hown ho)
     clear hown ho hah hu e1
     have hjj : IntKind.i64.wrap ((j : Int) + 1) = (j : Int) + 1:=IntWalk.i64_in _ ⟨by omega,by omega⟩
     go_wp2_with fail
     go_roundw
     case rel=>exact ⟨j + 1,Ar,cr,HJ.out.2.2.2.1,rfl,by go_num,H5.out.1,H5.out.2⟩
     case measure=>simp [intOf]; omega
  ·obtain rfl : j = N:=by omega
   obtain ⟨raw,hraw⟩ : ∃ raw,raw = T j:=⟨_,rfl⟩
   rw [<- hraw] at hown ⊢
   have hS:=H2.out.1.later ho (by simp)
   have HE:=hide (aI hS (aI hown hraw))
   have l1:=later_cell (show wr.cell? _ = some (.int .i64 (W : Int)) from hS.mat.cell 0)
   have l2:=later_cell (show wr.cell? _ = some (.int .i64 (H : Int)) from hS.mat.cell 1)
   have l3:=later_cell (show wr.cell? _ = some (.int .i64 (l : Int)) from hS.file.cell 4)
   have HF:=hide rFour_any
   have hl2 : (l : Int) % 256 = (l : Int):=by omega
   have hbl : bvals [8,6,0,0,UInt8.ofNat l] = [.int .u8 8,.int .u8 6,.int .u8 0,.int .u8 0,.int .u8 (l : Int)]:=by rcases hl1 with rfl | rfl <;> rfl
   clear hown ho hS hraw hlt hT
   go_upto_region 25 with fail
   refine region_frm 14 150 (fun i=>if i = 2 then some (fsLit wr.heap.size 4 (four4 W)) else if i = 5 then some (fsLit wr.heap.size 4 (four4 H)) else if i = 6 then some (fsOwnB wr.heap.size 8 (four4 W ++ four4 H)) else if i = 8 then some (fsVal (.pointer (some ⟨w.heap.size + 1,0,none⟩))) else if i = 13 then some (fsLit wr.heap.size 5 [8,6,0,0,UInt8.ofNat l]) else none) (fun i=>if i = 6 then some 2 else none) (by kernel_rfl) (by kernel_rfl) (by kernel_rfl) (by kernel_rfl) (by rfl) (by rfl) (fun i hi=>?_) (fun i S hS=>?_) ?_
   ·have hi : 16 <= i:=hi
    show (if i = 2 then _ else _) = none
    iterate 5 rw [if_neg (by omega)]
   ·repeat' split at hS
    all_goals first | (injection hS with hS; subst hS; first | exact fsLit_keep _ _ _ | exact fsOwnB_keep _ _ _ | exact fun _ _ _ _ _ _ _=>trivial) | cases hS
   simp only [List.take_succ_cons,List.take_zero,List.drop_succ_cons,List.drop_zero]
   refine wpFrm_chunk 2 (by kernel_rfl) (by rfl) ?_
   simp only [List.take_succ_cons,List.take_zero,List.drop_succ_cons,List.drop_zero,List.length_cons,List.length_nil,Nat.zero_add,Nat.reduceAdd]
   iterate 2 (go_big_quiet_step (fail))
   refine wpQuiet_nil ?_
   refine wpFrm_step (fsLit wr.heap.size 4 (four4 W)) rfl (by rfl) ⟨_,0,rfl⟩ (fun w' ho hk=>?_) (fun v hv=>?_)
   ·clear hk
    change frmUpon _ _ [] _ _
    go_simp
    refine ⟨rfl,(HF.out W w').mono ?_⟩
    rintro e y ⟨rfl,hy,hoy⟩
    exact ⟨_,rfl,hoy,fsLit_call ho.size hy⟩
   obtain ⟨g2,rfl⟩:=hv
   go_simp
   refine wpFrm_chunk 2 (by kernel_rfl) (by rfl) ?_
   simp only [List.take_succ_cons,List.take_zero,List.drop_succ_cons,List.drop_zero,List.length_cons,List.length_nil,Nat.zero_add,Nat.reduceAdd]
   iterate 2 (go_big_quiet_step (fail))
   refine wpQuiet_nil ?_
   refine wpFrm_step (fsLit wr.heap.size 4 (four4 H)) rfl (by rfl) ⟨_,0,rfl⟩ (fun w' ho hk=>?_) (fun v hv=>?_)
   ·clear hk
    change frmUpon _ _ [] _ _
    go_simp
    refine ⟨rfl,(HF.out H w').mono ?_⟩
    rintro e y ⟨rfl,hy,hoy⟩
    exact ⟨_,rfl,hoy,fsLit_call ho.size hy⟩
   obtain ⟨g5,rfl⟩:=hv
   go_simp
   refine wpFrm_step (fsOwnB wr.heap.size 8 (four4 W ++ four4 H)) rfl (by rfl) ⟨_,none,0,rfl⟩ (fun w' ho hk=>?_) (fun v hv=>?_)
   ·have k0:=hk _ (Array.mem_of_getElem? (i:=0) (by rfl)) (by rfl) (fun j h=>eat_one h)
    have k0 : (fsLit wr.heap.size 4 (four4 W)).pure (.slice (some ⟨g2,0,none⟩) 4 4) /\ (fsLit wr.heap.size 4 (four4 W)).fact (.slice (some ⟨g2,0,none⟩) 4 4) w':=k0
    have k1:=hk _ (Array.mem_of_getElem? (i:=1) (by rfl)) (by rfl) (fun j h=>eat_one h)
    have k1 : (fsLit wr.heap.size 4 (four4 H)).pure (.slice (some ⟨g5,0,none⟩) 4 4) /\ (fsLit wr.heap.size 4 (four4 H)).fact (.slice (some ⟨g5,0,none⟩) 4 4) w':=k1
    obtain ⟨_,hC⟩:=k0.2 g2 rfl
    obtain ⟨_,hR⟩:=k1.2 g5 rfl
    clear k0 k1 hk
    obtain ⟨c6,w6,hrun,hown6,ho6⟩:=append_full w'.heap.size g2 g5 (four4 W) (four4 H) 22 w' hC hR rfl rfl (Nat.le_refl _)
    change frmUpon _ _ [g2] _ _
    exact frm_append (.tmp 129) (.tmp 132) 22 rfl rfl rfl hrun ⟨ho6,fsOwnB_call ho.size hown6⟩
   obtain ⟨A6,c6,rfl⟩:=hv
   go_simp
   refine wpFrm_chunk 1 (by kernel_rfl) (by rfl) ?_
   simp only [List.take_succ_cons,List.take_zero,List.drop_succ_cons,List.drop_zero,List.length_cons,List.length_nil,Nat.zero_add,Nat.reduceAdd]
   iterate 1 (go_big_quiet_step (fail))
   refine wpQuiet_nil ?_
   refine wpFrm_step (fsVal (.pointer (some ⟨w.heap.size + 1,0,none⟩))) rfl (by rfl) ⟨_,rfl⟩ (fun w' ho hk=>?_) (fun v hv=>?_)
   ·clear hk
    change frmUpon _ _ [] _ _
    go_simp
    exact ⟨Only.refl [] _,rfl,trivial,fun k hk=>absurd hk (by simp [fsVal])⟩
   cases hv
   go_simp
   refine wpFrm_chunk 4 (by kernel_rfl) (by rfl) ?_
   simp only [List.take_succ_cons,List.take_zero,List.drop_succ_cons,List.drop_zero,List.length_cons,List.length_nil,Nat.zero_add,Nat.reduceAdd]
   iterate 4 (go_big_quiet_step (fail))
   refine wpQuiet_nil ?_
   refine wpFrm_step (fsLit wr.heap.size 5 [8,6,0,0,UInt8.ofNat l]) rfl (by rfl) ⟨_,0,rfl⟩ (fun w' ho hk=>?_) (fun v hv=>?_)
   ·clear hk
    change frmUpon _ _ [] _ _
    go_simp
    exact ⟨(Only.refl [] w').alloc _,fsLit_call ho.size (by rw [hbl]; exact Has.new w' _ _)⟩
   obtain ⟨g13,rfl⟩:=hv
   go_simp
   intro w4 ho4 hT
   have h6:=hT 6 (by omega) (by omega)
   have h6 : (fsOwnB wr.heap.size 8 (four4 W ++ four4 H)).pure (.slice A6 8 c6) /\ (fsOwnB wr.heap.size 8 (four4 W ++ four4 H)).fact (.slice A6 8 c6) w4:=h6
   have h13:=hT 13 (by omega) (by omega)
   have h13 : (fsLit wr.heap.size 5 [8,6,0,0,UInt8.ofNat l]).pure (.slice (some ⟨g13,0,none⟩) 5 5) /\ (fsLit wr.heap.size 5 [8,6,0,0,UInt8.ofNat l]).fact (.slice (some ⟨g13,0,none⟩) 5 5) w4:=h13
   have hown6:=h6.2 A6 c6 rfl
   have hb13:=lit_holds (h13.2 g13 rfl).2 rfl
   have hr13 : 8 + 5 <= 140737488355328:=by omega
   clear hT h6 h13 l1 l2 l3
   go_upto_region 26 with (at_builtin; refine list_more rfl (.tmp 133) (.tmp 140) rfl wr w4 (l:=[8,6,0,0,UInt8.ofNat l]) rfl hb13 hr13 hown6 ho4 rfl rfl ?_; intro A7 c7 w7 hown7 ho7)
   have hhead : four4 W ++ four4 H ++ [8,6,0,0,UInt8.ofNat l] = headB W H 8 6 l:=by unfold headB; rfl
   rw [hhead] at hown7
   have hrw : raw = rawB (q : Int) M W H l:=by
    have e1:=HE.out.2.2
    rw [HT.out] at e1
    rw [e1,<- hN]
    unfold rawB rowsL
    rfl
   have hnn : (M.length : Int) = 4 * ((W : Int) * (H : Int)):=by rw [HB.out.2.1,HB.out.2.2.1]; push_cast; rfl
   have hlen:=(rawB_size q hq4 M W H (l : Int) (by omega) (by omega) hnn).2
   rw [<- hrw] at hlen
   have hc9 : raw.length <= cr:=by
    obtain ⟨_,_,he9,hc9,_⟩:=own_shape HE.out.2.1
    injection he9 with _ _ he9
    omega
   have hown7 : w7.ownsRow wr.heap.size 5 1 (.slice A7 13 c7) 13 (bvals (headB W H 8 6 l)):=hown7
   have HPK:=hide (packRs Ar raw.length cr raw w7 ((Holds.of_own HE.out.2.1).keep ho7 (by simp)) rfl hc9 (by omega))
   obtain ⟨pk,hpk⟩ : ∃ pk,pk = pkB q M W H l:=⟨_,rfl⟩
   have hpk2 : [0x78,0x01] ++ storeB true raw ++ bigN (adWord (adOf raw)) = pk:=by rw [hpk,hrw]; unfold pkB; rfl
   rw [hpk2] at HPK
   have hpl : pk.length <= 20000:=by rw [hpk,pkB_size,<- hrw]; omega
   have H7:=hide (aI hown7 (aI ho7 hpk))
   clear hown7 ho7 hown6 hb13 ho4 hhead hrw hnn hc9 hpk2 hbl hlen hpk
   go_wp2_with fail -- WALK26
   refine (HPK.out).mono ?_ -- PACK26
   rintro e w8 ⟨v8,rfl,hown8,ho8⟩
   obtain ⟨A8,c8,rfl,_,_⟩:=own_shape hown8
   have o9:=(Only.refl [] w8).alloc (.cells #[.string ⟨#[73,72,68,82]⟩,.slice A7 13 c7,.string ⟨#[73,68,65,84]⟩,.slice A8 pk.length c8,.string ⟨#[73,69,78,68]⟩,.slice none 0 0] 77)
   have hrow:=Has.new w8 77 #[.string ⟨#[73,72,68,82]⟩,.slice A7 13 c7,.string ⟨#[73,68,65,84]⟩,.slice A8 pk.length c8,.string ⟨#[73,69,78,68]⟩,.slice none 0 0]
   have k1:=CvHas.own (k:=[73,72,68,82]) (own_keep (own_keep H7.out.1 ho8 (by simp)) o9 (by simp)) (headB_length _ _ _ _ _)
   have k2:=CvHas.own (k:=[73,68,65,84]) (own_keep hown8 o9 (by simp)) rfl
   have k3 : CvHas (w8.alloc (.cells #[.string ⟨#[73,72,68,82]⟩,.slice A7 13 c7,.string ⟨#[73,68,65,84]⟩,.slice A8 pk.length c8,.string ⟨#[73,69,78,68]⟩,.slice none 0 0] 77)) ⟨⟨[73,69,78,68],[]⟩,none,0⟩:=⟨Holds.empty _ _ _,Nat.le_refl _,fun _=>rfl⟩
   have HLay:=hide (rLay_any (some ⟨w8.heap.size,0,none⟩) 3 3 [⟨⟨[73,72,68,82],headB W H 8 6 l⟩,A7,c7⟩,⟨⟨[73,68,65,84],pk⟩,A8,c8⟩,⟨⟨[73,69,78,68],[]⟩,none,0⟩] _ ⟨rfl,fun _=>⟨_,rfl,hrow.lt,fun j u hu=>by rw [add_zero_of,hrow.cell,List.getElem?_toArray]; exact hu⟩⟩ rfl (fun p hp=>by
    rcases List.mem_cons.1 hp with rfl | hp
    ·exact ⟨k1,rfl⟩
    rcases List.mem_cons.1 hp with rfl | hp
    ·exact ⟨k2,rfl⟩
    ·obtain rfl : p = _:=by simpa using hp
     exact ⟨k3,rfl⟩) (by simp [layN,headB_length]; omega) (by omega))
   have hcs : layB ([⟨⟨[73,72,68,82],headB W H 8 6 l⟩,A7,c7⟩,⟨⟨[73,68,65,84],pk⟩,A8,c8⟩,⟨⟨[73,69,78,68],[]⟩,none,0⟩].map Cv.ck) = encB q M W H l:=by rw [H7.out.2.2]; unfold encB encC; rfl
   rw [hcs] at HLay
   have o10 : Only [] w _:=((HE.out.1.only.trans H7.out.2.1 (S:=[]) (by simp)).trans ho8 (S:=[]) (by simp)).trans o9 (S:=[]) (by simp)
   have H9:=hide o10
   clear o9 hrow k1 k2 k3 hcs o10 hown8 ho8 HPK
   go_wp2_with fail
   refine (HLay.out).mono ?_
   rintro e w10 ⟨A10,c10,rfl,hown10,ho10⟩
   have H10:=hide (aI (own_mono (base':=w.heap.size) hown10 H9.out.size) (H9.out.trans ho10 (S:=[]) (by simp)))
   clear hown10 ho10
   go_wp2_with fail
   go_ret
   exact ⟨_,rfl,H10.out.1,H10.out.2⟩
theorem encK_any (W H : Nat) (kind : Int) (A : Addr) (n c : Nat) (M : List UInt8) (lace : Bool) (w : World) (hW : 1 <= W /\ W <= 64) (hH : 1 <= H /\ H <= 64)
 (hb : Holds w 1 (some A) n (bvals M)) (hM : M.length = n) (hn : n = 4 * (W * H)) (hc : n <= c) :
 Calls Tryz.prog 6 #[mval W H (some A) n c,.bool lace,.int .i64 kind] w fun e w'=>∃ v,e = .returned v /\ w'.ownsRow w.heap.size 5 1 v (encB (kindQ kind) M W H lace.toNat).length (bvals (encB (kindQ kind) M W H lace.toNat)) /\ Only [] w w':=by
 by_cases hk : 0 <= kind /\ kind <= 4
 ·obtain ⟨q,rfl⟩:=Int.eq_ofNat_of_zero_le hk.1
  have e : kindQ (q : Int) = q:=by unfold kindQ; rw [if_pos hk]; exact Int.toNat_natCast q
  rw [e]
  exact encode_any W H q A n c M lace w hW hH (by omega) hb hM hn hc
 ·have e : kindQ kind = 0:=by unfold kindQ; rw [if_neg hk]
  rw [e]
  have hnn : (M.length : Int) = 4 * ((W : Int) * (H : Int)):=by rw [hM,hn]; push_cast; rfl
  have hl : ((lace.toNat : Nat) : Int) = if lace then 1 else 0:=by cases lace <;> rfl
  have hs:=encB_size 0 (by omega) M W H lace.toNat hW hH (by omega)
  have h1:=(rawB_size 0 (by omega) M W H (lace.toNat : Int) (by omega) (by omega) hnn).2
  have hl3 : (lace.toNat : Int).toNat = lace.toNat:=Int.toNat_natCast _
  have e3 : ([⟨[73,72,68,82],headB W H 8 6 lace.toNat⟩,⟨[73,68,65,84],pkB 0 M W H lace.toNat⟩,⟨[73,69,78,68],[]⟩] : List Ck).take 3 = encC W H lace.toNat (pkB 0 M W H lace.toNat):=rfl
  by_cases h0 : kind < 0
  ·refine (enc_neg W H 0 kind h0 rfl A n c M lace (lace.toNat : Int) hl (pkB 0 M W H lace.toNat) w hW hH hb hM hn hc (by omega) (fun A1 n1 c1 w1 a b d=>pkB_pack 0 M W H _ h1 A1 n1 c1 w1 a b d)).mono ?_
   rintro e w' ⟨A',n',c',rfl,L⟩
   rw [hl3] at L
   have ho:=L.own (by omega)
   have hlen:=L.len
   rw [e3] at ho hlen
   subst hlen
   exact ⟨_,rfl,ho,L.only⟩
  ·refine (enc_big W H 0 kind (by omega) rfl A n c M lace (lace.toNat : Int) hl (pkB 0 M W H lace.toNat) w hW hH hb hM hn hc (by omega) (fun A1 n1 c1 w1 a b d=>pkB_pack 0 M W H _ h1 A1 n1 c1 w1 a b d)).mono ?_
   rintro e w' ⟨A',n',c',rfl,L⟩
   rw [hl3] at L
   have ho:=L.own (by omega)
   have hlen:=L.len
   rw [e3] at ho hlen
   subst hlen
   exact ⟨_,rfl,ho,L.only⟩
end Go.Proofs.YtjfjmkkkbcgohaaGreatDoor
