import Derived.Test.YtjfjmkkkbcgohaaGreatDoorMPgR
import Derived.Deep.WholeRow
namespace Go.Proofs.YtjfjmkkkbcgohaaGreatDoor
open Go Go.RowKit
theorem pgArr_elem : Tryz.prog.underlying 70 = some (.array (Tryz.prog.arrayLen 70) (Tryz.prog.elem 70)):=by kernel_rfl
theorem pgArr_len : Tryz.prog.arrayLen 70 = 4:=by kernel_rfl
theorem pgArr_size (w : World) : (sizeOf (Tryz.prog.elem 70)).run Tryz.prog w = .ok 1 w:=by kernel_rfl
theorem run_pgArr (g : Nat) (w : World) : (Instr.sliceAt 70 (.pointer (some ⟨g,0,none⟩)) none none none).run Tryz.prog w = .ok (.slice (some ⟨g,0,none⟩) 4 4) w:=by
 rw [run_sliceAt_array_all w 70 ⟨g,0,none⟩ pgArr_elem,pgArr_size]
 simp [slicedAt,Result.andThen,pgArr_len,Addr.add]
def layC (p : Ck) : List UInt8:=four4 p.d.length ++ kind4 p.k ++ p.d ++ four4 (crcW (kind4 p.k ++ p.d))
def layB (cs : List Ck) : List UInt8:=sigB ++ cs.flatMap layC
def layN (cs : List Ck) : Nat:=(cs.map fun c=>c.d.length + 12).sum
theorem layC_length (p : Ck) : (layC p).length = p.d.length + 12:=by simp [layC,four4,kind4_length]; omega
theorem layB_length (cs : List Ck) : (layB cs).length = 8 + layN cs:=by
 unfold layB layN
 rw [List.length_append]
 congr 1
 induction cs with
 | nil=>rfl
 | cons c cs ih=>rw [List.flatMap_cons,List.length_append,layC_length,ih]; simp
theorem layB_take (cs : List Ck) (j : Nat) (h : j < cs.length) : layB (cs.take (j + 1)) = layB (cs.take j) ++ four4 cs[j].d.length ++ kind4 cs[j].k ++ cs[j].d ++ four4 (crcW (kind4 cs[j].k ++ cs[j].d)):=by
 unfold layB
 rw [List.take_succ_eq_append_getElem h,List.flatMap_append]
 simp [layC]
theorem layN_take (cs : List Ck) (j : Nat) (h : j < cs.length) : layN (cs.take j) + (cs[j].d.length + 12) <= layN cs:=by
 have h1 : layN (cs.take (j + 1)) = layN (cs.take j) + (cs[j].d.length + 12):=by
  unfold layN
  rw [List.take_succ_eq_append_getElem h,List.map_append,List.sum_append]
  simp
 have h2 : layN (cs.take (j + 1)) <= layN cs:=by
  unfold layN
  conv=>rhs; rw [<- List.take_append_drop (j + 1) cs]
  rw [List.map_append,List.sum_append]
  omega
 omega
structure LySt (w : World) (cs : List Ck) (j : Nat) (A : Option Addr) (n c : Nat) (wr : World) : Prop where
 row : GRow wr w.heap.size A n c (layB (cs.take j))
 len : n = (layB (cs.take j)).length
 own : 0 < j -> wr.ownsRow w.heap.size 5 1 (.slice A n c) n (bvals (layB (cs.take j)))
 blk : ∀ k,(Value.slice A n c).ownBlock = some k -> w.heap.size <= k
 only : Only [] w wr
structure LzSt (w : World) (g5 g6 : Nat) (pk pd : List UInt8) (pA : Option Addr) (pc : Nat) (A : Option Addr) (n c : Nat) (l : List UInt8) (x : World) : Prop where
 box : Has x g5 53 #[.string ⟨pk.toArray⟩,.slice pA pd.length pc]
 four : Has x g6 70 (bvals (kind4 pk)).toArray
 own : x.ownsRow w.heap.size 5 1 (.slice A n c) n (bvals l)
 len : n = l.length
 only : Only [] w x
theorem LzSt.next {w x x' : World} {g5 g6 : Nat} {pk pd l l' : List UInt8} {pA A A' : Option Addr} {pc n c n' c' : Nat} (S : LzSt w g5 g6 pk pd pA pc A n c l x)
 (ho : Only (Value.slice A n c).ownBlock.toList x x') (hown : x'.ownsRow w.heap.size 5 1 (.slice A' n' c') n' (bvals l')) (hn : n' = l'.length) : LzSt w g5 g6 pk pd pA pc A' n' c' l' x':=by
 have mem : ∀ g,g ∈ (Value.slice A n c).ownBlock.toList -> (Value.slice A n c).ownBlock = some g:=fun g hg=>by
  cases hv : (Value.slice A n c).ownBlock with
  | none=>rw [hv] at hg; simp at hg
  | some j=>rw [hv] at hg; simp at hg; rw [hg]
 exact ⟨S.box.only ho (fun hm=>own_ne S.own S.box (by decide) (mem _ hm).symm),S.four.only ho (fun hm=>own_ne S.own S.four (by decide) (mem _ hm).symm),hown,hn,S.only.trans ho (fun k hk hlt=>by
  have:=(own_at S.own (mem _ hk)).1
  omega)⟩
theorem LzSt.idle {w x x' : World} {g5 g6 : Nat} {pk pd l : List UInt8} {pA A : Option Addr} {pc n c : Nat} (S : LzSt w g5 g6 pk pd pA pc A n c l x) (ho : Only [] x x') : LzSt w g5 g6 pk pd pA pc A n c l x' :=
 ⟨S.box.only ho (by simp),S.four.only ho (by simp),own_keep S.own ho (by simp),S.len,S.only.trans ho (by simp)⟩
theorem only_of_grown {w w' : World} {row : Option Nat} (h : w.grownBy w' row) : Only row.toList w w':=(Only.refl _ w).grown h (fun k hk _=>by rw [hk]; simp)
set_option maxRecDepth 100000 in
set_option maxHeartbeats 16000000 in
theorem pgLay_any (Al : Option Addr) (k c : Nat) (ps : List Cv) (w : World) (hP : Holds w 2 Al k (ckvs ps)) (hk : ps.length = k) (hc : k <= c) (hcv : ∀ p ∈ ps,CvHas w p) (hN : layN (ps.map Cv.ck) <= 100000000) :
 Calls Tryz.prog 16 #[.slice Al k c] w fun e w'=>∃ A n c',e = .returned (.slice A n c') /\ LySt w (ps.map Cv.ck) k A n c' w':=by
 obtain ⟨i0,hi0,hz0,hz1,hz2⟩:=info_of u8_info
 have kc:=fun (w : World) (C : Array Value) (n c : Nat)=>Lib.run_convert_bytes_const (P:=Tryz.prog) w 22 5 C n c Tryz.underlying22 Tryz.underlying5
 have HP:=hide (aI hP (aI hcv hN))
 have hkb : k <= 100000000:=by
  have h1:=sum_len (ps.map Cv.ck)
  rw [List.length_map] at h1
  unfold layN at hN
  omega
 clear hP hcv hN
 have HK:=hide hk
 clear hk
 go_enter Tryz.func16,Tryz.ntmps16
 go_wp2_with fail
 have S0 : LySt w (ps.map Cv.ck) 0 (some ⟨w.heap.size,0,none⟩) 8 8 (w.alloc (.cells #[.int .u8 137,.int .u8 80,.int .u8 78,.int .u8 71,.int .u8 13,.int .u8 10,.int .u8 26,.int .u8 10] 5 (8,9))):=by
  have h1:=Holds.lit_mark w #[.int .u8 137,.int .u8 80,.int .u8 78,.int .u8 71,.int .u8 13,.int .u8 10,.int .u8 26,.int .u8 10] 5 (8,9) w.heap.size rfl
  refine ⟨.inr ⟨rfl,_,rfl,h1⟩,rfl,fun h=>absurd h (Nat.lt_irrefl _),fun k hk=>?_,(Only.refl [] w).alloc _⟩
  have : w.heap.size = k:=by simpa [Value.ownBlock] using hk
  omega
 have HS0:=hide S0
 clear S0
 go_loopw [3,11] (fun vo vi wr=>∃ (j : Nat) (A : Option Addr) (n c' : Nat),j <= k /\ vi = .int .i64 (j : Int) /\ vo = .slice A n c' /\ LySt w (ps.map Cv.ck) j A n c' wr) (fun _ vi _=>k - (intOf vi).toNat)
 case atStart=>exact ⟨0,_,8,8,Nat.zero_le _,rfl,rfl,HS0.out⟩
 case round =>
  obtain ⟨j,A,n,c',hj,rfl,rfl,S⟩:=hrel
  by_cases hlt : j < k
  ·have hlt' : (j : Int) < (k : Int):=by omega
   have hjp : j < ps.length:=by rw [HK.out]; exact hlt
   have hPr:=HP.out.1.keep S.only (by simp)
   obtain ⟨b,o,rfl,hcl⟩:=hPr.addr (by rw [ckvs_len,HK.out]; omega)
   have c0:=hcl _ _ (ckvs_get ps j hjp).1
   have c1:=hcl _ _ (ckvs_get ps j hjp).2
   rw [<- Nat.add_assoc] at c1
   have hcv:=HP.out.2.1 _ (List.getElem_mem hjp)
   have hjc : j < (ps.map Cv.ck).length:=by simpa using hjp
   have hbt:=layB_take (ps.map Cv.ck) j hjc
   have hnt:=layN_take (ps.map Cv.ck) j hjc
   have hbl:=layB_length ((ps.map Cv.ck).take j)
   have hN:=HP.out.2.2
   have hcb : ∀ ad,ps[j].A = some ad -> 0 < ps[j].ck.d.length -> ad.block < w.heap.size:=fun ad ha h0=>(HP.out.2.1 _ (List.getElem_mem hjp)).1.blk h0 ad ha
   rw [List.getElem_map] at hbt hnt
   have hsl:=S.len
   have HB:=hide (aI hbt (aI hnt (aI hbl (aI hN hsl))))
   have HC:=hide (aI hcv hcb)
   have HS:=hide S
   clear S hPr hcl hcv hbt hnt hbl hN hcb hsl
   generalize ps[j] = p at *
   obtain ⟨⟨pk,pd⟩,pA,pc⟩:=p
   dsimp only at c0 c1
   have h0 : ((wr.alloc (.cells #[.string ⟨pk.toArray⟩,.slice pA pd.length pc] 53)).alloc (.cells #[.int .u8 0,.int .u8 0,.int .u8 0,.int .u8 0] 70)).cell? ⟨wr.heap.size,0,none⟩ = some (.string ⟨pk.toArray⟩):=((Has.new wr 53 #[.string ⟨pk.toArray⟩,.slice pA pd.length pc]).alloc _).cell 0
   go_wp2_with fail
   have b5:=(Has.new wr 53 #[.string ⟨pk.toArray⟩,.slice pA pd.length pc]).alloc (.cells #[.int .u8 0,.int .u8 0,.int .u8 0,.int .u8 0] 70)
   have b6:=Has.new (wr.alloc (.cells #[.string ⟨pk.toArray⟩,.slice pA pd.length pc] 53)) 70 #[.int .u8 0,.int .u8 0,.int .u8 0,.int .u8 0]
   rw [World.size_alloc] at b6
   have o6 : Only [] wr ((wr.alloc (.cells #[.string ⟨pk.toArray⟩,.slice pA pd.length pc] 53)).alloc (.cells #[.int .u8 0,.int .u8 0,.int .u8 0,.int .u8 0] 70)):=((Only.refl [] wr).alloc _).alloc _
   generalize (wr.alloc (.cells #[.string ⟨pk.toArray⟩,.slice pA pd.length pc] 53)).alloc (.cells #[.int .u8 0,.int .u8 0,.int .u8 0,.int .u8 0] 70) = x6 at *
   have l0:=later_cell h0
   have harr:=run_pgArr (wr.heap.size + 1)
   have H6:=hide (aI b5 (aI b6 o6))
   clear h0 b5 b6 o6 c0 c1
   refine region_later_tail 3 (by kernel_rfl) (by kernel_rfl) ?_
   simp only [List.take_succ_cons,List.take_zero,List.drop_succ_cons,List.drop_zero]
   iterate 3 (go_big_quiet_step (fail))
   refine wpQuiet_nil ?_
   rintro _ ⟨X,rfl⟩
   refine list_copy_kind _ rfl (.tmp 15) (.tmp 17) rfl (wr.heap.size + 1) pk 70 (H6.out.2.1.only X.only (by simp)) rfl rfl ?_
   intro nc x7 hx7 hox7
   have q5 : Has x7 wr.heap.size 53 #[.string ⟨pk.toArray⟩,.slice pA pd.length pc]:=(H6.out.1.only X.only (by simp)).only hox7 (by simp)
   have o7 : Only [] wr x7:=(H6.out.2.2.trans X.only (S:=[]) (by simp)).trans hox7 (by intro k hk hlt; simp at hk; omega)
   have q7:=q5.cell 1
   simp only [List.getElem?_toArray,List.getElem?_cons_zero,List.getElem?_cons_succ] at q7
   have H7:=hide (aI q5 (aI hx7 o7))
   clear q5 hx7 o7 hox7 l0
   go_wp2_with fail
   refine (appBig_grow w.heap.size A n c' pd.length (layB ((ps.map Cv.ck).take j)) x7 (Nat.le_trans HS.out.only.size H7.out.2.2.size) (HS.out.row.keep H7.out.2.2) (by have:=HB.out.2.2.2.2; have:=HB.out.2.2.1; have:=HB.out.2.1; have:=HB.out.2.2.2.1; omega) w (HS.out.only.trans H7.out.2.2 (by simp)) HS.out.blk).mono ?_
   rintro e x8 ⟨A8,c8,rfl,hown8,ho8,_,hk8⟩
   have S8 : LzSt w wr.heap.size (wr.heap.size + 1) pk pd pA pc A8 (n + 4) c8 (layB ((ps.map Cv.ck).take j) ++ four4 pd.length) x8:=⟨hk8 _ _ _ (by decide) H7.out.1,hk8 _ _ _ (by decide) H7.out.2.1,hown8,by rw [List.length_append,<- HB.out.2.2.2.2]; rfl,ho8⟩
   have hcut : n + 4 + 4 + pd.length + 4 <= 100000008:=by have:=HB.out.2.2.2.2; have:=HB.out.2.2.1; have:=HB.out.2.1; have:=HB.out.2.2.2.1; omega
   have HN:=hide hcut
   have r8:=S8.box.cell 1
   simp only [List.getElem?_toArray,List.getElem?_cons_zero,List.getElem?_cons_succ] at r8
   have HS8:=hide S8
   clear S8 hown8 ho8 hk8 q7 hcut
   have hf8:=hide (show Holds x8 1 (some ⟨wr.heap.size + 1,0,none⟩) 4 (bvals (kind4 pk)) from ⟨by rw [bvals_length,kind4_length],fun _=>⟨_,rfl,HS8.out.four.lt,fun q u hu=>by rw [add_zero_of,HS8.out.four.cell,List.getElem?_toArray]; exact hu⟩⟩)
   have hdat:=hide (fun (x : World) (hx : Only [] w x)=>(HC.out.1.only hx (by simp)).1)
   go_wp2_with (first | (at_builtin; refine list_append _ rfl (.tmp 24) (.tmp 25) 22 rfl w.heap.size 1 1 Tryz.underlying22 hi0 hz0 hz1 hz2 rfl (by omega) HS8.out.own rfl hf8.out rfl (bvals_one _) (by have:=HN.out; omega) (by omega) HS8.out.only.size ?_; intro A9 c9 x9 hown9 hgrow9 hat9; have S9:=HS8.out.next (only_of_grown hgrow9) (by rw [<- bvals_append] at hown9; exact hown9) (by rw [List.length_append,kind4_length,<- HS8.out.len]); have r9:=S9.box.cell 1; simp only [List.getElem?_toArray,List.getElem?_cons_zero,List.getElem?_cons_succ] at r9; have HS9:=hide S9; clear S9 hown9 hgrow9 hat9 r8) | (at_builtin; refine list_append _ rfl (.tmp 27) (.tmp 29) 22 rfl w.heap.size 1 1 Tryz.underlying22 hi0 hz0 hz1 hz2 rfl (by omega) HS9.out.own rfl (hdat.out _ HS9.out.only) rfl (bvals_one _) (by have:=HN.out; omega) (by omega) HS9.out.only.size ?_; intro A10 c10 x10 hown10 hgrow10 hat10; have S10:=HS9.out.next (only_of_grown hgrow10) (by rw [<- bvals_append] at hown10; exact hown10) (by rw [List.length_append,<- HS9.out.len]); have r10:=S10.box.cell 1; simp only [List.getElem?_toArray,List.getElem?_cons_zero,List.getElem?_cons_succ] at r10; have HS10:=hide S10; clear S10 hown10 hgrow10 hat10 r9))
   have l10:=later_cell r10
   obtain ⟨z,hz⟩ : ∃ z,z = crcW (kind4 pk ++ pd):=⟨_,rfl⟩
   have hzlt : z <= 4294967295:=by rw [hz]; unfold crcW; omega
   have hzw : IntKind.i64.wrap (z : Int) = (z : Int):=by rw [IntKind.wrap_i64]; omega
   have HZ:=hide hz
   have HA10:=hide (fun (x : World) (hx : Only [] x10 x)=>appBig_any w.heap.size A10 (n + 4 + 4 + pd.length) c10 z (layB ((ps.map Cv.ck).take j) ++ four4 pd.length ++ kind4 pk ++ pd) x (Nat.le_trans HS10.out.only.size hx.size) (HS10.out.idle hx).own (by have:=HN.out; omega))
   clear hz hzlt r10
   have hBw:=hide (fun ad (ha : pA = some ad) (h0 : 0 < pd.length)=>Nat.lt_of_lt_of_le (HC.out.2 ad ha h0) HS10.out.only.size)
   refine region_frm 8 42 (fun i=>if i = 1 then some (fsCrc x10.heap.size) else if i = 5 then some (fsRow x10.heap.size 2 #[.slice (some ⟨wr.heap.size + 1,0,none⟩) 4 4,.slice pA pd.length pc]) else if i = 6 then some (fsVal (.int .u32 (z : Int))) else none) (fun i=>if i = 6 then some 1 else none) (by kernel_rfl) (by kernel_rfl) (by kernel_rfl) (by kernel_rfl) (by rfl) (by rfl) (fun i hi=>?_) (fun i S hS=>?_) ?_
   ·have hi : 10 <= i:=hi
    show (if i = 1 then _ else _) = none
    iterate 3 rw [if_neg (by omega)]
   ·repeat' split at hS
    all_goals first | (injection hS with hS; subst hS; first | exact fsCrc_keep _ | exact fsRow_keep _ _ _ | exact fun _ _ _ _ _ _ _=>trivial) | cases hS
   simp only [List.take_succ_cons,List.take_zero,List.drop_succ_cons,List.drop_zero]
   refine wpFrm_chunk 1 (by kernel_rfl) (by rfl) ?_
   simp only [List.take_succ_cons,List.take_zero,List.drop_succ_cons,List.drop_zero,List.length_cons,List.length_nil,Nat.zero_add]
   iterate 1 (go_big_quiet_step (fail))
   refine wpQuiet_nil ?_
   refine wpFrm_step (fsCrc x10.heap.size) rfl (by rfl) ⟨_,0,rfl⟩ (fun w' ho hk=>?_) (fun v hv=>?_)
   ·clear hk
    change frmUpon _ _ [] _ _
    go_simp
    exact ⟨rfl,fsCrc_call w' _ ho.size⟩
   obtain ⟨g,rfl⟩:=hv
   go_simp
   refine wpFrm_chunk 3 (by kernel_rfl) (by rfl) ?_
   simp only [List.take_succ_cons,List.take_zero,List.drop_succ_cons,List.drop_zero,List.length_cons,List.length_nil,Nat.zero_add,Nat.reduceAdd]
   iterate 3 (go_big_quiet_step (fail))
   refine wpQuiet_nil ?_
   refine wpFrm_step (fsRow x10.heap.size 2 #[.slice (some ⟨wr.heap.size + 1,0,none⟩) 4 4,.slice pA pd.length pc]) rfl (by rfl) ⟨_,0,rfl⟩ (fun w' ho hk=>?_) (fun v hv=>?_)
   ·clear hk
    change frmUpon _ _ [] _ _
    go_simp
    exact ⟨(Only.refl [] w').alloc _,⟨_,rfl⟩,fun g he=>by
     injection he with he; injection he with he; injection he with he; subst he
     exact ⟨ho.size,Has.new w' _ _⟩,fun k hk=>by
     have : k = w'.heap.size:=by simpa [fsRow,blkOf] using hk
     subst this
     exact ⟨Nat.le_refl _,by simp⟩⟩
   obtain ⟨g',rfl⟩:=hv
   go_simp
   refine wpFrm_step (fsVal (.int .u32 (z : Int))) rfl (by rfl) ⟨_,rfl⟩ (fun w' ho hk=>?_) (fun v hv=>?_)
   ·have k0:=hk _ (Array.mem_of_getElem? (i:=0) (by rfl)) (by rfl) (fun j h=>eat_one h)
    have k0 : (fsCrc x10.heap.size).pure (.pointer (some ⟨g,0,none⟩)) /\ (fsCrc x10.heap.size).fact (.pointer (some ⟨g,0,none⟩)) w':=k0
    have k4:=hk _ (Array.mem_of_getElem? (i:=1) (by rfl)) (by rfl) (fun j h=>eat_one h)
    have k4 : (fsRow x10.heap.size 2 #[.slice (some ⟨wr.heap.size + 1,0,none⟩) 4 4,.slice pA pd.length pc]).pure (.slice (some ⟨g',0,none⟩) 2 2) /\ (fsRow x10.heap.size 2 #[.slice (some ⟨wr.heap.size + 1,0,none⟩) 4 4,.slice pA pd.length pc]).fact (.slice (some ⟨g',0,none⟩) 2 2) w':=k4
    obtain ⟨hg,hC⟩:=k0.2 g rfl
    obtain ⟨_,hR⟩:=k4.2 g' rfl
    clear k0 k4 hk
    have h4:=HS10.out.four.only ho (by simp)
    have hof:=ofCrc_rows g g' 2 x10.heap.size [⟨some ⟨wr.heap.size + 1,0,none⟩,4,kind4 pk⟩,⟨pA,pc,pd⟩] w' hC hg (by
     show Has w' g' _ #[.slice _ (kind4 pk).length _,.slice _ _ _]
     rw [kind4_length]; exact hR) rfl (by omega) (fun p hp=>by
     rcases List.mem_cons.1 hp with rfl | hp
     ·refine ⟨?_,by show (kind4 pk).length <= 4; rw [kind4_length]; exact Nat.le_refl _,by show (kind4 pk).length <= _; rw [kind4_length]; omega,fun _ ad ha=>by injection ha with ha; subst ha; exact HS10.out.four.lt⟩
      show Holds w' 1 _ (kind4 pk).length (bvals (kind4 pk))
      exact ⟨by rw [bvals_length,Nat.mul_one],fun _=>⟨_,rfl,h4.lt,fun q u hu=>by rw [add_zero_of,h4.cell,List.getElem?_toArray]; exact hu⟩⟩
     ·obtain rfl : p = _:=by simpa using hp
      exact ⟨hdat.out _ (HS10.out.only.trans ho (by simp)),HC.out.1.2.1,by show pd.length <= _; have:=HN.out; omega,fun h0 ad ha=>hBw.out ad ha h0⟩)
    rw [show Part.all [⟨some ⟨wr.heap.size + 1,0,none⟩,4,kind4 pk⟩,⟨pA,pc,pd⟩] = kind4 pk ++ pd by simp [Part.all],<- HZ.out] at hof
    change frmUpon _ _ [g] _ _
    go_simp
    refine ⟨rfl,hof.mono ?_⟩
    rintro e w3 ⟨he,ho3⟩
    exact ⟨_,he,ho3,rfl,trivial,fun k hk=>absurd hk (by simp [fsVal])⟩
   cases hv
   go_simp
   refine wpFrm_chunk 1 (by kernel_rfl) (by rfl) ?_
   simp only [List.take_succ_cons,List.take_zero,List.drop_succ_cons,List.drop_zero,List.length_cons,List.length_nil,Nat.zero_add,Nat.reduceAdd]
   iterate 1 (go_big_quiet_step (fail))
   refine wpQuiet_nil ?_
   intro x11 ho11 hT
   clear hT l10
   go_wp2_with fail
   refine (HA10.out _ ho11).mono ?_
   rintro e x12 ⟨A12,c12,rfl,hown12,hs12⟩
   have S12:=(HS10.out.idle ho11).next hs12.only hown12 (by rw [List.length_append,<- HS10.out.len]; rfl)
   have hfin : LySt w (ps.map Cv.ck) (j + 1) A12 (n + 4 + 4 + pd.length + 4) c12 x12:=by
    have e1:=HB.out.1
    have e2:=S12.own
    rw [HZ.out,<- e1] at e2
    exact ⟨.inl e2,by rw [e1,<- HZ.out]; exact S12.len,fun _=>e2,fun q hq=>(own_at e2 hq).1,S12.only⟩
   have HF:=hide hfin
   clear hfin S12 hown12 hs12
   go_wp2_with fail
   go_roundw
   case rel=>exact ⟨j + 1,A12,_,c12,hlt,by go_num,rfl,HF.out⟩
   case measure=>simp [intOf]; omega
  ·obtain rfl : j = k:=by omega
   have hlt' : ¬ (j : Int) < (j : Int):=by omega
   have HS:=hide S
   clear S
   go_wp2_with fail
   go_ret
   exact ⟨A,n,c',rfl,HS.out⟩
end Go.Proofs.YtjfjmkkkbcgohaaGreatDoor
namespace Go.Proofs.YtjfjmkkkbcgohaaGreatDoor
open Go Go.RowKit Go.Shelf
attribute [local go_sem] Oper.semAt_some
theorem rowsMk (W H d c l : Int) (w : World) : Calls Tryz.prog 15 #[.agg #[.int .i64 W,.int .i64 H,.int .i64 d,.int .i64 c,.int .i64 l]] w fun e w' =>
 e = .returned (.func (.func 38) #[] #[.pointer (some ⟨w.heap.size,0,none⟩)]) /\ w' = w.alloc (.cells #[.int .i64 W,.int .i64 H,.int .i64 d,.int .i64 c,.int .i64 l] 36):=by
 go_enter Tryz.func15,Tryz.ntmps15
 go_wp2_with fail
 go_ret
 exact ⟨rfl,rfl⟩
def rawS (s d : Int) (rs : List Rw) : Int:=(rs.map fun r=>1 + rowI r.w s d).sum
theorem rawS_snoc (s d : Int) (rs : List Rw) (r : Rw) : rawS s d (rs ++ [r]) = rawS s d rs + (1 + rowI r.w s d):=by simp [rawS,List.sum_append]
theorem rowI_range (w s d : Int) : 0 <= rowI w s d /\ rowI w s d <= 131072:=by
 unfold rowI
 split
 ·rename_i h
  have:=rowI_up w s d h
  omega
 ·omega
theorem rawS_range (s d : Int) (rs : List Rw) : (rs.length : Int) <= rawS s d rs /\ rawS s d rs <= 131073 * (rs.length : Int):=by
 induction rs with
 | nil=>simp [rawS]
 | cons r rs ih =>
   have:=rowI_range r.w s d
   simp only [rawS,List.map_cons,List.sum_cons,List.length_cons] at ih ⊢
   omega
theorem rowsTo_length (W H l : Int) (k : Nat) : (rowsTo W H l k).length <= 16384 * k:=by
 induction k with
 | zero=>simp [rowsTo]
 | succ k ih =>
   rw [rowsTo_succ,List.length_append,rowsP_length]
   have:=psH_le W H l k
   omega
theorem rowsL_length (W H l : Int) : (rowsL W H l).length <= 114688:=by
 have:=rowsTo_length W H l (pgN l)
 have:=(pgN_pos l).2
 unfold rowsL
 omega
def rawZ (W H d c l : Int) : Int:=rawS (smpV c) d (rowsL W H l)
theorem ownFrom_has {β : Type} {B : Nat} (g : β -> Nat) (t : β -> TypeId) (cs : β -> Array Value) : OwnFrom B (fun (s : β) W=>Has W (g s) (t s) (cs s)):=fun s X Y row hs hg hr=>by
 have hs : Has X (g s) (t s) (cs s):=hs
 show Has Y (g s) (t s) (cs s)
 unfold Has
 rw [hg.block (g s) hs.lt (fun e=>by
  obtain ⟨_,o,ho,hc⟩:=hr (g s) e.symm
  have h2:=hs
  unfold Has at h2
  rw [ho] at h2
  injection h2 with h2
  subst h2
  cases hc)]
 exact hs
theorem ownFrom_ex {β γ : Type} {B : Nat} {I : γ -> β -> World -> Prop} (h : ∀ c,OwnFrom B (I c)) : OwnFrom B (fun s W=>∃ c,I c s W):=fun s X Y row hs hg hr=>by
 obtain ⟨c,hc⟩:=hs
 exact ⟨c,h c s X Y row hc hg hr⟩
theorem ownFrom_const {β : Type} {B : Nat} (f : β -> Prop) : OwnFrom B (fun s (_ : World)=>f s):=fun _ _ _ _ hs _ _=>hs
theorem keepsFrom_only {S : List Nat} {B : Nat} {W W' : World} (h : Only S W W') (hS : ∀ k,k ∈ S -> ∃ cs t,Has W k t cs) : KeepsFrom B W W':=⟨h.size,fun k o _ hk hc=>by
 rw [h.block k (Array.getElem?_eq_some_iff.1 hk).1 (fun hm=>by
  obtain ⟨cs,t,h2⟩:=hS k hm
  unfold Has at h2
  rw [hk] at h2
  injection h2 with h2
  subst h2
  cases hc)]
 exact hk⟩
theorem Only.put {S : List Nat} {w X : World} (h : Only S w X) {D : Nat} (hD : w.heap.size <= D) (o : Obj) : Only S w (X.putObj D o):=h.grown (grownBy_putObj' X D o) (fun k e hk=>by cases e; omega)
def Rw.cells (r : Rw) : Array Value:=#[.int .i64 r.X,.int .i64 r.Y,.int .i64 r.DX,.int .i64 r.DY,.int .i64 (r.y : Int),.int .i64 r.w]
theorem ownFrom_only {β : Type} {B : Nat} {S : List Nat} {w : World} (hB : w.heap.size <= B) : OwnFrom B (fun (_ : β) W=>Only S w W):=fun s X Y row hs hg hr =>
 ⟨hg.os.trans hs.os,hg.tape.trans hs.tape,hg.output.trans hs.output,Nat.le_trans hs.size hg.size,fun k hk hn=>(hg.block k (Nat.lt_of_lt_of_le hk hs.size) (fun e=>by
   have:=(hr k e.symm).1
   omega)).trans (hs.block k hk hn)⟩
set_option maxRecDepth 100000 in
set_option maxHeartbeats 8000000 in
theorem rawSize_any (W H d c l : Int) (w : World) : Calls Tryz.prog 13 #[.agg #[.int .i64 W,.int .i64 H,.int .i64 d,.int .i64 c,.int .i64 l]] w fun e w'=>e = .returned (.int .i64 (rawZ W H d c l)) /\ Only [] w w':=by
 refine (callsIn_wide (n:=5)).1 ?_
 refine callsIn_of_wp_marks Tryz.func13 rfl trivial ?_ rfl
 simp only [Tryz.ntmps13,List.size_toArray,List.length_cons,List.length_nil,Nat.reduceAdd,Nat.reduceSub,Array.replicate_succ,Array.replicate_zero,List.push_toArray,List.append_toArray,List.nil_append,List.cons_append]
 gi_wp2_with (refine ⟨trivial,?_⟩; gi_at_call 15; refine (callsIn_wide.2 (rowsMk W H d c l _)).mono ?_; rintro e w' ⟨rfl,rfl⟩)
 have hb0:=((Has.new w 36 #[.int .i64 W,.int .i64 H,.int .i64 d,.int .i64 c,.int .i64 l]).alloc (.cells #[.int .i64 0] 3)).alloc (.cells #[.int .i64 W,.int .i64 H,.int .i64 d,.int .i64 c,.int .i64 l] 36)
 have hb1:=(Has.new (w.alloc (.cells #[.int .i64 W,.int .i64 H,.int .i64 d,.int .i64 c,.int .i64 l] 36)) 3 #[.int .i64 0]).alloc (.cells #[.int .i64 W,.int .i64 H,.int .i64 d,.int .i64 c,.int .i64 l] 36)
 have hb2:=Has.new ((w.alloc (.cells #[.int .i64 W,.int .i64 H,.int .i64 d,.int .i64 c,.int .i64 l] 36)).alloc (.cells #[.int .i64 0] 3)) 36 #[.int .i64 W,.int .i64 H,.int .i64 d,.int .i64 c,.int .i64 l]
 have hO : Only [] w (((w.alloc (.cells #[.int .i64 W,.int .i64 H,.int .i64 d,.int .i64 c,.int .i64 l] 36)).alloc (.cells #[.int .i64 0] 3)).alloc (.cells #[.int .i64 W,.int .i64 H,.int .i64 d,.int .i64 c,.int .i64 l] 36)):=(((Only.refl [] w).alloc _).alloc _).alloc _
 simp only [World.size_alloc] at hb1 hb2
 generalize ((w.alloc (.cells #[.int .i64 W,.int .i64 H,.int .i64 d,.int .i64 c,.int .i64 l] 36)).alloc (.cells #[.int .i64 0] 3)).alloc (.cells #[.int .i64 W,.int .i64 H,.int .i64 d,.int .i64 c,.int .i64 l] 36) = w3 at *
 have HP:=hide (rows_pre W H d c l _ w3 hb2)
 refine range_pre (gf:=38) (lb:=#[.pointer (some ⟨w.heap.size + 1 + 1,0,none⟩)]) rfl (enters_of Tryz.func38 (by kernel_rfl) rfl) HP.out (Below.refl _ _) (fun h k=>RowsK.trans h k) (fun W l o o' h ho=>RowsK.put W l o o' h ho)
  (fun pre X=>Has X (w.heap.size + 1) 3 #[.int .i64 (rawS (smpV c) d pre)] /\ Has X w.heap.size 36 #[.int .i64 W,.int .i64 H,.int .i64 d,.int .i64 c,.int .i64 l] /\ Only [] w X) (fun _ _ _=>False)
  (OwnFrom.and (ownFrom_has _ _ _) (OwnFrom.and (ownFrom_has _ _ _) (ownFrom_only hO.size))) (fun _=>ownFrom_const _) ⟨hb1,hb0,hO⟩
  (fun x a' X=>∃ Bx,Has X Bx 49 x.cells /\ a' = { tmps:=#[.agg #[.int .i64 W,.int .i64 H,.int .i64 d,.int .i64 c,.int .i64 l],.pointer (some ⟨w.heap.size,0,none⟩),.int .i64 0,.pointer (some ⟨w.heap.size + 1,0,none⟩),.pointer (some ⟨Bx,0,none⟩),.agg #[.int .i64 W,.int .i64 H,.int .i64 d,.int .i64 c,.int .i64 l],.func (.func 38) #[] #[.pointer (some ⟨w.heap.size + 1 + 1,0,none⟩)],x.val,undef,undef,undef,undef,undef,undef,undef],defers:=[] })
  (fun x a'=>ownFrom_ex fun Bx=>OwnFrom.and (ownFrom_has _ _ _) (ownFrom_const _)) ?assign ?body ?done ?stop
 case assign =>
  intro la pre x X K hpre hi hK
  unfold Rw.val
  gi_wp2
  have hnew:=Has.new X 49 x.cells
  have ho:=(Only.refl [] X).alloc (.cells x.cells 49)
  exact hK _ _ (keepsFrom_only ho (by simp)) (RowsK.only ho (by simp)) ⟨hi.1.alloc _,hi.2.1.alloc _,hi.2.2.alloc _⟩ ⟨_,hnew,rfl⟩
 case body =>
  rintro la pre x a' X hpre ⟨hn,hh,ho⟩ ⟨Bx,hx,rfl⟩
  obtain ⟨rX,rY,rDX,rDY,ry,rn⟩:=x
  have hx : Has X Bx 49 #[.int .i64 rX,.int .i64 rY,.int .i64 rDX,.int .i64 rDY,.int .i64 (ry : Int),.int .i64 rn]:=hx
  have hlen:=hpre.length_le
  have hL:=rowsL_length W H l
  have hrs:=rawS_range (smpV c) d pre
  have hri:=rowI_range rn (smpV c) d
  rw [List.length_append,List.length_singleton] at hlen
  have hsn : rawS (smpV c) d (pre ++ [⟨rX,rY,rDX,rDY,ry,rn⟩]) = rawS (smpV c) d pre + (1 + rowI rn (smpV c) d):=rawS_snoc _ _ _ _
  have HSN:=hide hsn
  have HX:=hide (aI hn (aI hh (aI ho hx)))
  have HZ:=hide (fun w=>pgSize_any rX rY rDX rDY (ry : Int) rn W H d c l w)
  obtain ⟨q,hq⟩ : ∃ q,q = rowI rn (smpV c) d:=⟨_,rfl⟩
  obtain ⟨s,hs⟩ : ∃ s,s = rawS (smpV c) d pre:=⟨_,rfl⟩
  rw [<- hq] at hri
  rw [<- hs] at hrs hn
  rw [<- hq,<- hs] at HSN
  have w1 : IntKind.i64.wrap (1 + q) = 1 + q:=by rw [IntKind.wrap_i64]; omega
  have w2 : IntKind.i64.wrap (s + (1 + q)) = s + (1 + q):=by rw [IntKind.wrap_i64]; omega
  have HQ:=hide (aI hq hs)
  have n0:=later_cell (hn.cell 0)
  have h0:=later_cell (hh.cell 0)
  have h1:=later_cell (hh.cell 1)
  have h2:=later_cell (hh.cell 2)
  have h3:=later_cell (hh.cell 3)
  have h4:=later_cell (hh.cell 4)
  have x0:=later_cell (hx.cell 0)
  have x1:=later_cell (hx.cell 1)
  have x2:=later_cell (hx.cell 2)
  have x3:=later_cell (hx.cell 3)
  have x4:=later_cell (hx.cell 4)
  have x5:=later_cell (hx.cell 5)
  clear hq hs hn hh ho hx hrs hri hL hlen hsn hpre
  gi_wp2
  unfold Rw.val
  refine region_frm_in 6 15 (fun i=>if i = 3 then some (fsVal (.int .i64 q)) else none) (fun _=>none) (by kernel_rfl) (by kernel_rfl) (by kernel_rfl) (fun ⟨a,w,h⟩=>h.2) (by kernel_rfl) (by kernel_rfl) (by rfl) (by rfl) (fun i hi=>?_) (fun i S hS=>?_) ?_
  ·have hi : 7 <= i:=hi
   show (if i = 3 then _ else _) = none
   rw [if_neg (by omega)]
  ·split at hS
   all_goals first | (injection hS with hS; subst hS; exact fun _ _ _ _ _ _ _=>trivial) | cases hS
  simp only [List.take_succ_cons,List.take_zero,List.drop_succ_cons,List.drop_zero]
  refine wpFrm_chunk 3 (by kernel_rfl) (by rfl) ?_
  simp only [List.take_succ_cons,List.take_zero,List.drop_succ_cons,List.drop_zero,List.length_cons,List.length_nil,Nat.zero_add,Nat.reduceAdd]
  iterate 3 (go_big_quiet_step (fail))
  refine wpQuiet_nil ?_
  refine wpFrm_step (fsVal (.int .i64 q)) rfl (by rfl) ⟨_,rfl⟩ (fun w' ho hk=>?_) (fun v hv=>?_)
  ·clear hk
   change frmUpon _ _ [] _ _
   go_simp
   refine ⟨rfl,(HZ.out w').mono ?_⟩
   rintro e w2 ⟨he,ho2⟩
   rw [<- HQ.out.1] at he
   exact ⟨_,he,ho2,rfl,trivial,fun k hk=>absurd hk (by simp [fsVal])⟩
  cases hv
  go_simp
  refine wpFrm_chunk 2 (by kernel_rfl) (by rfl) ?_
  simp only [List.take_succ_cons,List.take_zero,List.drop_succ_cons,List.drop_zero,List.length_cons,List.length_nil,Nat.zero_add,Nat.reduceAdd]
  iterate 2 (go_big_quiet_step (fail))
  refine wpQuiet_nil ?_
  intro y4 ho4 hT
  clear hT
  have hn4:=HX.out.1.only ho4 (by simp)
  have hn0 : y4.cell? ⟨w.heap.size + 1,0,none⟩ = some (.int .i64 (rawS (smpV c) d pre)):=hn4.cell 0
  have hf0:=hn4.free 0
  clear n0 h0 h1 h2 h3 h4 x0 x1 x2 x3 x4 x5
  have hset:=hn4.set 0 (.int .i64 (s + (1 + q)))
  have hos : Only [w.heap.size + 1] X (y4.setCell ⟨w.heap.size + 1,0,none⟩ (.int .i64 (s + (1 + q)))):=(ho4.of_nil).setCell (by simp) _
  have hfin : preQ w3.heap.size RowsK (fun pre X=>Has X (w.heap.size + 1) 3 #[.int .i64 (rawS (smpV c) d pre)] /\ Has X w.heap.size 36 #[.int .i64 W,.int .i64 H,.int .i64 d,.int .i64 c,.int .i64 l] /\ Only [] w X) (fun _ _ _=>False) (pre ++ [⟨rX,rY,rDX,rDY,ry,rn⟩]) X .normal (y4.setCell ⟨w.heap.size + 1,0,none⟩ (.int .i64 (s + (1 + q)))):=by
   have hk : ∀ k,k ∈ [w.heap.size + 1] -> ∃ cs t,Has X k t cs /\ t ≠ 47 /\ t ≠ 36:=fun k hk=>by
    obtain rfl : k = _:=by simpa using hk
    exact ⟨_,_,HX.out.1,by decide,by decide⟩
   refine ⟨keepsFrom_only hos (fun k h=>by obtain ⟨a,b,h1,_⟩:=hk k h; exact ⟨a,b,h1⟩),RowsK.only hos hk,?_,HX.out.2.1.only hos (by simp),HX.out.2.2.1.trans hos (by intro k hk hlt; simp at hk; omega)⟩
   rw [HSN.out]
   exact hset
  have HF:=hide hfin
  clear hfin hset hos hn4
  go_wp2_with fail
  exact HF.out
 case done =>
  rintro D X hD ⟨hn,hh,ho⟩ hK
  have n0:=hn.cell 0
  have HX:=hide (aI ho hD)
  have hsz:=hO.size
  clear hn hh ho hb0 hb1 hb2
  gi_wp2
  refine ⟨by simp,.inl ⟨_,_,rfl,run_takeDeferred hK,?_⟩⟩
  exact ⟨_,results_tmp rfl _ _ _,rfl,HX.out.1.put (by have:=HX.out.2; omega) _⟩
 case stop =>
  rintro D c2 pre X _ _ h _
  exact h.elim
end Go.Proofs.YtjfjmkkkbcgohaaGreatDoor
namespace Go.Proofs.YtjfjmkkkbcgohaaGreatDoor
structure Px where
 r : UInt8
 g : UInt8
 b : UInt8
 a : UInt8
def at4 (l : List UInt8) (p : Nat) : Px:=⟨l.getD (4 * p) 0,l.getD (4 * p + 1) 0,l.getD (4 * p + 2) 0,l.getD (4 * p + 3) 0⟩
def put4 (l : List UInt8) (p : Nat) (c : Px) : List UInt8:=(((l.set (4 * p) c.r).set (4 * p + 1) c.g).set (4 * p + 2) c.b).set (4 * p + 3) c.a
@[simp] theorem put4_length (l : List UInt8) (p : Nat) (c : Px) : (put4 l p c).length = l.length:=by simp [put4]
theorem getD_set (l : List UInt8) (i j : Nat) (v : UInt8) (h : i < l.length) : (l.set i v).getD j 0 = if i = j then v else l.getD j 0:=by
 simp only [List.getD_eq_getElem?_getD,List.getElem?_set]
 by_cases hij : i = j
 ·subst hij; simp [h]
 ·simp [hij]
def rowF (f : Nat -> Px -> Px) (base : Nat) : List UInt8 -> Nat -> Nat -> List UInt8
 | l,_,0=>l
 | l,i,k + 1=>rowF f base (put4 l (base + i) (f i (at4 l (base + i)))) (i + 1) k
def rowsF (f : Nat -> Nat -> Px -> Px) (W a k : Nat) : List UInt8 -> Nat -> Nat -> List UInt8
 | l,_,0=>l
 | l,j,n + 1=>rowsF f W a k (rowF (f j) (j * W) l a k) (j + 1) n
@[simp] theorem rowF_length (f : Nat -> Px -> Px) (base : Nat) (l : List UInt8) (i k : Nat) : (rowF f base l i k).length = l.length:=by
  induction k generalizing l i with
  | zero=>rfl
  | succ k ih=>rw [rowF,ih,put4_length]
@[simp] theorem rowsF_length (f : Nat -> Nat -> Px -> Px) (W a k : Nat) (l : List UInt8) (j n : Nat) : (rowsF f W a k l j n).length = l.length:=by
  induction n generalizing l j with
  | zero=>rfl
  | succ n ih=>rw [rowsF,ih,rowF_length]
end Go.Proofs.YtjfjmkkkbcgohaaGreatDoor
