import Derived.Test.YtjfjmkkkbcgohaaGreatDoorMPiM
import Derived.Test.YtjfjmkkkbcgohaaGreatDoorMFiR
namespace Go.Proofs.YtjfjmkkkbcgohaaGreatDoor
open Go Go.RowKit
set_option maxRecDepth 100000 in
theorem few_any (W H : Int) (A : Option Addr) (n c : Nat) (w : World) : Calls Tryz.prog 5 #[mval W H A n c] w fun e w'=>e = .returned (.bool (decide (n <= 16384))) /\ Only [] w w':=by
 show Calls Tryz.prog 5 #[.agg #[.int .i64 W,.int .i64 H,.slice A n c]] w _
 by_cases h : n <= 16384
 ·rw [decide_eq_true h]
  have h' : (n : Int) <= 16384:=by omega
  clear h
  go_enter Tryz.func5,Tryz.ntmps5
  go_wp2_with fail
  go_ret
  exact ⟨rfl,(Only.refl [] w).alloc _⟩
 ·rw [decide_eq_false h]
  have h' : ¬ (n : Int) <= 16384:=by omega
  clear h
  go_enter Tryz.func5,Tryz.ntmps5
  go_wp2_with fail
  go_ret
  exact ⟨rfl,(Only.refl [] w).alloc _⟩
set_option maxRecDepth 100000 in
theorem of_any (W H : Int) (A : Option Addr) (n c : Nat) (w : World) : Calls Tryz.prog 9 #[mval W H A n c] w fun e w'=>e = .returned (mval W H A n c) /\ Only [] w w':=by
 show Calls Tryz.prog 9 #[.agg #[.int .i64 W,.int .i64 H,.slice A n c]] w _
 have o2 : Only [] w ((w.alloc (.cells #[.int .i64 W,.int .i64 H,.slice A n c] 24)).alloc (.cells #[.int .i64 W,.int .i64 H,.slice A n c] 32)):=((Only.refl [] w).alloc _).alloc _
 have hr : Has ((w.alloc (.cells #[.int .i64 W,.int .i64 H,.slice A n c] 24)).alloc (.cells #[.int .i64 W,.int .i64 H,.slice A n c] 32)) (w.heap.size + 1) 32 #[.int .i64 W,.int .i64 H,.slice A n c]:=(by
  have:=Has.new (w.alloc (.cells #[.int .i64 W,.int .i64 H,.slice A n c] 24)) 32 #[.int .i64 W,.int .i64 H,.slice A n c]
  rw [World.size_alloc] at this
  exact this)
 go_enter Tryz.func9,Tryz.ntmps9
 go_wp2_with fail
 exact bodyPost_ret (results_cell_row Tryz.results9 _ _ (w.heap.size + 1) 32 _ (0,0) _ rfl hr Tryz.underlying32 rfl (by kernel_rfl)) rfl ⟨rfl,o2⟩
theorem getD_of {l : List UInt8} {i : Nat} (h : i < l.length) : l.getD i 0 = l[i]:=by simp [List.getD_eq_getElem?_getD,h]
theorem Has.new' (w : World) (t : TypeId) (cs : Array Value) (g : Nat) (hg : g = w.heap.size) : Has (w.alloc (.cells cs t)) g t cs:=by subst hg; exact Has.new w t cs
def Px.cells (c : Px) : Array Value:=#[.int .u8 (c.r.toNat : Int),.int .u8 (c.g.toNat : Int),.int .u8 (c.b.toNat : Int),.int .u8 (c.a.toNat : Int)]
def Px.val (c : Px) : Value:=.agg c.cells
theorem cell_of {w : World} {l : List UInt8} {b o : Nat} (hc : ∀ j u,(bvals l)[j]? = some u -> w.cell? ⟨b,o + j,none⟩ = some u) {i : Nat} (h : i < l.length) : w.cell? ⟨b,o + i,none⟩ = some (.int .u8 ((l.getD i 0).toNat : Int)):=by
 rw [getD_of h]; exact hc i _ (bvals_get l i h)
theorem okM.fit {W H n x y : Nat} (h : okM W H n) (hx : x < W) (hy : y < H) : 4 * (y * W + x) + 4 <= n:=by
 have h1 : (y + 1) * W <= H * W:=Nat.mul_le_mul_right _ hy
 rw [Nat.succ_mul,Nat.mul_comm H] at h1
 have:=h.2
 omega
theorem okM.le {W H n : Nat} (h : okM W H n) : n <= 268435456:=by
 have h2:=h.2
 rcases h.1 with ⟨rfl,rfl⟩ | h1 <;> omega
def px0 : Px:=⟨0,0,0,0⟩
theorem px_one (c : Px) : c.cells.all (·.oneCell') = true:=by simp [Px.cells,Value.oneCell']
def isIn (W H : Nat) (x y : Int) : Bool:=decide ((0 <= x /\ x < (W : Int)) /\ (0 <= y /\ y < (H : Int)))
theorem isIn_of {W H : Nat} {x y : Int} (h : isIn W H x y = true) : ∃ a b : Nat,x = a /\ y = b /\ a < W /\ b < H:=by
 unfold isIn at h
 rw [decide_eq_true_iff] at h
 obtain ⟨a,rfl⟩:=Int.eq_ofNat_of_zero_le h.1.1
 obtain ⟨b,rfl⟩:=Int.eq_ofNat_of_zero_le h.2.1
 exact ⟨a,b,rfl,rfl,by omega,by omega⟩
def atP (W H : Nat) (l : List UInt8) (x y : Int) : Px:=if isIn W H x y = true then at4 l (y.toNat * W + x.toNat) else px0
set_option maxRecDepth 100000 in
set_option maxHeartbeats 4000000 in
theorem tIn_any (W H : Nat) (A : Option Addr) (n c : Nat) (x y : Int) (w : World) :
 Calls Tryz.prog 58 #[mval W H A n c,.int .i64 x,.int .i64 y] w fun e w'=>e = .returned (.bool (isIn W H x y)) /\ Only [] w w':=by
 show Calls Tryz.prog 58 #[.agg #[.int .i64 W,.int .i64 H,.slice A n c],.int .i64 x,.int .i64 y] w _
 have hno : ¬ ((0 <= x /\ x < (W : Int)) /\ (0 <= y /\ y < (H : Int))) -> isIn W H x y = false:=fun h=>decide_eq_false h
 by_cases h1 : 0 <= x
 ·by_cases h2 : 0 <= y
  ·by_cases h3 : x < (W : Int)
   ·by_cases h4 : y < (H : Int)
    ·have hy : isIn W H x y = true:=decide_eq_true ⟨⟨h1,h3⟩,h2,h4⟩
     rw [hy]
     clear hy hno
     go_enter Tryz.func58,Tryz.ntmps58
     go_wp2_with fail
     go_ret
     exact ⟨rfl,(Only.refl [] w).alloc _⟩
    ·rw [hno (by omega)]
     clear hno
     go_enter Tryz.func58,Tryz.ntmps58
     go_wp2_with fail
     go_ret
     exact ⟨rfl,(Only.refl [] w).alloc _⟩
   ·rw [hno (by omega)]
    clear hno
    go_enter Tryz.func58,Tryz.ntmps58
    go_wp2_with fail
    go_ret
    exact ⟨rfl,(Only.refl [] w).alloc _⟩
  ·rw [hno (by omega)]
   clear hno
   go_enter Tryz.func58,Tryz.ntmps58
   go_wp2_with fail
   go_ret
   exact ⟨rfl,(Only.refl [] w).alloc _⟩
 ·rw [hno (by omega)]
  clear hno
  go_enter Tryz.func58,Tryz.ntmps58
  go_wp2_with fail
  go_ret
  exact ⟨rfl,(Only.refl [] w).alloc _⟩
set_option maxRecDepth 100000 in
set_option maxHeartbeats 8000000 in
theorem tAt_any (W H : Nat) (A : Option Addr) (n c : Nat) (l : List UInt8) (x y : Int) (w : World) (hb : Holds w 1 A n (bvals l)) (hl : l.length = n) (hok : okM W H n) :
 Calls Tryz.prog 24 #[mval W H A n c,.int .i64 x,.int .i64 y] w fun e w'=>e = .returned (.tuple #[(atP W H l x y).val,.bool (isIn W H x y)]) /\ Only [] w w':=by
 have o2 : Only [] w ((w.alloc (.cells #[.int .i64 (W : Int),.int .i64 (H : Int),.slice A n c] 32)).alloc (.cells #[.int .u8 0,.int .u8 0,.int .u8 0,.int .u8 0] 70)):=((Only.refl [] w).alloc _).alloc _
 have hz : Has ((w.alloc (.cells #[.int .i64 (W : Int),.int .i64 (H : Int),.slice A n c] 32)).alloc (.cells #[.int .u8 0,.int .u8 0,.int .u8 0,.int .u8 0] 70)) (w.heap.size + 1) 70 #[.int .u8 0,.int .u8 0,.int .u8 0,.int .u8 0]:=Has.new' _ _ _ _ (by simp)
 have hm : Has ((w.alloc (.cells #[.int .i64 (W : Int),.int .i64 (H : Int),.slice A n c] 32)).alloc (.cells #[.int .u8 0,.int .u8 0,.int .u8 0,.int .u8 0] 70)) w.heap.size 32 #[.int .i64 (W : Int),.int .i64 (H : Int),.slice A n c]:=(Has.new w _ _).alloc _
 have hb2:=hb.keep o2 (by simp)
 have HI:=hide (fun w=>tIn_any W H A n c x y w)
 cases hin : isIn W H x y with
 | false =>
   have e0 : atP W H l x y = px0:=by unfold atP; rw [hin]; rfl
   rw [e0]
   rw [hin] at HI
   clear hin e0 hok hb hl
   show Calls Tryz.prog 24 #[.agg #[.int .i64 W,.int .i64 H,.slice A n c],.int .i64 x,.int .i64 y] w _
   go_enter Tryz.func24,Tryz.ntmps24
   go_wp2_with fail
   refine (HI.out _).mono ?_
   rintro e w1 ⟨rfl,ho1⟩
   have hz1:=hz.only ho1 (by simp)
   have o3:=o2.trans ho1 (S:=[]) (by simp)
   go_wp2_with (refine list_store_row' rfl 70 (.tmp 6) (.tmp 14) rfl (w.heap.size + 1) px0.cells rfl rfl 70 _ hz1 (by kernel_rfl) rfl (px_one px0) ?_; intro w3 hT3 hO3)
   exact bodyPost_ret (results_row_two Tryz.results24 _ _ (w.heap.size + 1) 70 _ _ rfl hT3 Tryz.underlying70 rfl (by kernel_rfl)) rfl ⟨rfl,o3.trans hO3 (by intro i hi hlt; simp at hi; omega)⟩
 | true =>
   obtain ⟨a,b,rfl,rfl,ha,hb'⟩:=isIn_of hin
   have e0 : atP W H l a b = at4 l (b * W + a):=by unfold atP; rw [if_pos hin]; rfl
   rw [e0]
   rw [hin] at HI
   have hfit:=hok.fit ha hb'
   have hle:=hok.le
   obtain ⟨D,hD⟩ : ∃ D,D = b * W:=⟨_,rfl⟩
   have m1 : (b : Int) * (W : Int) = (D : Int):=by rw [hD]; exact (Int.natCast_mul b W).symm
   rw [<- hD] at hfit ⊢
   obtain ⟨p,hpp⟩ : ∃ p,p = D + a:=⟨_,rfl⟩
   obtain ⟨f,hf⟩ : ∃ f,f = 4 * p:=⟨_,rfl⟩
   rw [<- hpp] at hfit ⊢
   have V1:=hide (wr_nat (z:=(D : Int)) (n:=D) rfl (by omega))
   have V2:=hide (wr_nat (z:=(D : Int) + (a : Int)) (n:=p) (by omega) (by omega))
   have V3:=hide (wr_nat (z:=4 * (p : Int)) (n:=f) (by omega) (by omega))
   obtain ⟨f1,hf1⟩ : ∃ f1,f1 = f + 1:=⟨_,rfl⟩
   obtain ⟨f2,hf2⟩ : ∃ f2,f2 = f + 2:=⟨_,rfl⟩
   obtain ⟨f3,hf3⟩ : ∃ f3,f3 = f + 3:=⟨_,rfl⟩
   have V4:=hide (wr_nat (z:=(f : Int) + 1) (n:=f1) (by omega) (by omega))
   have V5:=hide (wr_nat (z:=(f : Int) + 2) (n:=f2) (by omega) (by omega))
   have V6:=hide (wr_nat (z:=(f : Int) + 3) (n:=f3) (by omega) (by omega))
   have i0 : f < n /\ f1 < n /\ f2 < n /\ f3 < n:=by omega
   obtain ⟨i0,i1,i2,i3⟩:=i0
   have j0 : (f : Int) < (n : Int):=by omega
   have j1 : (f1 : Int) < (n : Int):=by omega
   have j2 : (f2 : Int) < (n : Int):=by omega
   have j3 : (f3 : Int) < (n : Int):=by omega
   obtain ⟨bb,oo,rfl,hcell⟩:=hb2.addr (by rw [bvals_length]; omega)
   have c0:=cell_of hcell (i:=f) (by omega)
   have c1:=cell_of hcell (i:=f1) (by omega)
   have c2:=cell_of hcell (i:=f2) (by omega)
   have c3:=cell_of hcell (i:=f3) (by omega)
   have hv : (at4 l p).val = .agg #[.int .u8 ((l.getD f 0).toNat : Int),.int .u8 ((l.getD f1 0).toNat : Int),.int .u8 ((l.getD f2 0).toNat : Int),.int .u8 ((l.getD f3 0).toNat : Int)]:=by rw [hf3,hf2,hf1,hf]; rfl
   rw [hv]
   generalize (l.getD f 0).toNat = z0 at *
   generalize (l.getD f1 0).toNat = z1 at *
   generalize (l.getD f2 0).toNat = z2 at *
   generalize (l.getD f3 0).toNat = z3 at *
   have H0:=hide (aI o2 (aI hz hm))
   have hk0 : ∀ w1,Only [] ((w.alloc (.cells #[.int .i64 (W : Int),.int .i64 (H : Int),.slice (some ⟨bb,oo,none⟩) n c] 32)).alloc (.cells #[.int .u8 0,.int .u8 0,.int .u8 0,.int .u8 0] 70)) w1 -> w1.cell? ⟨bb,oo + f,none⟩ = some (.int .u8 (z0 : Int)) /\ w1.cell? ⟨bb,oo + f1,none⟩ = some (.int .u8 (z1 : Int)) /\ w1.cell? ⟨bb,oo + f2,none⟩ = some (.int .u8 (z2 : Int)) /\ w1.cell? ⟨bb,oo + f3,none⟩ = some (.int .u8 (z3 : Int)):=fun w1 ho=>by
    have hlt:=World.block_lt_of_cell? _ _ c0
    exact ⟨(ho.cell (p:=⟨bb,oo + f,none⟩) hlt (by simp)).trans c0,(ho.cell (p:=⟨bb,oo + f1,none⟩) hlt (by simp)).trans c1,(ho.cell (p:=⟨bb,oo + f2,none⟩) hlt (by simp)).trans c2,(ho.cell (p:=⟨bb,oo + f3,none⟩) hlt (by simp)).trans c3⟩
   have HK:=hide hk0
   obtain ⟨v1,y1⟩:=V1.out
   obtain ⟨v2,y2⟩:=V2.out
   obtain ⟨v3,y3⟩:=V3.out
   clear V1 V2 V3 hin e0 hok hb hl hb2 hfit hle hD hpp hf hf1 hf2 hf3 ha hb' hcell hv o2 hz hm c0 c1 c2 c3 hk0
   show Calls Tryz.prog 24 #[.agg #[.int .i64 W,.int .i64 H,.slice (some ⟨bb,oo,none⟩) n c],.int .i64 a,.int .i64 b] w _
   go_enter Tryz.func24,Tryz.ntmps24
   go_wp2_with fail
   refine (HI.out _).mono ?_
   rintro e w1 ⟨rfl,ho1⟩
   obtain ⟨o2,hz,hm⟩:=H0.out
   obtain ⟨k0,k1,k2,k3⟩:=HK.out _ ho1
   have hz1:=hz.only ho1 (by simp)
   have hm1:=hm.only ho1 (by simp)
   have o3:=o2.trans ho1 (S:=[]) (by simp)
   have a0 : w1.cell? ⟨w.heap.size,0,none⟩ = some (.int .i64 (W : Int)):=hm1.cell 0
   have a2 : w1.cell? ⟨w.heap.size,2,none⟩ = some (.slice (some ⟨bb,oo,none⟩) n c):=hm1.cell 2
   have HZ:=hide (aI hz1 o3)
   have r0 : w1.cell? ⟨w.heap.size + 1,0,none⟩ = some (.int .u8 0):=hz1.cell 0
   have r1 : w1.cell? ⟨w.heap.size + 1,1,none⟩ = some (.int .u8 0):=hz1.cell 1
   have r2 : w1.cell? ⟨w.heap.size + 1,2,none⟩ = some (.int .u8 0):=hz1.cell 2
   have r3 : w1.cell? ⟨w.heap.size + 1,3,none⟩ = some (.int .u8 0):=hz1.cell 3
   have s0:=hz1.free 0
   have s1:=hz1.free 1
   have s2:=hz1.free 2
   have s3:=hz1.free 3
   clear ho1 hm hz hz1 hm1 o2 o3 HI
   go_wp2_with fail
   obtain ⟨v4,y4⟩:=V4.out
   obtain ⟨v5,y5⟩:=V5.out
   obtain ⟨v6,y6⟩:=V6.out
   clear V4 V5 V6 v1 y1 v2 y2 v3 y3
   go_still_tail 24,(by kernel_rfl)
   change wpList _ _ _ _ _ w1.drew
   obtain ⟨hz1,o3⟩:=HZ.out
   have hz2:=hz1.drew
   have o4:=o3.drew
   go_wp2_with (refine list_store_row' rfl 70 (.tmp 6) (.tmp 45) rfl (w.heap.size + 1) #[.int .u8 (z0 : Int),.int .u8 (z1 : Int),.int .u8 (z2 : Int),.int .u8 (z3 : Int)] rfl rfl 70 _ hz2 (by kernel_rfl) rfl (by simp [Value.oneCell']) ?_; intro w3 hT3 hO3)
   exact bodyPost_ret (results_row_two Tryz.results24 _ _ (w.heap.size + 1) 70 _ _ rfl hT3 Tryz.underlying70 rfl (by kernel_rfl)) rfl ⟨rfl,o4.trans hO3 (by intro i hi hlt; simp at hi; omega)⟩
theorem fPasses_any (g : Nat) (cs : Array Value) (l : Int) (w : World) (hg : Has w g 64 cs) (h4 : cs[4]? = some (.int .i64 l)) :
 Calls Tryz.prog 22 #[.pointer (some ⟨g,0,none⟩)] w fun e w'=>∃ A c,e = .returned (.slice A (if l = 1 then 7 else 1) c) /\ Holds w' 4 A (if l = 1 then 7 else 1) (if l = 1 then pvals 7 else [.int .i64 0,.int .i64 0,.int .i64 1,.int .i64 1]) /\ Only [] w w':=by
 have c4:=(hg.cell 4).trans h4
 have HP:=hide (fun w=>refPasses_any w)
 by_cases h : l = 1
 ·rw [if_pos h,if_pos h]
  subst h
  clear hg h4
  go_enter Tryz.func22,Tryz.ntmps22
  go_wp2_with fail
  refine (HP.out _).mono ?_
  rintro e w1 ⟨A,c,rfl,h1,h2⟩
  have H1:=hide (aI h1 h2)
  clear h1 h2
  go_wp2_with fail
  go_ret
  exact ⟨A,c,rfl,H1.out.1,H1.out.2⟩
 ·rw [if_neg h,if_neg h]
  clear hg h4
  have hl:=holds4 w 0 0 1 1 47
  go_enter Tryz.func22,Tryz.ntmps22
  go_wp2_with fail
  go_ret
  exact ⟨_,_,rfl,holds4 _ _ _ _ _ _,(Only.refl [] w).alloc _⟩
def Px.bytes (c : Px) : List UInt8:=[c.r,c.g,c.b,c.a]
theorem at4_bytes (M : List UInt8) (p : Nat) (h : 4 * p + 4 <= M.length) : (at4 M p).bytes = (M.drop (4 * p)).take 4:=by
 unfold at4 Px.bytes
 have e : ∀ i,M.getD (4 * p + i) 0 = (M.drop (4 * p)).getD i 0:=fun i=>by
  rw [List.getD_eq_getElem?_getD,List.getD_eq_getElem?_getD,List.getElem?_drop]
 rw [show M.getD (4 * p) 0 = (M.drop (4 * p)).getD 0 0 from e 0,e 1,e 2,e 3]
 have hl : 4 <= (M.drop (4 * p)).length:=by rw [List.length_drop]; omega
 generalize M.drop (4 * p) = L at hl ⊢
 match L,hl with
 | a :: b :: c :: d :: t,_=>rfl
theorem px_vals (c : Px) : bvals c.bytes = c.cells.toList:=rfl
theorem row_spot {r : Rw} {W H : Nat} {M : List UInt8} (h : RwOk r W H) (_hW : W <= 16384) (_hH : H <= 16384) (hn : M.length = 4 * (W * H)) (x : Nat) (hx : (x : Int) < r.w) :
 isIn W H (r.X + (x : Int) * r.DX) (r.Y + (r.y : Int) * r.DY) = true /\ (atP W H M (r.X + (x : Int) * r.DX) (r.Y + (r.y : Int) * r.DY)).bytes = (M.drop (spotI r W x).toNat).take 4:=by
 have h1:=h.row
 have h2:=h.col x hx
 have hy:=h.y0
 have hxx:=h.x0
 have hdx:=h.dx
 have hdy:=h.dy
 have p1 : 0 <= (r.y : Int) * r.DY:=Int.mul_nonneg (by omega) (by omega)
 have p2 : 0 <= (x : Int) * r.DX:=Int.mul_nonneg (by omega) (by omega)
 have hin : isIn W H (r.X + (x : Int) * r.DX) (r.Y + (r.y : Int) * r.DY) = true:=decide_eq_true (by omega)
 refine ⟨hin,?_⟩
 unfold atP
 rw [if_pos hin]
 obtain ⟨a,ha⟩ : ∃ a : Nat,r.Y + (r.y : Int) * r.DY = a:=Int.eq_ofNat_of_zero_le (by omega)
 obtain ⟨b,hb⟩ : ∃ b : Nat,r.X + (x : Int) * r.DX = b:=Int.eq_ofNat_of_zero_le (by omega)
 have hs : spotI r W x = ((4 * (a * W + b) : Nat) : Int):=by
  have e : spotI r W x = ((r.Y + (r.y : Int) * r.DY) * W + (r.X + (x : Int) * r.DX)) * 4:=by unfold spotI; omega
  rw [e,ha,hb]
  push_cast
  omega
 rw [hs,Int.toNat_natCast,ha,hb,Int.toNat_natCast,Int.toNat_natCast]
 refine at4_bytes M _ ?_
 have hok : (a + 1) * W <= H * W:=Nat.mul_le_mul_right _ (by omega)
 rw [Nat.succ_mul,Nat.mul_comm H] at hok
 have : b < W:=by omega
 omega
theorem pgPs_eq (l : Int) (hl : l = 0 \/ l = 1) : (if l = 1 then 7 else 1) = pgN l /\ (if l = 1 then pvals 7 else [.int .i64 0,.int .i64 0,.int .i64 1,.int .i64 1]) = pgPs l:=by
 rcases hl with rfl | rfl <;> exact ⟨rfl,rfl⟩
theorem rSign_any (w : World) : Calls Tryz.prog 60 #[] w fun e w' =>
 e = .returned (.slice (some ⟨w.heap.size,0,none⟩) 8 8) /\ Has w' w.heap.size 5 (bvals sigB).toArray /\ Only [] w w':=by
 have hv : bvals sigB = [.int .u8 137,.int .u8 80,.int .u8 78,.int .u8 71,.int .u8 13,.int .u8 10,.int .u8 26,.int .u8 10]:=by kernel_rfl
 rw [hv]
 clear hv
 go_enter Tryz.func60,Tryz.ntmps60
 go_wp2_with fail
 go_ret
 exact ⟨rfl,Has.new w _ _,(Only.refl [] w).alloc _⟩
end Go.Proofs.YtjfjmkkkbcgohaaGreatDoor
