import Derived.Test.YtjfjmkkkbcgohaaGreatDoorMPgA
import Derived.Deep.RegionWith
import Derived.Deep.RegionLaw
import Derived.Deep.RegionHeld3
import Derived.Deep.LoopGhost
namespace Go.Proofs.YtjfjmkkkbcgohaaGreatDoor
open Go Go.RowKit
def WrL (w : World) (g : Nat) (v : Value) (l : List UInt8) (rest cnt : Nat) (N n : Nat) : Prop :=
 Has w g 197 #[v,.int .u64 rest,.int .i64 cnt] /\ w.ownsRow 0 5 1 v l.length (bvals l) /\ rest < 2 ^ cnt /\ N = num l + 256 ^ l.length * rest /\ n = 8 * l.length + cnt
def Wr (w : World) (g : Nat) (v : Value) (N n : Nat) : Prop:=∃ l rest cnt,WrL w g v l rest cnt N n /\ cnt < 8
def WSince (w : World) (g : Nat) (v : Value) (w' : World) (v' : Value) : Prop :=
 Only (g :: v.ownBlock.toList) w w' /\ (∀ b,v'.ownBlock = some b -> v.ownBlock = some b \/ w.heap.size <= b)
def WLoop (w : World) (g : Nat) (v : Value) (N n : Nat) (q : Nat) (w' : World) : Prop :=
 ∃ v' l rest,WrL w' g v' l rest q N n /\ q <= 39 /\ n <= 140737488355328 /\ WSince w g v w' v'
theorem WLoop.step {w wr w1 : World} {g : Nat} {v v1 : Value} {l1 : List UInt8} {rest1 q N n : Nat} {A : Option Addr} {c : Nat} {b : UInt8} {o : Obj}
 (hW : WrL wr g v1 l1 rest1 q N n) (hq : q <= 39) (h8 : 8 <= q) (hmax : n <= 140737488355328) (hs : WSince w g v wr v1) (hb : b.toNat = rest1 % 256)
 (hown1 : w1.ownsRow 0 5 1 (.slice A (l1.length + 1) c) (l1.length + 1) (bvals l1 ++ [.int .u8 (b.toNat : Int)])) (hgrow : (wr.alloc o).drew.grownBy w1 v1.ownBlock)
 (hat : (Value.slice A (l1.length + 1) c).ownBlock = v1.ownBlock \/ (Value.slice A (l1.length + 1) c).ownBlock = some (wr.alloc o).drew.heap.size) :
 WLoop w g v N n (q - 8) (((w1.setCell ⟨g,0,none⟩ (.slice A (l1.length + 1) c)).setCell ⟨g,1,none⟩ (.int .u64 ((rest1 : Int) / 256))).setCell ⟨g,2,none⟩ (.int .i64 ((q : Int) - 8))):=by
 obtain ⟨hh,hown,hr,hN,hn⟩:=hW
 have hne:=own_ne hown hh (by decide)
 have hh1 : Has w1 g 197 #[v1,.int .u64 (rest1 : Int),.int .i64 (q : Int)]:=(hh.alloc o).drew.grown hgrow hne
 have hne1:=own_ne hown1 hh1 (by decide)
 have hpow : 2 ^ q = 256 * 2 ^ (q - 8):=by rw [show q = (q - 8) + 8 from by omega,Nat.pow_add]; simp; omega
 refine ⟨.slice A (l1.length + 1) c,l1 ++ [b],rest1 / 256,⟨?_,?_,?_,?_,?_⟩,by omega,hmax,?_,?_⟩
 ·have h2:=((hh1.set 0 (.slice A (l1.length + 1) c)).set 1 (.int .u64 ((rest1 : Int) / 256))).set 2 (.int .i64 ((q : Int) - 8))
  have e1 : ((rest1 / 256 : Nat) : Int) = (rest1 : Int) / 256:=by omega
  have e2 : ((q - 8 : Nat) : Int) = (q : Int) - 8:=by omega
  rw [e1,e2]
  simpa using h2
 ·have h3:=ownsRow_setCell_other (ownsRow_setCell_other (ownsRow_setCell_other hown1 (a:=⟨g,0,none⟩) (fun h=>hne1 h.symm) (.slice A (l1.length + 1) c)) (a:=⟨g,1,none⟩) (fun h=>hne1 h.symm) (.int .u64 ((rest1 : Int) / 256))) (a:=⟨g,2,none⟩) (fun h=>hne1 h.symm) (.int .i64 ((q : Int) - 8))
  rw [bvals_append,List.length_append]
  exact h3
 ·rw [hpow] at hr; omega
 ·rw [hN,num_snoc,List.length_append,List.length_singleton,Nat.pow_succ,hb,Nat.add_assoc,Nat.mul_assoc,<- Nat.mul_add]
  congr 2; omega
 ·rw [hn,List.length_append,List.length_singleton]; omega
 ·have h4 : Only (g :: v.ownBlock.toList) w w1:=(hs.1.alloc o).drew.grown hgrow (by
   intro k hk hlt
   rcases hs.2 k hk with h | h
   ·simp [h]
   ·omega)
  exact ((h4.setCell (by simp) _).setCell (by simp) _).setCell (by simp) _
 ·intro k hk
  rcases hat with h | h
  ·rw [h] at hk; exact hs.2 k hk
  ·rw [h] at hk
   right
   have h5 : (wr.alloc o).drew.heap.size = k:=by injection hk
   have h6 : wr.heap.size + 1 = k:=by rw [<- h5]; simp
   have:=hs.1.size
   omega
set_option maxRecDepth 100000 in
set_option maxHeartbeats 2000000 in
theorem wbits_any (g : Nat) (v : Value) (l : List UInt8) (rest cnt N n : Nat) (x k : Nat) (w : World) (hW : WrL w g v l rest cnt N n) (hc : cnt < 8) (hx : x < 4294967296) (hk0 : 1 <= k) (hk1 : k <= 32) (hn : n + k <= 140737488355328) :
 Calls Tryz.prog 82 #[.pointer (some ⟨g,0,none⟩),.int .u32 x,.int .i64 k] w fun e w' =>
  e = .returned (.tuple #[]) /\ ∃ v',Wr w' g v' (N + (x % 2 ^ k) * 2 ^ n) (n + k) /\ WSince w g v w' v':=by
 have c0 : w.cell? ⟨g,0,none⟩ = some v:=hW.1.cell 0
 have c1 : w.cell? ⟨g,1,none⟩ = some (.int .u64 (rest : Int)):=hW.1.cell 1
 have c2 : w.cell? ⟨g,2,none⟩ = some (.int .i64 (cnt : Int)):=hW.1.cell 2
 have f1 : w.frozen? ⟨g,1,none⟩ = false:=hW.1.free 1
 have f2 : w.frozen? ⟨g,2,none⟩ = false:=hW.1.free 2
 obtain ⟨X,hX⟩ : ∃ X,X = x % 2 ^ k:=⟨_,rfl⟩
 obtain ⟨Y,hY⟩ : ∃ Y,Y = rest + X * 2 ^ cnt:=⟨_,rfl⟩
 have hX32 : X < 2 ^ k:=by rw [hX]; exact Nat.mod_lt _ (Nat.two_pow_pos k)
 have hr : rest < 2 ^ cnt:=hW.2.2.1
 have hXm : X * 2 ^ cnt + 2 ^ cnt <= 2 ^ (cnt + k):=by
  rw [Nat.pow_add,Nat.mul_comm (2 ^ cnt),<- Nat.succ_mul]; exact Nat.mul_le_mul_right _ hX32
 have h39 : 2 ^ (cnt + k) <= 1099511627776:=pow_le40 (by omega)
 have e1 : IntKind.u64.wrap ((X : Int) * 2 ^ cnt) = (X : Int) * 2 ^ cnt:=by
  rw [<- two_pow_cast,<- Int.natCast_mul]; exact IntWalk.u64_in _ ⟨by omega,by omega⟩
 have e2 : bits .or .u64 (rest : Int) ((X : Int) * 2 ^ cnt) = (Y : Int):=by
  rw [hY,<- two_pow_cast,<- Int.natCast_mul]; exact u64_join _ _ _ hr (by omega)
 have e0 : IntKind.u64.wrap (x : Int) = x:=IntWalk.u64_in _ ⟨by omega,by omega⟩
 have e3 : (cnt : Int) + k = ((cnt + k : Nat) : Int):=rfl
 have hYlt : Y < 2 ^ (cnt + k):=by omega
 have hstart : ∀ d,WLoop w g v (N + (x % 2 ^ k) * 2 ^ n) (n + k) (cnt + k) (((w.setCell ⟨g,1,none⟩ (.int .u64 (Y : Int))).setCell ⟨g,2,none⟩ (.int .i64 ((cnt : Int) + k))).drewN d):=by
  intro d
  obtain ⟨hh,hown,_,hN,hn'⟩:=hW
  have hb:=own_ne hown hh (by decide)
  refine ⟨v,l,Y,⟨?_,?_,hYlt,?_,?_⟩,by omega,hn,?_,fun b hb=>.inl hb⟩
  ·have h2:=(hh.set 1 (.int .u64 (Y : Int))).set 2 (.int .i64 ((cnt : Int) + k))
   exact (by simpa using h2 : Has _ g 197 #[v,.int .u64 (Y : Int),.int .i64 ((cnt : Int) + k)]).drewN d
  ·exact ownsRow_setCell_other (ownsRow_setCell_other hown (fun h=>hb h.symm) _) (fun h=>hb h.symm) _
  ·rw [hN,hn',hY,hX,Nat.mul_add,Nat.pow_add,pow_256]
   generalize x % 2 ^ k = X
   rw [Nat.mul_left_comm X,Nat.add_assoc]
  ·rw [hn']; omega
  ·exact (((Only.refl _ _).setCell (by simp) _).setCell (by simp) _).drewN d
 have HS:=hide hstart
 have HX:=hide hX
 clear hX hY hstart
 clear hW e3
 go_enter Tryz.func82,Tryz.ntmps82
 go_wp2_with fail
 go_still_tail 16,(by kernel_rfl)
 still_call ((lowest_any (x : Int) x k w.drew rfl (by omega) hk1).mono (fun e w' h=>⟨h.1.trans (by rw [<- HX.out]),h.2.symm⟩))
 repeat still_step
 refine wpStill_nil ?_
 change wpList _ _ _ _ _ w.drew
 go_wp2_with fail
 go_loopg [41] (cnt + k) (fun q _ wr=>WLoop w g v (N + (x % 2 ^ k) * 2 ^ n) (n + k) q wr)
 case atStart=>exact HS.out 1
 case round =>
  obtain ⟨v1,l1,rest1,⟨hh,hown,hr1,hN1,hn1⟩,hq,hmax,hs⟩:=hrel
  by_cases h8 : 8 <= gk
  ·have c0 : wr.cell? ⟨g,0,none⟩ = some v1:=hh.cell 0
   have c1 : wr.cell? ⟨g,1,none⟩ = some (.int .u64 (rest1 : Int)):=hh.cell 1
   have c2 : wr.cell? ⟨g,2,none⟩ = some (.int .i64 (gk : Int)):=hh.cell 2
   have f0 : wr.frozen? ⟨g,0,none⟩ = false:=hh.free 0
   have hb:=own_ne hown hh (by decide)
   have glt:=hh.lt
   obtain ⟨by1,hby⟩ : ∃ b : UInt8,b.toNat = rest1 % 256:=⟨UInt8.ofNat rest1,by simp⟩
   have e8 : IntKind.u8.wrap (rest1 : Int) = (by1.toNat : Int):=by
    rw [IntKind.wrap_u8,hby]; omega
   have HB:=hide hby
   clear hby
   obtain ⟨i0,hi0,hz0,hz1,hz2⟩:=info_of u8_info
   have hlen : l1.length <= 140737488355327:=by omega
   have HN:=hide (aI hN1 hn1)
   clear hN1 hn1
   go_wp2_with fail
   have hone : ∀ u ∈ [Value.int .u8 (by1.toNat : Int)],u.oneCell' = true:=by simp [Value.oneCell']
   have hroom : (l1.length + 1) * 1 <= 140737488355328:=by omega
   have hnew : Holds (wr.alloc (.cells #[.int .u8 (by1.toNat : Int)] 5)).drew 1 (some ⟨wr.heap.size,0,none⟩) 1 [.int .u8 (by1.toNat : Int)] :=
    Holds.lit wr #[.int .u8 (by1.toNat : Int)] 5
   have hold : (wr.alloc (.cells #[.int .u8 (by1.toNat : Int)] 5)).drew.ownsRow 0 5 1 v1 l1.length (bvals l1):=hown.alloc _
   have hhas : Has (wr.alloc (.cells #[.int .u8 (by1.toNat : Int)] 5)).drew g 197 #[v1,.int .u64 (rest1 : Int),.int .i64 (gk : Int)]:=hh.alloc _
   go_region_law ((refine step_append _ rfl (.tmp 45) (.tmp 51) 22 rfl 0 1 1 Tryz.underlying22 hi0 hz0 hz1 hz2 rfl (Nat.zero_lt_one) hold rfl hnew rfl hone hroom (Nat.zero_lt_one) (Nat.zero_le _) ?_; intro A2 cc2 w1 hown1 hgrow hat; have cw0 : w1.cell? ⟨g,0,none⟩ = some v1:=(hhas.grown hgrow hb).cell 0; have fw0 : w1.frozen? ⟨g,0,none⟩ = false:=(hhas.grown hgrow hb).free 0; have cw1 : w1.cell? ⟨g,1,none⟩ = some (.int .u64 (rest1 : Int)):=(hhas.grown hgrow hb).cell 1; have fw1 : w1.frozen? ⟨g,1,none⟩ = false:=(hhas.grown hgrow hb).free 1; have cw2 : w1.cell? ⟨g,2,none⟩ = some (.int .i64 (gk : Int)):=(hhas.grown hgrow hb).cell 2; have fw2 : w1.frozen? ⟨g,2,none⟩ = false:=(hhas.grown hgrow hb).free 2))
   all_goals go_wp2
   all_goals
    go_roundg (gk - 8)
    case measure=>omega
    case rel=>exact WLoop.step ⟨hh,hown,hr1,HN.out.1,HN.out.2⟩ hq h8 hmax hs HB.out hown1 hgrow hat
  ·have c2 : wr.cell? ⟨g,2,none⟩ = some (.int .i64 (gk : Int)):=hh.cell 2
   have h8' : gk < 8:=by omega
   have HN:=hide (aI hN1 hn1)
   clear h8 hN1 hn1
   go_wp2_with fail
   go_end0
   exact ⟨rfl,v1,⟨l1,rest1,gk,⟨hh,hown,hr1,HN.out.1,HN.out.2⟩,h8'⟩,hs⟩
def toByte (k : Nat) : Nat:=(8 - k % 8) % 8
set_option maxHeartbeats 400000 in
theorem align_any (g : Nat) (v : Value) (l : List UInt8) (k : Nat) (w : World) (hR : Rd w g v l k) :
 Calls Tryz.prog 178 #[.pointer (some ⟨g,0,none⟩)] w fun e w' =>
  e = .returned (.int .i64 (toByte k : Nat)) /\ Only [g] w w' /\ Rd w' g v l (k + toByte k):=by
 have hk : k <= 8 * l.length:=hR.2.2.2
 have hl : l.length <= 140737488355328:=hR.2.2.1
 have c1 : w.cell? ⟨g,1,none⟩ = some (.int .i64 (k : Int)):=hR.1.cell 1
 have f1 : w.frozen? ⟨g,1,none⟩ = false:=hR.1.free 1
 have ht : k + toByte k <= 8 * l.length:=by unfold toByte; omega
 have e7 : bits BinOp.and IntKind.i64 (-(k : Int)) 7 = (toByte k : Nat):=by rw [i64_and7]; unfold toByte; omega
 generalize toByte k = q at *
 go_enter Tryz.func178,Tryz.ntmps178
 go_wp2
 go_ret
 exact ⟨rfl,(Only.refl _ _).setCell (by simp) _,hR.set (j:=k + q) ht⟩
def okBytes (len k : Nat) (n : Int) : Bool:=decide (k % 8 = 0 /\ 0 <= n /\ n <= ((len - k / 8 : Nat) : Int))
def gotBytes (l : List UInt8) (k : Nat) (n : Int) : List UInt8:=if okBytes l.length k n then (l.drop (k / 8)).take n.toNat else []
set_option maxHeartbeats 400000 in
theorem bytes_no (g : Nat) (v : Value) (l : List UInt8) (k : Nat) (n : Int) (w : World) (hR : Rd w g v l k) (hno : ¬ (k % 8 = 0 /\ 0 <= n /\ n <= ((l.length - k / 8 : Nat) : Int))) :
 Calls Tryz.prog 179 #[.pointer (some ⟨g,0,none⟩),.int .i64 n] w fun e w' =>
  e = .returned (.tuple #[.slice none 0 0,.bool false]) /\ w = w':=by
 have hk : k <= 8 * l.length:=hR.2.2.2
 have hl : l.length <= 140737488355328:=hR.2.2.1
 obtain ⟨A,c,rfl,hc,hA⟩:=own_shape hR.2.1
 have c1 : w.cell? ⟨g,1,none⟩ = some (.int .i64 (k : Int)):=hR.1.cell 1
 have c0 : w.cell? ⟨g,0,none⟩ = some (.slice A l.length c):=hR.1.cell 0
 have e7 : bits BinOp.and IntKind.i64 (k : Int) 7 = ((k % 8 : Nat) : Int):=by rw [i64_and7]; omega
 by_cases h8 : k % 8 = 0
 ·have e7' : bits BinOp.and IntKind.i64 (k : Int) 7 = 0:=by rw [e7,h8]; rfl
  clear e7
  by_cases h0 : n < 0
  ·clear hno h8
   go_enter Tryz.func179,Tryz.ntmps179
   go_wp2
   go_ret2
   exact ⟨rfl,rfl⟩
  ·have h1 : ((l.length : Int) - (k : Int) / 8) < n:=by omega
   clear hno h8
   go_enter Tryz.func179,Tryz.ntmps179
   go_wp2
   go_ret2
   exact ⟨rfl,rfl⟩
 ·have hq : 0 < k % 8:=by omega
  generalize k % 8 = q at *
  clear hno h8
  go_enter Tryz.func179,Tryz.ntmps179
  go_wp2
  go_ret2
  exact ⟨rfl,rfl⟩
theorem Rd.holds {w : World} {g : Nat} {l : List UInt8} {k c : Nat} {A : Option Addr} (hR : Rd w g (.slice A l.length c) l k) {f m : Nat} (hm : f + m <= l.length) :
 Holds w 1 (A.map (·.add f)) m (bvals ((l.drop f).take m)):=by
 have h:=(Holds.of_own hR.2.1).cut hm
 simpa [bvals_take,bvals_drop] using h
set_option maxHeartbeats 400000 in
theorem bytes_zero (g : Nat) (v : Value) (l : List UInt8) (k : Nat) (w : World) (hR : Rd w g v l k) (h8 : k % 8 = 0) :
 Calls Tryz.prog 179 #[.pointer (some ⟨g,0,none⟩),.int .i64 0] w fun e w' =>
  ∃ rv,e = .returned (.tuple #[rv,.bool true]) /\ w'.ownsRow w.heap.size 5 1 rv 0 (bvals []) /\ Only [g] w w' /\ Rd w' g v l k:=by
 have hk : k <= 8 * l.length:=hR.2.2.2
 have hl : l.length <= 140737488355328:=hR.2.2.1
 obtain ⟨A,c,rfl,hc,hA⟩:=own_shape hR.2.1
 have c1 : w.cell? ⟨g,1,none⟩ = some (.int .i64 (k : Int)):=hR.1.cell 1
 have f1 : w.frozen? ⟨g,1,none⟩ = false:=hR.1.free 1
 have c0 : w.cell? ⟨g,0,none⟩ = some (.slice A l.length c):=hR.1.cell 0
 have e7 : bits BinOp.and IntKind.i64 (k : Int) 7 = 0:=by rw [i64_and7]; omega
 have hk8 : ((k : Int) / 8 * 8) = k:=by omega
 have HS:=hide (hR.set (j:=k) hk)
 have Hk:=hide hk8
 clear hk8
 go_enter Tryz.func179,Tryz.ntmps179
 go_wp2_with fail
 rw [Hk.out]
 refine (clone_any A 0 0 [] _ (Holds.empty _ _ _) (by omega) (by simp)).mono ?_
 rintro e w' ⟨rv,rfl,hown,ho⟩
 go_wp2
 go_ret2
 refine ⟨rv,rfl,by simpa using hown,((Only.refl _ _).setCell (p:=⟨g,1,none⟩) (by simp) _).trans ho (by simp),HS.out.only ho (by simp) (by simp)⟩
set_option maxHeartbeats 400000 in
theorem bytes_yes (g : Nat) (v : Value) (l : List UInt8) (k n : Nat) (w : World) (hR : Rd w g v l k) (h8 : k % 8 = 0) (hn : n <= l.length - k / 8) (hp : 0 < n) :
 Calls Tryz.prog 179 #[.pointer (some ⟨g,0,none⟩),.int .i64 n] w fun e w' =>
  ∃ rv,e = .returned (.tuple #[rv,.bool true]) /\ w'.ownsRow w.heap.size 5 1 rv n (bvals ((l.drop (k / 8)).take n)) /\ Only [g] w w' /\ Rd w' g v l (k + 8 * n):=by
 have hk : k <= 8 * l.length:=hR.2.2.2
 have hl : l.length <= 140737488355328:=hR.2.2.1
 obtain ⟨A,c,rfl,hc,hA⟩:=own_shape hR.2.1
 have c1 : w.cell? ⟨g,1,none⟩ = some (.int .i64 (k : Int)):=hR.1.cell 1
 have f1 : w.frozen? ⟨g,1,none⟩ = false:=hR.1.free 1
 have c0 : w.cell? ⟨g,0,none⟩ = some (.slice A l.length c):=hR.1.cell 0
 have e7 : bits BinOp.and IntKind.i64 (k : Int) 7 = 0:=by rw [i64_and7]; omega
 have hk8 : (((k : Int) / 8 + n) * 8) = ((k + 8 * n : Nat) : Int):=by omega
 have HS:=hide (hR.set (j:=k + 8 * n) (by omega))
 have Hk:=hide hk8
 have hne : ¬ n = 0:=by omega
 clear hk8
 go_enter Tryz.func179,Tryz.ntmps179
 go_wp2_with fail
 rw [Hk.out]
 refine (clone_any _ n _ _ _ (HS.out.holds (f:=k / 8) (m:=n) (by omega)) (by omega) ?_).mono ?_
 ·intro hA'
  have:=hA (by cases A with
   | none=>rfl
   | some _=>simp at hA')
  omega
 rintro e w' ⟨rv,rfl,hown,ho⟩
 go_wp2
 go_ret2
 refine ⟨rv,rfl,by simpa using hown,((Only.refl _ _).setCell (p:=⟨g,1,none⟩) (by simp) _).trans ho (by simp),HS.out.only ho (by simp) (by simp)⟩
theorem bytes_any (g : Nat) (v : Value) (l : List UInt8) (k : Nat) (n : Int) (w : World) (hR : Rd w g v l k) :
 Calls Tryz.prog 179 #[.pointer (some ⟨g,0,none⟩),.int .i64 n] w fun e w' =>
  ∃ rv,e = .returned (.tuple #[rv,.bool (okBytes l.length k n)]) /\ w'.ownsRow w.heap.size 5 1 rv (gotBytes l k n).length (bvals (gotBytes l k n)) /\ Only [g] w w' /\
    Rd w' g v l (k + 8 * (gotBytes l k n).length):=by
 by_cases hok : k % 8 = 0 /\ 0 <= n /\ n <= ((l.length - k / 8 : Nat) : Int)
 ·have hb : okBytes l.length k n = true:=by simp only [okBytes,decide_eq_true_eq]; exact hok
  have hg : gotBytes l k n = (l.drop (k / 8)).take n.toNat:=by rw [gotBytes,if_pos hb]
  obtain ⟨h8,h0,h1⟩:=hok
  obtain ⟨n,rfl⟩:=Int.eq_ofNat_of_zero_le h0
  have hlen : ((l.drop (k / 8)).take n).length = n:=by rw [List.length_take,List.length_drop]; omega
  rw [hb,hg,Int.toNat_natCast,hlen]
  rcases Nat.eq_zero_or_pos n with h | h
  ·subst h
   exact bytes_zero g v l k w hR h8
  ·exact bytes_yes g v l k n w hR h8 (by omega) h
 ·have hb : okBytes l.length k n = false:=by simp only [okBytes,decide_eq_false_iff_not]; exact hok
  have hg : gotBytes l k n = []:=by rw [gotBytes,hb]; rfl
  rw [hb,hg]
  refine (bytes_no g v l k n w hR hok).mono ?_
  rintro e w' ⟨rfl,rfl⟩
  exact ⟨_,rfl,World.ownsRow_nil _ _ _ _,Only.refl _ _,hR⟩
set_option maxHeartbeats 400000 in
theorem newReader_any (A : Option Addr) (n c : Nat) (l : List UInt8) (w : World) (h : Holds w 1 A n (bvals l)) (hl : l.length = n) (hn : n <= 140737488355328) (hA : A = none -> c = 0 /\ n = 0) :
 Calls Tryz.prog 160 #[.slice A n c] w fun e w' =>
  ∃ g v,e = .returned (.pointer (some ⟨g,0,none⟩)) /\ w.heap.size <= g /\ (∀ b,v.ownBlock = some b -> w.heap.size <= b) /\ Rd w' g v l 0 /\ Only [] w w':=by
 subst hl
 go_enter Tryz.func160,Tryz.ntmps160
 go_wp2_with fail
 refine (clone_any A _ c l _ h hn hA).mono ?_
 rintro e w' ⟨v,rfl,hown,ho⟩
 obtain ⟨A',c',rfl,hc',hA'⟩:=own_shape hown
 have hlt:=hown.lt
 have ho2 : Only [] w (w'.alloc (.cells #[.slice A' l.length c',.int .i64 0] 250)):=ho.alloc _
 have hrd : Rd (w'.alloc (.cells #[.slice A' l.length c',.int .i64 0] 250)) w'.heap.size (.slice A' l.length c') l 0 :=
  ⟨Has.new _ _ _,own_mono (hown.alloc _) (Nat.zero_le _),hn,by omega⟩
 have hsz:=ho.size
 go_wp2
 go_ret
 exact ⟨w'.heap.size,_,rfl,hsz,fun b hb=>(hlt b hb).1,hrd,ho2⟩
set_option maxHeartbeats 400000 in
theorem newWriter_any (w : World) :
 Calls Tryz.prog 78 #[] w fun e w' =>
  ∃ g,e = .returned (.pointer (some ⟨g,0,none⟩)) /\ w.heap.size <= g /\ Wr w' g (.slice none 0 0) 0 0 /\ Only [] w w':=by
 have hwr : Wr (w.alloc (.cells #[.slice none 0 0,.int .u64 0,.int .i64 0] 197)) w.heap.size (.slice none 0 0) 0 0 :=
  ⟨[],0,0,⟨Has.new _ _ _,World.ownsRow_nil _ _ _ _,by decide,rfl,rfl⟩,by decide⟩
 have ho : Only [] w (w.alloc (.cells #[.slice none 0 0,.int .u64 0,.int .i64 0] 197)):=(Only.refl _ _).alloc _
 go_enter Tryz.func78,Tryz.ntmps78
 go_wp2
 go_ret
 exact ⟨w.heap.size,rfl,Nat.le_refl _,hwr,ho⟩
theorem WSince.refl (w : World) (g : Nat) (v : Value) : WSince w g v w v:=⟨Only.refl _ _,fun _ h=>.inl h⟩
theorem WSince.trans {w w' w'' : World} {g : Nat} {v v' v'' : Value} (h : WSince w g v w' v') (k : WSince w' g v' w'' v'') : WSince w g v w'' v'':=by
 refine ⟨h.1.trans k.1 ?_,fun b hb=>?_⟩
 ·intro i hi hlt
  rcases List.mem_cons.1 hi with rfl | hi
  ·simp
  ·have hv : v'.ownBlock = some i:=by cases hv : v'.ownBlock with
    | none=>rw [hv] at hi; simp at hi
    | some j=>rw [hv] at hi; simp at hi; rw [hi]
   rcases h.2 i hv with h1 | h1
   ·rw [h1]; simp
   ·omega
 ·rcases k.2 b hb with h1 | h1
  ·exact h.2 b h1
  ·exact .inr (Nat.le_trans h.1.size h1)
set_option maxHeartbeats 400000 in
theorem wbits_no (g x : Nat) (k : Int) (w : World) (hk : k < 1 \/ 32 < k) :
 Calls Tryz.prog 82 #[.pointer (some ⟨g,0,none⟩),.int .u32 x,.int .i64 k] w fun e w'=>e = .returned (.tuple #[]) /\ w = w':=by
 by_cases h1 : k < 1
 ·clear hk
  go_enter Tryz.func82,Tryz.ntmps82
  go_wp2
  exact bodyPost_ret (results_none rfl _ _ _) rfl ⟨rfl,rfl⟩
 ·have h2 : 32 < k:=by omega
  clear hk
  go_enter Tryz.func82,Tryz.ntmps82
  go_wp2
  exact bodyPost_ret (results_none rfl _ _ _) rfl ⟨rfl,rfl⟩
def laidN (N n x : Nat) (k : Int) : Nat:=if 1 <= k /\ k <= 32 then N + (x % 2 ^ k.toNat) * 2 ^ n else N
def laidL (n : Nat) (k : Int) : Nat:=if 1 <= k /\ k <= 32 then n + k.toNat else n
theorem wBits (g : Nat) (v : Value) (N n x : Nat) (k : Int) (w : World) (hW : Wr w g v N n) (hx : x < 4294967296) (hn : n + 32 <= 140737488355328) :
 Calls Tryz.prog 82 #[.pointer (some ⟨g,0,none⟩),.int .u32 x,.int .i64 k] w fun e w' =>
  e = .returned (.tuple #[]) /\ ∃ v',Wr w' g v' (laidN N n x k) (laidL n k) /\ WSince w g v w' v':=by
 unfold laidN laidL
 by_cases hk : 1 <= k /\ k <= 32
 ·rw [if_pos hk,if_pos hk]
  obtain ⟨k,rfl⟩:=Int.eq_ofNat_of_zero_le (show 0 <= k by omega)
  rw [Int.toNat_natCast]
  obtain ⟨l,rest,cnt,h,hc⟩:=hW
  exact wbits_any g v l rest cnt N n x k w h hc hx (by omega) (by omega) (by omega)
 ·rw [if_neg hk,if_neg hk]
  refine (wbits_no g x k w (by omega)).mono ?_
  rintro e w' ⟨rfl,rfl⟩
  exact ⟨rfl,v,hW,WSince.refl _ _ _⟩
def padOf (n : Nat) : Nat:=(8 - n % 8) % 8
set_option maxHeartbeats 400000 in
theorem wAlign (g : Nat) (v : Value) (N n : Nat) (w : World) (hW : Wr w g v N n) (hn : n + 32 <= 140737488355328) :
 Calls Tryz.prog 119 #[.pointer (some ⟨g,0,none⟩)] w fun e w' =>
  e = .returned (.tuple #[]) /\ ∃ v',Wr w' g v' N (n + padOf n) /\ WSince w g v w' v':=by
 obtain ⟨l,rest,cnt,hL,hc⟩:=hW
 have c2 : w.cell? ⟨g,2,none⟩ = some (.int .i64 (cnt : Int)):=hL.1.cell 2
 have hcn : cnt = n % 8:=by have:=hL.2.2.2.2; omega
 by_cases h0 : cnt = 0
 ·subst h0
  have hp : padOf n = 0:=by unfold padOf; omega
  rw [hp]
  clear hcn
  go_enter Tryz.func119,Tryz.ntmps119
  go_wp2
  go_end0
  exact ⟨rfl,v,⟨l,rest,0,hL,by omega⟩,WSince.refl _ _ _⟩
 ·have h1 : 0 < cnt:=by omega
  have hp : padOf n = 8 - cnt:=by unfold padOf; omega
  have HP:=hide hp
  have HL:=hide (wbits_any g v l rest cnt N n 0 (8 - cnt) w hL hc (by omega) (by omega) (by omega) (by omega))
  clear hp hcn hL
  go_enter Tryz.func119,Tryz.ntmps119
  go_wp2_with fail
  have e1 : (8 : Int) - (cnt : Int) = ((8 - cnt : Nat) : Int):=by omega
  rw [e1]
  refine (HL.out).mono ?_
  rintro e w' ⟨rfl,v',hW',hs⟩
  go_wp2
  go_end0
  refine ⟨rfl,v',?_,hs⟩
  rw [HP.out]
  simpa using hW'
set_option maxHeartbeats 1000000 in
theorem wBytes (g : Nat) (v : Value) (N n : Nat) (A : Option Addr) (m c : Nat) (bs : List UInt8) (w : World) (hW : Wr w g v N n) (hb : Holds w 1 A m (bvals bs)) (hm : bs.length = m)
 (hN : n + 8 * m + 64 <= 140737488355328) (hA : 0 < m -> ∀ ad,A = some ad -> ad.block < w.heap.size -> ad.block ∉ g :: v.ownBlock.toList) :
 Calls Tryz.prog 120 #[.pointer (some ⟨g,0,none⟩),.slice A m c] w fun e w' =>
  e = .returned (.tuple #[]) /\ ∃ v',Wr w' g v' (N + num bs * 2 ^ (n + padOf n)) (n + padOf n + 8 * m) /\ WSince w g v w' v':=by
 obtain ⟨i0,hi0,hz0,hz1,hz2⟩:=info_of u8_info
 have HW:=hide (wAlign g v N n w hW (by omega))
 go_enter Tryz.func120,Tryz.ntmps120
 go_wp2_with fail
 refine (HW.out).mono ?_
 rintro e w1 ⟨rfl,v1,⟨l,rest,cnt,⟨hh,hown,hr,hN1,hn1⟩,hc⟩,hs⟩
 have hpad : padOf n <= 7 /\ (n + padOf n) % 8 = 0:=by unfold padOf; omega
 have hcnt0 : cnt = 0:=by omega
 have hr0 : rest = 0:=by rw [hcnt0] at hr; omega
 have hlen : l.length + m <= 140737488355328:=by omega
 have hb1 : Holds w1 1 A m (bvals bs):=by
  rcases Nat.eq_zero_or_pos m with h0 | h0
  ·exact ⟨hb.1,fun hp=>absurd hp (by omega)⟩
  ·exact hb.keep hs.1 (hA h0)
 obtain ⟨A1,cc1,rfl,_,_⟩:=own_shape hown
 have c0 : w1.cell? ⟨g,0,none⟩ = some (.slice A1 l.length cc1):=hh.cell 0
 have hne:=own_ne hown hh (by decide)
 have hone:=bvals_one bs
 have hroom : (l.length + m) * 1 <= 140737488355328:=by omega
 have Hpad:=hide (aI hpad (aI hcnt0 (aI hr0 (aI hN1 hn1))))
 clear hpad hcnt0 hr0 hN1 hn1
 go_wp2_with (at_builtin; refine list_append _ rfl (.tmp 10) (.tmp 11) 22 rfl 0 1 1 Tryz.underlying22 hi0 hz0 hz1 hz2 rfl (Nat.zero_lt_one) hown rfl hb1 rfl hone hroom (Nat.zero_lt_one) (Nat.zero_le _) ?_; intro A2 cc2 w2 hown2 hgrow hat; have cw0 : w2.cell? ⟨g,0,none⟩ = some (.slice A1 l.length cc1):=(hh.grown hgrow hne).cell 0; have fw0 : w2.frozen? ⟨g,0,none⟩ = false:=(hh.grown hgrow hne).free 0)
 go_end0
 obtain ⟨⟨hp7,hp8⟩,rfl,rfl,hN1,hn1⟩:=Hpad.out
 have hh2:=hh.grown hgrow hne
 have hne2:=own_ne hown2 hh2 (by decide)
 have hs2 : WSince w1 g (.slice A1 l.length cc1) (w2.setCell ⟨g,0,none⟩ (.slice A2 (l.length + m) cc2)) (.slice A2 (l.length + m) cc2):=by
  refine ⟨((Only.refl _ _).grown hgrow (by
   intro k hk hlt
   simp [hk])).setCell (by simp) _,fun b hb=>?_⟩
  rcases hat with h | h
  ·rw [h] at hb; exact .inl hb
  ·rw [h] at hb; right; injection hb with hb; omega
 refine ⟨rfl,.slice A2 (l.length + m) cc2,⟨l ++ bs,0,0,⟨?_,?_,by decide,?_,?_⟩,by decide⟩,hs.trans hs2⟩
 ·exact (by simpa using hh2.set 0 (.slice A2 (l.length + m) cc2) : Has _ g 197 #[.slice A2 (l.length + m) cc2,.int .u64 0,.int .i64 0])
 ·have h3:=ownsRow_setCell_other hown2 (a:=⟨g,0,none⟩) (fun h=>hne2 h.symm) (.slice A2 (l.length + m) cc2)
  rw [bvals_append,List.length_append,hm]
  exact h3
 ·have e : n + padOf n = 8 * l.length:=by omega
  rw [hN1,num_append,e,pow_256,Nat.mul_comm (num bs)]; omega
 ·rw [List.length_append,hm]; omega
def DoneAs (w : World) (N n : Nat) (e : Ending) (w' : World) : Prop :=
 ∃ rv bs,e = .returned rv /\ w'.ownsRow w.heap.size 5 1 rv bs.length (bvals bs) /\ Only [] w w' /\ bs.length = (n + 7) / 8 /\ num bs = N
set_option maxHeartbeats 1000000 in
theorem wDone (g : Nat) (v : Value) (N n : Nat) (w : World) (hW : Wr w g v N n) (hN : n + 64 <= 140737488355328) :
 Calls Tryz.prog 80 #[.pointer (some ⟨g,0,none⟩)] w (DoneAs w N n):=by
 obtain ⟨l,rest,cnt,⟨hh,hown,hr,hN1,hn1⟩,hc⟩:=hW
 obtain ⟨A1,cc1,rfl,hcap,hnil⟩:=own_shape hown
 obtain ⟨i0,hi0,hz0,hz1,hz2⟩:=info_of u8_info
 have c0 : w.cell? ⟨g,0,none⟩ = some (.slice A1 l.length cc1):=hh.cell 0
 have c1 : w.cell? ⟨g,1,none⟩ = some (.int .u64 (rest : Int)):=hh.cell 1
 have c2 : w.cell? ⟨g,2,none⟩ = some (.int .i64 (cnt : Int)):=hh.cell 2
 have hlen : l.length + 1 <= 140737488355328:=by omega
 by_cases h0 : 0 < cnt
 ·have hp7 : 2 ^ cnt <= 2 ^ 7:=Nat.pow_le_pow_right (by omega) (by omega)
  obtain ⟨b,hb⟩ : ∃ b : UInt8,b.toNat = rest:=⟨UInt8.ofNat rest,by simp; omega⟩
  have e8 : IntKind.u8.wrap (rest : Int) = (b.toNat : Int):=by rw [hb,IntKind.wrap_u8]; omega
  have HB:=hide hb
  have hone : ∀ u ∈ [Value.int .u8 (b.toNat : Int)],u.oneCell' = true:=by simp [Value.oneCell']
  have hold : ∀ nq,Holds ((w.drewN nq).alloc (.cells #[.int .u8 (b.toNat : Int)] 5)) 1 A1 l.length (bvals l):=fun nq =>
   (Holds.of_own hown).keep (((Only.refl [] w).drewN nq).alloc _) (by simp)
  have hnew : ∀ nq,∀ j u,[Value.int .u8 (b.toNat : Int)][j]? = some u -> ((w.drewN nq).alloc (.cells #[.int .u8 (b.toNat : Int)] 5)).cell? ((⟨w.heap.size,0,none⟩ : Addr).add j) = some u:=fun nq =>
   (Holds.lit (w.drewN nq) #[.int .u8 (b.toNat : Int)] 5).at_ _ rfl
  have hnil' : A1 = none -> l.length = 0 /\ l.length = 0:=fun h=>by have:=hnil h; omega
  have HN:=hide (aI hN1 hn1)
  clear hb hN1 hn1 hh
  go_enter Tryz.func80,Tryz.ntmps80
  go_wp2_with fail
  go_quiet (fail)
  go_wp2_with (at_builtin; refine wpList_append_grows _ rfl (.tmp 24) (.tmp 30) 22 rfl 5 i0 _ 1 1 Tryz.underlying22 hi0 hz0 hz1 hz2 rfl (Nat.zero_lt_one) A1 l.length l.length (bvals l) rfl hnil' (by simp) (hold nq).at_ _ 1 1 [.int .u8 (b.toNat : Int)] rfl rfl (hnew nq) hone (by omega) (by unfold maxLen; omega) (by omega) ?_; intro v2 w2 hown2 hg2)
  go_ret
  have ho : Only [] w w2:=(((Only.refl [] w).drewN nq).alloc _).grown hg2 (by simp)
  have hsz : w.heap.size <= ((w.drewN nq).alloc (.cells #[.int .u8 (b.toNat : Int)] 5)).heap.size:=(((Only.refl [] w).drewN nq).alloc _).size
  refine ⟨v2,l ++ [b],rfl,?_,ho,?_,?_⟩
  ·rw [bvals_append,List.length_append]
   exact own_mono hown2 hsz
  ·rw [List.length_append,List.length_singleton]; have:=HN.out.2; omega
  ·rw [num_snoc,HB.out,HN.out.1]
 ·obtain rfl : cnt = 0:=by omega
  obtain rfl : rest = 0:=by omega
  have hold : ∀ nq,Holds (w.drewN nq) 1 A1 l.length (bvals l):=fun nq=>(Holds.of_own hown).keep ((Only.refl [] w).drewN nq) (by simp)
  have hnil' : A1 = none -> l.length = 0 /\ l.length = 0:=fun h=>by have:=hnil h; omega
  have HN:=hide (aI hN1 hn1)
  clear hN1 hn1 hh
  go_enter Tryz.func80,Tryz.ntmps80
  go_wp2_with fail
  go_quiet (fail)
  go_wp2_with fail
  refine (clone_any A1 l.length l.length l _ (hold nq) (by omega) (fun h=>by have:=hnil' h; omega)).mono ?_
  rintro e w' ⟨rv,rfl,hown2,ho⟩
  go_wp2
  go_ret
  refine ⟨rv,l,rfl,hown2,((Only.refl [] w).drewN nq).trans ho (by simp),?_,?_⟩
  ·have:=HN.out.2; omega
  ·have:=HN.out.1; omega
end Go.Proofs.YtjfjmkkkbcgohaaGreatDoor
