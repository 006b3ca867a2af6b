import Derived.Test.YtjfjmkkkbcgohaaGreatDoorMPgT
namespace Go.Proofs.YtjfjmkkkbcgohaaGreatDoor
open Go Go.RowKit
def mayI (x y : Int) : Bool:=decide ((x = 0 /\ y = 0) \/ ((1 <= x /\ x <= 16384) /\ (1 <= y /\ y <= 16384) /\ x * y <= 67108864))
set_option maxRecDepth 100000 in
theorem maySide_any (n : Int) (w : World) : Calls Tryz.prog 69 #[.int .i64 n] w fun e w'=>e = .returned (.bool (decide (1 <= n /\ n <= 16384))) /\ w' = w:=by
 by_cases h1 : 1 <= n
 ·by_cases h2 : n <= 16384
  ·rw [decide_eq_true (show 1 <= n /\ n <= 16384 from ⟨h1,h2⟩)]
   go_enter Tryz.func69,Tryz.ntmps69
   go_wp2_with fail
   go_ret
   exact ⟨rfl,rfl⟩
  ·rw [decide_eq_false (show ¬ (1 <= n /\ n <= 16384) from fun h=>h2 h.2)]
   go_enter Tryz.func69,Tryz.ntmps69
   go_wp2_with fail
   go_ret
   exact ⟨rfl,rfl⟩
 ·rw [decide_eq_false (show ¬ (1 <= n /\ n <= 16384) from fun h=>h1 h.1)]
  go_enter Tryz.func69,Tryz.ntmps69
  go_wp2_with fail
  go_ret
  exact ⟨rfl,rfl⟩
set_option maxRecDepth 100000 in
set_option maxHeartbeats 4000000 in
theorem mayBe_any (x y : Int) (w : World) : Calls Tryz.prog 32 #[.int .i64 x,.int .i64 y] w fun e w'=>e = .returned (.bool (mayI x y)) /\ w' = w:=by
 have key : (x = 0 /\ y = 0) \/ (¬ (x = 0 /\ y = 0) /\ ((¬ (1 <= x /\ x <= 16384)) \/ ((1 <= x /\ x <= 16384) /\ ((¬ (1 <= y /\ y <= 16384)) \/ (1 <= y /\ y <= 16384))))):=by omega
 have HX:=hide (maySide_any x)
 have HY:=hide (maySide_any y)
 rcases key with ⟨rfl,rfl⟩ | ⟨h0,h1 | ⟨h1,h2⟩⟩
 ·have hm : mayI 0 0 = true:=by decide
  rw [hm]; clear hm
  go_enter Tryz.func32,Tryz.ntmps32
  go_wp2_with fail
  go_ret
  exact ⟨rfl,rfl⟩
 ·have hm : mayI x y = false:=decide_eq_false (by rintro (h | h); exact h0 h; exact h1 h.1)
  rw [hm]
  rw [decide_eq_false h1] at HX
  clear hm h1 HY
  by_cases hx : x = 0
  ·have hy : ¬ y = 0:=fun h=>h0 ⟨hx,h⟩
   subst hx
   have hyb : (y == 0) = false:=beq_eq_false_iff_ne.2 hy
   clear h0
   go_enter Tryz.func32,Tryz.ntmps32
   go_wp2_with fail
   refine (HX.out _).mono ?_
   rintro e w1 ⟨rfl,rfl⟩
   go_wp2_with fail
   go_ret
   exact ⟨rfl,rfl⟩
  ·clear h0
   go_enter Tryz.func32,Tryz.ntmps32
   go_wp2_with fail
   refine (HX.out _).mono ?_
   rintro e w1 ⟨rfl,rfl⟩
   go_wp2_with fail
   go_ret
   exact ⟨rfl,rfl⟩
 ·have hx0 : ¬ x = 0:=by omega
  have hmul : 1 <= y /\ y <= 16384 -> x * y <= 16384 * 16384 /\ 0 <= x * y:=fun h=>⟨Int.mul_le_mul h1.2 h.2 (by omega) (by omega),Int.mul_nonneg (by omega) (by omega)⟩
  rw [decide_eq_true h1] at HX
  rcases h2 with h2 | h2
  ·have hm : mayI x y = false:=decide_eq_false (by rintro (h | h); exact h0 h; exact h2 h.2.1)
   rw [hm]
   rw [decide_eq_false h2] at HY
   clear hm h2 h0 h1 hmul
   go_enter Tryz.func32,Tryz.ntmps32
   go_wp2_with fail
   refine (HX.out _).mono ?_
   rintro e w1 ⟨rfl,rfl⟩
   go_wp2_with fail
   refine (HY.out _).mono ?_
   rintro e w1 ⟨rfl,rfl⟩
   go_wp2_with fail
   go_ret
   exact ⟨rfl,rfl⟩
  ·have hxy:=hmul h2
   have hw : wrap64 (x * y) = x * y:=IntWalk.wrap64_in _ ⟨by omega,by omega⟩
   have hm : mayI x y = decide (x * y <= 67108864):=by
    unfold mayI
    by_cases h : x * y <= 67108864
    ·rw [decide_eq_true h,decide_eq_true (.inr ⟨h1,h2,h⟩)]
    ·rw [decide_eq_false h,decide_eq_false]
     rintro (h' | h')
     ·exact h0 h'
     ·exact h h'.2.2
   rw [hm]
   rw [decide_eq_true h2] at HY
   clear hm h2 h0 h1 hmul
   go_enter Tryz.func32,Tryz.ntmps32
   go_wp2_with fail
   refine (HX.out _).mono ?_
   rintro e w1 ⟨rfl,rfl⟩
   go_wp2_with fail
   refine (HY.out _).mono ?_
   rintro e w1 ⟨rfl,rfl⟩
   go_wp2_with fail
   all_goals
    go_ret
    refine ⟨?_,rfl⟩
    first | rfl | (simp [*])
def mval (W H : Int) (A : Option Addr) (n c : Nat) : Value:=.agg #[.int .i64 W,.int .i64 H,.slice A n c]
def okM (W H : Nat) (n : Nat) : Prop:=((W = 0 /\ H = 0) \/ (1 <= W /\ W <= 16384 /\ 1 <= H /\ H <= 16384 /\ W * H <= 67108864)) /\ n = 4 * (W * H)
def rightB (W H : Int) (n : Nat) : Bool:=mayI W H && decide ((n : Int) = W * H * 4)
theorem okM.right {W H n : Nat} (h : okM W H n) : rightB W H n = true:=by
 unfold rightB mayI
 obtain ⟨h1,h2⟩:=h
 have e : ((W * H : Nat) : Int) = (W : Int) * (H : Int):=Int.natCast_mul W H
 have e1 : (n : Int) = (W : Int) * (H : Int) * 4:=by rw [<- e]; omega
 rw [Bool.and_eq_true,decide_eq_true_iff,decide_eq_true_iff]
 refine ⟨?_,e1⟩
 rcases h1 with h1 | h1
 ·exact .inl (by omega)
 ·exact .inr ⟨by omega,by omega,by rw [<- e]; omega⟩
set_option maxRecDepth 100000 in
set_option maxHeartbeats 4000000 in
theorem right_any (W H : Int) (A : Option Addr) (n c : Nat) (w : World) :
 Calls Tryz.prog 12 #[mval W H A n c] w fun e w'=>e = .returned (.bool (rightB W H n)) /\ Only [] w w':=by
 have HM:=hide (mayBe_any W H)
 have hr : rightB W H n = (mayI W H && decide ((n : Int) = W * H * 4)):=rfl
 show Calls Tryz.prog 12 #[.agg #[.int .i64 W,.int .i64 H,.slice A n c]] w _
 rw [hr]
 clear hr
 cases hm : mayI W H with
 | false =>
   rw [hm] at HM
   clear hm
   go_enter Tryz.func12,Tryz.ntmps12
   go_wp2_with fail
   refine (HM.out _).mono ?_
   rintro e w1 ⟨rfl,rfl⟩
   go_wp2_with fail
   go_ret
   exact ⟨rfl,(Only.refl [] w).alloc _⟩
 | true =>
   rw [hm] at HM
   unfold mayI at hm
   rw [decide_eq_true_iff] at hm
   have hmul : 0 <= W * H /\ W * H <= 67108864:=by
    rcases hm with ⟨rfl,rfl⟩ | h
    ·omega
    ·exact ⟨Int.mul_nonneg (by omega) (by omega),h.2.2⟩
   have e1 : wrap64 (W * H) = W * H:=IntWalk.wrap64_in _ ⟨by omega,by omega⟩
   have e2 : wrap64 (W * H * 4) = W * H * 4:=IntWalk.wrap64_in _ ⟨by omega,by omega⟩
   clear hm
   go_enter Tryz.func12,Tryz.ntmps12
   go_wp2_with fail
   refine (HM.out _).mono ?_
   rintro e w1 ⟨rfl,rfl⟩
   go_wp2_with fail
   go_ret
   exact ⟨rfl,(Only.refl [] w).alloc _⟩
theorem wr_nat {z : Int} {n : Nat} (h : z = (n : Int)) (hn : n <= 4611686018427387904) : wrap64 z = (n : Int) /\ IntKind.i64.wrap z = (n : Int):=by
 subst h
 exact ⟨IntWalk.wrap64_in _ ⟨by omega,by omega⟩,by rw [IntKind.wrap_i64]; omega⟩
theorem mat_one (W H : Int) (A : Option Addr) (n c : Nat) : (#[Value.int .i64 W,.int .i64 H,.slice A n c] : Array Value).all (·.oneCell') = true:=by simp [Value.oneCell']
def MOwn (w : World) (B : Nat) (W H : Int) (v : Value) (l : List UInt8) : Prop :=
 ∃ A c,v = mval W H A l.length c /\ w.ownsRow B 5 1 (.slice A l.length c) l.length (bvals l)
set_option maxRecDepth 100000 in
set_option maxHeartbeats 4000000 in
theorem blank_any (W H N : Nat) (w : World) (hN : N = 4 * (W * H)) (hn : N <= 140737488355328) :
 Calls Tryz.prog 93 #[.int .i64 (W : Int),.int .i64 (H : Int)] w fun e w'=>∃ g,e = .returned (mval W H (some ⟨g,0,none⟩) N N) /\ w.heap.size <= g /\ w'.ownsRow w.heap.size 5 1 (.slice (some ⟨g,0,none⟩) N N) N (bvals (List.replicate N 0)) /\ Only [] w w':=by
 obtain ⟨D,hD⟩ : ∃ D,D = W * H:=⟨_,rfl⟩
 have m1 : (W : Int) * (H : Int) = (D : Int):=by rw [hD]; exact (Int.natCast_mul W H).symm
 rw [<- hD] at hN
 have W1:=hide (wr_nat (z:=(D : Int)) (n:=D) rfl (by omega))
 have W2:=hide (wr_nat (z:=(D : Int) * 4) (n:=N) (by omega) (by omega))
 have hmk : ∀ W : World,(Instr.makeSlice 22 (.int .i64 (N : Int)) (.int .i64 (N : Int))).run Tryz.prog W = .ok (.slice (some ⟨W.heap.size,0,none⟩) N N) (W.alloc (.cells (bvals (List.replicate N 0)).toArray 5)):=by
  intro W
  have h:=run_make_row' (P:=Tryz.prog) 22 5 (.int .u8 0) 1 Tryz.underlying22 fi8_info rfl .i64 .i64 N (by omega) (by omega) W
  rw [h,fiZeros_eq]
 clear hD hN
 obtain ⟨w1,x1⟩:=W1.out
 obtain ⟨w2,x2⟩:=W2.out
 clear W1 W2
 go_enter Tryz.func93,Tryz.ntmps93
 go_wp2_with fail
 have hr : Has ((w.alloc (.cells #[.int .i64 (W : Int),.int .i64 (H : Int),.slice (some ⟨w.heap.size + 1,0,none⟩) N N] 24)).alloc (.cells (bvals (List.replicate N 0)).toArray 5)) w.heap.size 24 #[.int .i64 (W : Int),.int .i64 (H : Int),.slice (some ⟨w.heap.size + 1,0,none⟩) N N]:=(Has.new w _ _).alloc _
 refine bodyPost_ret (results_cell_row Tryz.results93 _ _ w.heap.size 24 _ (0,0) _ rfl hr Tryz.underlying24 rfl (by kernel_rfl)) rfl ⟨w.heap.size + 1,rfl,by omega,?_,((Only.refl [] w).alloc _).alloc _⟩
 have h:=fiOwn_made (w.alloc (.cells #[.int .i64 (W : Int),.int .i64 (H : Int),.slice (some ⟨w.heap.size + 1,0,none⟩) N N] 24)) 5 (List.replicate N 0) N (by simp) hn
 have e : (w.alloc (.cells #[.int .i64 (W : Int),.int .i64 (H : Int),.slice (some ⟨w.heap.size + 1,0,none⟩) N N] 24)).heap.size = w.heap.size + 1:=by simp
 rw [e] at h
 exact own_mono h (by omega)
theorem own_zero (w : World) (B : Nat) : MOwn w B 0 0 (mval 0 0 none 0 0) []:=⟨none,0,rfl,World.ownsRow_nil _ _ _ _⟩
def newW (W H : Int) : Int:=if mayI W H = true then W else 0
def newL (W H : Int) : List UInt8:=if mayI W H = true then List.replicate (4 * (W.toNat * H.toNat)) 0 else []
def newE7 (W H : Int) : Nat:=if mayI W H = true then 0 else 1
theorem mayI_nat {W H : Int} (h : mayI W H = true) : ∃ x y : Nat,W = x /\ H = y /\ x * y <= 67108864 /\ okM x y (4 * (x * y)):=by
 unfold mayI at h
 rw [decide_eq_true_iff] at h
 obtain ⟨x,rfl⟩:=Int.eq_ofNat_of_zero_le (show 0 <= W by omega)
 obtain ⟨y,rfl⟩:=Int.eq_ofNat_of_zero_le (show 0 <= H by omega)
 have e : ((x * y : Nat) : Int) = (x : Int) * (y : Int):=Int.natCast_mul x y
 rw [<- e] at h
 refine ⟨x,y,rfl,rfl,?_,?_,rfl⟩
 ·rcases h with ⟨h1,h2⟩ | h
  ·obtain rfl : x = 0:=by omega
   rw [Nat.zero_mul]; omega
  ·omega
 ·rcases h with h | h
  ·exact .inl (by omega)
  ·exact .inr (by omega)
set_option maxRecDepth 100000 in
set_option maxHeartbeats 4000000 in
theorem new_any (W H : Int) (w : World) :
 Calls Tryz.prog 53 #[.int .i64 W,.int .i64 H] w fun e w'=>∃ v,e = .returned (.tuple #[v,.int .i64 (newE7 W H : Nat)]) /\ MOwn w' w.heap.size (newW W H) (newW H W) v (newL W H) /\ Only [] w w':=by
 have HM:=hide (mayBe_any W H)
 have hsym : mayI H W = mayI W H:=by unfold mayI; rw [Int.mul_comm]; congr 1; apply propext; constructor <;> (rintro (h | h); exact .inl ⟨h.2,h.1⟩; exact .inr ⟨h.2.1,h.1,h.2.2⟩)
 have hz : Has (w.alloc (.cells #[.int .i64 0,.int .i64 0,.slice none 0 0] 24)) w.heap.size 24 #[.int .i64 0,.int .i64 0,.slice none 0 0]:=Has.new w _ _
 have o0 : Only [] w (w.alloc (.cells #[.int .i64 0,.int .i64 0,.slice none 0 0] 24)):=(Only.refl [] w).alloc _
 cases hm : mayI W H with
 | false =>
   have E1 : newW W H = 0:=by unfold newW; rw [hm]; rfl
   have E2 : newW H W = 0:=by unfold newW; rw [hsym,hm]; rfl
   have E3 : newL W H = []:=by unfold newL; rw [hm]; rfl
   have E4 : newE7 W H = 1:=by unfold newE7; rw [hm]; rfl
   rw [E1,E2,E3,E4]
   rw [hm] at HM
   clear E1 E2 E3 E4 hsym hm
   go_enter Tryz.func53,Tryz.ntmps53
   go_wp2_with fail
   refine (HM.out _).mono ?_
   rintro e w1 ⟨rfl,rfl⟩
   go_wp2_with (refine list_store_row' rfl 24 (.tmp 4) (.tmp 10) rfl w.heap.size #[.int .i64 0,.int .i64 0,.slice none 0 0] rfl rfl 24 _ hz (by kernel_rfl) rfl (mat_one _ _ _ _ _) ?_; intro w3 hT3 hO3)
   exact bodyPost_ret (results_row_two Tryz.results53 _ _ w.heap.size 24 _ _ rfl hT3 Tryz.underlying24 rfl (by kernel_rfl)) rfl ⟨_,rfl,own_zero _ _,o0.trans hO3 (by intro i hi hlt; simp at hi; omega)⟩
 | true =>
   obtain ⟨x,y,rfl,rfl,hxy,hok⟩:=mayI_nat hm
   have E1 : newW x y = x:=by unfold newW; rw [hm]; rfl
   have E2 : newW y x = y:=by unfold newW; rw [hsym,hm]; rfl
   have E3 : newL x y = List.replicate (4 * (x * y)) 0:=by unfold newL; rw [hm]; rfl
   have E4 : newE7 x y = 0:=by unfold newE7; rw [hm]; rfl
   rw [E1,E2,E3,E4]
   rw [hm] at HM
   have HB:=hide (fun w=>blank_any x y (4 * (x * y)) w rfl (by omega))
   have hlen : (List.replicate (4 * (x * y)) (0 : UInt8)).length = 4 * (x * y):=by simp
   generalize hL : List.replicate (4 * (x * y)) (0 : UInt8) = L at *
   generalize 4 * (x * y) = N at *
   subst hlen
   clear E1 E2 E3 E4 hsym hm hxy hok hL
   go_enter Tryz.func53,Tryz.ntmps53
   go_wp2_with fail
   refine (HM.out _).mono ?_
   rintro e w1 ⟨rfl,rfl⟩
   go_wp2_with fail
   refine (HB.out _).mono ?_
   rintro e w2 ⟨g,rfl,hg,how,ho2⟩
   have hz2:=hz.only ho2 (by simp)
   unfold mval
   go_wp2_with (refine list_store_row' rfl 24 (.tmp 4) (.tmp 13) rfl w.heap.size #[.int .i64 (x : Int),.int .i64 (y : Int),.slice (some ⟨g,0,none⟩) L.length L.length] rfl rfl 24 _ hz2 (by kernel_rfl) rfl (mat_one _ _ _ _ _) ?_; intro w3 hT3 hO3)
   have hs : w.heap.size < g:=by have h : (w.alloc (.cells #[.int .i64 0,.int .i64 0,.slice none 0 0] 24)).heap.size = w.heap.size + 1:=by simp
                                 omega
   refine bodyPost_ret (results_row_two Tryz.results53 _ _ w.heap.size 24 _ _ rfl hT3 Tryz.underlying24 rfl (by kernel_rfl)) rfl ⟨_,rfl,⟨some ⟨g,0,none⟩,L.length,rfl,own_mono (own_keep how hO3 ?_) (by simp)⟩,(o0.trans ho2 (S:=[]) (by simp)).trans hO3 (by intro i hi hlt; simp at hi; omega)⟩
   intro b hb hm
   have : g = b:=by injection hb
   simp at hm
   omega
def spotI (r : Rw) (W : Int) (x : Nat) : Int:=((r.Y + (r.y : Int) * r.DY) * W + r.X + (x : Int) * r.DX) * 4
structure RwOk (r : Rw) (W H : Int) : Prop where
 x0 : 0 <= r.X /\ r.X <= 8
 y0 : 0 <= r.Y /\ r.Y <= 8
 dx : 1 <= r.DX /\ r.DX <= 8
 dy : 1 <= r.DY /\ r.DY <= 8
 w0 : 0 <= r.w /\ r.w <= 16384
 row : r.Y + (r.y : Int) * r.DY < H
 col : ∀ x : Nat,(x : Int) < r.w -> r.X + (x : Int) * r.DX < W
theorem spot_in {r : Rw} {W H : Int} (h : RwOk r W H) (hW : W <= 16384) (hH : H <= 16384) (x : Nat) (hx : (x : Int) < r.w) : 0 <= spotI r W x /\ spotI r W x + 4 <= 4 * (W * H) /\ W * H <= 268435456:=by
 have h1:=h.row
 have h2:=h.col x hx
 have hy:=h.y0
 have hxx:=h.x0
 have hdx:=h.dx
 have hdy:=h.dy
 have p1 : 0 <= (r.y : Int) * r.DY:=Int.mul_nonneg (by omega) (by omega)
 have p2 : 0 <= (x : Int) * r.DX:=Int.mul_nonneg (by omega) (by omega)
 obtain ⟨a,ha⟩ : ∃ a,a = r.Y + (r.y : Int) * r.DY:=⟨_,rfl⟩
 obtain ⟨b,hb⟩ : ∃ b,b = r.X + (x : Int) * r.DX:=⟨_,rfl⟩
 have hs : spotI r W x = (a * W + b) * 4:=by unfold spotI; rw [ha,hb]; omega
 rw [<- ha] at h1
 rw [<- hb] at h2
 have q1 : 0 <= a * W:=Int.mul_nonneg (by omega) (by omega)
 have q2 : (a + 1) * W <= H * W:=Int.mul_le_mul_of_nonneg_right (by omega) (by omega)
 rw [Int.add_mul,Int.one_mul] at q2
 have q3 : W * H <= 16384 * H:=Int.mul_le_mul_of_nonneg_right hW (by omega)
 rw [hs,Int.mul_comm W H]
 rw [Int.mul_comm W H] at q3
 omega
set_option maxRecDepth 100000 in
set_option maxHeartbeats 8000000 in
theorem spot_any (r : Rw) (W H : Int) (A : Addr) (n c : Nat) (x : Nat) (w : World) (h : RwOk r W H) (hW : W <= 16384) (hH : H <= 16384) (hx : (x : Int) < r.w) (hn : (n : Int) = 4 * (W * H)) (hc : n <= c) :
 Calls Tryz.prog 71 #[r.val,mval W H (some A) n c,.int .i64 (x : Int)] w fun e w'=>e = .returned (.slice (some (A.add (spotI r W x).toNat)) 4 4) /\ Only [] w w':=by
 obtain ⟨s0,s1,s2⟩:=spot_in h hW hH x hx
 have hy:=h.y0
 have hxx:=h.x0
 have hdx:=h.dx
 have hdy:=h.dy
 have hrow:=h.row
 have hcol:=h.col x hx
 have p1 : 0 <= (r.y : Int) * r.DY:=Int.mul_nonneg (by omega) (by omega)
 have p2 : 0 <= (x : Int) * r.DX:=Int.mul_nonneg (by omega) (by omega)
 have hw0:=h.w0
 obtain ⟨F,hF⟩ : ∃ F : Nat,(F : Int) = spotI r W x:=⟨(spotI r W x).toNat,by omega⟩
 rw [<- hF] at s0 s1 ⊢
 have hFe : (F : Int) = ((r.Y + (r.y : Int) * r.DY) * W + r.X + (x : Int) * r.DX) * 4:=hF
 obtain ⟨rX,rY,rDX,rDY,ry,rn⟩:=r
 dsimp only at *
 obtain ⟨a1,e1⟩ : ∃ a,a = (ry : Int) * rDY:=⟨_,rfl⟩
 obtain ⟨a2,e2⟩ : ∃ a,a = (x : Int) * rDX:=⟨_,rfl⟩
 rw [<- e1] at p1 hrow hFe
 rw [<- e2] at p2 hcol hFe
 obtain ⟨a3,e3⟩ : ∃ a,a = rY + a1:=⟨_,rfl⟩
 obtain ⟨a4,e4⟩ : ∃ a,a = a3 * W:=⟨_,rfl⟩
 rw [<- e3,<- e4] at hFe
 have q1 : 0 <= a4:=by rw [e4]; exact Int.mul_nonneg (by omega) (by omega)
 have q2 : a4 <= 268435456:=by
  have : (a3 + 1) * W <= H * W:=Int.mul_le_mul_of_nonneg_right (by omega) (by omega)
  rw [Int.add_mul,Int.one_mul,<- e4,Int.mul_comm H W] at this
  omega
 have k1 : wrap64 ((ry : Int) * rDY) = a1:=by rw [<- e1]; unfold wrap64; omega
 have k2 : wrap64 (rY + a1) = a3:=by rw [<- e3]; unfold wrap64; omega
 have k3 : wrap64 (a3 * W) = a4:=by rw [<- e4]; unfold wrap64; omega
 have k4 : wrap64 (a4 + rX) = a4 + rX:=by unfold wrap64; omega
 have k5 : wrap64 ((x : Int) * rDX) = a2:=by rw [<- e2]; unfold wrap64; omega
 have k6 : wrap64 (a4 + rX + a2) = a4 + rX + a2:=by unfold wrap64; omega
 have k7 : wrap64 ((a4 + rX + a2) * 4) = (F : Int):=by rw [hFe]; unfold wrap64; omega
 have k8 : wrap64 ((F : Int) + 4) = ((F + 4 : Nat) : Int):=by unfold wrap64; omega
 have hrw:=run_row' (some A) n c F 4 (by omega) (F : Int) ((F + 4 : Nat) : Int) rfl rfl
 have hrw : ∀ w : World,(Instr.slice 22 (.slice (some A) n c) (some (.int .i64 (F : Int))) (some (.int .i64 ((F + 4 : Nat) : Int))) (some (.int .i64 ((F + 4 : Nat) : Int)))).run Tryz.prog w = .ok (.slice (some (A.add F)) 4 4) w:=fun w=>by rw [hrw w]; rfl
 obtain ⟨G,hG⟩ : ∃ G : Int,G = ((F + 4 : Nat) : Int):=⟨_,rfl⟩
 rw [<- hG] at k8 hrw
 clear e1 e2 e3 e4 hFe hF hG h p1 p2 hrow hcol s0 s1 s2 q1 q2 hn hc hy hxx hdx hdy hw0 hx
 unfold mval Rw.val
 go_enter Tryz.func71,Tryz.ntmps71
 go_wp2_with fail
 go_ret
 exact ⟨rfl,(((Only.refl [] w).alloc _).alloc _).alloc _⟩
def pickL (M : List UInt8) (r : Rw) (W : Int) (k : Nat) : List UInt8:=(List.range k).flatMap fun x=>(M.drop (spotI r W x).toNat).take 4
theorem pickL_succ (M : List UInt8) (r : Rw) (W : Int) (k : Nat) : pickL M r W (k + 1) = pickL M r W k ++ (M.drop (spotI r W k).toNat).take 4:=by simp [pickL,List.range_succ]
theorem pickL_length {M : List UInt8} {r : Rw} {W H : Int} (h : RwOk r W H) (hW : W <= 16384) (hH : H <= 16384) (hn : (M.length : Int) = 4 * (W * H)) (k : Nat) (hk : (k : Int) <= r.w) : (pickL M r W k).length = 4 * k:=by
 induction k with
 | zero=>rfl
 | succ k ih =>
   have:=spot_in h hW hH k (by omega)
   rw [pickL_succ,List.length_append,ih (by omega),List.length_take,List.length_drop]
   omega
theorem run_make0 (N : Nat) (hn : N <= 140737488355328) (z : Int) (hz : z = (N : Int)) : ∃ zs : Array Value,zs.size = N /\ ∀ W : World,(Instr.makeSlice 22 (.int .i64 0) (.int .i64 z)).run Tryz.prog W = .ok (.slice (some ⟨W.heap.size,0,none⟩) 0 N) (W.alloc (.cells zs 5)):=by
 subst hz
 obtain ⟨i0,hi0,hz0,hz1,hz2⟩:=info_of u8_info
 refine ⟨madeCells (Value.int .u8 0).cells ((N : Int).toNat * i0.size),?_,fun W=>?_⟩
 ·rw [hz1,size_madeCells]; simp
 ·have:=run_make W 22 5 i0 (.int .u8 0) Tryz.underlying22 hi0 hz0 .i64 .i64 0 (N : Int) (by omega) (by omega) (by rw [hz2]; omega) (by omega)
  simpa using this
theorem own_made0 (w : World) (zs : Array Value) (N : Nat) (hz : zs.size = N) (hn : N <= 140737488355328) : (w.alloc (.cells zs 5)).ownsRow w.heap.size 5 1 (.slice (some ⟨w.heap.size,0,none⟩) 0 N) 0 (bvals []):=by
 exact World.ownsRow_made w zs N (Nat.le_refl _) (by unfold maxLen; omega) (by rw [hz,Nat.mul_one])
structure PkSt (w : World) (r : Rw) (W H : Int) (A : Addr) (n c : Nat) (M : List UInt8) (k : Nat) (Ab : Option Addr) (cb : Nat) (wr : World) : Prop where
 mat : Has wr w.heap.size 24 #[.int .i64 W,.int .i64 H,.slice (some A) n c]
 row : Has wr (w.heap.size + 1) 49 r.cells
 own : wr.ownsRow w.heap.size 5 1 (.slice Ab (4 * k) cb) (4 * k) (bvals (pickL M r W k))
 only : Only [] w wr
set_option maxRecDepth 100000 in
set_option maxHeartbeats 8000000 in
theorem pick_any (r : Rw) (W H : Int) (A : Addr) (n c : Nat) (M : List UInt8) (w : World) (h : RwOk r W H) (hW : W <= 16384) (hH : H <= 16384) (hb : Holds w 1 (some A) n (bvals M)) (hM : M.length = n) (hn : (n : Int) = 4 * (W * H)) (hc : n <= c) :
 Calls Tryz.prog 35 #[mval W H (some A) n c,r.val] w fun e w'=>∃ Ab cb,e = .returned (.slice Ab (4 * r.w.toNat) cb) /\ w'.ownsRow w.heap.size 5 1 (.slice Ab (4 * r.w.toNat) cb) (4 * r.w.toNat) (bvals (pickL M r W r.w.toNat)) /\ Only [] w w':=by
 obtain ⟨i0,hi0,hz0,hz1,hz2⟩:=info_of u8_info
 have hw0:=h.w0
 obtain ⟨N,hN⟩ : ∃ N,N = r.w.toNat:=⟨_,rfl⟩
 have hNw : r.w = (N : Int):=by omega
 obtain ⟨zs,hzs,hmk⟩:=run_make0 (4 * N) (by omega) (4 * (N : Int)) (by omega)
 have hbl:=hb.blk
 have HB:=hide (aI h (aI hb (aI hM hn)))
 have HS:=hide (fun (x : Nat) (hx : (x : Int) < r.w) (w : World)=>spot_any r W H A n c x w h hW hH hx hn hc)
 have hmul : wrap64 ((N : Int) * 4) = 4 * (N : Int):=by unfold wrap64; omega
 rw [<- hN]
 clear hb hM hn h
 obtain ⟨rX,rY,rDX,rDY,ry,rn⟩:=r
 have hNw : rn = (N : Int):=hNw
 subst hNw
 have HW:=hide (aI hW (aI hH (aI hw0 hc)))
 clear hW hH hw0 hN hc
 unfold mval Rw.val
 go_enter Tryz.func35,Tryz.ntmps35
 go_wp2_with fail
 have S0 : PkSt w ⟨rX,rY,rDX,rDY,ry,(N : Int)⟩ W H A n c M 0 (some ⟨w.heap.size + 1 + 1,0,none⟩) (4 * N) (((w.alloc (.cells #[.int .i64 W,.int .i64 H,.slice (some A) n c] 24)).alloc (.cells #[.int .i64 rX,.int .i64 rY,.int .i64 rDX,.int .i64 rDY,.int .i64 (ry : Int),.int .i64 (N : Int)] 49)).alloc (.cells zs 5)):=by
  have h1:=own_made0 ((w.alloc (.cells #[.int .i64 W,.int .i64 H,.slice (some A) n c] 24)).alloc (.cells #[.int .i64 rX,.int .i64 rY,.int .i64 rDX,.int .i64 rDY,.int .i64 (ry : Int),.int .i64 (N : Int)] 49)) zs (4 * N) hzs (by have:=HW.out.2.2.1; omega)
  have h2:=Has.new (w.alloc (.cells #[.int .i64 W,.int .i64 H,.slice (some A) n c] 24)) 49 #[.int .i64 rX,.int .i64 rY,.int .i64 rDX,.int .i64 rDY,.int .i64 (ry : Int),.int .i64 (N : Int)]
  simp only [World.size_alloc] at h1 h2
  exact ⟨((Has.new w _ _).alloc _).alloc _,h2.alloc _,own_mono h1 (by omega),(((Only.refl [] w).alloc _).alloc _).alloc _⟩
 have HS0:=hide S0
 clear S0 hmk hzs hmul
 go_loopw [5,13] (fun vb vx wr=>∃ (k : Nat) (Ab : Option Addr) (cb : Nat),k <= N /\ vx = .int .i64 (k : Int) /\ vb = .slice Ab (4 * k) cb /\ PkSt w ⟨rX,rY,rDX,rDY,ry,(N : Int)⟩ W H A n c M k Ab cb wr) (fun _ vx _=>N - (intOf vx).toNat)
 case atStart=>exact ⟨0,_,_,Nat.zero_le _,rfl,rfl,HS0.out⟩
 case round =>
  obtain ⟨k,Ab,cb,hk,rfl,rfl,S⟩:=hrel
  by_cases hlt : k < N
  ·have hlt' : (k : Int) < (N : Int):=by omega
   have HC:=hide (HS.out k hlt')
   have m0:=S.mat.cell 0
   have m1:=S.mat.cell 1
   have m2:=S.mat.cell 2
   have r0:=S.row.cell 0
   have r1:=S.row.cell 1
   have r2:=S.row.cell 2
   have r3:=S.row.cell 3
   have r4:=S.row.cell 4
   have r5:=S.row.cell 5
   dsimp only [Rw.cells] at r0 r1 r2 r3 r4 r5
   simp only [List.getElem?_toArray,List.getElem?_cons_zero,List.getElem?_cons_succ] at m0 m1 m2 r0 r1 r2 r3 r4 r5
   have HSt:=hide S
   clear S
   go_wp2_with fail
   refine (HC.out wr).mono ?_
   rintro e w2 ⟨rfl,ho2⟩
   obtain ⟨F,hF⟩ : ∃ F,F = (spotI ⟨rX,rY,rDX,rDY,ry,(N : Int)⟩ W k).toNat:=⟨_,rfl⟩
   have hsp:=spot_in HB.out.1 HW.out.1 HW.out.2.1 k hlt'
   have hcut:=HB.out.2.1.cut (f:=F) (m:=4) (by have:=HB.out.2.2.2; omega)
   rw [Nat.mul_one,Nat.mul_one,<- bvals_drop,<- bvals_take] at hcut
   have hcut2 : Holds w2 1 (some (A.add F)) 4 (bvals ((M.drop F).take 4)):=(hcut.keep HSt.out.only (by simp)).keep ho2 (by simp)
   have hlen4 : ((M.drop F).take 4).length = 4:=by rw [List.length_take,List.length_drop]; have:=HB.out.2.2.1; have:=HB.out.2.2.2; omega
   rw [<- hF]
   have h2:=HSt.out.own
   have H2:=hide (aI hcut2 (aI (own_keep h2 ho2 (by simp)) (aI ho2 hF)))
   have hb2 : w.heap.size <= w2.heap.size:=Nat.le_trans HSt.out.only.size ho2.size
   have H3:=hide hb2
   clear hcut hcut2 ho2 h2 hsp hF m0 m1 m2 r0 r1 r2 r3 r4 r5 hb2 hbl hlen4
   have HN:=hide hlt
   have hwk : wrap64 ((k : Int) + 1) = (k : Int) + 1:=by have:=HW.out.2.2.1; unfold wrap64; omega
   go_wp2_with (at_builtin; refine list_append _ rfl (.tmp 16) (.tmp 20) 22 rfl w.heap.size 1 1 Tryz.underlying22 hi0 hz0 hz1 hz2 rfl (by omega) H2.out.2.1 rfl H2.out.1 rfl (bvals_one _) (by have:=HW.out.2.2.1; have:=HN.out; omega) (by omega) H3.out ?_; intro A4 c4 w4 hown hgrow hat; have H4:=hide (aI hown hgrow); clear hown hgrow hat)
   go_roundw
   case rel =>
    refine ⟨k + 1,A4,c4,hlt,by rw [hwk]; rfl,by rw [Nat.mul_add,Nat.mul_one],?_⟩
    have g1 : (∀ g t cs,t ≠ 5 -> Has w2 g t cs -> Has w4 g t cs):=fun g t cs ht hh=>hh.grown H4.out.2 (own_ne H2.out.2.1 hh (Ne.symm ht))
    refine ⟨g1 _ _ _ (by decide) (HSt.out.mat.only H2.out.2.2.1 (by simp)),g1 _ _ _ (by decide) (HSt.out.row.only H2.out.2.2.1 (by simp)),?_,(HSt.out.only.trans H2.out.2.2.1 (S:=[]) (by simp)).grown H4.out.2 (fun q hq hlt=>by have:=(own_at H2.out.2.1 hq).1; omega)⟩
    rw [pickL_succ,bvals_append,<- H2.out.2.2.2,Nat.mul_add,Nat.mul_one]
    exact H4.out.1
   case measure=>rw [hwk]; simp [intOf]; omega
  ·obtain rfl : k = N:=by omega
   have hlt' : ¬ (k : Int) < (k : Int):=by omega
   have HSt:=hide S
   clear S
   go_wp2_with fail
   go_ret
   exact ⟨Ab,cb,rfl,HSt.out.own,HSt.out.only⟩
def doStep (kind : Int) (now al : List UInt8) (y : Nat) : List UInt8 × List UInt8 :=
 if fErr kind 4 now.length (if y = 0 then [] else al).length = 0 then (UInt8.ofNat kind.toNat :: flR false kind 4 now (if y = 0 then [] else al),now) else ([],if y = 0 then [] else al)
structure DoBox (Z : List Nat) (ga gm gk gh : Nat) (W H kind l : Int) (A : Addr) (n c : Nat) (al : List UInt8) (w : World) : Prop where
 ahead : ∃ Aa ca,Has w ga 22 #[.slice Aa al.length ca] /\ Holds w 1 Aa al.length (bvals al) /\ (0 < al.length -> ∀ ad,Aa = some ad -> ad.block ∉ Z)
 mat : Has w gm 24 #[.int .i64 W,.int .i64 H,.slice (some A) n c]
 kind : Has w gk 3 #[.int .i64 kind]
 head : Has w gh 36 #[.int .i64 W,.int .i64 H,.int .i64 8,.int .i64 6,.int .i64 l]
theorem doer_any (W H kind l : Int) (A : Addr) (n c : Nat) (w : World) :
 Calls Tryz.prog 14 #[.agg #[.int .i64 W,.int .i64 H,.int .i64 8,.int .i64 6,.int .i64 l],mval W H (some A) n c,.int .i64 kind] w fun e w' =>
  ∃ ga gm gk gh,e = .returned (.func (.func 34) #[] #[.pointer (some ⟨ga,0,none⟩),.pointer (some ⟨gm,0,none⟩),.pointer (some ⟨gk,0,none⟩),.pointer (some ⟨gh,0,none⟩)]) /\
    w.heap.size <= ga /\ (∀ Z,DoBox Z ga gm gk gh W H kind l A n c [] w') /\ Only [] w w':=by
 have h0:=(((Has.new w 36 #[.int .i64 W,.int .i64 H,.int .i64 8,.int .i64 6,.int .i64 l]).alloc (.cells #[.int .i64 W,.int .i64 H,.slice (some A) n c] 24)).alloc (.cells #[.int .i64 kind] 3)).alloc (.cells #[.slice none 0 0] 22)
 have h1:=((Has.new (w.alloc (.cells #[.int .i64 W,.int .i64 H,.int .i64 8,.int .i64 6,.int .i64 l] 36)) 24 #[.int .i64 W,.int .i64 H,.slice (some A) n c]).alloc (.cells #[.int .i64 kind] 3)).alloc (.cells #[.slice none 0 0] 22)
 have h2:=(Has.new ((w.alloc (.cells #[.int .i64 W,.int .i64 H,.int .i64 8,.int .i64 6,.int .i64 l] 36)).alloc (.cells #[.int .i64 W,.int .i64 H,.slice (some A) n c] 24)) 3 #[.int .i64 kind]).alloc (.cells #[.slice none 0 0] 22)
 have h3:=Has.new (((w.alloc (.cells #[.int .i64 W,.int .i64 H,.int .i64 8,.int .i64 6,.int .i64 l] 36)).alloc (.cells #[.int .i64 W,.int .i64 H,.slice (some A) n c] 24)).alloc (.cells #[.int .i64 kind] 3)) 22 #[.slice none 0 0]
 have ho : Only [] w ((((w.alloc (.cells #[.int .i64 W,.int .i64 H,.int .i64 8,.int .i64 6,.int .i64 l] 36)).alloc (.cells #[.int .i64 W,.int .i64 H,.slice (some A) n c] 24)).alloc (.cells #[.int .i64 kind] 3)).alloc (.cells #[.slice none 0 0] 22)):=((((Only.refl [] w).alloc _).alloc _).alloc _).alloc _
 simp only [World.size_alloc] at h1 h2 h3
 have HH:=hide (aI h0 (aI h1 (aI h2 (aI h3 ho))))
 clear h0 h1 h2 h3 ho
 unfold mval
 go_enter Tryz.func14,Tryz.ntmps14
 go_wp2_with fail
 go_ret
 exact ⟨_,_,_,_,rfl,by omega,fun Z=>⟨⟨none,0,HH.out.2.2.2.1,Holds.empty _ _ _,fun h=>absurd h (by simp)⟩,HH.out.2.1,HH.out.2.2.1,HH.out.1⟩,HH.out.2.2.2.2⟩
end Go.Proofs.YtjfjmkkkbcgohaaGreatDoor
