/-
Proves: for any image, laced or not, and any kind of filter PngBack tells true, and leaves all that was there as it was.
-/
import Derived.Test.YtjfjmkkkbcgohaaGreatDoorMPbE
import Derived.Test.YtjfjmkkkbcgohaaGreatDoorMZlX
namespace Go.Proofs.YtjfjmkkkbcgohaaGreatDoor.pback
open Go Go.RowKit Go.ChangeShapes Go.WideShapes Go.ChangeAt
def okB (W H : Int) (n : Nat) : Prop:=n <= 16384 /\ (1 <= W /\ W <= 60) /\ (1 <= H /\ H <= 60) /\ (n : Int) = 4 * W * H
set_option maxRecDepth 100000 in
set_option maxHeartbeats 8000000 in
theorem out (W H : Int) (A : Option Addr) (n c : Nat) (lace : Bool) (z : Int) (w : World) (hT : Tab w) (h : ¬ okB W H n) :
 Calls Tryz.prog 3 #[mval W H A n c,.bool lace,.int .i64 z] w fun e w'=>e = .returned (.bool true) /\ Only [] w w':=by
 have o1:=(Only.refl [] w).alloc (.cells #[.int .i64 W,.int .i64 H,.slice A n c] 24)
 have h1:=Has.new w 24 #[.int .i64 W,.int .i64 H,.slice A n c]
 have HK:=hide (knownP_any _ (hT.only o1 (by simp)))
 have HFw:=hide (fun x=>few_any W H A n c x)
 have H1:=hide (aI o1 h1)
 have hc : ¬ n <= 16384 \/ (n <= 16384 /\ W < 1) \/ (n <= 16384 /\ ¬ W < 1 /\ H < 1) \/ (n <= 16384 /\ ¬ W < 1 /\ ¬ H < 1 /\ 60 < W) \/ (n <= 16384 /\ ¬ W < 1 /\ ¬ H < 1 /\ ¬ 60 < W /\ 60 < H) \/ (n <= 16384 /\ ¬ W < 1 /\ ¬ H < 1 /\ ¬ 60 < W /\ ¬ 60 < H /\ ¬ (n : Int) = 4 * W * H):=by
  unfold okB at h
  by_cases c0 : n <= 16384
  ·by_cases c1 : W < 1
   ·exact .inr (.inl ⟨c0,c1⟩)
   by_cases c2 : H < 1
   ·exact .inr (.inr (.inl ⟨c0,c1,c2⟩))
   by_cases c3 : 60 < W
   ·exact .inr (.inr (.inr (.inl ⟨c0,c1,c2,c3⟩)))
   by_cases c4 : 60 < H
   ·exact .inr (.inr (.inr (.inr (.inl ⟨c0,c1,c2,c3,c4⟩))))
   ·exact .inr (.inr (.inr (.inr (.inr ⟨c0,c1,c2,c3,c4,fun e=>h ⟨c0,⟨by omega,by omega⟩,⟨by omega,by omega⟩,e⟩⟩))))
  ·exact .inl c0
 unfold mval
 unfold mval at HFw
 clear o1 h1 hT h
 rcases hc with h0 | ⟨h0,h1⟩ | ⟨h0,h1,h2⟩ | ⟨h0,h1,h2,h3⟩ | ⟨h0,h1,h2,h3,h4⟩ | ⟨h0,h1,h2,h3,h4,h5⟩
 case' inl=>rw [decide_eq_false h0] at HFw
 case' inr.inl=>rw [decide_eq_true h0] at HFw
 case' inr.inr.inl=>rw [decide_eq_true h0] at HFw
 case' inr.inr.inr.inl=>rw [decide_eq_true h0] at HFw
 case' inr.inr.inr.inr.inl=>rw [decide_eq_true h0] at HFw
 case' inr.inr.inr.inr.inr =>
  rw [decide_eq_true h0] at HFw
  have w1 : Go.RowKit.wrap64 (4 * W) = 4 * W:=by unfold Go.RowKit.wrap64; omega
  have hp : 4 * W * H <= 4 * 60 * 60:=Int.mul_le_mul (by omega) (by omega) (by omega) (by omega)
  have hp0 : 0 <= 4 * W * H:=Int.mul_nonneg (by omega) (by omega)
  have w2 : Go.RowKit.wrap64 (4 * W * H) = 4 * W * H:=by unfold Go.RowKit.wrap64; omega
  have hb5 : ((n : Int) != 4 * W * H) = true:=bne_iff_ne.2 h5
  clear hp hp0 h5
 all_goals
  clear h0
  go_enter Tryz.func3,Tryz.ntmps3
  go_wp2_with fail
  refine (HK.out).mono ?_
  rintro e x2 ⟨rfl,ho2⟩
  have hx2:=H1.out.2.only ho2 (by simp)
  have c0 : World.cell? x2 ⟨w.heap.size,0,none⟩ = some (.int .i64 W):=hx2.cell 0
  have c1 : World.cell? x2 ⟨w.heap.size,1,none⟩ = some (.int .i64 H):=hx2.cell 1
  have c2 : World.cell? x2 ⟨w.heap.size,2,none⟩ = some (.slice A n c):=hx2.cell 2
  have H2:=hide (aI hx2 (H1.out.1.trans ho2 (S:=[]) (by simp)))
  clear ho2 hx2
  go_wp2_with fail
  refine (HFw.out _).mono ?_
  rintro e x3 ⟨rfl,ho3⟩
  have hx3:=H2.out.1.only ho3 (by simp)
  have c0 : World.cell? x3 ⟨w.heap.size,0,none⟩ = some (.int .i64 W):=hx3.cell 0
  have c1 : World.cell? x3 ⟨w.heap.size,1,none⟩ = some (.int .i64 H):=hx3.cell 1
  have c2 : World.cell? x3 ⟨w.heap.size,2,none⟩ = some (.slice A n c):=hx3.cell 2
  have H3:=hide (H2.out.2.trans ho3 (S:=[]) (by simp))
  clear ho3 hx3
  go_wp2_with fail
  go_ret
  exact ⟨rfl,H3.out⟩
def isBy (l : List UInt8) : (Value -> Prop) × (Value -> World -> Prop) :=
 (fun v=>∃ A c,v = .slice A l.length c,fun v w=>∀ A c,v = .slice A l.length c -> Holds w 1 A l.length (bvals l))
theorem isBy_later (l : List UInt8) : ∀ v w w',Only [] w w' -> (isBy l).2 v w -> (isBy l).2 v w':=fun _ _ _ ho h A c he=>(h A c he).keep ho (by simp)
theorem isBy_of {l : List UInt8} {w x : World} {u : Value} (ho : Only [] w x) (hu : x.ownsRow w.heap.size 5 1 u l.length (bvals l)) : ∃ v,Ending.returned u = .returned v /\ Only [] w x /\ (isBy l).1 v /\ (isBy l).2 v x:=by
 obtain ⟨A,c,rfl,_,_⟩:=own_shape hu
 exact ⟨_,rfl,ho,⟨A,c,rfl⟩,fun A' c' he=>by injection he with e1 _ e3; subst e1; exact Holds.of_own hu⟩
theorem mat_facts (W H n : Nat) (hW : 1 <= W /\ W <= 60) (hH : 1 <= H /\ H <= 60) (hn : n = 4 * (W * H)) : Go.RowKit.wrap64 (4 * (W : Int)) = 4 * (W : Int) /\ Go.RowKit.wrap64 (4 * (W : Int) * (H : Int)) = 4 * (W : Int) * (H : Int) /\ ((n : Int) != 4 * (W : Int) * (H : Int)) = false /\ Go.RowKit.wrap64 ((W * H : Nat) : Int) = ((W * H : Nat) : Int) /\ Go.RowKit.wrap64 (((W * H : Nat) : Int) - 1) = ((W * H : Nat) : Int) - 1 /\ (W : Int) * (H : Int) = ((W * H : Nat) : Int):=by
 have hnn : (n : Int) = 4 * (W : Int) * (H : Int):=by rw [hn]; push_cast; rw [Int.mul_assoc]
 have hp : W * H <= 60 * 60:=Nat.mul_le_mul hW.2 hH.2
 have hwh : (W : Int) * (H : Int) = ((W * H : Nat) : Int):=by push_cast; rfl
 refine ⟨by unfold Go.RowKit.wrap64; omega,by rw [<- hnn]; unfold Go.RowKit.wrap64; omega,by rw [<- hnn]; exact bne_self_eq_false' _,by unfold Go.RowKit.wrap64; omega,by unfold Go.RowKit.wrap64; omega,hwh⟩
set_option maxRecDepth 100000 in
set_option maxHeartbeats 16000000 in
theorem main (W H : Nat) (A : Addr) (n c : Nat) (M : List UInt8) (lace : Bool) (z : Int) (w : World) (hT : Tab w) (hW : 1 <= W /\ W <= 60) (hH : 1 <= H /\ H <= 60) (hn : n = 4 * (W * H)) (hb : Holds w 1 (some A) n (bvals M)) (hM : M.length = n) (hc : n <= c) :
 Calls Tryz.prog 3 #[mval W H (some A) n c,.bool lace,.int .i64 z] w fun e w'=>e = .returned (.bool true) /\ Only [] w w':=by
 have o1:=(Only.refl [] w).alloc (.cells #[.int .i64 (W : Int),.int .i64 (H : Int),.slice (some A) n c] 24)
 have h1:=Has.new w 24 #[.int .i64 (W : Int),.int .i64 (H : Int),.slice (some A) n c]
 have HK:=hide (knownP_any _ (hT.only o1 (by simp)))
 have hp : W * H <= 60 * 60:=Nat.mul_le_mul hW.2 hH.2
 have HFw:=hide (fun x=>few_any W H (some A) n c x)
 rw [decide_eq_true (show n <= 16384 by omega)] at HFw
 have H1:=hide (aI o1 h1)
 obtain ⟨w1,w2,hb5,w3,w4,hwh⟩:=mat_facts W H n hW hH hn
 have a1 : ¬ (W : Int) < 1:=by omega
 have a2 : ¬ (H : Int) < 1:=by omega
 have a3 : ¬ (60 : Int) < (W : Int):=by omega
 have a4 : ¬ (60 : Int) < (H : Int):=by omega
 have HE:=hide (fun x (hx : Only [] w x)=>encK_any W H z A n c M lace x (by omega) (by omega) (hb.keep hx (by simp)) hM hn hc)
 have HR:=hide (fun x (hx : Only [] w x)=>rEnc_any W H (some A) n c M lace z x (by omega) (by omega) (hb.keep hx (by simp)) hM hn)
 have HOf:=hide (fun x=>of_any W H (some A) n c x)
 have hq4:=kindQ_le z
 have hl1 : lace.toNat <= 1:=by cases lace <;> decide
 obtain ⟨_,hs2,hs3⟩:=encB_size (kindQ z) hq4 M W H lace.toNat (by omega) (by omega) (by omega)
 have HD:=hide (fun (B : List UInt8) (hB : B = encB (kindQ z) M W H lace.toNat) (A7 : Option Addr) (n7 c7 : Nat) (x : World) (hx : Only [] w x) (h7 : Holds x 1 A7 n7 (bvals B)) (hl7 : B.length = n7) (hc7 : n7 <= c7) =>
  decode_enc W H (kindQ z) lace.toNat A7 n7 c7 ((W * H : Nat) : Int) M x (by rw [<- hB]; exact h7) (by rw [<- hB]; exact hl7) hc7 hl1 (hT.only hx (by simp)) (by omega) (by omega) hq4 (by omega) (Int.le_refl _))
 have HL:=hide (fun (B : List UInt8) (hB : B = encB (kindQ z) M W H lace.toNat) (A7 : Option Addr) (n7 c7 : Nat) (x : World) (h7 : Holds x 1 A7 n7 (bvals B)) (hl7 : B.length = n7) (hc7 : n7 <= c7) =>
  decode_long W H (kindQ z) lace.toNat A7 n7 c7 (((W * H : Nat) : Int) - 1) M x (by rw [<- hB]; exact h7) (by rw [<- hB]; exact hl7) hc7 hl1 (by omega) (by omega) hq4 (by omega) (by omega))
 obtain ⟨B,hB⟩ : ∃ B,B = encB (kindQ z) M W H lace.toNat:=⟨_,rfl⟩
 rw [<- hB] at HE HR hs2 hs3
 have HD:=hide (HD.out B hB)
 have HL:=hide (HL.out B hB)
 have HX:=hide (aI hs2 (aI hs3 (aI hW (aI hH (aI hn hM)))))
 have HM:=hide (fun (x : World) (hx : Only [] w x)=>hb.keep hx (by simp))
 generalize hpx : W * H = px at *
 unfold mval
 unfold mval at HFw HE HR HOf HD HL
 clear o1 h1 hT hB hs2 hs3 hW hH hn hb hM hc hq4 hl1 hpx hp
 go_enter Tryz.func3,Tryz.ntmps3
 go_wp2_with fail
 refine (HK.out).mono ?_
 rintro e x2 ⟨rfl,ho2⟩
 have hx2:=H1.out.2.only ho2 (by simp)
 have c0 : World.cell? x2 ⟨w.heap.size,0,none⟩ = some (.int .i64 (W : Int)):=hx2.cell 0
 have c1 : World.cell? x2 ⟨w.heap.size,1,none⟩ = some (.int .i64 (H : Int)):=hx2.cell 1
 have c2 : World.cell? x2 ⟨w.heap.size,2,none⟩ = some (.slice (some A) n c):=hx2.cell 2
 have H2:=hide (aI hx2 (H1.out.1.trans ho2 (S:=[]) (by simp)))
 clear ho2 hx2 HK
 go_wp2_with fail
 refine (HFw.out _).mono ?_
 rintro e x3 ⟨rfl,ho3⟩
 have hx3:=H2.out.1.only ho3 (by simp)
 have c0 : World.cell? x3 ⟨w.heap.size,0,none⟩ = some (.int .i64 (W : Int)):=hx3.cell 0
 have c1 : World.cell? x3 ⟨w.heap.size,1,none⟩ = some (.int .i64 (H : Int)):=hx3.cell 1
 have c2 : World.cell? x3 ⟨w.heap.size,2,none⟩ = some (.slice (some A) n c):=hx3.cell 2
 have H3:=hide (aI hx3 (H2.out.2.trans ho3 (S:=[]) (by simp)))
 clear ho3 hx3 H2 HFw
 go_wp2_with fail
 clear w1 w2 hb5 a1 a2 a3 a4
 refine (HE.out x3 H3.out.2).mono ?_
 rintro e x4 ⟨v,rfl,how,ho4⟩
 obtain ⟨A7,c7,rfl,hc7,_⟩:=own_shape how
 have hx4:=H3.out.1.only ho4 (by simp)
 have c0 : World.cell? x4 ⟨w.heap.size,0,none⟩ = some (.int .i64 (W : Int)):=hx4.cell 0
 have c1 : World.cell? x4 ⟨w.heap.size,1,none⟩ = some (.int .i64 (H : Int)):=hx4.cell 1
 have H4:=hide (aI hx4 (aI (H3.out.2.trans ho4 (S:=[]) (by simp)) (aI (Holds.of_own how) hc7)))
 clear ho4 hx4 how hc7 HE H3
 go_wp2_with fail
 refine (HD.out A7 B.length c7 x4 H4.out.2.1 H4.out.2.2.1 rfl H4.out.2.2.2).mono ?_
 rintro e x5 ⟨g5,c5,rfl,how,ho5⟩
 have hx5:=H4.out.1.only ho5 (by simp)
 have ob:=(Only.refl [] x5).alloc (.cells #[.int .i64 0,.int .i64 0,.slice none 0 0] 24)
 have hbx:=Has.new x5 24 #[.int .i64 0,.int .i64 0,.slice none 0 0]
 have H5:=hide (aI hx5 (aI (H4.out.2.1.trans ho5 (S:=[]) (by simp)) (aI how (aI (H4.out.2.2.1.keep ho5 (by simp)) H4.out.2.2.2))))
 clear hx5 how ho5 H4 HD ob hbx
 go_upto_region 7 with fail
 obtain ⟨hx5,o5,how5,hB5,hc7⟩:=H5.out
 have hx6:=hx5.alloc (.cells #[.int .i64 (W : Int),.int .i64 (H : Int),.slice (some ⟨g5,0,none⟩) (4 * px) c5] 24)
 have hbx6:=Has.new x5 24 #[.int .i64 (W : Int),.int .i64 (H : Int),.slice (some ⟨g5,0,none⟩) (4 * px) c5]
 have o6:=o5.alloc (.cells #[.int .i64 (W : Int),.int .i64 (H : Int),.slice (some ⟨g5,0,none⟩) (4 * px) c5] 24)
 have hr6:=(Holds.of_own how5).keep ((Only.refl [] x5).alloc (.cells #[.int .i64 (W : Int),.int .i64 (H : Int),.slice (some ⟨g5,0,none⟩) (4 * px) c5] 24)) (by simp)
 have hB6:=hB5.keep ((Only.refl [] x5).alloc (.cells #[.int .i64 (W : Int),.int .i64 (H : Int),.slice (some ⟨g5,0,none⟩) (4 * px) c5] 24)) (by simp)
 generalize x5.alloc (.cells #[.int .i64 (W : Int),.int .i64 (H : Int),.slice (some ⟨g5,0,none⟩) (4 * px) c5] 24) = x6 at *
 have c0 : x6.cell? ⟨w.heap.size,0,none⟩ = some (.int .i64 (W : Int)):=hx6.cell 0
 have c1 : x6.cell? ⟨w.heap.size,1,none⟩ = some (.int .i64 (H : Int)):=hx6.cell 1
 have H6:=hide (aI hx6 (aI hbx6 (aI o6 (aI hr6 (aI hB6 hc7)))))
 clear hx5 o5 how5 hB5 hc7 hx6 hbx6 o6 hr6 hB6 H5
 go_wp2_with fail
 refine (HL.out A7 B.length c7 x6 H6.out.2.2.2.2.1 rfl H6.out.2.2.2.2.2).mono ?_
 rintro e x7 ⟨rfl,ho7⟩
 clear w3 w4 hwh c0 c1
 go_upto_region 8 with fail
 obtain ⟨hx6,hbx6,o6,hr6,hB6,hc7⟩:=H6.out
 have o68:=ho7.alloc (.cells #[.int .i64 0,.int .i64 0,.slice none 0 0] 24)
 have hx8:=hx6.only o68 (by simp)
 have hbx8:=hbx6.only o68 (by simp)
 have hcx8:=Has.new x7 24 #[.int .i64 0,.int .i64 0,.slice none 0 0]
 have o8:=o6.trans o68 (S:=[]) (by simp)
 have hr8:=hr6.keep o68 (by simp)
 have hB8:=hB6.keep o68 (by simp)
 generalize x7.alloc (.cells #[.int .i64 0,.int .i64 0,.slice none 0 0] 24) = x8 at *
 clear hx6 hbx6 o6 hr6 hB6 H6 HL ho7 o68
 have hM8:=HM.out x8 o8
 obtain ⟨sB,hsB⟩ : ∃ s : ByteArray,s = ⟨B.toArray⟩:=⟨_,rfl⟩
 obtain ⟨sM,hsM⟩ : ∃ s : ByteArray,s = ⟨M.toArray⟩:=⟨_,rfl⟩
 have HC1:=hide (fun (X : World) (hX : Only [] x8 X)=>run_string_of (P:=Tryz.prog) (hB8.keep hX (by simp)) c7 22 5 9 Tryz.underlying22 Tryz.underlying5 Tryz.underlying9)
 have HC2:=hide (fun (X : World) (hX : Only [] x8 X)=>run_string_of (P:=Tryz.prog) (hr8.keep hX (by simp)) c5 22 5 9 Tryz.underlying22 Tryz.underlying5 Tryz.underlying9)
 have HC3:=hide (fun (X : World) (hX : Only [] x8 X)=>run_string_of (P:=Tryz.prog) (hM8.keep hX (by simp)) c 22 5 9 Tryz.underlying22 Tryz.underlying5 Tryz.underlying9)
 have HC4:=hide (fun (X : World) (A9 : Option Addr) (c9 : Nat) (h9 : Holds X 1 A9 B.length (bvals B))=>run_string_of (P:=Tryz.prog) h9 c9 22 5 9 Tryz.underlying22 Tryz.underlying5 Tryz.underlying9)
 rw [<- hsB] at HC1 HC4
 rw [<- hsM] at HC2 HC3
 have l0:=later_cell (show x8.cell? ⟨w.heap.size,0,none⟩ = some (.int .i64 (W : Int)) from hx8.cell 0)
 have l1:=later_cell (show x8.cell? ⟨w.heap.size,1,none⟩ = some (.int .i64 (H : Int)) from hx8.cell 1)
 have l2:=later_cell (show x8.cell? ⟨w.heap.size,2,none⟩ = some (.slice (some A) n c) from hx8.cell 2)
 have m0:=later_cell (show x8.cell? ⟨x5.heap.size,0,none⟩ = some (.int .i64 (W : Int)) from hbx8.cell 0)
 have m1:=later_cell (show x8.cell? ⟨x5.heap.size,1,none⟩ = some (.int .i64 (H : Int)) from hbx8.cell 1)
 have m2:=later_cell (show x8.cell? ⟨x5.heap.size,2,none⟩ = some (.slice (some ⟨g5,0,none⟩) (4 * px) c5) from hbx8.cell 2)
 have n2:=later_cell (show x8.cell? ⟨x7.heap.size,2,none⟩ = some (.slice none 0 0) from hcx8.cell 2)
 have HRx:=hide (fun (X : World) (hX : Only [] x8 X)=>HR.out X (o8.trans hX (S:=[]) (by simp)))
 have HO8:=hide o8
 clear hx8 hbx8 hcx8 hr8 hB8 hM8 hsB hsM HR HM HX hc7 H1 o8
 refine region_loose 46 120 (fun i=>if i = 1 then some (isVal (.string sB)) else if i = 3 then some (isVal (.agg #[.int .i64 (W : Int),.int .i64 (H : Int),.slice (some A) n c])) else if i = 6 then some (isBy B) else if i = 7 then some (isVal (.string sB)) else if i = 16 then some (isVal (.string sM)) else if i = 19 then some (isVal (.string sM)) else if i = 39 then some (isVal (.int .i64 0)) else none)
  (by kernel_rfl) (by kernel_rfl) (by kernel_rfl) (by rfl) (by rfl) (fun i hi=>?_) (fun i S hS=>?_) ?_
 ·have hi : 47 <= i:=hi
  show (if i = 1 then _ else _) = none
  iterate 7 rw [if_neg (by omega)]
 ·repeat' split at hS
  all_goals first | (injection hS with hS; subst hS; first | exact isBy_later _ | exact fun _ _ _ _ _=>trivial) | cases hS
 simp only [List.take_succ_cons,List.take_zero,List.drop_succ_cons,List.drop_zero]
 refine wpLoose_chunk 1 (by kernel_rfl) (by rfl) ?_
 simp only [List.take_succ_cons,List.take_zero,List.drop_succ_cons,List.drop_zero,List.length_cons,List.length_nil,Nat.zero_add]
 iterate 1 (go_big_quiet_step (fail))
 refine wpQuiet_nil ?_
 refine wpLoose_step (isVal (.string sB)) rfl (by rfl) ⟨_,rfl⟩ (fun w' ho hk=>?_) (fun v hv=>?_)
 ·clear hk
  go_simp
  rw [HC1.out w' ho]
  exact ⟨Only.refl _ _,rfl,trivial⟩
 obtain rfl:=hv
 go_simp
 refine wpLoose_chunk 1 (by kernel_rfl) (by rfl) ?_
 simp only [List.take_succ_cons,List.take_zero,List.drop_succ_cons,List.drop_zero,List.length_cons,List.length_nil,Nat.zero_add,Nat.reduceAdd]
 iterate 1 (go_big_quiet_step (fail))
 refine wpQuiet_nil ?_
 refine wpLoose_step (isVal (.agg #[.int .i64 (W : Int),.int .i64 (H : Int),.slice (some A) n c])) rfl (by rfl) ⟨_,rfl⟩ (fun w' ho hk=>?_) (fun v hv=>?_)
 ·clear hk
  go_simp
  exact ⟨rfl,(HOf.out w').mono fun _ _ h=>isVal_of h⟩
 obtain rfl:=hv
 go_simp
 refine wpLoose_chunk 2 (by kernel_rfl) (by rfl) ?_
 simp only [List.take_succ_cons,List.take_zero,List.drop_succ_cons,List.drop_zero,List.length_cons,List.length_nil,Nat.zero_add,Nat.reduceAdd]
 iterate 2 (go_big_quiet_step (fail))
 refine wpQuiet_nil ?_
 refine wpLoose_step (isBy B) rfl (by rfl) ⟨_,none,0,rfl⟩ (fun w' ho hk=>?_) (fun v hv=>?_)
 ·clear hk
  go_simp
  refine ⟨rfl,(HRx.out w' ho).mono ?_⟩
  rintro e w'' ⟨v,rfl,how,ho'⟩
  exact isBy_of ho' how
 obtain ⟨A9,c9,rfl⟩:=hv
 go_simp
 refine wpLoose_step (isVal (.string sB)) rfl (by rfl) ⟨_,rfl⟩ (fun w' ho hk=>?_) (fun v hv=>?_)
 ·have h6:=hk _ (Array.mem_of_getElem? (i:=0) (by rfl)) (by rfl)
  have h6 : (isBy B).1 (.slice A9 B.length c9) /\ (isBy B).2 (.slice A9 B.length c9) w':=h6
  clear hk
  go_simp
  rw [HC4.out w' A9 c9 (h6.2 A9 c9 rfl)]
  exact ⟨Only.refl _ _,rfl,trivial⟩
 obtain rfl:=hv
 go_simp
 refine wpLoose_chunk 8 (by kernel_rfl) (by rfl) ?_
 simp only [List.take_succ_cons,List.take_zero,List.drop_succ_cons,List.drop_zero,List.length_cons,List.length_nil,Nat.zero_add,Nat.reduceAdd]
 iterate 8 (go_big_quiet_step (fail))
 refine wpQuiet_nil ?_
 refine wpLoose_step (isVal (.string sM)) rfl (by rfl) ⟨_,rfl⟩ (fun w' ho hk=>?_) (fun v hv=>?_)
 ·clear hk
  go_simp
  rw [HC2.out w' ho]
  exact ⟨Only.refl _ _,rfl,trivial⟩
 obtain rfl:=hv
 go_simp
 refine wpLoose_chunk 2 (by kernel_rfl) (by rfl) ?_
 simp only [List.take_succ_cons,List.take_zero,List.drop_succ_cons,List.drop_zero,List.length_cons,List.length_nil,Nat.zero_add,Nat.reduceAdd]
 iterate 2 (go_big_quiet_step (fail))
 refine wpQuiet_nil ?_
 refine wpLoose_step (isVal (.string sM)) rfl (by rfl) ⟨_,rfl⟩ (fun w' ho hk=>?_) (fun v hv=>?_)
 ·clear hk
  go_simp
  rw [HC3.out w' ho]
  exact ⟨Only.refl _ _,rfl,trivial⟩
 obtain rfl:=hv
 go_simp
 refine wpLoose_chunk 19 (by kernel_rfl) (by rfl) ?_
 simp only [List.take_succ_cons,List.take_zero,List.drop_succ_cons,List.drop_zero,List.length_cons,List.length_nil,Nat.zero_add,Nat.reduceAdd]
 iterate 19 (go_big_quiet_step (fail))
 refine wpQuiet_nil ?_
 refine wpLoose_step (isVal (.int .i64 0)) rfl (by rfl) ⟨_,rfl⟩ (fun w' ho hk=>?_) (fun v hv=>?_)
 ·clear hk
  go_simp
  exact ⟨Only.refl _ _,rfl,trivial⟩
 obtain rfl:=hv
 go_simp
 refine wpLoose_chunk 6 (by kernel_rfl) (by rfl) ?_
 simp only [List.take_succ_cons,List.take_zero,List.drop_succ_cons,List.drop_zero,List.length_cons,List.length_nil,Nat.zero_add,Nat.reduceAdd]
 iterate 6 (go_big_quiet_step (fail))
 refine wpQuiet_nil ?_
 intro w9 ho9 hT9
 have HO9:=hide (HO8.out.trans ho9 (S:=[]) (by simp))
 clear hT9 ho9 l0 l1 l2 m0 m1 m2 n2 HC1 HC2 HC3 HC4 HRx HOf HO8
 go_wp2_with fail
 go_ret
 exact ⟨rfl,HO9.out⟩
theorem core (W H : Int) (A : Option Addr) (n c : Nat) (l : List UInt8) (lace : Bool) (z : Int) (w : World) (hT : Tab w) (hl : l.length = n) (hc : n <= c) (hb : Holds w 1 A n (bvals l)) :
 Calls Tryz.prog 3 #[mval W H A n c,.bool lace,.int .i64 z] w fun e w'=>e = .returned (.bool true) /\ Only [] w w':=by
 by_cases h : okB W H n
 ·obtain ⟨_,hW,hH,hn⟩:=h
  obtain ⟨a,rfl⟩:=Int.eq_ofNat_of_zero_le (show 0 <= W by omega)
  obtain ⟨b,rfl⟩:=Int.eq_ofNat_of_zero_le (show 0 <= H by omega)
  have hn4 : n = 4 * (a * b):=by
   have : (n : Int) = ((4 * (a * b) : Nat) : Int):=by rw [hn]; push_cast; rw [Int.mul_assoc]
   exact Int.ofNat.inj this
  have hp : 1 * 1 <= a * b:=Nat.mul_le_mul (by omega) (by omega)
  obtain ⟨ad,rfl,_⟩:=hb.2 (by omega)
  exact main a b ad n c l lace z w hT (by omega) (by omega) hn4 hb hl hc
 ·exact out W H A n c lace z w hT h
set_option maxRecDepth 100000 in
theorem lifted (os : Os) (started : os.Started) (H : Type) (enc : TypeId × Value -> H) :
 ReturnsInHanded {} Tryz.checked os 3 .any (fun w args=>(Rows.pngBackSpec.pre enc Tryz.prog Tryz.f3 [] false w args /\ laidMetH Tryz.prog laidI w) /\ sizedMet enc Tryz.prog Tryz.f3 (OpenSpec.ofChange Rows.pngBackSpec) false w args)
  (Rows.pngBackSpec.post enc Tryz.prog Tryz.f3 false true false false):=by
 refine returnsInHanded_of_change_and (C:=Tryz.checked) (X:=fun w _=>laidMetH Tryz.prog laidI w) (fun _ _ _ hh h=>h.of_heap hh) own_knob started (by kernel_rfl) Tryz.func3
  (ChangeSpec.witness_shaped (enc:=enc) (C:=Tryz.checked) (os:=os) (X:=fun w _=>laidMetH Tryz.prog laidI w) false (World.doorLaid Tryz.prog 400 os) #[.agg #[.int .i64 0,.int .i64 0,.slice none 0 0],.bool false,.int .i64 0] 8 rfl (World.shaped_of_RefB (by kernel_rfl) (by kernel_rfl)) (by kernel_rfl) (by kernel_rfl) (by kernel_rfl) (door_met os _)) ?_
 intro W base args ds gs before hval0 hW _ _ hL _
 have hval : ∀ (j : Nat) t v,Tryz.f3.params[j]? = some t -> args[j]? = some v -> Value.okWide Tryz.prog W .any base t v:=hval0
 have hW':=hW
 obtain ⟨p,q,hA0,hV,rfl,hfz,hnd⟩:=hW
 have hA : DataW.TrodAll enc Tryz.prog W 0 (fun _=>true) true Tryz.f3.params.toList args.toList ds p:=hA0
 rw [Tryz.params3] at hA hval
 obtain ⟨v0,vs0,d0,ds0,p0,q0,hargs,rfl,rfl,h0,r0⟩:=trodAll_cons hA
 obtain ⟨v1,vs1,d1,ds1,p1,q1,rfl,rfl,rfl,h1,r1⟩:=trodAll_cons r0
 obtain ⟨v2,vs2,d2,ds2,p2,q2,rfl,rfl,rfl,h2,r2⟩:=trodAll_cons r1
 obtain ⟨rfl,rfl,rfl⟩:=trodAll_nil r2
 obtain rfl : args = #[v0,v1,v2]:=by cases args; simp_all
 obtain ⟨W0,H0,A0,n0,c0,l0,rfl,_,_,hc0,_,_,hl0,hb0⟩:=open_mat (hval 0 24 v0 rfl rfl) h0
 obtain ⟨b1,rfl,rfl,rfl⟩:=open_bool Tryz.underlying4 (hval 1 4 v1 rfl rfl) h1
 obtain ⟨z2,rfl,rfl,rfl,_⟩:=open_int Tryz.underlying3 (hval 2 3 v2 rfl rfl) h2
 refine (core W0 H0 A0 n0 c0 l0 b1 z2 W (tab_of_laid hL) hl0 hc0 hb0).mono fun e W' ⟨he,ho⟩=>?_
 subst he
 exact ⟨_,rfl,law_post rfl hW' (by intro t ht; revert t; exact of_decide_eq_true (by kernel_rfl)) rfl rfl ho⟩
theorem holds : Rows.PngBackSaid :=
 OpenClaim.holds_of_wide 3 Tryz.f3 rfl rfl rfl rfl rfl rfl rfl ⟨rfl,rfl,rfl,rfl,rfl⟩ rfl rfl rfl rfl rfl (by kernel_rfl) Tryz.func3 (by kernel_rfl)
  (of_decide_eq_true (by kernel_rfl)) (by unfold Func.isWrapper; first | (rw [if_pos (by decide +kernel)]; kernel_rfl) | (rw [if_neg (by decide +kernel)]; exact ⟨rfl,rfl⟩))
  (fun os started H enc _=>lifted os started H enc)
theorem proved : Rows.PngBackCardSaid :=
 Claim7.holds_tied_plain_at .later [] Rows.pngBackCard.laidKinds true Rows.pngBackCard.stood.harness false
  holds (fun _ h=>by cases h) (by kernel_rfl) (fun _ h=>by cases h) pngBack_row_tie rfl ⟨rfl,rfl⟩ (by kernel_rfl) rfl
  (fun f fn hf hfn=>by
    obtain rfl : f = 3:=Option.some.inj ((show Tryz.prog.funcNamed "phosphor/phosphorlaw9.PngBack" = some 3 by kernel_rfl).symm.trans hf) |>.symm
    obtain rfl : fn = Tryz.f3:=(Option.some.inj (Tryz.func3.symm.trans hfn)).symm
    exact ⟨by kernel_rfl,fun j t ht=>by
     rw [Tryz.params3] at ht
     have hm : t ∈ [24,4,3]:=by simpa using Array.mem_of_getElem? ht
     have hall : ([24,4,3].all fun u=>!Tryz.prog.wantsStandIn u) = true:=by kernel_rfl
     exact (show Tryz.prog.wantsStandIn t = false by simpa using List.all_eq_true.1 hall t hm)⟩)
  (by kernel_rfl)
end Go.Proofs.YtjfjmkkkbcgohaaGreatDoor.pback
