/-
Proves: for any image and any bit PngSums tells true, and leaves all that was there as it was.
-/
import Derived.Test.YtffkhgephgnehaaGreatDoorPiO
import Derived.Test.YtffkhgephgnehaaGreatDoorMZlX
namespace Go.Proofs.YtffkhgephgnehaaGreatDoor.psums
open Go Go.RowKit Go.ChangeShapes Go.WideShapes Go.ChangeAt
def okS (W H : Int) (n : Nat) : Prop:=(1 <= W /\ W <= 20) /\ (1 <= H /\ H <= 20) /\ (n : Int) = 4 * W * H
set_option maxRecDepth 100000 in
set_option maxHeartbeats 8000000 in
theorem out (W H : Int) (A : Option Addr) (n c : Nat) (z : Int) (w : World) (hT : Tab w) (h : ¬ okS W H n) :
 Calls Tryz.prog 7 #[mval W H A n c,.int .i64 z] w fun e w'=>e = .returned (.bool true) /\ Only [] w w':=by
 have o1:=(Only.refl [] w).alloc (.cells #[.int .i64 W,.int .i64 H,.slice A n c] 41)
 have h1:=Has.new w 41 #[.int .i64 W,.int .i64 H,.slice A n c]
 have HK:=hide (knownP_any _ (hT.only o1 (by simp)))
 have H1:=hide (aI o1 h1)
 have hc : W < 1 \/ (¬ W < 1 /\ H < 1) \/ (¬ W < 1 /\ ¬ H < 1 /\ 20 < W) \/ (¬ W < 1 /\ ¬ H < 1 /\ ¬ 20 < W /\ 20 < H) \/ (¬ W < 1 /\ ¬ H < 1 /\ ¬ 20 < W /\ ¬ 20 < H /\ ¬ (n : Int) = 4 * W * H):=by
  unfold okS at h
  by_cases c1 : W < 1
  ·exact .inl c1
  by_cases c2 : H < 1
  ·exact .inr (.inl ⟨c1,c2⟩)
  by_cases c3 : 20 < W
  ·exact .inr (.inr (.inl ⟨c1,c2,c3⟩))
  by_cases c4 : 20 < H
  ·exact .inr (.inr (.inr (.inl ⟨c1,c2,c3,c4⟩)))
  ·exact .inr (.inr (.inr (.inr ⟨c1,c2,c3,c4,fun e=>h ⟨⟨by omega,by omega⟩,⟨by omega,by omega⟩,e⟩⟩)))
 unfold mval
 clear o1 h1 hT h
 rcases hc with h1 | ⟨h1,h2⟩ | ⟨h1,h2,h3⟩ | ⟨h1,h2,h3,h4⟩ | ⟨h1,h2,h3,h4,h5⟩
 case' inr.inr.inr.inr =>
  have w1 : Go.RowKit.wrap64 (4 * W) = 4 * W:=by unfold Go.RowKit.wrap64; omega
  have hp : 4 * W * H <= 4 * 20 * 20:=Int.mul_le_mul (by omega) (by omega) (by omega) (by omega)
  have hp0 : 0 <= 4 * W * H:=Int.mul_nonneg (by omega) (by omega)
  have w2 : Go.RowKit.wrap64 (4 * W * H) = 4 * W * H:=by unfold Go.RowKit.wrap64; omega
  have hb5 : ((n : Int) != 4 * W * H) = true:=bne_iff_ne.2 h5
  clear hp hp0 h5
 all_goals
  go_enter Tryz.func7,Tryz.ntmps7
  go_wp2_with fail
  refine (HK.out).mono ?_
  rintro e x2 ⟨rfl,ho2⟩
  have hx2:=H1.out.2.only ho2 (by simp)
  have c0 : World.cell? x2 ⟨w.heap.size,0,none⟩ = some (.int .i64 W):=hx2.cell 0
  have c1 : World.cell? x2 ⟨w.heap.size,1,none⟩ = some (.int .i64 H):=hx2.cell 1
  have c2 : World.cell? x2 ⟨w.heap.size,2,none⟩ = some (.slice A n c):=hx2.cell 2
  have H2:=hide (H1.out.1.trans ho2 (S:=[]) (by simp))
  clear ho2 hx2
  go_wp2_with fail
  go_ret
  exact ⟨rfl,H2.out⟩
theorem file_turned {c0 : Ck} (h : CkOk c0) (cs : List Ck) (j : Nat) (h12 : 12 <= j) (hj : j < c0.d.length + 20) (x : UInt8) (hx : x ≠ (layB (c0 :: cs)).getD j 0) : 0 < chE ((layB (c0 :: cs)).set j x) /\ 0 < infE ((layB (c0 :: cs)).set j x):=by
 have hl : 8 <= (layB (c0 :: cs)).length:=by rw [layB_length]; omega
 have hd : (layB (c0 :: cs)).drop 8 = layC c0 ++ cs.flatMap layC:=rfl
 have hds : ((layB (c0 :: cs)).set j x).drop 8 = (layC c0 ++ cs.flatMap layC).set (j - 8) x:=by rw [drop_set _ _ _ _ (by omega),hd]
 have hn:=nx_turned h (cs.flatMap layC) (j - 8) (by omega) (by omega) x (by
  rw [<- hd,List.getD_eq_getElem?_getD,List.getElem?_drop,show 8 + (j - 8) = j by omega,<- List.getD_eq_getElem?_getD]
  exact hx)
 rw [<- hds] at hn
 have hb : begE ((layB (c0 :: cs)).set j x) = 0:=by
  have ht : ((layB (c0 :: cs)).set j x).take 8 = sigB:=by
   rw [take_set]
   have e : (layB (c0 :: cs)).take 8 = sigB:=rfl
   rw [e,List.set_eq_of_length_le (by show 8 <= j; omega)]
  unfold begE
  rw [List.length_set,show min (layB (c0 :: cs)).length 8 = 8 by omega,ht,if_pos (by rfl),if_neg (by omega)]
 refine ⟨?_,?_⟩
 ·unfold chE
  rw [hb,if_pos rfl,cks_bad (by omega)]
  exact hn
 ·unfold infE
  rw [hb,if_pos rfl,if_neg (by omega)]
  exact hn
theorem idx_facts (k q j : Nat) (hq : q = k / 8) (hj : j = 12 + k / 8) (hk : k < 168) : Go.RowKit.wrap64 ((k : Int) / 8) = (q : Int) /\ Go.RowKit.wrap64 (12 + (q : Int)) = (j : Int):=by
 unfold Go.RowKit.wrap64; omega
theorem neg_facts (k : Nat) (r : Int) (h : (k : Int) = 0 - r) (hk : k < 168) : Go.RowKit.wrap64 (0 - r) = (k : Int) /\ Go.RowKit.wrap64 (-r) = (k : Int):=by
 unfold Go.RowKit.wrap64; omega
theorem mat_facts (W H n : Nat) (hW : 1 <= W /\ W <= 20) (hH : 1 <= H /\ H <= 20) (hn : n = 4 * (W * H)) : Go.RowKit.wrap64 (4 * (W : Int)) = 4 * (W : Int) /\ Go.RowKit.wrap64 (4 * (W : Int) * (H : Int)) = 4 * (W : Int) * (H : Int) /\ ((n : Int) != 4 * (W : Int) * (H : Int)) = false:=by
 have hnn : (n : Int) = 4 * (W : Int) * (H : Int):=by rw [hn]; push_cast; rw [Int.mul_assoc]
 have hp : W * H <= 20 * 20:=Nat.mul_le_mul hW.2 hH.2
 refine ⟨by unfold Go.RowKit.wrap64; omega,by rw [<- hnn]; unfold Go.RowKit.wrap64; omega,by rw [<- hnn]; exact bne_self_eq_false' _⟩
set_option maxRecDepth 100000 in
set_option maxHeartbeats 16000000 in
theorem main (W H : Nat) (A : Addr) (n c : Nat) (M : List UInt8) (z : Int) (w : World) (hT : Tab w) (hW : 1 <= W /\ W <= 20) (hH : 1 <= H /\ H <= 20) (hn : n = 4 * (W * H)) (hb : Holds w 1 (some A) n (bvals M)) (hM : M.length = n) (hc : n <= c) :
 Calls Tryz.prog 7 #[mval W H (some A) n c,.int .i64 z] w fun e w'=>e = .returned (.bool true) /\ Only [] w w':=by
 have o1:=(Only.refl [] w).alloc (.cells #[.int .i64 (W : Int),.int .i64 (H : Int),.slice (some A) n c] 41)
 have h1:=Has.new w 41 #[.int .i64 (W : Int),.int .i64 (H : Int),.slice (some A) n c]
 have HK:=hide (knownP_any _ (hT.only o1 (by simp)))
 have H1:=hide (aI o1 h1)
 have HMf:=hide (mat_facts W H n hW hH hn)
 have a1 : ¬ (W : Int) < 1:=by omega
 have a2 : ¬ (H : Int) < 1:=by omega
 have a3 : ¬ (20 : Int) < (W : Int):=by omega
 have a4 : ¬ (20 : Int) < (H : Int):=by omega
 have HE:=hide (fun x (hx : Only [] w x)=>encode_any W H 0 A n c M false x (by omega) (by omega) (by omega) (hb.keep hx (by simp)) hM hn hc)
 obtain ⟨_,hs2,hs3⟩:=encB_size 0 (by omega) M W H 0 (by omega) (by omega) (by omega)
 obtain ⟨B,hB⟩ : ∃ B,B = encB 0 M W H 0:=⟨_,rfl⟩
 rw [show (false : Bool).toNat = 0 from rfl,<- hB] at HE
 rw [<- hB] at hs2 hs3
 have HX:=hide (aI hB (aI hs2 (aI hs3 (aI hW (aI hH hn)))))
 have HT:=hide hT
 unfold mval
 unfold mval at HE
 clear o1 h1 hT hB hs2 hs3 hW hH hn hb hM hc
 go_enter Tryz.func7,Tryz.ntmps7
 go_wp2_with fail
 refine (HK.out).mono ?_
 rintro e x2 ⟨rfl,ho2⟩
 have hx2:=H1.out.2.only ho2 (by simp)
 have c0 : World.cell? x2 ⟨w.heap.size,0,none⟩ = some (.int .i64 (W : Int)):=hx2.cell 0
 have c1 : World.cell? x2 ⟨w.heap.size,1,none⟩ = some (.int .i64 (H : Int)):=hx2.cell 1
 have c2 : World.cell? x2 ⟨w.heap.size,2,none⟩ = some (.slice (some A) n c):=hx2.cell 2
 have H2:=hide (H1.out.1.trans ho2 (S:=[]) (by simp))
 clear ho2 hx2 HK
 obtain ⟨w1,w2,hb5⟩:=HMf.out
 go_wp2_with fail
 clear w1 w2 hb5 a1 a2 a3 a4 c0 c1 c2
 refine (HE.out x2 H2.out).mono ?_
 rintro e x3 ⟨v,rfl,how,ho3⟩
 obtain ⟨A3,c3,rfl,hc3,_⟩:=own_shape how
 obtain ⟨g3,hA3,hg3,hlt3,hfr3,hcell3⟩:=own_open how (by have:=HX.out.2.2.1; omega)
 subst hA3
 have o3:=H2.out.trans ho3 (S:=[]) (by simp)
 have h45 : ¬ (B.length : Int) < 45:=by have:=HX.out.2.2.1; omega
 obtain ⟨r,hr⟩ : ∃ r,r = z.tmod 168:=⟨_,rfl⟩
 have hm : z.tmod 168 = r:=hr.symm
 have hru : r < 168:=by rw [hr]; exact Int.tmod_lt_of_pos _ (by omega)
 have hrl : -168 < r:=by
  have h1:=Int.tmod_lt_of_pos (-z) (b:=168) (by omega)
  rw [Int.neg_tmod] at h1
  rw [hr]; omega
 obtain ⟨k,hk⟩ : ∃ k : Nat,(k : Int) = if r < 0 then 0 - r else r:=⟨(if r < 0 then 0 - r else r).toNat,by split <;> omega⟩
 have hk168 : k < 168:=by split at hk <;> omega
 obtain ⟨j,hj⟩ : ∃ j,j = 12 + k / 8:=⟨_,rfl⟩
 obtain ⟨q,hqk⟩ : ∃ q,q = k / 8:=⟨_,rfl⟩
 have hil : j < B.length:=by have:=HX.out.2.2.1; omega
 obtain ⟨x,hx⟩ : ∃ x,x = (B[j]'hil).toNat:=⟨_,rfl⟩
 have hx8 : x < 256:=by rw [hx]; exact (B[j]'hil).toNat_lt
 obtain ⟨y,hy⟩ : ∃ y,y = x ^^^ 2 ^ (k % 8):=⟨_,rfl⟩
 have hp2 : 2 ^ (k % 8) < 256:=Nat.pow_lt_pow_right (a:=2) (by omega) (n:=8) (by omega)
 have hy8 : y < 256:=by rw [hy]; exact Nat.xor_lt_two_pow (n:=8) hx8 hp2
 have eX : bits .xor .u8 (x : Int) (2 ^ (k % 8) % 256) = (y : Int):=by
  have e : ((2 : Int) ^ (k % 8) % 256) = ((2 ^ (k % 8) : Nat) : Int):=by rw [<- two_pow_cast]; generalize 2 ^ (k % 8) = p at hp2 ⊢; omega
  rw [e,hy]; exact u8_xor_nat _ _ hx8 hp2
 have e3:=hcell3 (j) _ (bvals_get B (j) hil)
 rw [<- hx] at e3
 have f3:=hfr3 (j)
 have hne : UInt8.ofNat y ≠ B[j]:=by rw [hy,hx]; exact flip_ne _ _ (by omega)
 have own3:=own_set how (j) (.int .u8 (y : Int))
 rw [bvals_set _ _ _ hy8] at own3
 have oS : Only [] w (x3.setCell ⟨g3,j,none⟩ (.int .u8 (y : Int))):=o3.setCell (fun h=>by have:=H2.out.size; simp at h; omega) _
 have H3:=hide (aI hne (aI (Holds.of_own own3) (aI oS hc3)))
 have hil2 : (j : Int) < (B.length : Int):=by omega
 have HQk:=hide hqk
 have HKk:=hide (aI hk168 (aI hil hj))
 clear how hcell3 hfr3 ho3 o3 own3 oS hne hx hy hp2 hr hc3 hrl hru hk168 hj hqk
 obtain ⟨hq0,hq1⟩:=idx_facts k q j HQk.out HKk.out.2.2 HKk.out.1
 by_cases hneg : r < 0
 case' pos =>
  rw [if_pos hneg] at hk
  obtain ⟨hk1,hk2⟩:=neg_facts k r hk HKk.out.1
  clear hk
  go_wp2_with fail
 case' neg =>
  rw [if_neg hneg] at hk
  subst hk
  go_wp2_with fail
 all_goals
  clear hq0 hq1 hm hneg e3 f3 eX hil2 h45
  generalize x3.setCell ⟨g3,j,none⟩ (.int .u8 (y : Int)) = x4 at *
  have hjl : j < 13 + 20:=by have:=HKk.out.1; have:=HKk.out.2.2; omega
  have hj12 : 12 <= j:=by have:=HKk.out.2.2; omega
  have hft:=file_turned (ckOk_head W H 0) [⟨idat,pkB 0 M W H 0⟩,⟨iend,[]⟩] j hj12 (by rw [headB_length]; exact hjl) (UInt8.ofNat y) (by
   rw [List.getD_eq_getElem?_getD]
   have e : (layB [⟨ihdr,headB W H 8 6 0⟩,⟨idat,pkB 0 M W H 0⟩,⟨iend,[]⟩])[j]? = B[j]?:=by rw [HX.out.1]; rfl
   rw [e,List.getElem?_eq_getElem HKk.out.2.1]
   exact H3.out.1)
  have eB : layB [⟨ihdr,headB W H 8 6 0⟩,⟨idat,pkB 0 M W H 0⟩,⟨iend,[]⟩] = B:=HX.out.1.symm
  rw [eB] at hft
  obtain ⟨B',hB'⟩ : ∃ B',B' = B.set j (UInt8.ofNat y):=⟨_,rfl⟩
  have hBl : B'.length = B.length:=by rw [hB',List.length_set]
  rw [<- hB'] at hft
  have hbv:=H3.out.2.1
  rw [<- hB'] at hbv
  have HD:=hide (fun (x : World) (hx : Only [] x4 x)=>dec_bad (some ⟨g3,0,none⟩) B.length c3 B' 400 x (hbv.keep hx (by simp)) hBl H3.out.2.2.2 (by have:=HX.out.2.1; omega) hft.1)
  have HI:=hide (fun (x : World) (hx : Only [] x4 x)=>info_any (some ⟨g3,0,none⟩) B.length c3 B' x (hbv.keep hx (by simp)) hBl H3.out.2.2.2 (by have:=HX.out.2.1; omega))
  have hiv : infV B' = .agg noHead:=by unfold infV; rw [if_neg (by omega)]
  rw [hiv] at HI
  obtain ⟨E,hE⟩ : ∃ E,E = chE B':=⟨_,rfl⟩
  obtain ⟨F,hF⟩ : ∃ F,F = infE B':=⟨_,rfl⟩
  rw [<- hE] at hft HD
  rw [<- hF] at hft HI
  have hE0 : ((E : Int) != 0) = true:=bne_iff_ne.2 (by omega)
  have hF0 : ((F : Int) != 0) = true:=bne_iff_ne.2 (by omega)
  have HOx:=hide H3.out.2.2.1
  clear hft hE hF hB' hBl hbv hiv eB hjl hj12 H3 HX HE
  unfold mval at HD
  unfold noHead at HI
  refine (HD.out x4 (Only.refl [] x4)).mono ?_
  rintro e x5 ⟨rfl,ho5⟩
  have oa:=ho5.alloc (.cells #[.int .i64 0,.int .i64 0,.slice none 0 0] 41)
  have hmx:=Has.new x5 41 #[.int .i64 0,.int .i64 0,.slice none 0 0]
  have H5:=hide (aI oa hmx)
  clear ho5 oa hmx HD
  go_wp2_with fail
  refine (HI.out _ H5.out.1).mono ?_
  rintro e x6 ⟨ho6,rfl⟩
  have o6:=(HOx.out.trans H5.out.1 (S:=[]) (by simp)).trans ho6 (S:=[]) (by simp)
  have ob:=(Only.refl [] x6).alloc (.cells #[.int .i64 0,.int .i64 0,.int .i64 0,.int .i64 0,.int .i64 0] 33)
  have hm6:=(H5.out.2.only ho6 (by simp)).only ob (by simp)
  have m2 : World.cell? _ ⟨x5.heap.size,2,none⟩ = some (.slice none 0 0):=hm6.cell 2
  have hh6:=Has.new x6 33 #[.int .i64 0,.int .i64 0,.int .i64 0,.int .i64 0,.int .i64 0]
  have q0:=hh6.cell 0
  have q1:=hh6.cell 1
  have q2:=hh6.cell 2
  have q3:=hh6.cell 3
  have q4:=hh6.cell 4
  simp only [List.getElem?_toArray,List.getElem?_cons_zero,List.getElem?_cons_succ] at q0 q1 q2 q3 q4
  have H6:=hide (o6.trans ob (S:=[]) (by simp))
  clear ho6 o6 ob hm6 hh6 HI
  go_wp2_with fail
  go_ret
  exact ⟨rfl,H6.out⟩
theorem core (W H : Int) (A : Option Addr) (n c : Nat) (l : List UInt8) (z : Int) (w : World) (hT : Tab w) (hl : l.length = n) (hc : n <= c) (hb : Holds w 1 A n (bvals l)) :
 Calls Tryz.prog 7 #[mval W H A n c,.int .i64 z] w fun e w'=>e = .returned (.bool true) /\ Only [] w w':=by
 by_cases h : okS W H n
 ·obtain ⟨hW,hH,hn⟩:=h
  obtain ⟨a,rfl⟩:=Int.eq_ofNat_of_zero_le (show 0 <= W by omega)
  obtain ⟨b,rfl⟩:=Int.eq_ofNat_of_zero_le (show 0 <= H by omega)
  have hn4 : n = 4 * (a * b):=by
   have : (n : Int) = ((4 * (a * b) : Nat) : Int):=by rw [hn]; push_cast; rw [Int.mul_assoc]
   exact Int.ofNat.inj this
  have hp : 1 * 1 <= a * b:=Nat.mul_le_mul (by omega) (by omega)
  obtain ⟨ad,rfl,_⟩:=hb.2 (by omega)
  exact main a b ad n c l z w hT (by omega) (by omega) hn4 hb hl hc
 ·exact out W H A n c z w hT h
set_option maxRecDepth 100000 in
theorem lifted (os : Os) (started : os.Started) (H : Type) (enc : TypeId × Value -> H) :
 ReturnsInHanded {} Tryz.checked os 7 .any (fun w args=>(Rows.pngSumsSpec.pre enc Tryz.prog Tryz.f7 [] false w args /\ laidMetH Tryz.prog laidI w) /\ sizedMet enc Tryz.prog Tryz.f7 (OpenSpec.ofChange Rows.pngSumsSpec) false w args)
  (Rows.pngSumsSpec.post enc Tryz.prog Tryz.f7 false true false false):=by
 refine returnsInHanded_of_change_and (C:=Tryz.checked) (X:=fun w _=>laidMetH Tryz.prog laidI w) (fun _ _ _ hh h=>h.of_heap hh) own_knob started (by kernel_rfl) Tryz.func7
  (ChangeSpec.witness_shaped (enc:=enc) (C:=Tryz.checked) (os:=os) (X:=fun w _=>laidMetH Tryz.prog laidI w) false (World.doorLaid Tryz.prog 400 os) #[.agg #[.int .i64 0,.int .i64 0,.slice none 0 0],.int .i64 0] 8 rfl (World.shaped_of_RefB (by kernel_rfl) (by kernel_rfl)) (by kernel_rfl) (by kernel_rfl) (by kernel_rfl) (door_met os _)) ?_
 intro W base args ds gs before hval0 hW _ _ hL _
 have hval : ∀ (j : Nat) t v,Tryz.f7.params[j]? = some t -> args[j]? = some v -> Value.okWide Tryz.prog W .any base t v:=hval0
 have hW':=hW
 obtain ⟨p,q,hA0,hV,rfl,hfz,hnd⟩:=hW
 have hA : DataW.TrodAll enc Tryz.prog W 0 (fun _=>true) true Tryz.f7.params.toList args.toList ds p:=hA0
 rw [Tryz.params7] at hA hval
 obtain ⟨v0,vs0,d0,ds0,p0,q0,hargs,rfl,rfl,h0,r0⟩:=trodAll_cons hA
 obtain ⟨v1,vs1,d1,ds1,p1,q1,rfl,rfl,rfl,h1,r1⟩:=trodAll_cons r0
 obtain ⟨rfl,rfl,rfl⟩:=trodAll_nil r1
 obtain rfl : args = #[v0,v1]:=by cases args; simp_all
 obtain ⟨W0,H0,A0,n0,c0,l0,rfl,_,_,hc0,_,_,hl0,hb0⟩:=open_mat (hval 0 41 v0 rfl rfl) h0
 obtain ⟨z1,rfl,rfl,rfl,_⟩:=open_int Tryz.underlying3 (hval 1 3 v1 rfl rfl) h1
 refine (core W0 H0 A0 n0 c0 l0 z1 W (tab_of_laid hL) hl0 hc0 hb0).mono fun e W' ⟨he,ho⟩=>?_
 subst he
 exact ⟨_,rfl,law_post rfl hW' (by intro t ht; revert t; exact of_decide_eq_true (by kernel_rfl)) rfl rfl ho⟩
theorem holds : Rows.PngSumsSaid :=
 OpenClaim.holds_of_wide 7 Tryz.f7 rfl rfl rfl rfl rfl rfl rfl ⟨rfl,rfl,rfl,rfl,rfl⟩ rfl rfl rfl rfl rfl (by kernel_rfl) Tryz.func7 (by kernel_rfl)
  (of_decide_eq_true (by kernel_rfl)) (by unfold Func.isWrapper; first | (rw [if_pos (by decide +kernel)]; kernel_rfl) | (rw [if_neg (by decide +kernel)]; exact ⟨rfl,rfl⟩))
  (fun os started H enc _=>lifted os started H enc)
theorem proved : Rows.PngSumsCardSaid :=
 Claim7.holds_tied_plain_at .later [] Rows.pngSumsCard.laidKinds true Rows.pngSumsCard.stood.harness false
  holds (fun _ h=>by cases h) (by kernel_rfl) (fun _ h=>by cases h) pngSums_row_tie rfl ⟨rfl,rfl⟩ (by kernel_rfl) rfl
  (fun f fn hf hfn=>by
    obtain rfl : f = 7:=Option.some.inj ((show Tryz.prog.funcNamed "phosphor/phosphorlaw9.PngSums" = some 7 by kernel_rfl).symm.trans hf) |>.symm
    obtain rfl : fn = Tryz.f7:=(Option.some.inj (Tryz.func7.symm.trans hfn)).symm
    exact ⟨by kernel_rfl,fun j t ht=>by
     rw [Tryz.params7] at ht
     have hm : t ∈ [41,3]:=by simpa using Array.mem_of_getElem? ht
     have hall : ([41,3].all fun u=>!Tryz.prog.wantsStandIn u) = true:=by kernel_rfl
     exact (show Tryz.prog.wantsStandIn t = false by simpa using List.all_eq_true.1 hall t hm)⟩)
  (by kernel_rfl)
end Go.Proofs.YtffkhgephgnehaaGreatDoor.psums
