/-
  The document's Fit.
-/
import Derived.Test.YtngaabnmhcncmaaPxTd
import Derived.Test.YtngaabnmhcncmaaAdd
namespace Go.Proofs.Ytngaabnmhcncmaa
open Go Go.RowKit

set_option maxRecDepth 100000 in
set_option maxHeartbeats 4000000 in
theorem tFit_bad (W H : Nat) (A : Option Addr) (n c : Nat) (p q : Int) (w : World) (hf : fitB W p q = false) :
    Calls Try.prog 31 #[mval W H A n c, .int .i64 p, .int .i64 q] w fun e w' => ∃ v, e = .returned (.tuple #[v, .int .i64 1]) ∧ Own w' w.heap.size 0 0 v [] ∧ Only [] w w' := by
  have HM := hide (fun w => tSize_any p q w)
  show Calls Try.prog 31 #[.agg #[.int .i64 W, .int .i64 H, .slice A n c], .int .i64 p, .int .i64 q] w _
  obtain ⟨w0, hw0⟩ : ∃ w0, w0 = (w.alloc (.cells #[.int .i64 (W : Int), .int .i64 (H : Int), .slice A n c] 31)).alloc (.cells #[.int .i64 0, .int .i64 0, .slice none 0 0] 31) := ⟨_, rfl⟩
  have o2 : Only [] w w0 := by rw [hw0]; exact ((Only.refl [] w).alloc _).alloc _
  have hz : Has w0 (w.heap.size + 1) 31 #[.int .i64 0, .int .i64 0, .slice none 0 0] := by rw [hw0]; exact Has.new' _ _ _ _ (by simp)
  have hm : Has w0 w.heap.size 31 #[.int .i64 (W : Int), .int .i64 (H : Int), .slice A n c] := by rw [hw0]; exact (Has.new w _ _).alloc _
  have a0 := hm.cell 0
  simp only [List.getElem?_toArray, List.getElem?_cons_zero] at a0
  have HH := hide o2
  clear o2 hm
  cases hmb : mayI p q with
  | false =>
    rw [hmb] at HM
    clear hf hmb
    go_enter Try.func31, Try.ntmps31
    go_wp2_with fail
    rw [← hw0]
    clear hw0
    refine (HM.out _).mono ?_
    rintro e w1 ⟨rfl, hw1⟩
    replace hw1 := hw1.symm
    subst hw1
    go_wp2_with (refine list_store_row' rfl 31 (.tmp 6) (.tmp 25) rfl (w.heap.size + 1) #[.int .i64 0, .int .i64 0, .slice none 0 0] rfl rfl 31 _ hz (by kernel_rfl) rfl (mat_one _ _ _ _ _) ?_; intro w3 hT3 hO3)
    exact bodyPost_ret (results_row_two Try.results31 _ _ (w.heap.size + 1) 31 _ _ rfl hT3 Try.underlying31 rfl (by kernel_rfl)) rfl ⟨_, rfl, own_zero _ _, HH.out.trans hO3 (by intro i hi hlt; simp at hi; omega)⟩
  | true =>
    rw [hmb] at HM
    unfold fitB at hf
    rw [hmb, Bool.true_and] at hf
    clear hmb
    have hd : ((((W : Int) == 0) == (p == 0)) : Bool) = false := by
      rw [show ((W : Int) == 0) = decide (W = 0) by rw [Bool.eq_iff_iff]; simp, show (p == 0) = decide (p = 0) by rw [Bool.eq_iff_iff]; simp]
      exact hf
    clear hf
    go_enter Try.func31, Try.ntmps31
    go_wp2_with fail
    rw [← hw0]
    clear hw0
    refine (HM.out _).mono ?_
    rintro e w1 ⟨rfl, hw1⟩
    replace hw1 := hw1.symm
    subst hw1
    go_wp2_with (refine list_store_row' rfl 31 (.tmp 6) (.tmp 25) rfl (w.heap.size + 1) #[.int .i64 0, .int .i64 0, .slice none 0 0] rfl rfl 31 _ hz (by kernel_rfl) rfl (mat_one _ _ _ _ _) ?_; intro w3 hT3 hO3)
    exact bodyPost_ret (results_row_two Try.results31 _ _ (w.heap.size + 1) 31 _ _ rfl hT3 Try.underlying31 rfl (by kernel_rfl)) rfl ⟨_, rfl, own_zero _ _, HH.out.trans hO3 (by intro i hi hlt; simp at hi; omega)⟩

set_option maxRecDepth 100000 in
set_option maxHeartbeats 8000000 in
theorem tFit_ok (W H : Nat) (A : Option Addr) (n c : Nat) (l : List UInt8) (p q : Nat) (w : World) (hb : Holds w 1 A n (bvals l)) (hl : l.length = n) (hok : okM W H n) (hf : fitB W p q = true) :
    Calls Try.prog 31 #[mval W H A n c, .int .i64 (p : Int), .int .i64 (q : Int)] w fun e w' => ∃ v, e = .returned (.tuple #[v, .int .i64 0]) ∧ Own w' w.heap.size p q v (fitL W H p q l) ∧ Only [] w w' := by
  have hn4 := hok.le
  have hsd := hok.side
  have hmb : mayI p q = true := by unfold fitB at hf; rw [Bool.and_eq_true] at hf; exact hf.1
  have hd : ((((W : Int) == 0) == ((p : Int) == 0)) : Bool) = true := by
    unfold fitB at hf
    rw [Bool.and_eq_true] at hf
    rw [show ((W : Int) == 0) = decide (W = 0) by rw [Bool.eq_iff_iff]; simp, show ((p : Int) == 0) = decide ((p : Int) = 0) by rw [Bool.eq_iff_iff]; simp]
    exact hf.2
  have hpW : W = 0 ↔ p = 0 := by
    unfold fitB at hf
    rw [Bool.and_eq_true] at hf
    have := beq_iff_eq.1 hf.2
    rw [decide_eq_decide] at this
    omega
  obtain ⟨p', q', e1, e2, hpq, hokp⟩ := mayI_nat hmb
  obtain rfl : p = p' := by exact_mod_cast e1
  obtain rfl : q = q' := by exact_mod_cast e2
  have hsp := hokp.side
  have HM := hide (fun w => tSize_any p q w)
  rw [hmb] at HM
  obtain ⟨D, hD⟩ : ∃ D, D = p * q := ⟨_, rfl⟩
  obtain ⟨N, hN⟩ : ∃ N, N = 4 * D := ⟨_, rfl⟩
  have hdef : fitL W H p q l = rowsF (fitF W H p q l) p 0 p (List.replicate (4 * (p * q)) 0) 0 q := rfl
  rw [← hD, ← hN] at hdef
  generalize fitL W H p q l = R at *
  have V3 := hide (wr_nat (z := 4 * (p : Int)) (n := 4 * p) (by omega) (by omega))
  have V4 := hide (wr_nat (z := 4 * (p : Int) * (q : Int)) (n := N) (by rw [hN, hD, ← Nat.mul_assoc]; push_cast; rfl) (by omega))
  have hmk : ∀ W : World, (Instr.makeSlice 22 (.int .i64 (N : Int)) (.int .i64 (N : Int))).run Try.prog W = .ok (.slice (some ⟨W.heap.size, 0, none⟩) N N) (W.alloc (.cells (bvals (List.replicate N 0)).toArray 5)) := by
    intro W
    have h := run_make_row' (P := Try.prog) 22 5 (.int .u8 0) 1 Try.underlying22 u8_info rfl .i64 .i64 N (by omega) (by omega) W
    rw [h, zeros_eq]
  obtain ⟨w0, hw0⟩ : ∃ w0, w0 = (w.alloc (.cells #[.int .i64 (W : Int), .int .i64 (H : Int), .slice A n c] 31)).alloc (.cells #[.int .i64 0, .int .i64 0, .slice none 0 0] 31) := ⟨_, rfl⟩
  have o0 : Only [] w w0 := by rw [hw0]; exact ((Only.refl [] w).alloc _).alloc _
  have s0 : w0.heap.size = w.heap.size + 2 := by rw [hw0]; simp
  have hm0 : Has w0 w.heap.size 31 #[.int .i64 (W : Int), .int .i64 (H : Int), .slice A n c] := by rw [hw0]; exact (Has.new w _ _).alloc _
  have hz : Has w0 (w.heap.size + 1) 31 #[.int .i64 0, .int .i64 0, .slice none 0 0] := by rw [hw0]; exact Has.new' _ _ _ _ (by simp)
  have hown := own_made w0 5 (List.replicate N 0) N (by simp) (by omega)
  have HZ := hide (And.intro hz (And.intro o0 (And.intro hm0 (And.intro hown s0))))
  have HI := hide (And.intro hok (And.intro hdef (And.intro hN (And.intro hsd (And.intro hl (And.intro hn4 (And.intro hb (And.intro hD (And.intro hpq (And.intro hsp (And.intro hpW hokp)))))))))))
  have a0 := hm0.cell 0
  simp only [List.getElem?_toArray, List.getElem?_cons_zero] at a0
  show Calls Try.prog 31 #[.agg #[.int .i64 W, .int .i64 H, .slice A n c], .int .i64 (p : Int), .int .i64 (q : Int)] w _
  clear hok hsd hm0 o0 hz hdef hN hD hl hn4 hb s0 hf hmb hpq hsp hpW hokp e1 e2 hown
  obtain ⟨v3, y3⟩ := V3.out
  obtain ⟨v4, y4⟩ := V4.out
  go_enter Try.func31, Try.ntmps31
  go_wp2_with fail
  rw [← hw0]
  clear hw0
  refine (HM.out _).mono ?_
  rintro e w0' ⟨rfl, hw2⟩
  replace hw2 := hw2.symm
  subst hw2
  go_wp2_with fail
  obtain ⟨w1, hw1⟩ : ∃ w1, w1 = w0.alloc (.cells (bvals (List.replicate N 0)).toArray 5) := ⟨_, rfl⟩
  have s1 : w1.heap.size = w0.heap.size + 1 := by rw [hw1]; simp
  have hS : TSt w0 w1 (w.heap.size + 1) p q (some ⟨w0.heap.size, 0, none⟩) N N (List.replicate N 0) (w1.alloc (.cells #[.int .i64 (p : Int), .int .i64 (q : Int), .slice (some ⟨w0.heap.size, 0, none⟩) N N] 31)) := by
    refine ⟨by simp, ?_, ?_, Has.new w1 _ _, ?_⟩
    · have h := HZ.out.2.2.2.1
      rw [← hw1] at h
      exact own_keep h ((Only.refl [] w1).alloc _) (by simp)
    · rw [hw1]; exact (HZ.out.1.alloc _).alloc _
    · rw [hw1]; exact ((Only.refl [] w0).alloc _).alloc _
  have HS0 := hide hS
  clear hS
  rw [← hw1]
  clear v3 v4 y3 y4 V3 V4 hmk a0 hw1 HM hd
  go_loopw [9] (fun i wr => ∃ (v : Nat) (m : List UInt8), v ≤ q ∧ i = .int .i64 v ∧ TSt w0 w1 (w.heap.size + 1) p q (some ⟨w0.heap.size, 0, none⟩) N N m wr ∧ rowsF (fitF W H p q l) p 0 p m v (q - v) = R) (fun i _ => q - (intOf i).toNat)
  case atStart => exact ⟨0, List.replicate N 0, Nat.zero_le _, rfl, HS0.out, HI.out.2.1.symm⟩
  case round =>
    obtain ⟨v, m, hv, rfl, S, hd⟩ := hrel
    have hvw : v ≤ 16384 := by have := HI.out.2.2.2.2.2.2.2.2.2.1; omega
    by_cases hlt : v < q
    · obtain ⟨R1, hR1⟩ : ∃ R1, R1 = rowF (fitF W H p q l v) (v * p) m 0 p := ⟨_, rfl⟩
      have HS := hide (And.intro hd (And.intro hlt hR1))
      have HSS := hide S
      clear hd S hR1 hv
      go_wp2_with fail
      go_loopw [10] (fun i wr => ∃ (u : Nat) (m' : List UInt8), u ≤ p ∧ i = .int .i64 u ∧ TSt w0 w1 (w.heap.size + 1) p q (some ⟨w0.heap.size, 0, none⟩) N N m' wr ∧ rowF (fitF W H p q l v) (v * p) m' u (p - u) = R1) (fun i _ => p - (intOf i).toNat)
      case atStart => exact ⟨0, m, Nat.zero_le _, rfl, HSS.out, HS.out.2.2.symm⟩
      case round =>
        obtain ⟨u, m', hu, rfl, S, hd⟩ := hrel
        have huw : u ≤ 16384 := by have := HI.out.2.2.2.2.2.2.2.2.2.1; omega
        by_cases hub : u < p
        · obtain ⟨hok, hdef, hN, hsd, hl, hn4, hb, hD, hpq, hsp, hpW, hokp⟩ := HI.out
          have hW0 : 0 < W := by omega
          have hH0 : 0 < H := by have := hok.1; omega
          have hfit : 4 * (v * p + u) + 4 ≤ N := by
            have := hokp.fit hub hlt
            rw [hN, hD]; exact this
          obtain ⟨DX, hDX⟩ : ∃ DX, DX = u * W := ⟨_, rfl⟩
          obtain ⟨DY, hDY⟩ : ∃ DY, DY = v * H := ⟨_, rfl⟩
          have m1 : (u : Int) * (W : Int) = (DX : Int) := by rw [hDX]; exact (Int.natCast_mul u W).symm
          have m2 : (v : Int) * (H : Int) = (DY : Int) := by rw [hDY]; exact (Int.natCast_mul v H).symm
          have hDXle : DX ≤ 16384 * 16384 := by rw [hDX]; exact Nat.mul_le_mul huw hsd.1
          have hDYle : DY ≤ 16384 * 16384 := by rw [hDY]; exact Nat.mul_le_mul hvw hsd.2
          obtain ⟨sx, hsx⟩ : ∃ sx, sx = DX / p := ⟨_, rfl⟩
          obtain ⟨sy, hsy⟩ : ∃ sy, sy = DY / q := ⟨_, rfl⟩
          have m3 : (DX : Int) / (p : Int) = (sx : Int) := by rw [hsx]; exact (Int.natCast_ediv DX p).symm
          have m4 : (DY : Int) / (q : Int) = (sy : Int) := by rw [hsy]; exact (Int.natCast_ediv DY q).symm
          have hsxW : sx < W := by rw [hsx, hDX]; exact div_scale hub hW0
          have hsyH : sy < H := by rw [hsy, hDY]; exact div_scale hlt hH0
          have V1 := hide (wr_nat (z := (DX : Int)) (n := DX) rfl (by omega))
          have V2 := hide (wr_nat (z := (DY : Int)) (n := DY) rfl (by omega))
          have V3 := hide (wr_nat (z := (sx : Int)) (n := sx) rfl (by omega))
          have V4 := hide (wr_nat (z := (sy : Int)) (n := sy) rfl (by omega))
          obtain ⟨hin, hat⟩ := atP_in (W := W) (H := H) (l := l) (x := sx) (y := sy) hsxW hsyH
          have HA := hide (fun w' (h : Only [] w w') => tAt_any W H A n c l sx sy w' (hb.keep h (by simp)) hl hok)
          rw [hin, hat] at HA
          have HP := hide (fun px w' (h : w'.ownsRow w0.heap.size 5 1 (.slice (some ⟨w0.heap.size, 0, none⟩) N N) N (bvals m')) => put_any p q w0.heap.size N N w0.heap.size u v m' px w' h S.mlen hfit (by omega) (by omega))
          have hnext : rowF (fitF W H p q l v) (v * p) (put4 m' (v * p + u) (at4 l (sy * W + sx))) (u + 1) (p - (u + 1)) = R1 := by
            rw [show p - u = (p - (u + 1)) + 1 by omega, rowF] at hd
            have e : fitF W H p q l v u (at4 m' (v * p + u)) = at4 l (sy * W + sx) := by unfold fitF; rw [← hDX, ← hDY, ← hsx, ← hsy]
            rw [e] at hd
            exact hd
          have hmm := HZ.out.2.2.1.only S.only (by simp)
          have q0 := hmm.cell 0
          have q1 := hmm.cell 1
          have q2 := hmm.cell 2
          simp only [List.getElem?_toArray, List.getElem?_cons_zero, List.getElem?_cons_succ] at q0 q1 q2
          have hmz := hmm.drew.only ((Only.refl [] wr.drew).alloc (.cells #[.int .u8 0, .int .u8 0, .int .u8 0, .int .u8 0] 40)) (by simp)
          have qz0 := hmz.cell 0
          have qz1 := hmz.cell 1
          have qz2 := hmz.cell 2
          simp only [List.getElem?_toArray, List.getElem?_cons_zero, List.getElem?_cons_succ] at qz0 qz1 qz2
          have HK := hide (And.intro S (And.intro hnext (HZ.out.2.1.trans S.only (S := []) (by simp))))
          have i1 : ¬ (p : Int) = 0 := by omega
          have i2 : ¬ (q : Int) = 0 := by omega
          generalize at4 l (sy * W + sx) = px at *
          clear S hd hfit hnext hok hdef hN hsd hl hn4 hb hD hpq hsp hpW hokp hin hat hmm hmz hDX hDY hDXle hDYle hsx hsy hsxW hsyH hW0 hH0 hu
          obtain ⟨v1, y1⟩ := V1.out
          obtain ⟨v2, y2⟩ := V2.out
          obtain ⟨v3, y3⟩ := V3.out
          obtain ⟨v4, y4⟩ := V4.out
          clear V1 V2 V3 V4
          unfold Px.val Px.cells at HA
          go_wp2_with fail
          have q0 := later_cell q0
          have q1 := later_cell q1
          have q2 := later_cell q2
          refine region_loose_add 18 67 18 16 (fun i => if i = 13 then some (isVal (.tuple #[.agg #[.int .u8 (px.r.toNat : Int), .int .u8 (px.g.toNat : Int), .int .u8 (px.b.toNat : Int), .int .u8 (px.a.toNat : Int)], .bool true])) else if i = 17 then some (isBox wr.heap.size 40 #[.int .u8 0, .int .u8 0, .int .u8 0, .int .u8 0]) else none) (by kernel_rfl) (by kernel_rfl) (by kernel_rfl) (by kernel_rfl) (by kernel_rfl) (by kernel_rfl) (by kernel_rfl) (by rfl) (by rfl) (fun i hi => ?_) (fun i S hS => ?_) ?_
          · have hi : 20 ≤ i := hi
            show (if i = 13 then _ else _) = none
            iterate 2 rw [if_neg (by omega)]
          · repeat' split at hS
            all_goals first | (injection hS with hS; subst hS; first | exact isBox_later _ _ _ | exact fun _ _ _ _ _ => trivial) | cases hS
          simp only [addE_s, addE_z, List.take_succ_cons, List.take_zero, List.drop_succ_cons, List.drop_zero]
          refine wpLoose_chunk 13 (by kernel_rfl) (by rfl) ?_
          simp only [List.take_succ_cons, List.take_zero, List.drop_succ_cons, List.drop_zero, List.length_cons, List.length_nil, Nat.zero_add, Nat.reduceAdd]
          iterate 13 (go_big_quiet_step (fail))
          refine wpQuiet_nil ?_
          refine wpLoose_step (isVal (.tuple #[.agg #[.int .u8 (px.r.toNat : Int), .int .u8 (px.g.toNat : Int), .int .u8 (px.b.toNat : Int), .int .u8 (px.a.toNat : Int)], .bool true])) rfl (by rfl) ⟨_, rfl⟩ (fun w' ho hk => ?_) (fun v hv => ?_)
          · go_simp
            exact ⟨rfl, (HA.out w' (HK.out.2.2.trans ho (S := []) (by simp))).mono fun e w'' h => isVal_of h⟩
          obtain rfl := hv
          go_simp
          refine wpLoose_chunk 3 (by kernel_rfl) (by rfl) ?_
          simp only [List.take_succ_cons, List.take_zero, List.drop_succ_cons, List.drop_zero, List.length_cons, List.length_nil, Nat.zero_add, Nat.reduceAdd]
          iterate 3 (go_big_quiet_step (fail))
          refine wpQuiet_nil ?_
          refine wpLoose_step (isBox wr.heap.size 40 #[.int .u8 0, .int .u8 0, .int .u8 0, .int .u8 0]) rfl (by rfl) ⟨_, 0, rfl⟩ (fun w' ho hk => ?_) (fun v hv => ?_)
          · go_simp
            exact isBox_new ho.size
          obtain ⟨g, rfl⟩ := hv
          go_simp
          intro w' ho hT
          have hbox := hT 17 (by omega)
          have hbox : (isBox wr.heap.size 40 #[.int .u8 0, .int .u8 0, .int .u8 0, .int .u8 0]).1 (.pointer (some ⟨g, 0, none⟩)) ∧ (isBox wr.heap.size 40 #[.int .u8 0, .int .u8 0, .int .u8 0, .int .u8 0]).2 (.pointer (some ⟨g, 0, none⟩)) w' := hbox
          obtain ⟨hg, hHas⟩ := hbox.2 g rfl
          clear hT hbox q0 q1 q2 v1 y1 v2 y2 v3 y3 v4 y4 m1 m2 m3 m4 i1 i2
          go_wp2_with (refine list_store_row' rfl 40 (.tmp 11) (.tmp 59) rfl g #[.int .u8 (px.r.toNat : Int), .int .u8 (px.g.toNat : Int), .int .u8 (px.b.toNat : Int), .int .u8 (px.a.toNat : Int)] rfl rfl 40 _ hHas (by kernel_rfl) rfl (px_one px) ?_; intro w5 hT5 hO5)
          refine normalOnly_intro ?_
          have o5 : Only [] wr w5 := ho.trans hO5 (by intro i hi hlt; simp at hi; omega)
          have S5 := HK.out.1.keep o5
          obtain ⟨m0, m1, m2⟩ := S5.cells
          rw [s1] at m0 m1 m2
          have p0 := hT5.cell 0
          have p1 := hT5.cell 1
          have p2 := hT5.cell 2
          have p3 := hT5.cell 3
          simp only [List.getElem?_toArray, List.getElem?_cons_zero, List.getElem?_cons_succ] at p0 p1 p2 p3
          have H5 := hide S5
          have HPx := hide (HP.out px)
          unfold Px.val Px.cells at HPx
          clear S5 o5 hHas hO5 hT5 HP HA ho hg
          go_wp2_with fail
          refine (HPx.out _ H5.out.own).mono ?_
          rintro e6 w6 ⟨rfl, how6, ho6⟩
          have S6 := H5.out.put (by have := HZ.out.2.2.2.2; omega) (by omega) (put4_length _ _ _) how6 ho6
          have H6 := hide S6
          clear S6 how6 ho6 HPx H5 m0 m1 m2 p0 p1 p2 p3
          go_wp2_with fail
          go_roundw
          case rel => exact ⟨u + 1, _, hub, by go_num, H6.out, HK.out.2.1⟩
          case measure => simp [intOf]; omega
        · obtain rfl : u = p := by omega
          rw [Nat.sub_self] at hd
          have hd : m' = R1 := hd
          subst hd
          go_wp2_with fail
          go_roundw
          case rel =>
            refine ⟨v + 1, _, hlt, by go_num, S, ?_⟩
            have hd := HS.out.1
            rw [show q - v = (q - (v + 1)) + 1 by omega, rowsF, ← HS.out.2.2] at hd
            exact hd
          case measure => simp [intOf]; omega
    · obtain rfl : v = q := by omega
      rw [Nat.sub_self] at hd
      have hd : m = R := hd
      subst hd
      obtain ⟨m0, m1, m2⟩ := S.cells
      rw [s1] at m0 m1 m2
      have hres := S.res
      have HS := hide S
      clear S hlt
      go_wp2_with (refine list_store_row' rfl 31 (.tmp 6) (.tmp 66) rfl (w.heap.size + 1) #[.int .i64 (p : Int), .int .i64 (v : Int), .slice (some ⟨w0.heap.size, 0, none⟩) N N] rfl rfl 31 _ hres (by kernel_rfl) rfl (mat_one _ _ _ _ _) ?_; intro w4 hT4 hO4)
      obtain ⟨h1, h2⟩ := HS.out.fin HZ.out.2.1 (by omega) (by have := HZ.out.2.2.2.2; omega) hO4
      exact bodyPost_ret (results_row_two Try.results31 _ _ (w.heap.size + 1) 31 _ _ rfl hT4 Try.underlying31 rfl (by kernel_rfl)) rfl ⟨_, rfl, h1, h2⟩
end Go.Proofs.Ytngaabnmhcncmaa
