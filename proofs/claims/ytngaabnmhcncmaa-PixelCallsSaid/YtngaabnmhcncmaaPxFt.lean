/-
  Package pixel: Fit.
-/
import Derived.Test.YtngaabnmhcncmaaPxCo
namespace Go.Proofs.Ytngaabnmhcncmaa
open Go Go.RowKit

/-- Whether a matrix of W columns may be fitted to these sides. -/
def fitB (W : Nat) (p q : Int) : Bool := mayI p q && (decide (W = 0) == decide (p = 0))
def fitF (W H p q : Nat) (l : List UInt8) (y x : Nat) (_ : Px) : Px := at4 l (y * H / q * W + x * W / p)
def fitL (W H p q : Nat) (l : List UInt8) : List UInt8 := rowsF (fitF W H p q l) p 0 p (List.replicate (4 * (p * q)) 0) 0 q

set_option maxRecDepth 100000 in
set_option maxHeartbeats 4000000 in
theorem fit_bad (W H : Nat) (A : Option Addr) (n c : Nat) (p q : Int) (w : World) (hok : okM W H n) (hf : fitB W p q = false) :
    Calls Try.prog 30 #[mval W H A n c, .int .i64 p, .int .i64 q] w fun e w' => ∃ v, e = .returned (.tuple #[v, .int .i64 1]) ∧ Own w' w.heap.size 0 0 v [] ∧ Only [] w w' := by
  have HM := hide (fun w => mayBe_any p q w)
  have HR := hide (right_any W H A n c)
  rw [hok.right] at HR
  show Calls Try.prog 30 #[.agg #[.int .i64 W, .int .i64 H, .slice A n c], .int .i64 p, .int .i64 q] w _
  have o2 : Only [] w ((w.alloc (.cells #[.int .i64 (W : Int), .int .i64 (H : Int), .slice A n c] 24)).alloc (.cells #[.int .i64 0, .int .i64 0, .slice none 0 0] 24)) := ((Only.refl [] w).alloc _).alloc _
  have hz : Has ((w.alloc (.cells #[.int .i64 (W : Int), .int .i64 (H : Int), .slice A n c] 24)).alloc (.cells #[.int .i64 0, .int .i64 0, .slice none 0 0] 24)) (w.heap.size + 1) 24 #[.int .i64 0, .int .i64 0, .slice none 0 0] := Has.new' _ _ _ _ (by simp)
  have hm : Has ((w.alloc (.cells #[.int .i64 (W : Int), .int .i64 (H : Int), .slice A n c] 24)).alloc (.cells #[.int .i64 0, .int .i64 0, .slice none 0 0] 24)) w.heap.size 24 #[.int .i64 (W : Int), .int .i64 (H : Int), .slice A n c] := (Has.new w _ _).alloc _
  have HH := hide (And.intro o2 (And.intro hz hm))
  clear o2 hm
  cases hmb : mayI p q with
  | false =>
    rw [hmb] at HM
    clear hf hmb hok
    go_enter Try.func30, Try.ntmps30
    go_wp2_with fail
    refine (HM.out _).mono ?_
    rintro e w1 ⟨rfl, rfl⟩
    go_wp2_with (refine list_store_row' rfl 24 (.tmp 6) (.tmp 32) rfl (w.heap.size + 1) #[.int .i64 0, .int .i64 0, .slice none 0 0] rfl rfl 24 _ hz (by kernel_rfl) rfl (mat_one _ _ _ _ _) ?_; intro w3 hT3 hO3)
    exact bodyPost_ret (results_row_two Try.results30 _ _ (w.heap.size + 1) 24 _ _ rfl hT3 Try.underlying24 rfl (by kernel_rfl)) rfl ⟨_, rfl, own_zero _ _, HH.out.1.trans hO3 (by intro i hi hlt; simp at hi; omega)⟩
  | true =>
    rw [hmb] at HM
    unfold fitB at hf
    rw [hmb, Bool.true_and] at hf
    clear hmb hok hz
    have hd : ((((W : Int) == 0) == (p == 0)) : Bool) = false := by
      rw [show ((W : Int) == 0) = decide (W = 0) by rw [Bool.eq_iff_iff]; simp, show (p == 0) = decide (p = 0) by rw [Bool.eq_iff_iff]; simp]
      exact hf
    clear hf
    go_enter Try.func30, Try.ntmps30
    go_wp2_with fail
    refine (HM.out _).mono ?_
    rintro e w1 ⟨rfl, rfl⟩
    go_wp2_with fail
    refine (HR.out _).mono ?_
    rintro e w2 ⟨rfl, ho2⟩
    obtain ⟨o2, hz, hm⟩ := HH.out
    have a0 := (hm.only ho2 (by simp)).cell 0
    simp only [List.getElem?_toArray, List.getElem?_cons_zero] at a0
    have hz2 := hz.only ho2 (by simp)
    have HO := hide (o2.trans ho2 (S := []) (by simp))
    clear o2 hz hm ho2 HH HM HR
    go_wp2_with (refine list_store_row' rfl 24 (.tmp 6) (.tmp 32) rfl (w.heap.size + 1) #[.int .i64 0, .int .i64 0, .slice none 0 0] rfl rfl 24 _ hz2 (by kernel_rfl) rfl (mat_one _ _ _ _ _) ?_; intro w3 hT3 hO3)
    exact bodyPost_ret (results_row_two Try.results30 _ _ (w.heap.size + 1) 24 _ _ rfl hT3 Try.underlying24 rfl (by kernel_rfl)) rfl ⟨_, rfl, own_zero _ _, HO.out.trans hO3 (by intro i hi hlt; simp at hi; omega)⟩

/-- While a matrix is fitted: the new one lies at block mb, its bytes m in block g, the places of columns in block z; the result at block tc. -/
structure FitSt (w0 : World) (mb g z tc p q N : Nat) (zs : List Int) (m : List UInt8) (wr : World) : Prop where
  mlen : m.length = N
  own : wr.ownsRow w0.heap.size 5 1 (.slice (some ⟨g, 0, none⟩) N N) N (bvals m)
  res : Has wr tc 24 #[.int .i64 0, .int .i64 0, .slice none 0 0]
  mat : Has wr mb 24 #[.int .i64 (p : Int), .int .i64 (q : Int), .slice (some ⟨g, 0, none⟩) N N]
  cols : wr.ownsRow w0.heap.size 3 1 (.slice (some ⟨z, 0, none⟩) p p) p (ivals zs)
  only : Only [] w0 wr
theorem FitSt.put {w0 : World} {mb g z tc p q N : Nat} {zs : List Int} {m m' : List UInt8} {wr wr' : World} (h : FitSt w0 mb g z tc p q N zs m wr) (hg : w0.heap.size ≤ g) (h1 : tc ≠ g) (h2 : mb ≠ g) (h3 : z ≠ g)
    (hl : m'.length = m.length) (ho : wr'.ownsRow w0.heap.size 5 1 (.slice (some ⟨g, 0, none⟩) N N) N (bvals m')) (hx : Only [g] wr wr') : FitSt w0 mb g z tc p q N zs m' wr' :=
  ⟨hl.trans h.mlen, ho, h.res.only hx (by simpa using h1), h.mat.only hx (by simpa using h2), own_keep h.cols hx (by intro b hb; injection hb with hb; subst hb; simpa using h3), h.only.trans hx (by intro i hi hlt; simp at hi; omega)⟩
theorem FitSt.keep {w0 : World} {mb g z tc p q N : Nat} {zs : List Int} {m : List UInt8} {wr wr' : World} (h : FitSt w0 mb g z tc p q N zs m wr) (hx : Only [] wr wr') : FitSt w0 mb g z tc p q N zs m wr' :=
  ⟨h.mlen, own_keep h.own hx (by simp), h.res.only hx (by simp), h.mat.only hx (by simp), own_keep h.cols hx (by simp), h.only.trans hx (by simp)⟩
theorem FitSt.cells {w0 : World} {mb g z tc p q N : Nat} {zs : List Int} {m : List UInt8} {wr : World} (h : FitSt w0 mb g z tc p q N zs m wr) : wr.cell? ⟨mb, 0, none⟩ = some (.int .i64 (p : Int)) ∧ wr.cell? ⟨mb, 1, none⟩ = some (.int .i64 (q : Int)) ∧ wr.cell? ⟨mb, 2, none⟩ = some (.slice (some ⟨g, 0, none⟩) N N) :=
  ⟨h.mat.cell 0, h.mat.cell 1, h.mat.cell 2⟩
theorem FitSt.fin {w w0 : World} {mb g z tc p q N : Nat} {zs : List Int} {m : List UInt8} {wr w4 : World} (h : FitSt w0 mb g z tc p q N zs m wr) (o0 : Only [] w w0) (hw : w.heap.size ≤ tc) (ht : tc < w0.heap.size) (hg : w0.heap.size ≤ g) (ho : Only [tc] wr w4) : Own w4 w.heap.size p q (mval p q (some ⟨g, 0, none⟩) N N) m ∧ Only [] w w4 := by
  have hl := h.mlen
  have hown := h.own
  have h1 := h.only
  subst hl
  refine ⟨⟨_, m.length, rfl, own_mono (own_keep hown ho ?_) o0.size⟩, (o0.trans h1 (S := []) (by simp)).trans ho (by intro i hi hlt; simp at hi; omega)⟩
  intro b hb hm
  have hb' : g = b := by injection hb
  simp at hm
  omega

theorem run_tail (b o L k : Nat) (hk : k < L) (w : World) : (Instr.slice 22 (.slice (some ⟨b, o, none⟩) L L) (some (.int .i64 (k : Int))) none none).run Try.prog w = .ok (.slice (some ⟨b, o + k, none⟩) (L - k) (L - k)) w := by
  rw [run_slice_l (w := w) 22 (some ⟨b, o, none⟩) L L bytes_elem .i64 k (by omega) (by omega), bytes_size]
  have h : ¬ L = k := by omega
  simp [sliced, Result.andThen, h, Addr.add]

set_option maxRecDepth 100000 in
set_option maxHeartbeats 8000000 in
theorem fit_ok (W H : Nat) (A : Option Addr) (n c : Nat) (l : List UInt8) (p q : Nat) (w : World) (hb : Holds w 1 A n (bvals l)) (hl : l.length = n) (hok : okM W H n) (hc : n ≤ c) (hf : fitB W p q = true) :
    Calls Try.prog 30 #[mval W H A n c, .int .i64 (p : Int), .int .i64 (q : Int)] w fun e w' => ∃ v, e = .returned (.tuple #[v, .int .i64 0]) ∧ Own w' w.heap.size p q v (fitL W H p q l) ∧ Only [] w w' := by
  have hn4 := hok.le
  have hsd := hok.side
  have hmb : mayI p q = true := by unfold fitB at hf; rw [Bool.and_eq_true] at hf; exact hf.1
  have hd : ((((W : Int) == 0) == ((p : Int) == 0)) : Bool) = true := by
    unfold fitB at hf
    rw [Bool.and_eq_true] at hf
    rw [show ((W : Int) == 0) = decide (W = 0) by rw [Bool.eq_iff_iff]; simp, show ((p : Int) == 0) = decide ((p : Int) = 0) by rw [Bool.eq_iff_iff]; simp]
    exact hf.2
  have hpW : W = 0 ↔ p = 0 := by
    unfold fitB at hf
    rw [Bool.and_eq_true] at hf
    have := beq_iff_eq.1 hf.2
    rw [decide_eq_decide] at this
    omega
  obtain ⟨p', q', e1, e2, hpq, hokp⟩ := mayI_nat hmb
  obtain rfl : p = p' := by exact_mod_cast e1
  obtain rfl : q = q' := by exact_mod_cast e2
  have hsp := hokp.side
  have HM := hide (fun w => mayBe_any p q w)
  rw [hmb] at HM
  have HR := hide (right_any W H A n c)
  rw [hok.right] at HR
  obtain ⟨N, hN⟩ : ∃ N, N = 4 * (p * q) := ⟨_, rfl⟩
  have HB := hide (fun w => blank_any p q N w hN (by omega))
  have HC := hide (fun w => columns_any W p w hsd.1 hsp.1)
  have hdef : fitL W H p q l = rowsF (fitF W H p q l) p 0 p (List.replicate (4 * (p * q)) 0) 0 q := rfl
  rw [← hN] at hdef
  generalize fitL W H p q l = R at *
  obtain ⟨w0, hw0⟩ : ∃ w0, w0 = (w.alloc (.cells #[.int .i64 (W : Int), .int .i64 (H : Int), .slice A n c] 24)).alloc (.cells #[.int .i64 0, .int .i64 0, .slice none 0 0] 24) := ⟨_, rfl⟩
  have o0 : Only [] w w0 := by rw [hw0]; exact ((Only.refl [] w).alloc _).alloc _
  have s0 : w0.heap.size = w.heap.size + 2 := by rw [hw0]; simp
  have hm0 : Has w0 w.heap.size 24 #[.int .i64 (W : Int), .int .i64 (H : Int), .slice A n c] := by rw [hw0]; exact (Has.new w _ _).alloc _
  have hz : Has w0 (w.heap.size + 1) 24 #[.int .i64 0, .int .i64 0, .slice none 0 0] := by rw [hw0]; exact Has.new' _ _ _ _ (by simp)
  have HZ := hide (And.intro hz (And.intro o0 (And.intro hm0 s0)))
  have HI := hide (And.intro hok (And.intro hdef (And.intro hN (And.intro hsd (And.intro hl (And.intro hn4 (And.intro hb (And.intro hc (And.intro hpq (And.intro hsp (And.intro hpW hokp)))))))))))
  have a0 := hm0.cell 0
  have a1 := hm0.cell 1
  have a2 := hm0.cell 2
  simp only [List.getElem?_toArray, List.getElem?_cons_zero, List.getElem?_cons_succ] at a0 a1 a2
  show Calls Try.prog 30 #[.agg #[.int .i64 W, .int .i64 H, .slice A n c], .int .i64 (p : Int), .int .i64 (q : Int)] w _
  clear hok hsd hm0 o0 hz hdef hN hl hn4 hb hc s0 hf hmb hpq hsp hpW hokp e1 e2
  go_enter Try.func30, Try.ntmps30
  go_wp2_with fail
  rw [← hw0]
  clear hw0
  refine (HM.out _).mono ?_
  rintro e w0' ⟨rfl, hw2⟩
  replace hw2 := hw2.symm
  subst hw2
  go_wp2_with fail
  refine (HR.out _).mono ?_
  rintro e w1 ⟨rfl, ho1⟩
  clear a0 a1 a2
  have a0 := (HZ.out.2.2.1.only ho1 (by simp)).cell 0
  simp only [List.getElem?_toArray, List.getElem?_cons_zero] at a0
  have H1 := hide ho1
  clear ho1 HM HR
  go_wp2_with fail
  refine (HB.out _).mono ?_
  rintro e w2 ⟨gb, rfl, hgb, how, ho2⟩
  have hgb2 : gb < w2.heap.size := (own_block how _ rfl).2.1
  unfold mval
  have ob := (Only.refl [] w2).alloc (.cells #[.int .i64 (p : Int), .int .i64 (q : Int), .slice (some ⟨gb, 0, none⟩) N N] 24)
  have oc := (H1.out.trans ho2 (S := []) (by simp)).trans ob (S := []) (by simp)
  have a0 := (HZ.out.2.2.1.only oc (by simp)).cell 0
  simp only [List.getElem?_toArray, List.getElem?_cons_zero] at a0
  have hs1 := H1.out.size
  have hA : w2.heap.size < (w2.alloc (.cells #[.int .i64 (p : Int), .int .i64 (q : Int), .slice (some ⟨gb, 0, none⟩) N N] 24)).heap.size := by simp
  have H2 := hide (And.intro (own_keep (own_mono how hs1) ob (by simp)) (And.intro oc (And.intro (Nat.le_trans hs1 hgb) (And.intro hgb2 hA))))
  clear how ob oc ho2 hgb hgb2 hs1 hA H1 HB
  go_wp2_with fail
  refine (HC.out _).mono ?_
  rintro e w3 ⟨zb, zs, rfl, hzb, hzl, hzs, hcols, ho3⟩
  obtain ⟨hown, oc, hgb, hgb2, hA⟩ := H2.out
  have hS : FitSt w0 w2.heap.size gb zb (w.heap.size + 1) p q N zs (List.replicate N 0) w3 :=
    ⟨by simp, own_keep hown ho3 (by simp), (HZ.out.1.only oc (by simp)).only ho3 (by simp), (Has.new w2 _ _).only ho3 (by simp), own_mono hcols oc.size, oc.trans ho3 (by simp)⟩
  have HS := hide (And.intro hS (And.intro hgb (And.intro hgb2 (And.intro (show w2.heap.size < zb by omega) (And.intro hzl hzs)))))
  clear hS hown oc hgb hgb2 hA hzb hzl hzs hcols ho3 HC H2 a0
  go_wp2_with fail
  go_loopw [41] (fun i wr => ∃ (v : Nat) (m : List UInt8), v ≤ q ∧ i = .int .i64 v ∧ FitSt w0 w2.heap.size gb zb (w.heap.size + 1) p q N zs m wr ∧ rowsF (fitF W H p q l) p 0 p m v (q - v) = R) (fun i _ => q - (intOf i).toNat)
  case atStart => exact ⟨0, List.replicate N 0, Nat.zero_le _, rfl, HS.out.1, HI.out.2.1.symm⟩
  case round =>
    obtain ⟨v, m, hv, rfl, S, hd⟩ := hrel
    by_cases hlt : v < q
    · obtain ⟨hok, hdef, hN, hsd, hl, hn4, hb, hc, hpq, hsp, hpW, hokp⟩ := HI.out
      have hvw : v ≤ 16384 := by omega
      have hp0 : 0 < p := by have := hokp.1; omega
      have hW0 : 0 < W := by omega
      have hH0 : 0 < H := by have := hok.1; omega
      obtain ⟨D, hD⟩ : ∃ D, D = v * H := ⟨_, rfl⟩
      have m1 : (v : Int) * (H : Int) = (D : Int) := by rw [hD]; exact (Int.natCast_mul v H).symm
      have hDle : D ≤ 16384 * 16384 := by rw [hD]; exact Nat.mul_le_mul hvw hsd.2
      obtain ⟨sy, hsy⟩ : ∃ sy, sy = D / q := ⟨_, rfl⟩
      have m2 : (D : Int) / (q : Int) = (sy : Int) := by rw [hsy]; exact (Int.natCast_ediv D q).symm
      have hsyH : sy < H := by rw [hsy, hD]; exact div_scale hlt hH0
      have V1 := hide (wr_nat (z := (D : Int)) (n := D) rfl (by omega))
      have V2 := hide (wr_nat (z := (sy : Int)) (n := sy) rfl (by omega))
      have hfit : 4 * (v * p) + 4 * p ≤ N := by
        have h1 : (v + 1) * p ≤ q * p := Nat.mul_le_mul_right _ hlt
        rw [Nat.succ_mul, Nat.mul_comm q p] at h1
        omega
      have hfit2 := hok.fit (x := W - 1) (y := sy) (by omega) hsyH
      obtain ⟨L, hL⟩ : ∃ L, L = 4 * p := ⟨_, rfl⟩
      obtain ⟨F, hF⟩ : ∃ F, F = v * p := ⟨_, rfl⟩
      obtain ⟨LW, hLW⟩ : ∃ LW, LW = 4 * W := ⟨_, rfl⟩
      obtain ⟨G, hG⟩ : ∃ G, G = sy * W := ⟨_, rfl⟩
      have HR1 : Hid (∀ w, Calls Try.prog 54 #[.agg #[.int .i64 p, .int .i64 q, .slice (some ⟨gb, 0, none⟩) N N], .int .i64 (v : Int), .int .i64 0, .int .i64 (p : Int)] w fun e w' => e = .returned (.slice (some ⟨gb, 4 * F, none⟩) L L) ∧ Only [] w w') := hide (fun w => by
        have := row_any p q (some ⟨gb, 0, none⟩) N N v 0 p w (by omega) (by omega) (by omega) (by omega)
        rw [Nat.zero_add, Nat.add_zero, ← hL, ← hF] at this
        have hval : rowV (some ⟨gb, 0, none⟩) (4 * F) L = .slice (some ⟨gb, 4 * F, none⟩) L L := by unfold rowV; rw [if_neg (by omega), Option.map_some, add_zero_of]
        rw [hval] at this
        exact this)
      have hrow := hb.row (4 * G) LW (by omega)
      obtain ⟨bb, oo, hA2, _⟩ := hrow.addr (by rw [bvals_length, List.length_take, List.length_drop]; omega)
      have HR2 : Hid (∀ w, Calls Try.prog 54 #[.agg #[.int .i64 W, .int .i64 H, .slice A n c], .int .i64 (sy : Int), .int .i64 0, .int .i64 (W : Int)] w fun e w' => e = .returned (.slice (some ⟨bb, oo, none⟩) LW LW) ∧ Only [] w w') := hide (fun w => by
        have := row_any W H A n c sy 0 W w (by omega) (by omega) (by omega) (by omega)
        have hval : rowV A (4 * G) LW = .slice (some ⟨bb, oo, none⟩) LW LW := by unfold rowV; rw [if_neg (by omega), hA2]
        rw [Nat.zero_add, Nat.add_zero, ← hG, ← hLW, hval] at this
        exact this)
      obtain ⟨R1, hR1⟩ : ∃ R1, R1 = rowF (fitF W H p q l v) (v * p) m 0 p := ⟨_, rfl⟩
      have hmm := HZ.out.2.2.1.only S.only (by simp)
      obtain ⟨m0, m1', m2'⟩ := S.cells
      have q0 := hmm.cell 0
      have q1 := hmm.cell 1
      have q2 := hmm.cell 2
      simp only [List.getElem?_toArray, List.getElem?_cons_zero, List.getElem?_cons_succ] at q0 q1 q2
      have hsl : ((l.drop (4 * G)).take LW).length = LW := by rw [List.length_take, List.length_drop]; omega
      rw [hA2] at hrow
      have i0 : ¬ (q : Int) = 0 := by omega
      have HK := hide (And.intro S (And.intro hd (And.intro hlt (And.intro hR1 (And.intro hrow (And.intro hsl (And.intro (show 4 * F + L ≤ N by omega) (And.intro hL (And.intro hLW (And.intro hF (And.intro hG (And.intro hsy hD))))))))))))
      obtain ⟨v1, y1⟩ := V1.out
      obtain ⟨v2, y2⟩ := V2.out
      have HB2 := hide (And.intro hp0 (And.intro hW0 (And.intro hsp hsd)))
      clear S hd hR1 hrow hsl hA2 hmm hok hdef hN hsd hl hn4 hb hc hfit hfit2 hL hF hG hLW V1 V2 hv hpq hsp hpW hokp hp0 hW0 hH0 hD hDle hsy hsyH
      go_wp2_with fail
      have m0 := later_cell m0
      have m1' := later_cell m1'
      have m2' := later_cell m2'
      have q0 := later_cell q0
      have q1 := later_cell q1
      have q2 := later_cell q2
      refine region_later (by kernel_rfl) (by kernel_rfl) ?_
      iterate 3 (go_big_quiet_step (fail))
      go_big_quiet_step ((go_at_call 54; refine later_of (HR1.out _)))
      iterate 9 (go_big_quiet_step (fail))
      go_big_quiet_step ((go_at_call 54; refine later_of (HR2.out _)))
      iterate 2 (go_big_quiet_step (fail))
      refine wpQuiet_nil ?_
      rintro _ ⟨X, rfl⟩
      clear m0 m1' m2' q0 q1 q2 v1 y1 v2 y2 i0 m1 m2 HR1 HR2
      have HX := hide (HK.out.1.keep X.only)
      go_wp2_with fail
      go_loopw [60] (fun i wr' => ∃ (u : Nat) (m' : List UInt8), u ≤ p ∧ i = .int .i64 u ∧ FitSt w0 w2.heap.size gb zb (w.heap.size + 1) p q N zs m' wr' ∧ rowF (fitF W H p q l v) (v * p) m' u (p - u) = R1) (fun i _ => p - (intOf i).toNat)
      case atStart => exact ⟨0, m, Nat.zero_le _, rfl, HX.out, HK.out.2.2.2.1.symm⟩
      case round =>
        obtain ⟨u, m', hu, rfl, S, hd⟩ := hrel
        obtain ⟨_, _, _, hR1, hrow, hsl, hfL, hL, hLW, hF, hG, hsy, hD⟩ := HK.out
        have hpp := HB2.out
        by_cases hub : u < p
        · obtain ⟨sx, hsx⟩ : ∃ sx, sx = u * W / p := ⟨_, rfl⟩
          have hsxW : sx < W := by rw [hsx]; exact div_scale hub hpp.2.1
          obtain ⟨E, hE⟩ : ∃ E, E = 4 * u := ⟨_, rfl⟩
          obtain ⟨E2, hE2⟩ : ∃ E2, E2 = 4 * sx := ⟨_, rfl⟩
          have hrun1 := run_tail gb (4 * F) L E (by omega)
          obtain ⟨A3, c3, hrun2, hA3, hc3, _⟩ := run_from hrow hsl (Nat.le_refl LW) E2 (by omega)
          obtain ⟨g', hg', _, _, _, hcell⟩ := own_open S.cols (by omega)
          obtain rfl : zb = g' := by injection hg' with h; injection h
          have k2 := hcell u (.int .i64 (E2 : Int)) (by unfold ivals; rw [List.getElem?_map, HS.out.2.2.2.2.2 u hub, hE2, hsx]; rfl)
          have V1 := hide (wr_nat (z := (u : Int) * 4) (n := E) (by omega) (by omega))
          have o0 := HZ.out.2.1.trans S.only (S := []) (by simp)
          have hlen3 : (((l.drop (4 * G)).take LW).drop E2).length = LW - E2 := by rw [List.length_drop, hsl]
          have hpx : at4 (((l.drop (4 * G)).take LW).drop E2) 0 = at4 l (G + sx) := by rw [hE2, at4_drop, Nat.add_zero, at4_row l G sx LW (by omega)]
          have HF := hide (fun w' (h : Only [] wr w') => first_any A3 (LW - E2) c3 _ w' ((hA3.keep o0 (by simp)).keep h (by simp)) hlen3 (by omega))
          rw [hpx] at HF
          have hpos : 4 * F + E = 4 * (F + u) := by omega
          have HP := hide (fun w' (h : Only [] wr w') => lay_any gb (F + u) N N (L - E) (L - E) w0.heap.size m' (at4 l (G + sx)) w' (own_keep S.own h (by simp)) S.mlen (by omega) (by omega))
          rw [← hpos] at HP
          have hnext : rowF (fitF W H p q l v) (v * p) (put4 m' (F + u) (at4 l (G + sx))) (u + 1) (p - (u + 1)) = R1 := by
            rw [show p - u = (p - (u + 1)) + 1 by omega, rowF] at hd
            rw [hF]
            have e : fitF W H p q l v u (at4 m' (v * p + u)) = at4 l (G + sx) := by unfold fitF; rw [← hD, ← hsy, ← hG, ← hsx]
            rw [e] at hd
            exact hd
          have HK2 := hide (And.intro S hnext)
          have i1 : (u : Int) < (p : Int) := by omega
          have hu4 : u ≤ 16384 := by omega
          obtain ⟨v1, y1⟩ := V1.out
          generalize at4 l (G + sx) = px at *
          clear S hd hnext hR1 hrow hsl hfL hL hLW hF hG hsy hD hpp hsx hsxW hE hE2 hA3 hc3 hcell hlen3 hpx hpos V1 o0 hu
          go_wp2_with fail
          refine region_later_tail 8 (by kernel_rfl) (by kernel_rfl) ?_
          simp only [List.take_succ_cons, List.take_zero, List.drop_succ_cons, List.drop_zero]
          clear k2
          iterate 7 (go_big_quiet_step (fail))
          go_big_quiet_step ((go_at_call 49; refine later_of (HF.out _ (Later.only _))))
          refine wpQuiet_nil ?_
          rintro _ ⟨Y, rfl⟩
          change wpList _ _ _ _ _ Y.val
          go_wp2_with fail
          refine (HP.out _ Y.only).mono ?_
          rintro e5 w5 ⟨rfl, how5, ho5⟩
          have S5 := (HK2.out.1.keep Y.only).put HS.out.2.1 (by have := HS.out; have := HZ.out.2.2.2; omega) (by have := HS.out; omega) (by have := HS.out; omega) (put4_length _ _ _) how5 ho5
          have H5 := hide S5
          clear S5 how5 ho5 HP HF hrun1 hrun2 v1 y1
          go_wp2_with fail
          go_roundw
          case rel => exact ⟨u + 1, _, hub, by go_num, H5.out, HK2.out.2⟩
          case measure => simp [intOf]; omega
        · obtain rfl : u = p := by omega
          rw [Nat.sub_self] at hd
          have hd : m' = R1 := hd
          subst hd
          have HK3 := hide S
          clear S hR1 hrow hsl hfL hL hLW hF hG hsy hD hpp
          go_wp2_with fail
          go_roundw
          case rel =>
            refine ⟨v + 1, _, hlt, by go_num, HK3.out, ?_⟩
            have hd := HK.out.2.1
            rw [show q - v = (q - (v + 1)) + 1 by omega, rowsF, ← HK.out.2.2.2.1] at hd
            exact hd
          case measure => simp [intOf]; omega
    · obtain rfl : v = q := by omega
      rw [Nat.sub_self] at hd
      have hd : m = R := hd
      subst hd
      obtain ⟨m0, m1, m2⟩ := S.cells
      have hres := S.res
      have HS3 := hide S
      have hvw : v ≤ 16384 := by have := HI.out.2.2.2.2.2.2.2.2.2.1; omega
      clear S hlt
      go_wp2_with (refine list_store_row' rfl 24 (.tmp 6) (.tmp 76) rfl (w.heap.size + 1) #[.int .i64 (p : Int), .int .i64 (v : Int), .slice (some ⟨gb, 0, none⟩) N N] rfl rfl 24 _ hres (by kernel_rfl) rfl (mat_one _ _ _ _ _) ?_; intro w4 hT4 hO4)
      obtain ⟨h1, h2⟩ := HS3.out.fin HZ.out.2.1 (by omega) (by have := HZ.out.2.2.2; omega) HS.out.2.1 hO4
      exact bodyPost_ret (results_row_two Try.results30 _ _ (w.heap.size + 1) 24 _ _ rfl hT4 Try.underlying24 rfl (by kernel_rfl)) rfl ⟨_, rfl, h1, h2⟩
end Go.Proofs.Ytngaabnmhcncmaa
