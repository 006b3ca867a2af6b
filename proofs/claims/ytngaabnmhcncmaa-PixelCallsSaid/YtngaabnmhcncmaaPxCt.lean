/-
  Package pixel: Cut.
-/
import Derived.Test.YtngaabnmhcncmaaPxDw
import Derived.Test.YtngaabnmhcncmaaPxZ
import Derived.Test.YtngaabnmhcncmaaCopy
namespace Go.Proofs.Ytngaabnmhcncmaa
open Go Go.RowKit

theorem PSt.put' {w0 : World} {mb ab tc W H g n c1 : Nat} {ar : Array Value} {m m' : List UInt8} {wr wr' : World} (h : PSt w0 mb ab tc W H (some ⟨g, 0, none⟩) n c1 ar m wr) (hg : w0.heap.size ≤ g) (h1 : tc ≠ g) (h2 : mb ≠ g) (h3 : ab ≠ g)
    (hl : m'.length = m.length) (ho : wr'.ownsRow w0.heap.size 5 1 (.slice (some ⟨g, 0, none⟩) n c1) n (bvals m')) (hx : Only [g] wr wr') : PSt w0 mb ab tc W H (some ⟨g, 0, none⟩) n c1 ar m' wr' :=
  ⟨hl.trans h.mlen, ho, h.res.only hx (by simpa using h1), h.mat.only hx (by simpa using h2), h.area.only hx (by simpa using h3), h.only.trans hx (by intro i hi hlt; simp at hi; omega)⟩

set_option maxRecDepth 100000 in
set_option maxHeartbeats 8000000 in
theorem cut_any (W H : Nat) (A : Option Addr) (n c : Nat) (l : List UInt8) (x y p q : Int) (w : World) (hb : Holds w 1 A n (bvals l)) (hl : l.length = n) (hok : okM W H n) (hc : n ≤ c)
    (hx : -9223372036854775808 ≤ x ∧ x ≤ 9223372036854775807) (hy : -9223372036854775808 ≤ y ∧ y ≤ 9223372036854775807) (hp : -9223372036854775808 ≤ p ∧ p ≤ 9223372036854775807) (hq : -9223372036854775808 ≤ q ∧ q ≤ 9223372036854775807) :
    Calls Try.prog 26 #[mval W H A n c, .int .i64 x, .int .i64 y, .int .i64 p, .int .i64 q] w fun e w' => ∃ v, e = .returned v ∧ Own w' w.heap.size (cutW W H x y p q) (cutH W H x y p q) v (cutL W H x y p q l) ∧ Only [] w w' := by
  have hn4 := hok.le
  have hsd := hok.side
  obtain ⟨w0, hw0⟩ : ∃ w0, w0 = (w.alloc (.cells #[.int .i64 (W : Int), .int .i64 (H : Int), .slice A n c] 24)).alloc (.cells #[.int .i64 0, .int .i64 0, .slice none 0 0] 24) := ⟨_, rfl⟩
  have o0 : Only [] w w0 := by rw [hw0]; exact ((Only.refl [] w).alloc _).alloc _
  have s0 : w0.heap.size = w.heap.size + 2 := by rw [hw0]; simp
  have hm0 : Has w0 w.heap.size 24 #[.int .i64 (W : Int), .int .i64 (H : Int), .slice A n c] := by rw [hw0]; exact (Has.new w _ _).alloc _
  have hz : Has w0 (w.heap.size + 1) 24 #[.int .i64 0, .int .i64 0, .slice none 0 0] := by rw [hw0]; exact Has.new' _ _ _ _ (by simp)
  have HW := hide (fun w => within_any W H A n c x y p q w hok hx hy hp hq)
  have hle := wi_le W H x y p q
  have hdef : cutL W H x y p q l = rowsF (cutF W (wiL W H x y p q) (wiT W H x y p q) l) (cutW W H x y p q) 0 (cutW W H x y p q) (List.replicate (4 * (cutW W H x y p q * cutH W H x y p q)) 0) 0 (cutH W H x y p q) := rfl
  have hcw : cutW W H x y p q = wiR W H x y p q - wiL W H x y p q := rfl
  have hch : cutH W H x y p q = wiB W H x y p q - wiT W H x y p q := rfl
  generalize cutL W H x y p q l = R at *
  generalize cutW W H x y p q = k at *
  generalize cutH W H x y p q = g at *
  generalize wiL W H x y p q = a at *
  generalize wiR W H x y p q = b at *
  generalize wiT W H x y p q = e at *
  generalize wiB W H x y p q = f at *
  obtain ⟨N, hN⟩ : ∃ N, N = 4 * (k * g) := ⟨_, rfl⟩
  rw [← hN] at hdef
  have hNle : N ≤ 1000000000 := by
    have h1 : k * g ≤ W * H := Nat.mul_le_mul (by omega) (by omega)
    have h2 : n = 4 * (W * H) := hok.2
    omega
  have V1 := hide (wr_nat (z := (b : Int) - (a : Int)) (n := k) (by omega) (by omega))
  have V2 := hide (wr_nat (z := (f : Int) - (e : Int)) (n := g) (by omega) (by omega))
  have HB := hide (fun w => blank_any k g N w hN (by omega))
  have a0 := hm0.cell 0
  have a1 := hm0.cell 1
  have a2 := hm0.cell 2
  simp only [List.getElem?_toArray, List.getElem?_cons_zero, List.getElem?_cons_succ] at a0 a1 a2
  have HZ := hide (And.intro hz (And.intro o0 (And.intro hm0 s0)))
  have HI := hide (And.intro hok (And.intro hdef (And.intro hcw (And.intro hch (And.intro hN (And.intro hsd (And.intro hl (And.intro hn4 (And.intro hb (And.intro hle (And.intro hc hNle)))))))))))
  show Calls Try.prog 26 #[.agg #[.int .i64 W, .int .i64 H, .slice A n c], .int .i64 x, .int .i64 y, .int .i64 p, .int .i64 q] w _
  clear hok hx hy hp hq hsd hm0 o0 hz hdef hN hl hn4 hb hle hc hNle hcw hch s0
  go_enter Try.func26, Try.ntmps26
  go_wp2_with fail
  rw [← hw0]
  clear hw0
  refine (HW.out _).mono ?_
  rintro e1 w1 ⟨rfl, ho1⟩
  unfold aval
  have hae : Has (w1.alloc (.cells #[.int .i64 (a : Int), .int .i64 (b : Int), .int .i64 (e : Int), .int .i64 (f : Int)] 79)) w1.heap.size 79 #[.int .i64 (a : Int), .int .i64 (b : Int), .int .i64 (e : Int), .int .i64 (f : Int)] := Has.new w1 _ _
  have oa := ho1.alloc (.cells #[.int .i64 (a : Int), .int .i64 (b : Int), .int .i64 (e : Int), .int .i64 (f : Int)] 79)
  have r0 := hae.cell 0
  have r1 := hae.cell 1
  have r2 := hae.cell 2
  have r3 := hae.cell 3
  simp only [List.getElem?_toArray, List.getElem?_cons_zero, List.getElem?_cons_succ] at r0 r1 r2 r3
  have HA := hide (And.intro hae (And.intro oa ho1.size))
  clear hae oa ho1 a0 a1 a2
  obtain ⟨v1, y1⟩ := V1.out
  obtain ⟨v2, y2⟩ := V2.out
  go_wp2_with fail
  refine (HB.out _).mono ?_
  rintro e2 w2 ⟨gb, rfl, hgb, how, ho2⟩
  unfold mval
  have hgb2 : gb < w2.heap.size := (own_block how _ rfl).2.1
  obtain ⟨hae, oa, hs1⟩ := HA.out
  have ob := (Only.refl [] w2).alloc (.cells #[.int .i64 (k : Int), .int .i64 (g : Int), .slice (some ⟨gb, 0, none⟩) N N] 24)
  have oc := ho2.trans ob (S := []) (by simp)
  simp only [World.size_alloc] at hgb
  have hS : PSt w0 w2.heap.size w1.heap.size (w.heap.size + 1) k g (some ⟨gb, 0, none⟩) N N #[.int .i64 (a : Int), .int .i64 (b : Int), .int .i64 (e : Int), .int .i64 (f : Int)] (List.replicate N 0) (w2.alloc (.cells #[.int .i64 (k : Int), .int .i64 (g : Int), .slice (some ⟨gb, 0, none⟩) N N] 24)) :=
    ⟨by simp, own_keep (own_mono how (by simp; omega)) ob (by simp), (HZ.out.1.only oa (by simp)).only oc (by simp), Has.new w2 _ _, hae.only oc (by simp), oa.trans oc (by simp)⟩
  have HS := hide (And.intro hS (And.intro hgb (And.intro hgb2 hs1)))
  obtain ⟨m0, m1, m2⟩ := hS.cells
  clear hS hae oa hs1 ob oc hgb hgb2 how ho2 r0 r1 r2 r3 v1 v2 y1 y2 V1 V2 HA HB HW
  go_wp2_with fail
  go_loopw [33] (fun i wr => ∃ (v : Nat) (m : List UInt8), v ≤ g ∧ i = .int .i64 v ∧ PSt w0 w2.heap.size w1.heap.size (w.heap.size + 1) k g (some ⟨gb, 0, none⟩) N N #[.int .i64 (a : Int), .int .i64 (b : Int), .int .i64 (e : Int), .int .i64 (f : Int)] m wr ∧ rowsF (cutF W a e l) k 0 k m v (g - v) = R) (fun i _ => g - (intOf i).toNat)
  case atStart => exact ⟨0, List.replicate N 0, Nat.zero_le _, rfl, HS.out.1, HI.out.2.1.symm⟩
  case round =>
    obtain ⟨v, m, hv, rfl, S, hd⟩ := hrel
    obtain ⟨hok, hdef, hcw, hch, hN, hsd, hl, hn4, hb, hle, hc, hNle⟩ := HI.out
    have hvw : v ≤ 16384 := by omega
    by_cases hlt : v < g
    · have hk0 : 0 < k := by have := hle.2.2.2.2 (by omega); omega
      have hfit : 4 * (v * k) + 4 * k ≤ N := by
        have h1 : (v + 1) * k ≤ g * k := Nat.mul_le_mul_right _ hlt
        rw [Nat.succ_mul, Nat.mul_comm g k] at h1
        omega
      have hfit2 := hok.fit (x := a + k - 1) (y := e + v) (by omega) (by omega)
      obtain ⟨L, hL⟩ : ∃ L, L = 4 * k := ⟨_, rfl⟩
      obtain ⟨F, hF⟩ : ∃ F, F = v * k := ⟨_, rfl⟩
      obtain ⟨G, hG⟩ : ∃ G, G = (e + v) * W + a := ⟨_, rfl⟩
      have HR : Hid (∀ w, Calls Try.prog 54 #[.agg #[.int .i64 k, .int .i64 g, .slice (some ⟨gb, 0, none⟩) N N], .int .i64 (v : Int), .int .i64 0, .int .i64 (k : Int)] w fun e w' => e = .returned (.slice (some ⟨gb, 4 * F, none⟩) L L) ∧ Only [] w w') := hide (fun w => by
        have := row_any k g (some ⟨gb, 0, none⟩) N N v 0 k w (by omega) (by omega) (by omega) (by omega)
        rw [Nat.zero_add, Nat.add_zero, ← hL, ← hF] at this
        have hval : rowV (some ⟨gb, 0, none⟩) (4 * F) L = .slice (some ⟨gb, 4 * F, none⟩) L L := by unfold rowV; rw [if_neg (by omega), Option.map_some, add_zero_of]
        rw [hval] at this
        exact this)
      have hrow := hb.row (4 * G) L (by omega)
      obtain ⟨bb, oo, hA2, _⟩ := hrow.addr (by rw [bvals_length, List.length_take, List.length_drop]; omega)
      have HR' : Hid (∀ w, Calls Try.prog 54 #[.agg #[.int .i64 W, .int .i64 H, .slice A n c], .int .i64 ((e + v : Nat) : Int), .int .i64 (a : Int), .int .i64 (b : Int)] w fun e w' => e = .returned (.slice (some ⟨bb, oo, none⟩) L L) ∧ Only [] w w') := hide (fun w => by
        have := row_any W H A n c (e + v) a k w (by omega) (by omega) (by omega) (by omega)
        have hval : rowV A (4 * G) L = .slice (some ⟨bb, oo, none⟩) L L := by unfold rowV; rw [if_neg (by omega), hA2]
        rw [show a + k = b by omega, ← hG, ← hL, hval] at this
        exact this)
      have V3 := hide (wr_nat (z := (e : Int) + (v : Int)) (n := e + v) (by omega) (by omega))
      obtain ⟨R1, hR1⟩ : ∃ R1, R1 = rowF (cutF W a e l v) (v * k) m 0 k := ⟨_, rfl⟩
      have hEq : m.take (4 * F) ++ (l.drop (4 * G)).take L ++ m.drop (4 * F + L) = R1 := by
        rw [hR1, hL, show 4 * F + 4 * k = 4 * (F + k) by omega, copied m l F G k (by rw [S.mlen]; omega) (by omega), hF]
        refine rowF_congr fun i c h1 h2 => ?_
        unfold cutF
        rw [hG, Nat.add_assoc]
      have hmm := HZ.out.2.2.1.only S.only (by simp)
      obtain ⟨m0, m1, m2⟩ := S.cells
      obtain ⟨r0, r1, r2, r3⟩ := S.areas
      have q0 := hmm.cell 0
      have q1 := hmm.cell 1
      have q2 := hmm.cell 2
      simp only [List.getElem?_toArray, List.getElem?_cons_zero, List.getElem?_cons_succ] at q0 q1 q2
      have hsl : ((l.drop (4 * G)).take L).length = L := by rw [List.length_take, List.length_drop]; omega
      rw [hA2] at hrow
      have HK := hide (And.intro S (And.intro hd (And.intro hlt (And.intro hR1 (And.intro hEq (And.intro hrow (And.intro hsl (And.intro (show 4 * F + L ≤ N by omega) HS.out.2.1))))))))
      obtain ⟨E, hE⟩ : ∃ E, E = e + v := ⟨_, rfl⟩
      rw [← hE] at V3 HR'
      obtain ⟨v3, y3⟩ := V3.out
      clear S hd hR1 hEq hrow hsl hA2 hmm hok hdef hcw hch hN hsd hl hn4 hb hle hc hNle hfit hfit2 hL hF hG hE V3 hk0 hv
      go_wp2_with fail
      have m0 := later_cell m0
      have m1 := later_cell m1
      have m2 := later_cell m2
      have r0 := later_cell r0
      have r1 := later_cell r1
      have r2 := later_cell r2
      have q0 := later_cell q0
      have q1 := later_cell q1
      have q2 := later_cell q2
      clear r3
      refine region_later_tail 15 (by kernel_rfl) (by kernel_rfl) ?_
      simp only [List.take_succ_cons, List.take_zero, List.drop_succ_cons, List.drop_zero]
      iterate 4 (go_big_quiet_step (fail))
      go_big_quiet_step ((go_at_call 54; refine later_of (HR.out _)))
      iterate 9 (go_big_quiet_step (fail))
      go_big_quiet_step ((go_at_call 54; refine later_of (HR'.out _)))
      refine wpQuiet_nil ?_
      rintro _ ⟨X, rfl⟩
      change wpList _ _ _ _ _ X.val
      clear m0 m1 m2 r0 r1 r2 q0 q1 q2 HR HR' v3 y3
      obtain ⟨S, hd, hlt, hR1, hEq, hrow, hsl, hfL, hgb⟩ := HK.out
      have SX := S.keep X.only
      obtain ⟨cur, hcur, hcs, hown⟩ := own_copy (p := 4 * F) (cs := bvals ((l.drop (4 * G)).take L)) SX.own (by rw [bvals_length, hsl]; exact hfL)
      have hsrc := (hrow.keep ((HZ.out.2.1.trans S.only (S := []) (by simp)).trans X.only (S := []) (by simp)) (by simp)).at_ _ rfl
      have hn1 : (bvals ((l.drop (4 * G)).take L)).length = Nat.min L L := by rw [bvals_length, hsl]; exact (Nat.min_self L).symm
      have hsz : (Try.prog.info? 5).map (·.size) = some 1 := by kernel_rfl
      have hfin : ∀ w5, Has w5 gb 5 (cur.toList.take (4 * F) ++ bvals ((l.drop (4 * G)).take L) ++ cur.toList.drop (4 * F + (bvals ((l.drop (4 * G)).take L)).length)).toArray → Only [gb] X.val w5 → PSt w0 w2.heap.size w1.heap.size (w.heap.size + 1) k g (some ⟨gb, 0, none⟩) N N #[.int .i64 (a : Int), .int .i64 (b : Int), .int .i64 (e : Int), .int .i64 (f : Int)] R1 w5 := fun w5 h5 o5 => by
        have h6 := hown w5 h5
        rw [bvals_length, hsl, ← bvals_take, ← bvals_drop, ← bvals_append, ← bvals_append, hEq] at h6
        exact SX.put' (by have := HS.out; have := S.only.size; have := HZ.out.2.2.2; omega) (by have := HS.out; have := HZ.out.2.2.2; omega) (by have := HS.out; omega) (by have := HS.out; omega) (by rw [hR1, rowF_length]) h6 o5
      have hFin := hide hfin
      clear hfin S hd hEq hrow hsl hfL SX hown hR1
      go_wp2_with (refine list_copy X.val rfl (.tmp 40) (.tmp 50) 22 rfl 5 gb (4 * F) L L ⟨bb, oo, none⟩ L L cur 5 (bvals ((l.drop (4 * G)).take L)) Try.underlying22 hsz hcur hn1 hsrc hcs (bvals_one _) rfl rfl ?_; intro w5 hR5 hO5; have H5 := hide (hFin.out w5 hR5 hO5); clear hR5 hO5 hFin hcur hn1 hsrc hcs)
      go_wp2_with fail
      go_roundw
      case rel =>
        refine ⟨v + 1, _, hlt, by go_num, H5.out, ?_⟩
        have hd := HK.out.2.1
        rw [show g - v = (g - (v + 1)) + 1 by omega, rowsF, ← HK.out.2.2.2.1] at hd
        exact hd
      case measure => simp [intOf]; omega
    · obtain rfl : v = g := by omega
      rw [Nat.sub_self] at hd
      have hd : m = R := hd
      subst hd
      obtain ⟨m0, m1, m2⟩ := S.cells
      have hres := S.res
      have HS3 := hide S
      clear S hlt hok hdef hcw hch hN hsd hl hn4 hb hle hc hNle
      go_wp2_with (refine list_store_row' rfl 24 (.tmp 10) (.tmp 53) rfl (w.heap.size + 1) #[.int .i64 (k : Int), .int .i64 (v : Int), .slice (some ⟨gb, 0, none⟩) N N] rfl rfl 24 _ hres (by kernel_rfl) rfl (mat_one _ _ _ _ _) ?_; intro w4 hT4 hO4)
      obtain ⟨h1, h2⟩ := HS3.out.fin HZ.out.2.1 (by omega) (by have := HZ.out.2.2.2; omega) hO4
      exact bodyPost_ret (results_cell_row Try.results26 _ _ (w.heap.size + 1) 24 _ (0, 0) _ rfl hT4 Try.underlying24 rfl (by kernel_rfl)) rfl ⟨_, rfl, h1, h2⟩
end Go.Proofs.Ytngaabnmhcncmaa
