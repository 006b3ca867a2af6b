/-
  Package inflate: feed. | Package inflate: Write. | Package inflate: New, Inflate.
-/
import Derived.Test.YtglkfgpefpebmaaDoorMInfF
import Derived.Test.YtglkfgpefpebmaaDoorHufY
import Derived.Test.YtglkfgpefpebmaaDoorCut
import Derived.Deep.RegionLaw
import Derived.OwnWalk
namespace Go.Proofs.YtglkfgpefpebmaaDoor
open Go Go.RowKit

/-- Between two pieces: a bytes of B have come, those from byte o on wait; it stands at s. -/
structure Btw (w : World) (g gf gw : Nat) (f : DF) (rp vo : Value) (B : List UInt8) (a o : Nat) (s : St) (all x : List UInt8) : Prop where
  on : On w g gf gw f.wt.ownBlock.toList f rp vo all x
  wts : w.ownsRow 0 5 1 f.wt (a - o) (bvals ((B.take a).drop o))
  gwt : f.wt.ownBlock ≠ some gw
  mt : Mt f s o f.ps all
  ps : f.ps < 8
  oa : o ≤ a
  aB : a ≤ B.length
  pa : 8 * o + f.ps ≤ 8 * a
  fx : f.fx = .pointer none ∨ CdV w f.fx
  co : f.k = 7 → CdV w f.co

theorem own_same (A : Option Addr) (n n' c c' : Nat) : (Value.slice A n c).ownBlock = (Value.slice A n' c').ownBlock := by cases A <;> rfl
theorem own_front {w : World} {base e c n : Nat} {A : Option Addr} {xs : List Value} (h : w.ownsRow base e 1 (.slice A n c) n xs) (k : Nat) (hk : k ≤ n) : w.ownsRow base e 1 (.slice A k c) k (xs.take k) := by
  refine ⟨by rw [List.length_take, h.1]; omega, ?_⟩
  rcases h.2 with ⟨hv, h0⟩ | ⟨gb, cap, cur, hv, hb, hg, h1, h2, h3, h4⟩
  · injection hv with hA _ hc
    subst hA hc
    obtain rfl : k = 0 := by omega
    exact .inl ⟨rfl, rfl⟩
  · injection hv with hA _ hc
    subst hA hc
    refine .inr ⟨gb, c, cur, rfl, hb, hg, by omega, h2, h3, ?_⟩
    rw [← h4, List.take_take]
    congr 1
    omega

/-- What comes of a piece of n bytes. -/
def Fed (B : List UInt8) (a n : Nat) (g gf gw : Nat) (f : DF) (vo : Value) (all x : List UInt8) (E : St) (w : World) (e : Ending) (w' : World) : Prop :=
  ∃ (c : Nat) (y : List UInt8) (rp vo' : Value) (f' : DF), e = .returned (.int .i64 (c : Int)) ∧ Only ([g, gf, gw] ++ (vo.ownBlock.toList ++ f.wt.ownBlock.toList)) w w' ∧ (∀ b, vo'.ownBlock = some b → vo.ownBlock = some b ∨ w.heap.size ≤ b) ∧ (∀ b, f'.wt.ownBlock = some b → f.wt.ownBlock = some b ∨ w.heap.size ≤ b) ∧
    f'.most = f.most ∧ f'.used = f.used ∧ f'.total = f.total ∧ all.length + y.length ≤ f.most ∧
    ((f'.fault = f.fault ∧ f'.k = 11 ∧ a + c = (E.p + 7) / 8 ∧ E.p ≤ 8 * (a + n) ∧ E.out = all ++ y ∧ On w' g gf gw [] f' rp vo' (all ++ y) (x ++ y)) ∨
      (f'.fault = f.fault ∧ c = n ∧ 8 * (a + n) < E.p ∧ f'.k ≠ 11 ∧ ∃ o' s', Btw w' g gf gw f' rp vo' B (a + n) o' s' (all ++ y) (x ++ y) ∧ Way fixedL (num B) s' E) ∨
      (f'.fault = 5 ∧ c = n ∧ f.most < E.out.length ∧ On w' g gf gw [] f' rp vo' (all ++ y) (x ++ y)))

set_option maxRecDepth 100000 in
set_option maxHeartbeats 8000000 in
theorem feed_any (B : List UInt8) (a o n cb : Nat) (A : Option Addr) (g gf gw : Nat) (f : DF) (rp vo : Value) (all x : List UInt8) (E s : St) (w : World) (h : Btw w g gf gw f rp vo B a o s all x) (hw : Way fixedL (num B) s E) (hE : E.k = 11) (hs11 : s.k ≠ 11) (hEa : 8 * a < E.p)
    (hb : Holds w 1 A n (bvals ((B.drop a).take n))) (hn : 0 < n) (hn2 : n ≤ 4096) (han : a + n ≤ B.length) (hwl : a - o ≤ 90000) (hl : all.length ≤ f.most) (hmost : f.most ≤ 1073741824) (hx : x.length ≤ all.length) :
    Calls Tryd.prog 49 #[.pointer (some ⟨g, 0, none⟩), .pointer (some ⟨gf, 0, none⟩), .slice A n cb] w (Fed B a n g gf gw f vo all x E w) := by
  obtain ⟨At, ct, hwt, hct, _⟩ := own_shape h.wts
  have hct0 := hct
  have c7 : w.cell? ⟨g, 7, none⟩ = some (.slice At (a - o) ct) := by have := h.on.dec.wt; rw [hwt] at this; exact this
  have hlW : ((B.take a).drop o).length = a - o := part_length B a o h.aB
  have hlP : ((B.drop a).take n).length = n := by rw [List.length_take, List.length_drop]; omega
  have hall : (B.take a).drop o ++ (B.drop a).take n = (B.take (a + n)).drop o := by
    rw [List.take_add, List.drop_append_of_le_length (by rw [List.length_take]; have := h.oa; have := h.aB; omega)]
  have HI := hide (And.intro h (And.intro hw (And.intro hE (And.intro hs11 (And.intro hEa (And.intro hb (And.intro hl (And.intro hmost (And.intro hx (And.intro hall (And.intro hlW hlP)))))))))))
  have HN := hide (And.intro hn (And.intro hn2 (And.intro han hwl)))
  have hoa := h.oa
  have hps := h.ps
  have hpa := h.pa
  have HWT := hide hwt
  have hflow := h.on.flow
  have hvolt : ∀ b, vo.ownBlock = some b → b < w.heap.size := fun b hb => (h.on.out.lt b hb).2
  have hwtlt : ∀ b, f.wt.ownBlock = some b → b < w.heap.size := fun b hb => (h.wts.lt b hb).2
  obtain ⟨m, hm⟩ : ∃ m, m = a - o := ⟨_, rfl⟩
  rw [← hm] at c7
  have HM := hide hm
  obtain ⟨l, hl0⟩ : ∃ l, l = (B.take (a + n)).drop o := ⟨_, rfl⟩
  have hll : l.length = m + n := by rw [hl0, part_length B (a + n) o han]; omega
  have hsrc : Src B (a + n) o l := ⟨hl0, by omega, han⟩
  have hP : Holds (w.alloc (.cells #[.slice At m ct, .slice A n cb] 22)) 1 (some ⟨w.heap.size, 0, none⟩) 2 ([(⟨At, ct, (B.take a).drop o⟩ : CPart), ⟨A, cb, (B.drop a).take n⟩].map CPart.val) := by
    have := Holds.lit w #[.slice At m ct, .slice A n cb] 22
    simpa [CPart.val, hlW, hlP, hm] using this
  have hps2 : ∀ p ∈ [(⟨At, ct, (B.take a).drop o⟩ : CPart), ⟨A, cb, (B.drop a).take n⟩], Holds (w.alloc (.cells #[.slice At m ct, .slice A n cb] 22)) 1 p.A p.l.length (bvals p.l) := by
    intro p hp
    simp only [List.mem_cons, List.not_mem_nil, or_false] at hp
    rcases hp with rfl | rfl
    · show Holds _ 1 At ((B.take a).drop o).length _
      rw [hlW]
      have := Holds.of_own (A := At) (c := ct) (by rw [← hwt]; exact h.wts)
      exact this.keep ((Only.refl [] _).alloc _) (by simp)
    · show Holds _ 1 A ((B.drop a).take n).length _
      rw [hlP]
      exact hb.keep ((Only.refl [] _).alloc _) (by simp)
  have hcon := concat_any (some ⟨w.heap.size, 0, none⟩) 2 _ _ hP (by simp) hps2
  have hallE : CPart.all [(⟨At, ct, (B.take a).drop o⟩ : CPart), ⟨A, cb, (B.drop a).take n⟩] = l := by
    unfold CPart.all
    simp only [List.map_cons, List.map_nil, List.flatten_cons, List.flatten_nil, List.append_nil]
    rw [hall, hl0]
  rw [hallE, hll] at hcon
  have HCON := hide (hcon (by omega) (by omega))
  have HL := hide (And.intro hll (And.intro hsrc (And.intro hflow (And.intro hvolt (And.intro hwtlt (And.intro hps (And.intro hpa hct0)))))))
  clear h hw hE hs11 hEa hb hl hmost hx hall hlW hlP hwt hct hwl hm hoa han hP hps2 hcon hallE hl0 hll hsrc hflow hvolt hwtlt hps hpa hct0
  go_enter Tryd.func49, Tryd.ntmps49
  go_wp2_with fail
  refine (HCON.out).mono ?_
  rintro e w2 ⟨v2, rfl, hown2, ho2⟩
  obtain ⟨A2, c2, rfl, _, hA2⟩ := own_shape hown2
  have o02 : Only [] w w2 := ((Only.refl [] w).alloc _).trans ho2 (by simp)
  have hNR := newReader_any A2 (m + n) c2 l w2 (Holds.of_own hown2) HL.out.1 (by have := HN.out; have := HM.out; omega) (fun h0 => ⟨hA2 h0, by
    rcases hown2.2 with ⟨_, h1⟩ | ⟨gb, cap, cur, hv, _⟩
    · exact h1
    · rw [h0] at hv; cases hv⟩)
  have H2 := hide (And.intro hown2 (And.intro o02 hNR))
  clear hown2 ho2 hA2 o02 hNR HCON
  go_wp2_with fail
  refine (H2.out.2.2).mono ?_
  rintro e w3 ⟨gr, v, rfl, hgr, hv, hrd, ho3⟩
  have o03 : Only [] w w3 := H2.out.2.1.trans ho3 (by simp)
  have hfl3 := Has.only HL.out.2.2.1 o03 (by simp)
  have k3 : w3.cell? ⟨gf, 0, none⟩ = some rp := hfl3.cell 0
  have f3 : w3.frozen? ⟨gf, 0, none⟩ = false := hfl3.free 0
  have H3 := hide (And.intro hgr (And.intro hv (And.intro hrd (And.intro o03 (And.intro (Holds.of_own H2.out.1 |>.keep ho3 (by simp)) hfl3)))))
  clear hgr hv hrd ho3 o03 hfl3
  go_wp2_with fail
  have o34 : Only [gf] w3 (w3.setCell ⟨gf, 0, none⟩ (.pointer (some ⟨gr, 0, none⟩))) := (Only.refl [gf] _).setCell (by simp) _
  have o04 : Only [gf] w (w3.setCell ⟨gf, 0, none⟩ (.pointer (some ⟨gr, 0, none⟩))) := H3.out.2.2.2.1.of_nil.trans o34 (by simp)
  have hB := HI.out.1
  have hsz3 := Nat.le_trans H2.out.2.1.size (show w2.heap.size ≤ gr from H3.out.1)
  have hgfgr : gf ≠ gr := Has.ne H3.out.2.2.2.2.2 H3.out.2.2.1.1 (by decide)
  have hfl4 : Has (w3.setCell ⟨gf, 0, none⟩ (.pointer (some ⟨gr, 0, none⟩))) gf 111 #[.pointer (some ⟨gr, 0, none⟩), vo] := H3.out.2.2.2.2.2.set 0 _
  have hrd4 : Rd (w3.setCell ⟨gf, 0, none⟩ (.pointer (some ⟨gr, 0, none⟩))) gr v l 0 := H3.out.2.2.1.only o34 (by simpa using fun e => hgfgr e.symm) (fun b hb hm => by simp at hm; subst hm; exact own_ne H3.out.2.2.1.2.1 H3.out.2.2.2.2.2 (by decide) hb.symm)
  have hhl4 : Holds (w3.setCell ⟨gf, 0, none⟩ (.pointer (some ⟨gr, 0, none⟩))) 1 A2 (m + n) (bvals l) := H3.out.2.2.2.2.1.keep o34 (fun ad ha _ hm => by
    simp at hm
    have h1 := H2.out.1
    rw [ha] at h1
    have h2 := own_ne h1 (HL.out.2.2.1.only H2.out.2.1 (by simp)) (by decide)
    exact h2 (by rw [← hm]; rfl))
  have hO : Other w [gf] := fun k hk _ => by
    obtain rfl : k = gf := by simpa using hk
    exact ⟨_, _, _, HL.out.2.2.1, by decide, by decide⟩
  have hgg := hB.on.g_gf
  have hggw := hB.on.gf_gw
  have hgfvo := hB.on.gf_vo
  have hdec4 := Has.only hB.on.dec o04 (by simpa using hgg)
  have hwts4 : (w3.setCell ⟨gf, 0, none⟩ (.pointer (some ⟨gr, 0, none⟩))).ownsRow 0 5 1 f.wt (a - o) (bvals ((B.take a).drop o)) := own_keep hB.wts o04 (fun b hb hm => by simp at hm; subst hm; exact own_ne hB.wts HL.out.2.2.1 (by decide) hb.symm)
  have hR4 : Rn (w3.setCell ⟨gf, 0, none⟩ (.pointer (some ⟨gr, 0, none⟩))) g gf gw gr (v.ownBlock.toList ++ f.wt.ownBlock.toList) f v vo l 0 all x := by
    refine ⟨⟨hdec4, hB.on.ring.only o04 (by simpa using fun e => hggw e.symm), hB.on.wb, hB.on.wn, hfl4, own_keep hB.on.out o04 (fun b hb hm => by simp at hm; subst hm; exact hgfvo hb.symm), hB.on.gw_, fun k hk => ?_⟩, hrd4, fun b hb => List.mem_append.2 (.inl (mem_own.2 hb)), fun hm => ?_, hB.fx.imp id (fun hx => hx.keep o04 hO), fun hk => (hB.co hk).keep o04 hO⟩
    · rcases List.mem_append.1 hk with hk | hk
      · have hk := mem_own.1 hk
        have h1 := H3.out.2.1 k hk
        have h2 := H2.out.2.1.size
        refine ⟨fun he => ?_, ?_⟩
        · have := HL.out.2.2.2.1 k he; omega
        · have := (H3.out.2.2.1.2.1.lt k hk).2
          simpa using this
      · exact ⟨(hB.on.apart k hk).1, Nat.lt_of_lt_of_le (hB.on.apart k hk).2 o04.size⟩
    · rcases List.mem_append.1 hm with hm | hm
      · have h1 := H3.out.2.1 gw (mem_own.1 hm)
        have h2 := H2.out.2.1.size
        obtain ⟨ws, hws, _⟩ := hB.on.ring
        have := hws.lt
        omega
      · exact hB.gwt (mem_own.1 hm)
  have k8 : (w3.setCell ⟨gf, 0, none⟩ (.pointer (some ⟨gr, 0, none⟩))).cell? ⟨g, 8, none⟩ = some (.int .i64 (f.ps : Int)) := Dc.ps hdec4
  have k0 : (w3.setCell ⟨gf, 0, none⟩ (.pointer (some ⟨gr, 0, none⟩))).cell? ⟨gf, 0, none⟩ = some (.pointer (some ⟨gr, 0, none⟩)) := hfl4.cell 0
  have H4 := hide (And.intro o04 (And.intro hR4 (And.intro hwts4 (And.intro hhl4 hsz3))))
  clear o34 o04 hB hsz3 hgfgr hfl4 hrd4 hhl4 hO hgg hggw hgfvo hdec4 hwts4 hR4 k3 f3
  generalize w3.setCell ⟨gf, 0, none⟩ (.pointer (some ⟨gr, 0, none⟩)) = w4 at *
  have hBt := bits_any gr v l 0 (f.ps : Int) w4.drew (H4.out.2.1.rd.drewN 1)
  have ok : okBits l.length 0 (f.ps : Int) = true := by
    have h1 := HL.out
    have h2 := HN.out
    have h3 := HM.out
    unfold okBits
    simp
    omega
  rw [ok] at hBt
  simp only [if_true, Int.toNat_natCast, Nat.zero_add] at hBt
  have HBt := hide hBt
  clear hBt ok
  go_still_tail 8, (by kernel_rfl)
  change wpList _ _ _ _ _ w4.drew
  go_wp2_with fail
  refine (HBt.out).mono ?_
  rintro e w5 ⟨rfl, ho5, hr5⟩
  have hR5 := (H4.out.2.1.drewN 1).read ho5 hr5
  have o45 : Only [gr] w4 w5 := ((Only.refl [gr] w4).drew).trans ho5 (by simp)
  have HRun := hide (run_any B (a + n) o l HL.out.2.1 g gf gw gr _ f v vo f.ps all x E w5 s hR5 HI.out.1.mt HI.out.2.1 HI.out.2.2.1 HI.out.2.2.2.2.2.2.1 HI.out.2.2.2.2.2.2.2.1 HI.out.2.2.2.2.2.2.2.2.1)
  have H5 := hide (And.intro o45 hR5)
  clear ho5 hr5 hR5 o45 k8 k0 HBt
  go_wp2_with fail
  refine (HRun.out).mono ?_
  rintro e w6 ⟨c, q', y, vo', f', rfl, hR6, hS6, hsm, hy, hcase⟩
  have k6 : w6.cell? ⟨gf, 0, none⟩ = some (.pointer (some ⟨gr, 0, none⟩)) := Has.cell hR6.on.flow 0
  have HAt := hide (at_any gr v (q' : Int) w6 hR6.rd.1)
  have hqb : q' ≤ 8 * l.length := hR6.rd.2.2.2
  have hqb2 : q' ≤ 1000000 := by have := HL.out.1; have := HN.out; have := HM.out; omega
  have fr : Only ([g, gf, gw] ++ (vo.ownBlock.toList ++ f.wt.ownBlock.toList)) w w6 := by
    refine ((H4.out.1.weak (T := [g, gf, gw] ++ (vo.ownBlock.toList ++ f.wt.ownBlock.toList)) (by simp)).trans H5.out.1 (fun i hi hlt => ?_)).trans hS6.only (fun i hi hlt => ?_)
    · obtain rfl : i = gr := by simpa using hi
      have := H4.out.2.2.2.2; omega
    · simp only [List.mem_append, List.mem_cons, List.not_mem_nil, or_false] at hi ⊢
      rcases hi with (rfl | rfl | rfl | rfl) | hi
      · simp
      · simp
      · simp
      · have := H4.out.2.2.2.2; omega
      · exact .inr (.inl hi)
  have hvo6 : ∀ b, vo'.ownBlock = some b → vo.ownBlock = some b ∨ w.heap.size ≤ b := fun b hb => (hS6.own b hb).imp id (fun h => Nat.le_trans (Nat.le_trans H4.out.1.size H5.out.1.size) h)
  have hwt6 : ∀ b, f'.wt.ownBlock = some b → f.wt.ownBlock = some b ∨ w.heap.size ≤ b := fun b hb => .inl (by rw [← hsm.wt]; exact hb)
  have hon6 : On w6 g gf gw [] f' (.pointer (some ⟨gr, 0, none⟩)) vo' (all ++ y) (x ++ y) := ⟨hR6.on.dec, hR6.on.ring, hR6.on.wb, hR6.on.wn, hR6.on.flow, hR6.on.out, hR6.on.gw_, by simp⟩
  have HF := hide (And.intro fr (And.intro hvo6 (And.intro hwt6 hon6)))
  have H6 := hide (And.intro hR6 (And.intro hS6 (And.intro hsm (And.intro hy hqb))))
  clear hR6 hS6 hsm hy hqb HRun fr hvo6 hwt6 hon6
  rcases hcase with ⟨rfl, h11, hEp, hEo⟩ | ⟨rfl, hfar, h11, s', hM6, hW6⟩ | ⟨rfl, hlong⟩
  · have HE := hide (And.intro h11 (And.intro hEp hEo))
    have hEa := HI.out.2.2.2.2.1
    have hq : RowKit.wrap64 (((q' : Int) + 7) / 8 - (m : Int)) = (((q' + 7) / 8 - m : Nat) : Int) := by
      have h1 := HM.out
      have h2 := HI.out.1.oa
      have h3 := HN.out
      rw [IntWalk.wrap64_in _ ⟨by omega, by omega⟩]
      omega
    clear h11 hEp hEo hEa
    go_wp2_with fail
    refine (HAt.out).mono ?_
    rintro e w7 ⟨rfl, rfl⟩
    go_wp2_with fail
    go_ret
    have h1 := HM.out
    have h2 := HI.out.1.oa
    have h3 := HI.out.2.2.2.2.1
    have h4 := HE.out.2.1
    have h5 := H6.out.2.2.2.2
    have h6 := HL.out.1
    exact ⟨(q' + 7) / 8 - m, y, _, vo', f', ret_int hq, HF.out.1, HF.out.2.1, HF.out.2.2.1, H6.out.2.2.1.most, H6.out.2.2.1.used, H6.out.2.2.1.total, H6.out.2.2.2.1, .inl ⟨H6.out.2.2.1.fault, HE.out.1, by omega, by omega, HE.out.2.2, HF.out.2.2.2⟩⟩
  · have hB := HI.out.1
    have h1 := HM.out
    have hlen := HL.out.1
    have hqb := H6.out.2.2.2.2
    have hwf : f'.wt = .slice At m ct := by rw [H6.out.2.2.1.wt, HWT.out, HM.out]
    have k7 : w6.drew.cell? ⟨g, 7, none⟩ = some (.slice At m ct) := by have := H6.out.1.on.dec.wt; rw [hwf] at this; exact this
    have hsl0 : ∀ w', (Instr.slice 22 (.slice At m ct) none (some (.int .i64 0)) none).run Tryd.prog w' = .ok (.slice At 0 ct) w' := run_upto At m ct 0 (Nat.zero_le _)
    have hlow : ∀ ad, A2 = some ad → w.heap.size < ad.block ∧ ad.block < w2.heap.size := fun ad ha => by
      have := H2.out.1.lt ad.block (by rw [ha]; rfl)
      simp at this
      omega
    have hhl6 : Holds w6.drew 1 A2 (m + n) (bvals l) := by
      have ha4 : Holds w5 1 A2 (m + n) (bvals l) := H4.out.2.2.2.1.keep H5.out.1 (fun ad ha _ hm => by
        have h2 := hlow ad ha
        have h3 := H3.out.1
        obtain h4 : ad.block = gr := by simpa using hm
        omega)
      refine (ha4.keep H6.out.2.1.only (fun ad ha _ hm => ?_)).keep ((Only.refl [] w6).drew) (by simp)
      have h2 := hlow ad ha
      have h3 := H3.out.1
      have h4 := hB.on.dec.lt
      have h5 := HL.out.2.2.1.lt
      obtain ⟨ws, hws, _⟩ := hB.on.ring
      have h6 := hws.lt
      simp only [List.mem_append, List.mem_cons, List.not_mem_nil, or_false] at hm
      rcases hm with (hm | hm | hm | hm) | hm
      · omega
      · omega
      · omega
      · omega
      · have := HL.out.2.2.2.1 _ (mem_own.1 hm); omega
    have hc2 : m + n ≤ c2 := by
      obtain ⟨A', c', hv, hnc, _⟩ := own_shape H2.out.1
      injection hv with _ _ hc
      all_goals omega
    obtain ⟨k, hk⟩ : ∃ k, k = q' / 8 := ⟨_, rfl⟩
    have hk8 : IntKind.i64.wrap ((q' : Int) / 8) = (k : Int) := wrap64 (n := k) (by omega) (by omega)
    have hkm : (k : Int) ≤ (m : Int) + (n : Int) := by omega
    obtain ⟨A8, c8, hsl8, hh8, _, _⟩ := run_from hhl6 hlen hc2 k (by omega)
    have HK := hide hk
    have hold : w6.drew.ownsRow 0 5 1 (.slice At 0 ct) 0 [] := by
      have hw6 : w6.ownsRow 0 5 1 f.wt (a - o) (bvals ((B.take a).drop o)) := by
        have hK : ∀ k ∈ f.wt.ownBlock.toList, k ∈ v.ownBlock.toList ++ f.wt.ownBlock.toList := fun k hk => List.mem_append.2 (.inr hk)
        refine own_keep (own_keep H4.out.2.2.1 H5.out.1 (fun b hb hm => ?_)) H6.out.2.1.only (fun b hb hm => ?_)
        · have := HL.out.2.2.2.2.1 b hb
          have h2 := H4.out.2.2.2.2
          obtain h4 : b = gr := by simpa using hm
          omega
        · have h2 := HL.out.2.2.2.2.1 b hb
          simp only [List.mem_append, List.mem_cons, List.not_mem_nil, or_false] at hm
          rcases hm with (hm | hm | hm | hm) | hm
          · subst hm; exact own_ne hB.wts hB.on.dec (by decide) hb.symm
          · subst hm; exact own_ne hB.wts hB.on.flow (by decide) hb.symm
          · subst hm; exact hB.gwt hb
          · have := H4.out.2.2.2.2; omega
          · exact (hB.on.apart b (mem_own.2 hb)).1 (mem_own.1 hm)
      rw [HWT.out] at hw6
      have := own_front hw6 0 (Nat.zero_le _)
      rw [List.take_zero] at this
      exact this
    have hne7 : some g ≠ (Value.slice At 0 ct).ownBlock := own_ne hold H6.out.1.on.dec (by decide)
    have hdc6 : Dc w6.drew g f' := H6.out.1.on.dec
    have hroom : (0 + (m + n - k)) * 1 ≤ 140737488355328 := by have := HN.out; omega
    have hone8 := bvals_one (l.drop k)
    obtain ⟨i0, hi0, hz0, hz1, hz2⟩ := info_of u8_info
    have HE := hide (And.intro hfar (And.intro h11 (And.intro hM6 hW6)))
    have HQ := hide (And.intro hlow (And.intro hhl6 (And.intro hwf hlen)))
    clear hfar h11 hM6 hW6 hB h1 hlen hqb hlow hhl6 hwf hk
    go_wp2_with fail
    refine (HAt.out).mono ?_
    rintro e w7 ⟨rfl, rfl⟩
    go_wp2_with fail
    go_region_law ((refine step_append _ rfl (.tmp 64) (.tmp 68) 22 rfl 0 1 1 Tryd.underlying22 hi0 hz0 hz1 hz2 rfl (Nat.zero_lt_one) hold rfl hh8 rfl hone8 hroom (Nat.zero_lt_one) (Nat.zero_le _) ?_; intro A9 c9 w9 hown9 hgrow hat; have cw7 : w9.cell? ⟨g, 7, none⟩ = some f'.wt := Dc.wt (Has.grown hdc6 hgrow hne7); have fw7 : w9.frozen? ⟨g, 7, none⟩ = false := Has.free (Has.grown hdc6 hgrow hne7) 7))
    all_goals
      have hR6 := H6.out.1
      have hB := HI.out.1
      have hdc9 : Dc w9 g f' := Has.grown hdc6 hgrow hne7
      have hown9' : w9.ownsRow 0 5 1 (.slice A9 (0 + (m + n - k)) c9) (0 + (m + n - k)) (bvals (l.drop k)) := by simpa using hown9
      have ho9 : Only (Value.slice At 0 ct).ownBlock.toList w6 w9 := ((Only.refl _ w6).drew).grown hgrow (fun b hb _ => by rw [hb]; simp)
      have hdc10 : Dc (w9.setCell ⟨g, 7, none⟩ (.slice A9 (m + n - k) c9)) g { f' with wt := .slice A9 (m + n - k) c9 } := Dc.set_wt hdc9 _
      have k8 : (w9.setCell ⟨g, 7, none⟩ (.slice A9 (m + n - k) c9)).cell? ⟨g, 8, none⟩ = some (.int .i64 (f'.ps : Int)) := hdc10.ps
      have f8 : (w9.setCell ⟨g, 7, none⟩ (.slice A9 (m + n - k) c9)).frozen? ⟨g, 8, none⟩ = false := Has.free hdc10 8
      rw [Nat.zero_add] at hown9' hat
      have H9 := hide (And.intro hown9' (And.intro ho9 (And.intro hat hdc9)))
      have hmod : (q' : Int).tmod 8 = ((q' % 8 : Nat) : Int) := rfl
      clear hown9 hown9' ho9 hat hdc9 hR6 hB hdc10 hgrow
      go_wp2_with fail
      go_ret
      have hR6 := H6.out.1
      have hB := HI.out.1
      have hm1 := HM.out
      have hk1 := HK.out
      have hoa := hB.oa
      have hqb := H6.out.2.2.2.2
      have hlen := HQ.out.2.2.2
      have oWa : Only [g] w9 ((w9.setCell ⟨g, 7, none⟩ (.slice A9 (m + n - k) c9)).setCell ⟨g, 8, none⟩ (.int .i64 ((q' % 8 : Nat) : Int))) := ((Only.refl [g] _).setCell (by simp) _).setCell (by simp) _
      have hd2 : Dc ((w9.setCell ⟨g, 7, none⟩ (.slice A9 (m + n - k) c9)).setCell ⟨g, 8, none⟩ (.int .i64 ((q' % 8 : Nat) : Int))) g { f' with wt := .slice A9 (m + n - k) c9, ps := q' % 8 } := Dc.set_ps (Dc.set_wt H9.out.2.2.2 _) _
      change Fed B a n g gf gw f vo all x E w _ ((w9.setCell ⟨g, 7, none⟩ (.slice A9 (m + n - k) c9)).setCell ⟨g, 8, none⟩ (.int .i64 ((q' % 8 : Nat) : Int)))
      generalize (w9.setCell ⟨g, 7, none⟩ (.slice A9 (m + n - k) c9)).setCell ⟨g, 8, none⟩ (.int .i64 ((q' % 8 : Nat) : Int)) = wz at *
      have hAt : ∀ b, (Value.slice At 0 ct).ownBlock = some b → f.wt.ownBlock = some b := fun b hb => by rw [HWT.out, own_same At (a - o) 0 ct ct]; exact hb
      have hwtn : ∀ b, (Value.slice A9 (m + n - k) c9).ownBlock = some b → f.wt.ownBlock = some b ∨ w6.heap.size ≤ b := fun b hb => by
        rcases H9.out.2.2.1 with h | h
        · rw [h] at hb; exact .inl (hAt b hb)
        · rw [h] at hb; injection hb with hb; right; simp at hb; omega
      have hvK : ∀ b, f.wt.ownBlock = some b → vo'.ownBlock ≠ some b ∧ b < w6.heap.size := fun b hb => hR6.on.apart b (List.mem_append.2 (.inr (mem_own.2 hb)))
      have o6z : Only ([g] ++ f.wt.ownBlock.toList) w6 wz := (H9.out.2.1.weak (T := [g] ++ f.wt.ownBlock.toList) (fun b hb _ => List.mem_append.2 (.inr (mem_own.2 (hAt b (mem_own.1 hb)))))).trans oWa (fun i hi _ => List.mem_append.2 (.inl hi))
      have hnS : ∀ t cs b, Has w6 b t cs → t ≠ 78 → t ≠ 5 → b ∉ [g] ++ f.wt.ownBlock.toList := fun t cs b hh h1 h2 hm => by
        rcases List.mem_append.1 hm with hm | hm
        · obtain rfl : b = g := by simpa using hm
          exact Has.ne hh hR6.on.dec h1 rfl
        · exact own_ne hold (t := t) (cs := cs) (g := b) hh (fun e => h2 e.symm) (by rw [HWT.out, own_same At (a - o) 0 ct ct] at hm; exact (mem_own.1 hm).symm)
      have hgvo := hR6.on.g_vo
      have hvon : ∀ b, vo'.ownBlock = some b → b ∉ [g] ++ f.wt.ownBlock.toList := fun b hb hm => by
        rcases List.mem_append.1 hm with hm | hm
        · obtain rfl : b = g := by simpa using hm
          exact hgvo hb.symm
        · exact (hvK b (mem_own.1 hm)).1 hb
      have hgwn : gw ∉ [g] ++ f.wt.ownBlock.toList := fun hm => by
        rcases List.mem_append.1 hm with hm | hm
        · obtain h : gw = g := by simpa using hm
          exact hR6.on.g_gw h.symm
        · exact hB.gwt (mem_own.1 hm)
      have hOz : Other w6 ([g] ++ f.wt.ownBlock.toList) := fun b hb _ => by
        rcases List.mem_append.1 hb with hb | hb
        · obtain rfl : b = g := by simpa using hb
          exact ⟨_, _, _, hR6.on.dec, by decide, by decide⟩
        · have hb := mem_own.1 hb
          rw [HWT.out] at hb
          rcases hold.2 with ⟨h0, _⟩ | ⟨gb, cap, cur, hv, _, hh, _⟩
          · injection h0 with h0
            rw [h0] at hb; cases hb
          · injection hv with hv
            rw [hv] at hb
            obtain rfl : gb = b := by simpa [Value.ownBlock] using hb
            exact ⟨_, _, _, hh, by decide, by decide⟩
      have hwz : wz.ownsRow 0 5 1 (.slice A9 (m + n - k) c9) (a + n - (o + k)) (bvals ((B.take (a + n)).drop (o + k))) := by
        have h1 := own_keep H9.out.1 oWa (fun b hb hm => by
          obtain rfl : b = g := by simpa using hm
          exact own_ne H9.out.1 H9.out.2.2.2 (by decide) hb.symm)
        rw [HL.out.2.1.eq, List.drop_drop] at h1
        rw [show a + n - (o + k) = m + n - k by omega]
        exact h1
      have hMp := HE.out.2.2.1.p
      have htq : toByte q' = toByte (q' % 8) := by unfold toByte; omega
      have hfrz : Only ([g, gf, gw] ++ (vo.ownBlock.toList ++ f.wt.ownBlock.toList)) w wz := HF.out.1.trans o6z (fun i hi _ => by
        rcases List.mem_append.1 hi with hi | hi
        · obtain rfl : i = g := by simpa using hi
          simp
        · exact List.mem_append.2 (.inr (List.mem_append.2 (.inr hi))))
      refine ⟨n, y, .pointer (some ⟨gr, 0, none⟩), vo', { f' with wt := .slice A9 (m + n - k) c9, ps := q' % 8 }, rfl, hfrz, HF.out.2.1, fun b hb => (hwtn b hb).imp id (fun h => Nat.le_trans (HF.out.1.size) h), H6.out.2.2.1.most, H6.out.2.2.1.used, H6.out.2.2.1.total, H6.out.2.2.2.1, .inr (.inl ⟨H6.out.2.2.1.fault, rfl, HE.out.1, HE.out.2.1, o + k, s', ⟨⟨hd2, hR6.on.ring.only o6z hgwn, hR6.on.wb, hR6.on.wn, hR6.on.flow.only o6z (hnS _ _ _ hR6.on.flow (by decide) (by decide)), own_keep hR6.on.out o6z hvon, hR6.on.gw_, ?_⟩, hwz, ?_, ⟨HE.out.2.2.1.k, HE.out.2.2.1.last, HE.out.2.2.1.left, HE.out.2.2.1.out, ?_, HE.out.2.2.1.ks, HE.out.2.2.1.few⟩, ?_, ?_, ?_, ?_, hR6.fx.imp id (fun hx => hx.keep o6z hOz), fun h7 => (hR6.co h7).keep o6z hOz⟩, HE.out.2.2.2⟩)⟩
      · intro b hb
        have hb := mem_own.1 hb
        refine ⟨fun he => ?_, (hwz.lt b hb).2⟩
        rcases hwtn b hb with h | h
        · exact (hvK b h).1 he
        · have := (hR6.on.out.lt b he).2; omega
      · intro he
        rcases hwtn gw he with h | h
        · exact hB.gwt h
        · obtain ⟨ws, hws, _⟩ := hR6.on.ring
          have := hws.lt; omega
      · show s'.p = 8 * (o + k) + (if s'.k = 1 then q' % 8 + toByte (q' % 8) else q' % 8)
        rw [hMp]
        split <;> omega
      · show q' % 8 < 8; omega
      · omega
      · exact HN.out.2.2.1
      · show 8 * (o + k) + q' % 8 ≤ 8 * (a + n)
        omega
  · have HE := hide hlong
    have k2 := H6.out.1.on.dec.fault
    have f2 : w6.frozen? ⟨g, 2, none⟩ = false := Has.free H6.out.1.on.dec 2
    clear hlong
    go_wp2_with fail
    refine (HAt.out).mono ?_
    rintro e w7 ⟨rfl, rfl⟩
    go_wp2_with fail
    go_ret
    have oW : Only [g] w6 (w6.setCell ⟨g, 2, none⟩ (.int .i64 5)) := (Only.refl [g] _).setCell (by simp) _
    have h1 := H6.out.1
    have hon := h1.cells oW (Dc.set_fault h1.on.dec 5) rfl rfl (h1.fx.imp id (h1.keepV oW)) (fun h7 => h1.keepV oW (h1.co h7))
    exact ⟨n, y, _, vo', { f' with fault := 5 }, rfl, HF.out.1.trans oW (by simp), HF.out.2.1, HF.out.2.2.1, H6.out.2.2.1.most, H6.out.2.2.1.used, H6.out.2.2.1.total, H6.out.2.2.2.1,
      .inr (.inr ⟨rfl, rfl, HE.out, ⟨hon.on.dec, hon.on.ring, hon.on.wb, hon.on.wn, hon.on.flow, hon.on.out, hon.on.gw_, by simp⟩⟩)⟩
end Go.Proofs.YtglkfgpefpebmaaDoor


namespace Go.Proofs.YtglkfgpefpebmaaDoor
open Go Go.RowKit

/-- A decoder between two Writes. -/
structure Rest (w : World) (g gw : Nat) (f : DF) (B : List UInt8) (a o : Nat) (s : St) (all : List UInt8) : Prop where
  dec : Dc w g f
  ring : Rg w gw all
  wb : f.wb = .slice (some ⟨gw, 0, none⟩) 32768 32768
  wn : f.wn = all.length
  wts : w.ownsRow 0 5 1 f.wt (a - o) (bvals ((B.take a).drop o))
  gwt : f.wt.ownBlock ≠ some gw
  mt : Mt f s o f.ps all
  ps : f.ps < 8
  oa : o ≤ a
  aB : a ≤ B.length
  pa : 8 * o + f.ps ≤ 8 * a
  fx : f.fx = .pointer none ∨ CdV w f.fx
  co : f.k = 7 → CdV w f.co

/-- What comes of a Write of n bytes. -/
def Wrote (B : List UInt8) (a n : Nat) (g gw : Nat) (f : DF) (all : List UInt8) (E : St) (w : World) (e : Ending) (w' : World) : Prop :=
  ∃ (c : Nat) (y : List UInt8) (v : Value) (f' : DF), e = .returned (.tuple #[v, .int .i64 (c : Int)]) ∧ Only ([g, gw] ++ f.wt.ownBlock.toList) w w' ∧ (∀ b, v.ownBlock = some b → w.heap.size ≤ b) ∧
    ((c = 0 ∧ w'.ownsRow 0 5 1 v y.length (bvals y) ∧ f'.total = f.total + y.length ∧ f'.most = f.most ∧ all.length + y.length ≤ f.most ∧
        ((f'.k = 11 ∧ f'.used = f.used + ((E.p + 7) / 8 - a) ∧ E.p ≤ 8 * (a + n) ∧ E.out = all ++ y ∧ Dc w' g f') ∨
          (f'.k ≠ 11 ∧ f'.used = f.used + n ∧ 8 * (a + n) < E.p ∧ f'.fault = f.fault ∧ ∃ o' s', Rest w' g gw f' B (a + n) o' s' (all ++ y) ∧ Way fixedL (num B) s' E))) ∨
      (c = 5 ∧ v = .slice none 0 0 ∧ y = [] ∧ f.most < E.out.length))

/-- b[k:h]. -/
theorem run_between {w : World} {A : Option Addr} {n c : Nat} {l : List UInt8} (h : Holds w 1 A n (bvals l)) (hn : n ≤ c) (k m hi : Nat) (hm : 0 < m) (hk : k + m ≤ n) (he : hi = k + m) :
    ∃ A' c', (∀ w', (Instr.slice 22 (.slice A n c) (some (.int .i64 (k : Int))) (some (.int .i64 (hi : Int))) none).run Tryd.prog w' = .ok (.slice A' m c') w') ∧ Holds w 1 A' m (bvals ((l.drop k).take m)) := by
  refine ⟨A.map (·.add (k * 1)), c - k, fun w' => ?_, ?_⟩
  · rw [run_slice_lh (w := w') 22 A n c bytes_elem .i64 .i64 k hi (by omega) (by omega) (by omega), bytes_size]
    have hck : ¬ c = k := by omega
    simp [sliced, Result.andThen, hck]
    omega
  · have := h.cut hk
    rw [Nat.mul_one, Nat.mul_one, ← bvals_drop, ← bvals_take] at this
    rw [Nat.mul_one]
    exact this

/-- While a Write goes on: u bytes of n were gone through. -/
def Wlp (B : List UInt8) (a n : Nat) (g G gw : Nat) (f : DF) (all : List UInt8) (E : St) (w : World) (i : Value) (wr : World) : Prop :=
  ∃ (u : Nat) (y : List UInt8) (rp vo : Value) (f' : DF), i = .int .i64 (u : Int) ∧ u ≤ n ∧ Only ([g, gw] ++ f.wt.ownBlock.toList) w wr ∧ (∀ b, vo.ownBlock = some b → w.heap.size ≤ b) ∧ (∀ b, f'.wt.ownBlock = some b → f.wt.ownBlock = some b ∨ w.heap.size ≤ b) ∧
    f'.most = f.most ∧ f'.used = f.used ∧ f'.total = f.total ∧ all.length + y.length ≤ f.most ∧
    ((f'.fault = 0 ∧ f'.k = 11 ∧ a + u = (E.p + 7) / 8 ∧ E.p ≤ 8 * (a + n) ∧ E.out = all ++ y ∧ On wr g G gw [] f' rp vo (all ++ y) y) ∨
      (f'.fault = 0 ∧ f'.k ≠ 11 ∧ 8 * (a + u) < E.p ∧ ∃ o s, Btw wr g G gw f' rp vo B (a + u) o s (all ++ y) y ∧ Way fixedL (num B) s E) ∨
      (f'.fault = 5 ∧ f.most < E.out.length ∧ On wr g G gw [] f' rp vo (all ++ y) y))

set_option maxRecDepth 100000 in
set_option maxHeartbeats 8000000 in
theorem write_any (B : List UInt8) (a o n cb : Nat) (A : Option Addr) (g gw : Nat) (f : DF) (all : List UInt8) (E s : St) (w : World) (h : Rest w g gw f B a o s all) (hw : Way fixedL (num B) s E) (hE : E.k = 11) (hs11 : s.k ≠ 11) (hEa : 8 * a < E.p) (hf : f.fault = 0)
    (hb : Holds w 1 A n (bvals ((B.drop a).take n))) (hcb : n ≤ cb) (han : a + n ≤ B.length) (hB : B.length ≤ 90000) (hl : all.length ≤ f.most) (hmost : f.most ≤ 1073741824) (hu : f.used + n ≤ 1000000000) (ht : f.total ≤ 1000000000)
    (hA : 0 < n → ∀ ad, A = some ad → ad.block ∉ [g, gw] ++ f.wt.ownBlock.toList) :
    Calls Tryd.prog 30 #[.pointer (some ⟨g, 0, none⟩), .slice A n cb] w (Wrote B a n g gw f all E w) := by
  have hk : f.k ≠ 11 := by rw [h.mt.k]; exact hs11
  have HI := hide (And.intro h (And.intro hw (And.intro hE (And.intro hs11 (And.intro hEa (And.intro hf (And.intro hb (And.intro han (And.intro hB (And.intro hl (And.intro hmost (And.intro hA (And.intro hk hcb)))))))))))))
  have HU := hide (And.intro hu ht)
  clear h hw hE hs11 hEa hf hb han hB hl hmost hA hk hcb hu ht
  go_enter Tryd.func30, Tryd.ntmps30
  go_wp2_with fail
  have hgf : Has (w.alloc (.cells #[.pointer none, .slice none 0 0] 111)) w.heap.size 111 #[.pointer none, .slice none 0 0] := Has.new w _ _
  have o0 : Only [] w (w.alloc (.cells #[.pointer none, .slice none 0 0] 111)) := (Only.refl [] w).alloc _
  have hstart : Wlp B a n g w.heap.size gw f all E w (.int .i64 0) (w.alloc (.cells #[.pointer none, .slice none 0 0] 111)) := by
    have h := HI.out.1
    refine ⟨0, [], .pointer none, .slice none 0 0, f, rfl, Nat.zero_le _, o0.of_nil, by simp [Value.ownBlock], fun b hb => .inl hb, rfl, rfl, rfl, by simpa using HI.out.2.2.2.2.2.2.2.2.2.1, .inr (.inl ⟨HI.out.2.2.2.2.2.1, HI.out.2.2.2.2.2.2.2.2.2.2.2.2.1, HI.out.2.2.2.2.1, o, s, ?_, HI.out.2.1⟩)⟩
    have hO : Other w [] := fun k hk _ => by simp at hk
    rw [List.append_nil]
    exact ⟨⟨Has.only h.dec o0 (by simp), h.ring.only o0 (by simp), h.wb, h.wn, hgf, World.ownsRow_nil _ _ _ _, by simp [Value.ownBlock], fun k hk => ⟨by simp [Value.ownBlock], by have := (h.wts.lt k (mem_own.1 hk)).2; simp; omega⟩⟩, own_keep h.wts o0 (by simp), h.gwt, h.mt, h.ps, h.oa, h.aB, h.pa, h.fx.imp id (fun hx => hx.keep o0 hO), fun hk => (h.co hk).keep o0 hO⟩
  have HST := hide hstart
  clear hgf o0 hstart
  go_loopw [7] (fun i wr => Wlp B a n g w.heap.size gw f all E w i wr) (fun i _ => n - (intOf i).toNat)
  case atStart => exact HST.out
  case round =>
    obtain ⟨u, y, rp, vo, f', rfl, hun, hfr, hvo, hwt, hmo, hus, hto, hy, hcase⟩ := hrel
    rcases hcase with ⟨h0, h11, hau, hEp, hEo, hon⟩ | ⟨h0, h11, hfar, o', s', hbt, hW⟩ | ⟨h5, hlong, hon⟩
    · have k2 : wr.cell? ⟨g, 2, none⟩ = some (.int .i64 0) := by have := hon.dec.fault; rw [h0] at this; exact this
      have hD := hide (done_any g f' wr hon.dec true (by rw [h11]; rfl))
      have hfin : ∀ wz, Only [g] wr wz → Dc wz g { f' with used := f'.used + u, total := f'.total + y.length } → Wrote B a n g gw f all E w (.returned (.tuple #[vo, .int .i64 0])) wz := fun wz ho hd => by
        refine ⟨0, y, vo, { f' with used := f'.used + u, total := f'.total + y.length }, rfl, hfr.trans ho (by simp), hvo, .inl ⟨rfl, own_keep hon.out ho (fun b hb hm => ?_), ?_, ?_, hy, .inl ⟨h11, ?_, hEp, hEo, hd⟩⟩⟩
        · obtain rfl : b = g := by simpa using hm
          exact hon.g_vo hb.symm
        · show f'.total + y.length = f.total + y.length
          rw [hto]
        · exact hmo
        · show f'.used + u = f.used + ((E.p + 7) / 8 - a)
          rw [hus]; omega
      have HFIN := hide hfin
      have k3 := hon.dec.used
      have q3 : wr.frozen? ⟨g, 3, none⟩ = false := Has.free hon.dec 3
      have hgn : g ≠ w.heap.size := hon.g_gf
      have hgn' : w.heap.size ≠ g := fun e => hgn e.symm
      have hub : f'.used + u ≤ 1000000000 := by have := HU.out.1; omega
      have htb : f'.total ≤ 1000000000 := by have := HU.out.2; omega
      have hyb : y.length ≤ 1073741824 := by have := HI.out.2.2.2.2.2.2.2.2.2.2.1; omega
      obtain ⟨Av, cv, rfl, _, _⟩ := own_shape hon.out
      have HJ := hide hon
      clear hfr hvo hwt hmo hus hto hy hon h0 h11 hau hEp hEo hfin
      go_wp2_with fail
      refine (hD.out).mono ?_
      rintro e w1 ⟨rfl, rfl⟩
      go_wp2_with fail
      have d3 : Dc (wr.setCell ⟨g, 3, none⟩ (.int .i64 ((f'.used : Int) + (u : Int)))) g { f' with used := f'.used + u } := Dc.set_used HJ.out.dec (f'.used + u)
      have o3 : Only [g] wr (wr.setCell ⟨g, 3, none⟩ (.int .i64 ((f'.used : Int) + (u : Int)))) := (Only.refl [g] wr).setCell (by simp) _
      have k4 : (wr.setCell ⟨g, 3, none⟩ (.int .i64 ((f'.used : Int) + (u : Int)))).drew.cell? ⟨g, 4, none⟩ = some (.int .i64 (f'.total : Int)) := d3.total
      have q4 : (wr.setCell ⟨g, 3, none⟩ (.int .i64 ((f'.used : Int) + (u : Int)))).drew.frozen? ⟨g, 4, none⟩ = false := Has.free d3 4
      have k1 : (wr.setCell ⟨g, 3, none⟩ (.int .i64 ((f'.used : Int) + (u : Int)))).drew.cell? ⟨w.heap.size, 1, none⟩ = some (.slice Av y.length cv) := (Has.only HJ.out.flow o3 (by simpa using hgn')).cell 1
      have HD := hide (And.intro d3 o3)
      clear d3 o3
      generalize wr.setCell ⟨g, 3, none⟩ (.int .i64 ((f'.used : Int) + (u : Int))) = w3 at *
      go_region
      all_goals
        have k5 : (w3.setCell ⟨g, 4, none⟩ (.int .i64 ((f'.total : Int) + (y.length : Int)))).drew.cell? ⟨w.heap.size, 1, none⟩ = some (.slice Av y.length cv) := by
          have := (Has.only HJ.out.flow (HD.out.2.trans (((Only.refl [g] w3).setCell (p := ⟨g, 4, none⟩) (by simp) (.int .i64 ((f'.total : Int) + (y.length : Int)))).drew) (by simp)) (by simpa using hgn')).cell 1
          exact this
        go_wp2_with fail
        go_ret2
        exact HFIN.out _ (HD.out.2.trans (((Only.refl [g] w3).setCell (p := ⟨g, 4, none⟩) (by simp) (.int .i64 ((f'.total : Int) + (y.length : Int)))).drew) (by simp)) (Dc.set_total HD.out.1 (f'.total + y.length))
    · have k2 : wr.cell? ⟨g, 2, none⟩ = some (.int .i64 0) := by have := hbt.on.dec.fault; rw [h0] at this; exact this
      have hD := hide (done_any g f' wr hbt.on.dec false (decide_eq_false (by omega)))
      by_cases hu : u < n
      · obtain ⟨m, hm⟩ : ∃ m, m = min 4096 (n - u) := ⟨_, rfl⟩
        have hbr : Holds wr 1 A n (bvals ((B.drop a).take n)) := HI.out.2.2.2.2.2.2.1.keepPos hfr (fun h0 ad ha _ => HI.out.2.2.2.2.2.2.2.2.2.2.2.1 h0 ad ha)
        obtain ⟨hi, hhi⟩ : ∃ hi, hi = u + m := ⟨_, rfl⟩
        obtain ⟨A', c', hsl, hhl⟩ := run_between hbr HI.out.2.2.2.2.2.2.2.2.2.2.2.2.2 u m hi (by omega) (by omega) hhi
        have hpart : (((B.drop a).take n).drop u).take m = (B.drop (a + u)).take m := by
          rw [List.drop_take, List.take_take, Nat.min_eq_left (by omega), List.drop_drop]
        rw [hpart] at hhl
        have hFd := feed_any B (a + u) o' m c' A' g w.heap.size gw f' rp vo (all ++ y) y E s' wr hbt hW HI.out.2.2.1 (fun e => h11 (by rw [hbt.mt.k, e])) hfar hhl (by omega) (by omega) (by have := HI.out.2.2.2.2.2.2.2.1; omega) (by have := HI.out.2.2.2.2.2.2.2; omega) (by rw [hmo, List.length_append]; exact hy) (by rw [hmo]; exact HI.out.2.2.2.2.2.2.2.2.2.2.1) (by rw [List.length_append]; omega)
        have hmin : (if (n : Int) < (u : Int) + 4096 then (n : Int) else (u : Int) + 4096) = (hi : Int) := by split <;> omega
        have hub : u + 4096 ≤ 2000000000 := by have := HU.out.1; omega
        have HJ := hide (And.intro hFd (And.intro hfr (And.intro hvo (And.intro hwt (And.intro hmo (And.intro hus (And.intro hto (And.intro hy (And.intro h0 (And.intro hbt (And.intro hm hfar)))))))))))
        clear hfr hvo hwt hmo hus hto hy h0 h11 hfar hW hbt hbr hhl hpart hFd hm hhi
        go_wp2_with fail
        refine (hD.out).mono ?_
        rintro e w1 ⟨rfl, rfl⟩
        go_wp2_with fail
        refine (HJ.out.1).mono ?_
        rintro e w2 ⟨c, y2, rp2, vo2, f2, rfl, hfr2, hvo2, hwt2, hmo2, hus2, hto2, hy2, hcase⟩
        have hm := HJ.out.2.2.2.2.2.2.2.2.2.2.1
        have hcm : 0 < c ∧ c ≤ m := by
          have hfar := HJ.out.2.2.2.2.2.2.2.2.2.2.2
          rcases hcase with ⟨_, _, h3, h4, _⟩ | ⟨_, h2, _⟩ | ⟨_, h2, _⟩
          · omega
          · omega
          · omega
        have hun2 : u + c ≤ n := by omega
        have hsz := HJ.out.2.1.size
        have hG : ∀ i, i ∈ [g, w.heap.size, gw] ++ (vo.ownBlock.toList ++ f'.wt.ownBlock.toList) → i < w.heap.size → i ∈ [g, gw] ++ f.wt.ownBlock.toList := fun i hi hlt => by
          simp only [List.mem_append, List.mem_cons, List.not_mem_nil, or_false] at hi ⊢
          rcases hi with (rfl | rfl | rfl) | hi | hi
          · simp
          · omega
          · simp
          · have := HJ.out.2.2.1 i (mem_own.1 hi); omega
          · rcases HJ.out.2.2.2.1 i (mem_own.1 hi) with h | h
            · exact .inr (mem_own.2 h)
            · omega
        have HW : Wlp B a n g w.heap.size gw f all E w (.int .i64 ((u + c : Nat) : Int)) w2 := by
          refine ⟨u + c, y ++ y2, rp2, vo2, f2, rfl, hun2, HJ.out.2.1.trans hfr2 hG, fun b hb => ?_, fun b hb => ?_, hmo2.trans HJ.out.2.2.2.2.1, hus2.trans HJ.out.2.2.2.2.2.1, hto2.trans HJ.out.2.2.2.2.2.2.1, ?_, ?_⟩
          · rcases hvo2 b hb with h | h
            · exact HJ.out.2.2.1 b h
            · omega
          · rcases hwt2 b hb with h | h
            · exact HJ.out.2.2.2.1 b h
            · exact .inr (by omega)
          · have h1 := HJ.out.2.2.2.2.1
            rw [List.length_append] at hy2
            rw [List.length_append]
            omega
          · rw [← List.append_assoc]
            rcases hcase with ⟨h1, h2, h3, h4, h5, h6⟩ | ⟨h1, h2, h3, h4, o2, s2, h5, h6⟩ | ⟨h1, h2, h3, h4⟩
            · exact .inl ⟨by rw [h1]; exact HJ.out.2.2.2.2.2.2.2.2.1, h2, by omega, by omega, h5, h6⟩
            · subst h2
              rw [Nat.add_assoc] at h3 h5
              exact .inr (.inl ⟨by rw [h1]; exact HJ.out.2.2.2.2.2.2.2.2.1, h4, h3, o2, s2, h5, h6⟩)
            · exact .inr (.inr ⟨h1, by rw [← HJ.out.2.2.2.2.1]; exact h3, h4⟩)
        have HWH := hide HW
        have HCM := hide hcm
        have hcb : c ≤ 1000000000 := by have := HU.out.1; omega
        clear hfr2 hvo2 hwt2 hmo2 hus2 hto2 hy2 hcase hm hcm hG HW hsz
        go_wp2_with fail
        go_roundw
        case rel => exact HWH.out
        case measure => have := HCM.out; simp [intOf]; omega
      · obtain rfl : u = n := by omega
        have hfin : ∀ wz, Only [g] wr wz → Dc wz g { f' with used := f'.used + u, total := f'.total + y.length } → Wrote B a u g gw f all E w (.returned (.tuple #[vo, .int .i64 0])) wz := fun wz ho hd => by
          have hO : Other wr [g] := fun k hk _ => by
            obtain rfl : k = g := by simpa using hk
            exact ⟨_, _, _, hbt.on.dec, by decide, by decide⟩
          refine ⟨0, y, vo, { f' with used := f'.used + u, total := f'.total + y.length }, rfl, hfr.trans ho (by simp), hvo, .inl ⟨rfl, own_keep hbt.on.out ho (fun b hb hm => ?_), ?_, ?_, hy, .inr ⟨h11, ?_, hfar, by rw [HI.out.2.2.2.2.2.1]; exact h0, o', s', ⟨hd, hbt.on.ring.only ho (by simpa using fun e => hbt.on.g_gw e.symm), hbt.on.wb, hbt.on.wn, own_keep hbt.wts ho (fun b hb hm => ?_), hbt.gwt, ⟨hbt.mt.k, hbt.mt.last, hbt.mt.left, hbt.mt.out, hbt.mt.p, hbt.mt.ks, hbt.mt.few⟩, hbt.ps, hbt.oa, hbt.aB, hbt.pa, hbt.fx.imp id (fun hx => hx.keep ho hO), fun h7 => (hbt.co h7).keep ho hO⟩, hW⟩⟩⟩
          · obtain rfl : b = g := by simpa using hm
            exact hbt.on.g_vo hb.symm
          · show f'.total + y.length = f.total + y.length
            rw [hto]
          · exact hmo
          · show f'.used + u = f.used + u
            rw [hus]
          · obtain rfl : b = g := by simpa using hm
            exact own_ne hbt.wts hbt.on.dec (by decide) hb.symm
        have hon := hbt.on
        have HFIN := hide hfin
        have k3 := hon.dec.used
        have q3 : wr.frozen? ⟨g, 3, none⟩ = false := Has.free hon.dec 3
        have hgn : g ≠ w.heap.size := hon.g_gf
        have hgn' : w.heap.size ≠ g := fun e => hgn e.symm
        have hub : f'.used + u ≤ 1000000000 := by have := HU.out.1; omega
        have htb : f'.total ≤ 1000000000 := by have := HU.out.2; omega
        have hyb : y.length ≤ 1073741824 := by have := HI.out.2.2.2.2.2.2.2.2.2.2.1; omega
        obtain ⟨Av, cv, rfl, _, _⟩ := own_shape hon.out
        have HJ := hide hon
        clear hfr hvo hwt hmo hus hto hy hon h0 h11 hfar hW hbt hfin
        go_wp2_with fail
        refine (hD.out).mono ?_
        rintro e w1 ⟨rfl, rfl⟩
        go_wp2_with fail
        have d3 : Dc (wr.setCell ⟨g, 3, none⟩ (.int .i64 ((f'.used : Int) + (u : Int)))) g { f' with used := f'.used + u } := Dc.set_used HJ.out.dec (f'.used + u)
        have o3 : Only [g] wr (wr.setCell ⟨g, 3, none⟩ (.int .i64 ((f'.used : Int) + (u : Int)))) := (Only.refl [g] wr).setCell (by simp) _
        have k4 : (wr.setCell ⟨g, 3, none⟩ (.int .i64 ((f'.used : Int) + (u : Int)))).drew.cell? ⟨g, 4, none⟩ = some (.int .i64 (f'.total : Int)) := d3.total
        have q4 : (wr.setCell ⟨g, 3, none⟩ (.int .i64 ((f'.used : Int) + (u : Int)))).drew.frozen? ⟨g, 4, none⟩ = false := Has.free d3 4
        have k1 : (wr.setCell ⟨g, 3, none⟩ (.int .i64 ((f'.used : Int) + (u : Int)))).drew.cell? ⟨w.heap.size, 1, none⟩ = some (.slice Av y.length cv) := (Has.only HJ.out.flow o3 (by simpa using hgn')).cell 1
        have HD := hide (And.intro d3 o3)
        clear d3 o3
        generalize wr.setCell ⟨g, 3, none⟩ (.int .i64 ((f'.used : Int) + (u : Int))) = w3 at *
        go_region
        all_goals
          have k5 : (w3.setCell ⟨g, 4, none⟩ (.int .i64 ((f'.total : Int) + (y.length : Int)))).drew.cell? ⟨w.heap.size, 1, none⟩ = some (.slice Av y.length cv) := by
            have := (Has.only HJ.out.flow (HD.out.2.trans (((Only.refl [g] w3).setCell (p := ⟨g, 4, none⟩) (by simp) (.int .i64 ((f'.total : Int) + (y.length : Int)))).drew) (by simp)) (by simpa using hgn')).cell 1
            exact this
          go_wp2_with fail
          go_ret2
          exact HFIN.out _ (HD.out.2.trans (((Only.refl [g] w3).setCell (p := ⟨g, 4, none⟩) (by simp) (.int .i64 ((f'.total : Int) + (y.length : Int)))).drew) (by simp)) (Dc.set_total HD.out.1 (f'.total + y.length))
    · have k2 : wr.cell? ⟨g, 2, none⟩ = some (.int .i64 5) := by have := hon.dec.fault; rw [h5] at this; exact this
      have HJ := hide (And.intro hfr hlong)
      clear hfr hvo hwt hmo hus hto hy hlong hon h5
      go_wp2_with fail
      go_region
      all_goals
        go_wp2_with fail
        go_ret2
        exact ⟨5, [], .slice none 0 0, f, rfl, HJ.out.1.trans ((Only.refl [] wr).drew) (by simp), by simp [Value.ownBlock], .inr ⟨rfl, rfl, rfl, HJ.out.2⟩⟩
end Go.Proofs.YtglkfgpefpebmaaDoor


namespace Go.Proofs.YtglkfgpefpebmaaDoor
open Go Go.RowKit

/-- A new decoder. -/
def DF.new (most gw gt : Nat) : DF := ⟨most, 0, 0, 0, 0, .slice (some ⟨gw, 0, none⟩) 32768 32768, 0, .slice (some ⟨gt, 0, none⟩) 0 4, 0, false, 0, fun i => if i = 34 then .pointer none else if 14 ≤ i ∧ i < 33 ∨ 36 ≤ i ∧ i < 352 then .int .u8 0 else .int .i64 0, .pointer none, .pointer none, 0, 0⟩

set_option maxRecDepth 100000 in
theorem zero_decoder (most gw gt : Nat) : ((((Tryd.zeroCells78.setIfInBounds 0 (.int .i64 (most : Int))).setIfInBounds 5 (.slice (some ⟨gw, 0, none⟩) 32768 32768)).setIfInBounds 6 (.int .i64 0)).setIfInBounds 7 (.slice (some ⟨gt, 0, none⟩) 0 4)) = (DF.new most gw gt).cells := by kernel_rfl

theorem mk_ring : ∃ zr : Array Value, zr.size = 32768 ∧ ∀ W : World, (Instr.makeSlice 22 (.int .i64 32768) (.int .i64 32768)).run Tryd.prog W = .ok (.slice (some ⟨W.heap.size, 0, none⟩) 32768 32768) (W.alloc (.cells zr 5)) :=
  ⟨madeCells #[.int .u8 0] 32768, by rw [zeros_eq, List.size_toArray, bvals_length, List.length_replicate], fun W => run_make_row' (P := Tryd.prog) 22 5 (.int .u8 0) 1 Tryd.underlying22 u8_info rfl .i64 .i64 32768 (by decide) (by decide) W⟩
theorem mk_waits : ∃ zw : Array Value, zw.size = 4 ∧ ∀ W : World, (Instr.makeSlice 22 (.int .i64 0) (.int .i64 4)).run Tryd.prog W = .ok (.slice (some ⟨W.heap.size, 0, none⟩) 0 4) (W.alloc (.cells zw 5)) := by
  obtain ⟨i0, hi0, hz0, hz1, hz2⟩ := info_of u8_info
  refine ⟨madeCells (Value.int .u8 0).cells ((4 : Int).toNat * i0.size), ?_, fun W => run_make W 22 5 i0 (.int .u8 0) Tryd.underlying22 hi0 hz0 .i64 .i64 0 4 (by decide) (by decide) (by rw [hz2]; decide) (by decide)⟩
  rw [hz1]
  have := zeros_eq 4
  show (madeCells #[.int .u8 0] 4).size = 4
  rw [this]; simp [bvals]

set_option maxRecDepth 100000 in
set_option maxHeartbeats 1000000 in
theorem newRing_any (w : World) : Calls Tryd.prog 48 #[] w fun e w' => ∃ gw, e = .returned (.agg #[.slice (some ⟨gw, 0, none⟩) 32768 32768, .int .i64 0]) ∧ w.heap.size ≤ gw ∧ Rg w' gw [] ∧ Only [] w w' := by
  obtain ⟨zr, hzr, hmk⟩ := mk_ring
  go_enter Tryd.func48, Tryd.ntmps48
  go_wp2_with fail
  have hr : Has ((w.alloc (.cells #[.slice (some ⟨w.heap.size + 1, 0, none⟩) 32768 32768, .int .i64 0] 72)).alloc (.cells zr 5)) w.heap.size 72 #[.slice (some ⟨w.heap.size + 1, 0, none⟩) 32768 32768, .int .i64 0] := (Has.new w _ _).alloc _
  have hz : Has ((w.alloc (.cells #[.slice (some ⟨w.heap.size + 1, 0, none⟩) 32768 32768, .int .i64 0] 72)).alloc (.cells zr 5)) (w.heap.size + 1) 5 zr := by
    have := Has.new (w.alloc (.cells #[.slice (some ⟨w.heap.size + 1, 0, none⟩) 32768 32768, .int .i64 0] 72)) 5 zr
    simpa using this
  exact bodyPost_ret (results_cell_row Tryd.results48 _ _ w.heap.size 72 #[.slice (some ⟨w.heap.size + 1, 0, none⟩) 32768 32768, .int .i64 0] (0, 0) _ rfl hr Tryd.underlying72 rfl (by kernel_rfl)) rfl
    ⟨w.heap.size + 1, rfl, by omega, ⟨zr, hz, hzr, fun i hi _ => absurd hi (by simp)⟩, ((Only.refl [] w).alloc _).alloc _⟩

set_option maxRecDepth 100000 in
set_option maxHeartbeats 4000000 in
theorem newDec_any (most : Nat) (w : World) (hm : most ≤ 1073741824) : Calls Tryd.prog 29 #[.int .i64 (most : Int)] w fun e w' =>
    ∃ g gw gt, e = .returned (.tuple #[.pointer (some ⟨g, 0, none⟩), .int .i64 0]) ∧ w.heap.size ≤ g ∧ w.heap.size ≤ gw ∧ w.heap.size ≤ gt ∧ gt ≠ gw ∧ Dc w' g (DF.new most gw gt) ∧ Rg w' gw [] ∧ w'.ownsRow 0 5 1 (.slice (some ⟨gt, 0, none⟩) 0 4) 0 [] ∧ Only [] w w' := by
  obtain ⟨zw, hzw, hmk⟩ := mk_waits
  have hbd := zero_decoder most
  have HNR := hide newRing_any
  have hm1 : ¬ (1073741824 : Int) < (most : Int) := by omega
  have hm0 : ¬ (most : Int) < 0 := by omega
  go_enter Tryd.func29, Tryd.ntmps29
  go_wp2_with fail
  go_region_with (go_at_call 48; refine (HNR.out _).mono ?_; rintro e w1 ⟨gw, rfl, hgw, hrg, ho1⟩)
  all_goals
    go_wp2_with fail
    go_ret2
  · obtain ⟨ws, hws, hwz⟩ := hrg
    have hlt := hws.lt
    have hsz := ho1.size
    have o1 : Only [] w w1 := ((Only.refl [] w).drew).trans ho1 (by simp)
    have hg : Has ((w1.alloc (.cells zw 5)).alloc (.cells (DF.new most gw w1.heap.size).cells 78)) (w1.heap.size + 1) 78 (DF.new most gw w1.heap.size).cells := by
      have := Has.new (w1.alloc (.cells zw 5)) 78 (DF.new most gw w1.heap.size).cells
      simpa using this
    refine ⟨w1.heap.size + 1, gw, w1.heap.size, rfl, ?_, hgw, ?_, by omega, hg, ⟨ws, (hws.alloc _).alloc _, hwz⟩, (World.ownsRow_made w1 zw 4 (Nat.zero_le _) (by decide) (by rw [hzw])).alloc _, (o1.alloc _).alloc _⟩
    · have : w.drew.heap.size = w.heap.size := rfl
      omega
    · have : w.drew.heap.size = w.heap.size := rfl
      omega
  · obtain ⟨ws, hws, hwz⟩ := hrg
    have hlt := hws.lt
    have hsz := ho1.size
    have hs0 : (w.drew.alloc (.cells zw 5)).heap.size = w.heap.size + 1 := by simp
    have o1 : Only [] w w1 := (((Only.refl [] w).drew).alloc _).trans ho1 (by simp)
    have hg : Has (w1.alloc (.cells (DF.new most gw w.heap.size).cells 78)) w1.heap.size 78 (DF.new most gw w.heap.size).cells := Has.new w1 _ _
    have how : (w.drew.alloc (.cells zw 5)).ownsRow 0 5 1 (.slice (some ⟨w.heap.size, 0, none⟩) 0 4) 0 [] := World.ownsRow_made w.drew zw 4 (Nat.zero_le _) (by decide) (by rw [hzw])
    refine ⟨w1.heap.size, gw, w.heap.size, rfl, ?_, ?_, Nat.le_refl _, ?_, hg, ⟨ws, hws.alloc _, hwz⟩, (own_keep how ho1 (by simp)).alloc _, o1.alloc _⟩
    · exact o1.size
    · have h1 : (w.drew.alloc (.cells zw 5)).heap.size ≤ gw := hgw
      omega
    · have h1 : (w.drew.alloc (.cells zw 5)).heap.size ≤ gw := hgw
      omega

/-- What Inflate answers. -/
def Inflated (n : Nat) (most : Nat) (E : St) (w : World) (e : Ending) (w' : World) : Prop :=
  Only [] w w' ∧ ((∃ v, e = .returned (.tuple #[v, .int .i64 (((E.p + 7) / 8 : Nat) : Int), .int .i64 0]) ∧ w'.ownsRow 0 5 1 v E.out.length (bvals E.out) ∧ E.p ≤ 8 * n ∧ E.out.length ≤ most) ∨
    (e = .returned (.tuple #[.slice none 0 0, .int .i64 0, .int .i64 2]) ∧ 8 * n < E.p) ∨
    (e = .returned (.tuple #[.slice none 0 0, .int .i64 0, .int .i64 5]) ∧ most < E.out.length))

set_option maxRecDepth 100000 in
set_option maxHeartbeats 4000000 in
theorem inflate_any (B : List UInt8) (n cb most : Nat) (A : Option Addr) (E : St) (w : World) (hw : Way fixedL (num B) ⟨0, false, 0, 0, []⟩ E) (hE : E.k = 11) (hp : 0 < E.p) (hb : Holds w 1 A n (bvals (B.take n))) (hcb : n ≤ cb) (hn : n ≤ B.length) (hB : B.length ≤ 90000) (hmost : most ≤ 1073741824) :
    Calls Tryd.prog 14 #[.slice A n cb, .int .i64 (most : Int)] w (Inflated n most E w) := by
  have HI := hide (And.intro hw (And.intro hE (And.intro hp (And.intro hb (And.intro hcb (And.intro hn (And.intro hB hmost)))))))
  have HN := hide (newDec_any most w hmost)
  clear hw hE hp hb hcb hn hB hmost
  go_enter Tryd.func14, Tryd.ntmps14
  go_wp2_with fail
  refine (HN.out).mono ?_
  rintro e w1 ⟨g, gw, gt, rfl, hg, hgw, hgt, hne, hd, hr, ho, ho1⟩
  have hrest : Rest w1 g gw (DF.new most gw gt) B 0 0 ⟨0, false, 0, 0, []⟩ [] := ⟨hd, hr, rfl, rfl, ho, by simpa [DF.new, Value.ownBlock] using hne, ⟨rfl, rfl, rfl, rfl, rfl, by simp, by show 0 < 65536; omega⟩, by show 0 < 8; omega, Nat.le_refl _, Nat.zero_le _, Nat.le_refl _, .inl rfl, fun h => by cases h⟩
  have hW := write_any B 0 0 n cb A g gw (DF.new most gw gt) [] E ⟨0, false, 0, 0, []⟩ w1 hrest HI.out.1 HI.out.2.1 (by show (0 : Nat) ≠ 11; decide) (by have := HI.out.2.2.1; omega) rfl (by rw [List.drop_zero]; exact HI.out.2.2.2.1.keep ho1 (by simp)) HI.out.2.2.2.2.1 (by have := HI.out.2.2.2.2.2.1; omega) HI.out.2.2.2.2.2.2.1 (Nat.zero_le _) HI.out.2.2.2.2.2.2.2 (by show 0 + n ≤ 1000000000; have := HI.out.2.2.2.2.2; omega) (by show 0 ≤ 1000000000; omega) (fun h0 ad ha hm => by
    have h1 := HI.out.2.2.2.1.blk h0 ad ha
    simp only [List.mem_append, List.mem_cons, List.not_mem_nil, or_false] at hm
    rcases hm with (hm | hm) | hm
    · omega
    · omega
    · have := mem_own.1 hm
      have : gt = ad.block := by simpa [DF.new, Value.ownBlock] using this
      omega)
  have HW := hide hW
  have HO := hide (And.intro ho1 (And.intro hg (And.intro hgw hgt)))
  clear hg hgw hgt hne hd hr ho ho1 hrest hW HN
  go_wp2_with fail
  refine (HW.out).mono ?_
  rintro e w2 ⟨c, y, v, f', rfl, hfr, hv, hcase⟩
  have h02 : Only [] w w2 := HO.out.1.trans hfr (fun i hi hlt => by
    simp only [List.mem_append, List.mem_cons, List.not_mem_nil, or_false] at hi
    rcases hi with (hm | hm) | hm
    · have := HO.out.2.1; omega
    · have := HO.out.2.2.1; omega
    · have h1 := mem_own.1 hm
      have h2 : gt = i := by simpa [DF.new, Value.ownBlock] using h1
      have := HO.out.2.2.2; omega)
  have H02 := hide h02
  clear hfr hv h02
  rcases hcase with ⟨rfl, hown, hto, hmo, hy, hk⟩ | ⟨rfl, rfl, rfl, hlong⟩
  · rcases hk with ⟨h11, hus, hEp, hEo, hd⟩ | ⟨h11, hus, hfar, hfa, o', s', hre, _⟩
    · have HD := hide (done_any g f' w2 hd true (by rw [h11]; rfl))
      have HU := hide (used_any g f' w2 hd)
      have hus2 : f'.used = (E.p + 7) / 8 := by rw [hus]; show 0 + ((E.p + 7) / 8 - 0) = _; omega
      rw [hus2] at HU
      rw [List.nil_append] at hEo
      have hyl : y.length ≤ most := by have : ([] : List UInt8).length + y.length ≤ most := hy; simpa using this
      have HJ := hide (And.intro hown (And.intro hEp (And.intro hEo hyl)))
      clear hown hto hmo hy h11 hus hEp hEo hd hus2 hyl
      go_wp2_with fail
      refine (HD.out).mono ?_
      rintro e w3 ⟨rfl, rfl⟩
      go_wp2_with fail
      refine (HU.out).mono ?_
      rintro e w3 ⟨rfl, rfl⟩
      go_wp2_with fail
      go_ret3
      have hEo := HJ.out.2.2.1
      refine ⟨H02.out, .inl ⟨v, rfl, by rw [hEo]; exact HJ.out.1, by have := HJ.out.2.1; omega, by rw [hEo]; exact HJ.out.2.2.2⟩⟩
    · have HD := hide (done_any g f' w2 hre.dec false (decide_eq_false (by omega)))
      have HJ := hide hfar
      clear hown hto hmo hy h11 hus hfar hfa hre
      go_wp2_with fail
      refine (HD.out).mono ?_
      rintro e w3 ⟨rfl, rfl⟩
      go_wp2_with fail
      go_ret3
      exact ⟨H02.out, .inr (.inl ⟨rfl, by have := HJ.out; omega⟩)⟩
  · have HJ := hide hlong
    clear hlong
    go_wp2_with fail
    go_ret3
    exact ⟨H02.out, .inr (.inr ⟨rfl, HJ.out⟩)⟩
end Go.Proofs.YtglkfgpefpebmaaDoor

