/-
  Package zlib: Pack. | Regions that draw their order and hold calls that make memory but turn nothing that was there: one walk serves every order. | Regions that draw their order, whose calls turn nothing that was there, but for what stands at the very end, one behind the other (a store, a call that writes): one walk serves every order.
-/
import Derived.Test.YtlknhiihdejpeaaGreatDoorMSumC
import Derived.Test.YtlknhiihdejpeaaGreatDoorMFlNw
import Derived.Deep.WholeRow
import Derived.Test.YtlknhiihdejpeaaGreatDoorProg
import Derived.Test.YtlknhiihdejpeaaGreatDoorMMem
import Derived.Deep.QuietTactic
import Derived.BigQuiet
import Derived.StillTail
namespace Go.Proofs.YtlknhiihdejpeaaGreatDoor
open Go Go.RowKit

theorem run_arr4_all (g : Nat) (w : World) : (Instr.sliceAt 55 (.pointer (some ⟨g, 0, none⟩)) none none none).run Tryz.prog w = .ok (.slice (some ⟨g, 0, none⟩) 4 4) w := by
  rw [run_sliceAt_array_all w 55 ⟨g, 0, none⟩ arr4_elem, arr4_size]
  simp [slicedAt, Result.andThen, arr4_len, Addr.add]

/-- What a way of laying gives. -/
def LayK (L : List UInt8 → Prop) (w : World) (e : Ending) (w' : World) : Prop :=
  ∃ v bs, e = .returned v ∧ L bs ∧ w'.ownsRow w.heap.size 5 1 v bs.length (bvals bs) ∧ Only [] w w'

theorem two_lit (w : World) : Holds (w.alloc (.cells #[.int .u8 120, .int .u8 1] 5)) 1 (some ⟨w.heap.size, 0, none⟩) 2 (bvals [0x78, 0x01]) := by
  have := Holds.lit w #[.int .u8 120, .int .u8 1] 5
  simpa [bvals] using this
theorem pack_concat (s q gq cv : Nat) (Av : Option Addr) (bs : List UInt8) (w5 : World) (hA : Holds w5 1 (some ⟨q, 0, none⟩) 2 (bvals [0x78, 0x01])) (hB : Holds w5 1 Av bs.length (bvals bs)) (hC : Holds w5 1 (some ⟨gq, 0, none⟩) 4 (bvals (bigN s))) (hl : bs.length ≤ 90000) :
    Calls Tryz.prog 21 #[.slice (some ⟨w5.heap.size, 0, none⟩) 3 3] (w5.alloc (.cells #[.slice (some ⟨q, 0, none⟩) 2 2, .slice Av bs.length cv, .slice (some ⟨gq, 0, none⟩) 4 4] 22)) fun e w' =>
      ∃ v, e = .returned v ∧ w'.ownsRow w5.heap.size 5 1 v ([0x78, 0x01] ++ bs ++ bigN s).length (bvals ([0x78, 0x01] ++ bs ++ bigN s)) ∧ Only [] w5 w' := by
  have o1 : Only [] w5 (w5.alloc (.cells #[.slice (some ⟨q, 0, none⟩) 2 2, .slice Av bs.length cv, .slice (some ⟨gq, 0, none⟩) 4 4] 22)) := (Only.refl [] w5).alloc _
  have hP : Holds (w5.alloc (.cells #[.slice (some ⟨q, 0, none⟩) 2 2, .slice Av bs.length cv, .slice (some ⟨gq, 0, none⟩) 4 4] 22)) 1 (some ⟨w5.heap.size, 0, none⟩) 3 ([(⟨some ⟨q, 0, none⟩, 2, [0x78, 0x01]⟩ : CPart), ⟨Av, cv, bs⟩, ⟨some ⟨gq, 0, none⟩, 4, bigN s⟩].map CPart.val) := by
    have := Holds.lit w5 #[.slice (some ⟨q, 0, none⟩) 2 2, .slice Av bs.length cv, .slice (some ⟨gq, 0, none⟩) 4 4] 22
    simpa [CPart.val, bigN] using this
  have hps : ∀ p ∈ [(⟨some ⟨q, 0, none⟩, 2, [0x78, 0x01]⟩ : CPart), ⟨Av, cv, bs⟩, ⟨some ⟨gq, 0, none⟩, 4, bigN s⟩], Holds (w5.alloc (.cells #[.slice (some ⟨q, 0, none⟩) 2 2, .slice Av bs.length cv, .slice (some ⟨gq, 0, none⟩) 4 4] 22)) 1 p.A p.l.length (bvals p.l) := by
    intro p hp
    simp only [List.mem_cons, List.not_mem_nil, or_false] at hp
    rcases hp with rfl | rfl | rfl
    · exact hA.keep o1 (by simp)
    · exact hB.keep o1 (by simp)
    · exact hC.keep o1 (by simp)
  have hall : CPart.all [(⟨some ⟨q, 0, none⟩, 2, [0x78, 0x01]⟩ : CPart), ⟨Av, cv, bs⟩, ⟨some ⟨gq, 0, none⟩, 4, bigN s⟩] = [0x78, 0x01] ++ bs ++ bigN s := by
    simp [CPart.all]
  have hlen : ([0x78, 0x01] ++ bs ++ bigN s).length = bs.length + 6 := by simp [bigN]
  have hcon := concat_any (some ⟨w5.heap.size, 0, none⟩) 3 _ _ hP (by simp) hps
  rw [hall] at hcon
  refine (hcon (by omega) (by omega)).mono ?_
  rintro e w6 ⟨v, rfl, ho, h1⟩
  refine ⟨v, rfl, own_mono ho (by simp), o1.trans h1 (by simp)⟩

/-! DRAFT, not built to its end (all goes well up to region 5; there the walk takes past 150 s: many orders; two sorries stand: the sum's bytes behind the call, the end).
set_option maxRecDepth 100000 in
set_option maxHeartbeats 8000000 in
theorem pack_fixed (A : Option Addr) (n c : Nat) (b : List UInt8) (w : World) (hb : Holds w 1 A n (bvals b)) (hl : b.length = n) (hc : n ≤ c) (hn : n ≤ 1000000) (L : List UInt8 → Prop) (hL : ∀ bs, L bs → bs.length ≤ 90000)
    (hlay : ∀ w1, Only [] w w1 → Calls Tryz.prog 17 #[.slice A n c] w1 (LayK L w1)) :
    Calls Tryz.prog 8 #[.slice A n c, .bool true] w fun e w' => ∃ v bs, e = .returned v ∧ L bs ∧ w'.ownsRow w.heap.size 5 1 v ([0x78, 0x01] ++ bs ++ bigN (adWord (adOf b))).length (bvals ([0x78, 0x01] ++ bs ++ bigN (adWord (adOf b)))) ∧ Only [] w w' := by
  have HB := hide (And.intro hb (And.intro hl (And.intro hc hn)))
  have HL := hide (And.intro hL hlay)
  clear hb hl hc hn hL hlay
  go_enter Tryz.func8, Tryz.ntmps8
  go_wp2_with fail
  refine (newAdler_any w).mono ?_
  rintro e w1 ⟨ga, rfl, hga, had, ho1⟩
  have hp : Part.Ok ⟨A, c, b⟩ w1 ga := ⟨by
      have h := HB.out.1.keep ho1 (by simp)
      rw [← HB.out.2.1] at h
      exact h, by have := HB.out.2.1; have := HB.out.2.2.1; show b.length ≤ c; omega, by have := HB.out.2.1; have := HB.out.2.2.2; show b.length ≤ _; omega, fun h0 ad ha => by
      obtain ⟨ad', h1, h2, _⟩ := HB.out.1.2 (by have := HB.out.2.1; have h2 : 0 < b.length := h0; omega)
      obtain rfl : ad = ad' := by rw [h1] at ha; exact (Option.some.inj ha).symm
      omega⟩
  have t3 := ofAdler_one ga [] A n c b w1 had hp HB.out.2.1 _ rfl
  have H1 := hide (And.intro ho1 (And.intro had hga))
  have HT := hide t3
  clear ho1 had hga hp t3
  go_wp2_with fail
  refine (HT.out).mono ?_
  rintro e w2 ⟨rfl, ha2, ho2⟩
  have hlt : adWord (adOf b) < 4294967296 := by have := adOf_lt b; unfold adWord; omega
  have HBg := hide (big_any (adWord (adOf b)) hlt w2)
  have H2 := hide (And.intro ha2 ho2)
  clear ha2 ho2 hlt
  go_wp2_with fail
  refine (HBg.out).mono ?_
  rintro e w3 ⟨rfl, ho3⟩
  have hst : (storeCells ⟨w3.heap.size, 0, none⟩ (bvals (bigN (adWord (adOf b))))).run Tryz.prog (w3.alloc (.cells #[.int .u8 0, .int .u8 0, .int .u8 0, .int .u8 0] 55)) = .ok () (w3.alloc (.cells (bvals (bigN (adWord (adOf b)))).toArray 55)) :=
    run_storeCells_new (P := Tryz.prog) w3 55 #[.int .u8 0, .int .u8 0, .int .u8 0, .int .u8 0] (bvals (bigN (adWord (adOf b)))).toArray (by kernel_rfl) rfl (by simp [bvals, bigN, Value.oneCell'])
  have o4 : Only [] w (w3.alloc (.cells (bvals (bigN (adWord (adOf b)))).toArray 55)) := ((H1.out.1.trans (S := []) (T := [ga]) (H2.out.2.trans (ho3.weak (T := [ga]) (by simp)) (by simp)) (by have := H1.out.2.2; simp; omega))).alloc _
  have hg4 : Has (w3.alloc (.cells (bvals (bigN (adWord (adOf b)))).toArray 55)) w3.heap.size 55 (bvals (bigN (adWord (adOf b)))).toArray := Has.new w3 _ _
  obtain ⟨w4, hw4⟩ : ∃ w4, w4 = w3.alloc (.cells (bvals (bigN (adWord (adOf b)))).toArray 55) := ⟨_, rfl⟩
  rw [← hw4] at hst o4 hg4
  have hs3 : w.heap.size ≤ w3.heap.size := by have := H1.out.1.size; have := H2.out.2.size; have := ho3.size; omega
  obtain ⟨q, hq⟩ : ∃ q, q = w3.heap.size := ⟨_, rfl⟩
  have H3 := hide (And.intro o4 (And.intro hg4 hs3))
  clear ho3 o4 hg4 hs3 hw4
  go_wp2_with fail
  go_region_with (first
    | (go_at_call 17; refine (HL.out.2 _ (by first | exact H3.out.1.drew | exact H3.out.1.drew.alloc _)).mono ?_; rintro e w5 ⟨v, bs, rfl, hbs, how, hol⟩; obtain ⟨Av, cv, rfl, hcv, _⟩ := own_shape how)
    | go_loud (go_at_call 21; refine (pack_concat (adWord (adOf b)) _ _ _ _ _ _ (by
        first
          | exact (show Holds w5 1 (some ⟨w4.heap.size, 0, none⟩) 2 (bvals [0x78, 0x01]) from (two_lit w4.drew).keep hol (by simp))
          | exact two_lit _) (by first | exact Holds.of_own how | exact (Holds.of_own how).keep ((Only.refl [] _).alloc _) (by simp)) (by sorry) (HL.out.1 _ hbs)).mono ?_; rintro e w6 ⟨vo, rfl, how6, ho6⟩))
  all_goals
    go_wp2_with fail
    go_ret
    sorry
-/
end Go.Proofs.YtlknhiihdejpeaaGreatDoor


namespace Go.Proofs.YtlknhiihdejpeaaGreatDoor
open Go Go.RowKit

/-- A world in which all that was there is as it was. -/
structure Later (w : World) where
  val : World
  only : Only [] w val

instance later_nonempty (w : World) : Nonempty (Later w) := ⟨⟨w, Only.refl [] w⟩⟩

theorem region_later {P : Program} {id : Nat} {Q : Exit → Act → World → Prop} {a : Act} {w : World} {l : List Oper} (hm : P.follows .mixedOrders = true) (hB : Region.lexB .any l.toArray = true)
    (h : wpQuiet P l.toArray (fun w' => ∃ x : Later w, w' = x.val) (fun a' => ∀ w', (∃ x : Later w, w' = x.val) → Q .normal a' w') l a) : (Code.region id l.toArray true).wp P Q a w :=
  wp_region_quiet (C := fun w' => ∃ x : Later w, w' = x.val) hm hB ⟨⟨_, (Only.refl [] w).drew⟩, rfl⟩ h

/-- A call there. -/
theorem later_of {P : Program} {f : FuncId} {args : Array Value} {w : World} {x : Later w} {v : Value} (h : Calls P f args x.val fun e w' => e = .returned v ∧ Only [] x.val w') :
    Calls P f args x.val fun e w'' => e = .returned v ∧ ∃ y : Later w, w'' = y.val :=
  h.mono fun _ w' ⟨he, ho⟩ => ⟨he, ⟨w', x.only.trans ho (by simp)⟩, rfl⟩
/-- A cell there. -/
theorem later_cell {w : World} {p : Addr} {u : Value} (h : w.cell? p = some u) : ∀ x : Later w, x.val.cell? p = some u := fun x => by
  rw [x.only.cell (World.block_lt_of_cell? w p h) (by simp)]; exact h
end Go.Proofs.YtlknhiihdejpeaaGreatDoor


namespace Go.Proofs.YtlknhiihdejpeaaGreatDoor
open Go Go.RowKit

section
variable {P : Program} {ops : Array Oper} {md : Region.Mode} {C : World → Prop}

/-- Whatever is picked, what comes up is ahead of number n, and quiet; then L. -/
def HeadQ (P : Program) (md : Region.Mode) (ops : Array Oper) (C : World → Prop) (n : Nat) (L : Array Bool → Act → Prop) : Nat → Array Bool → Act → Prop
  | 0, s, a => L s a
  | f + 1, s, a => Region.ready md ops s ≠ [] ∧ ∀ i ∈ Region.ready md ops s, i < n ∧ qOp P ops C i (HeadQ P md ops C n L f (s.setIfInBounds i true)) a

theorem HeadQ.wp {n g : Nat} {L : Array Bool → Act → Prop} {Q : Exit → Act → World → Prop} (hL : ∀ s a w, C w → L s a → wpAny P md ops Q g s a w) :
    ∀ (f : Nat) (s : Array Bool) (a : Act) (w : World), C w → HeadQ P md ops C n L f s a → wpAny P md ops Q (f + g) s a w := by
  intro f
  induction f with
  | zero => intro s a w hw h; rw [Nat.zero_add]; exact hL _ _ _ hw h
  | succ f ih =>
    intro s a w hw h
    rw [Nat.succ_add]
    exact ⟨fun h0 => absurd h0 h.1, fun i hi => wpOp_of_qOp hw (fun a' w' hw' h' => ih _ a' w' hw' h') (h.2 i hi).2⟩

/-- One that may come up may be taken first. -/
theorem HeadQ.first {n i : Nat} {oi : Oper} {v : Value} {L : Array Bool → Act → Prop} (hi : ops[i]? = some oi) (hsel : ∀ (j : Nat) (o : Oper) cs b, ops[j]? = some o → o.op ≠ .select cs b)
    (hs : Region.sinkB md ops n = true) (hc : Region.chainB md ops n = true) (hn : n < ops.size) (hin : i < n) (hdone : ∀ s a, L s a → ∀ j ∈ Region.ready md ops s, n ≤ j) :
    ∀ (f : Nat) (s : Array Bool) (a : Act), HeadInv md ops n s →
      (∀ j oj, ops[j]? = some oj → j ≠ i → s.getD j true = false → (∀ e ∈ oj.after, Region.binds md e = true → e.on ≠ i) → oi.apart ops oj = true) →
      i ∈ Region.ready md ops s → YieldsIn P ops C oi v a → HeadQ P md ops C n L f (s.setIfInBounds i true) (a.put oi.dst v) → HeadQ P md ops C n L (f + 1) s a := by
  intro f
  induction f with
  | zero =>
    intro s a inv _ hr hy H
    refine ⟨List.ne_nil_of_mem hr, fun j hj => ?_⟩
    have hlt : j < n := Nat.lt_of_not_le fun h => tail_waits hs hc hn inv _ i rfl hin (mem_ready.1 hr).1 j h hj
    by_cases e : j = i
    · subst e; exact ⟨hlt, hy.qOp hi H⟩
    · have := hdone _ _ H j (ready_mono hj e); omega
  | succ f ih =>
    intro s a inv hfree hr hy H
    have hun := (mem_ready.1 hr).1
    refine ⟨List.ne_nil_of_mem hr, fun j hj => ?_⟩
    have hlt : j < n := Nat.lt_of_not_le fun h => tail_waits hs hc hn inv _ i rfl hin hun j h hj
    by_cases e : j = i
    · subst e; exact ⟨hlt, hy.qOp hi H⟩
    · obtain ⟨hjun, oj, hoj, hall⟩ := mem_ready.1 hj
      have hap := hfree j oj hoj e hjun fun d hd hb hon => by
        have := hall d hd hb
        rw [hon, getD_both hun] at this
        cases this
      refine ⟨hlt, qOp_mono (fun a' h3 => ih _ a' (inv.set hj hlt) (fun k ok hk hki hk0 => hfree k ok hk hki ?_) (ready_mono hr (Ne.symm e)) h3.1 ?_) (qOp_put hoj hap (fun cs b => hsel i oi cs b hi) (fun cs b => hsel j oj cs b hoj) hy (H.2 j (ready_mono hj e)).2)⟩
      · by_cases ejk : j = k
        · subst ejk; exact hjun
        · rwa [getD_set_ne true ejk] at hk0
      · rw [Array.setIfInBounds_comm _ _ e]; exact h3.2

theorem HeadQ.lex {n g : Nat} {R : Act → Prop} (hsel : Region.noSelect ops = true) (hs : Region.sinkB md ops n = true) (hc : Region.chainB md ops n = true) (hn : n < ops.size) :
    ∀ (l : List Oper) (k : Nat) (s : Array Bool) (a : Act), (∀ j, j < l.length → l[j]? = ops[k + j]?) → k + l.length = n → HeadInv md ops n s →
    Region.lexHead md ops g l.length k s = true → wpQuiet P ops C R l a → HeadQ P md ops C n (fun s' a' => Region.seqB md ops g n s' = true ∧ R a') l.length s a := by
  intro l
  induction l with
  | nil =>
    intro k s a _ hk _ hB h
    obtain rfl : k = n := by simpa using hk
    exact ⟨by simpa [Region.lexHead] using hB, h⟩
  | cons o l ih =>
    intro k s a hl hk inv hB h
    have h0 : ops[k]? = some o := by simpa using (hl 0 (by simp)).symm
    simp only [List.length_cons, Region.lexHead, Bool.and_eq_true] at hB
    obtain ⟨⟨hr, hf⟩, hB'⟩ := hB
    rw [List.length_cons] at hk
    have hr' : k ∈ Region.ready md ops s := by simpa using hr
    obtain ⟨v, hy, hK⟩ := yieldsIn_of_qOp (K := wpQuiet P ops C R l) h0 (by unfold qOp; simp only [h0]; exact h)
    refine HeadQ.first h0 (Region.noSelect_spec hsel) hs hc hn (by omega) (fun s' a' hL => seqB_ready hL.1) l.length s a inv (Region.free_spec h0 hf) hr' hy (ih (k + 1) _ _ (fun j hj => ?_) (by omega) (inv.set hr' (by omega)) hB' hK)
    have := hl (j + 1) (by simp; omega)
    simpa [Nat.add_assoc, Nat.add_comm 1 j] using this

/-- The first n operations are quiet in the class, in the order of the text; the others come one behind the other. -/
theorem region_class_tail {id : Nat} {Q : Exit → Act → World → Prop} {a : Act} {w : World} {l : List Oper} (n : Nat) (hm : P.follows .mixedOrders = true) (hB : Region.lexTailB .any l.toArray n = true) (hC : C w.drew)
    (h : wpQuiet P l.toArray C (fun a' => ∀ w', C w' → wpList P l.toArray Q (l.drop n) a' w') (l.take n) a) : (Code.region id l.toArray true).wp P Q a w := by
  simp only [Region.lexTailB, Bool.and_eq_true, decide_eq_true_eq] at hB
  obtain ⟨⟨⟨⟨hsel, hn⟩, hs⟩, hc⟩, hlex⟩ := hB
  have hn' : n < l.length := by simpa using hn
  have htl : (l.take n).length = n := by simp; omega
  have inv0 : HeadInv .any l.toArray n (Array.replicate l.toArray.size false) :=
    ⟨by simp, fun j oj _ hl => (by rw [getD_replicate_false] at hl; cases hl), fun t _ ht => getD_in (by simpa using ht) (getD_replicate_false _ _)⟩
  have H := HeadQ.lex (md := .any) (g := l.toArray.size - n) hsel hs hc hn (l.take n) 0 _ a (fun j hj => by
    have : j < n := by rwa [htl] at hj
    simp [this]) (by simpa using htl) inv0 (by rw [htl]; exact hlex) h
  refine wp_region_any hm ?_
  have := HeadQ.wp (Q := Q) (g := l.toArray.size - n) (fun s a' w' hw' hL => by
    have := wpAny_of_seq (md := .any) (Q' := Q) (l.drop n) n s a' w' (fun j => by simp [List.getElem?_drop]) (by simpa using hL.1) (hL.2 w' hw')
    simpa using this) _ _ _ _ hC H
  rw [htl, show n + (l.toArray.size - n) = l.toArray.size by omega] at this
  exact this
end

/-- .. where all that was there stays as it was till then. -/
theorem region_later_tail {P : Program} {id : Nat} {Q : Exit → Act → World → Prop} {a : Act} {w : World} {l : List Oper} (n : Nat) (hm : P.follows .mixedOrders = true) (hB : Region.lexTailB .any l.toArray n = true)
    (h : wpQuiet P l.toArray (fun w' => ∃ x : Later w, w' = x.val) (fun a' => ∀ w', (∃ x : Later w, w' = x.val) → wpList P l.toArray Q (l.drop n) a' w') (l.take n) a) : (Code.region id l.toArray true).wp P Q a w :=
  region_class_tail (C := fun w' => ∃ x : Later w, w' = x.val) n hm hB ⟨⟨_, (Only.refl [] w).drew⟩, rfl⟩ h
end Go.Proofs.YtlknhiihdejpeaaGreatDoor

