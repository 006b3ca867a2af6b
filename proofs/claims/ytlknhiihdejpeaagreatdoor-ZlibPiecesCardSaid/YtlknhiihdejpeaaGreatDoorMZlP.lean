/-
  Package zlib: Pack, whatever lays. | Plain: a way of stored and fixed blocks (InfM) is one of steps (InfN, InfO). | Streams of stored bytes, and of literals in fixed codes (InfU on the new base): what they say, and where they end. | Package zlib: Pack.
-/
import Derived.Test.YtlknhiihdejpeaaGreatDoorMZlN
import Derived.Test.YtlknhiihdejpeaaGreatDoorMAdd
import Derived.Test.YtlknhiihdejpeaaGreatDoorMInfN
import Derived.Test.YtlknhiihdejpeaaGreatDoorMGrow
import Derived.Test.YtlknhiihdejpeaaGreatDoorMFlNw
namespace Go.Proofs.YtlknhiihdejpeaaGreatDoor
open Go Go.RowKit

theorem pack_rows (s g q gq cv : Nat) (Av : Option Addr) (bs : List UInt8) (w : World) (hP : Holds w 1 (some ⟨g, 0, none⟩) 3 [.slice (some ⟨q, 0, none⟩) 2 2, .slice Av bs.length cv, .slice (some ⟨gq, 0, none⟩) 4 4])
    (hA : Holds w 1 (some ⟨q, 0, none⟩) 2 (bvals [0x78, 0x01])) (hB : Holds w 1 Av bs.length (bvals bs)) (hC : Holds w 1 (some ⟨gq, 0, none⟩) 4 (bvals (bigN s))) (hl : bs.length ≤ 90000) :
    Calls Tryz.prog 21 #[.slice (some ⟨g, 0, none⟩) 3 3] w fun e w' =>
      ∃ v, e = .returned v ∧ w'.ownsRow w.heap.size 5 1 v ([0x78, 0x01] ++ bs ++ bigN s).length (bvals ([0x78, 0x01] ++ bs ++ bigN s)) ∧ Only [] w w' := by
  have hP : Holds w 1 (some ⟨g, 0, none⟩) 3 ([(⟨some ⟨q, 0, none⟩, 2, [0x78, 0x01]⟩ : CPart), ⟨Av, cv, bs⟩, ⟨some ⟨gq, 0, none⟩, 4, bigN s⟩].map CPart.val) := by
    simpa [CPart.val, bigN] using hP
  have hps : ∀ p ∈ [(⟨some ⟨q, 0, none⟩, 2, [0x78, 0x01]⟩ : CPart), ⟨Av, cv, bs⟩, ⟨some ⟨gq, 0, none⟩, 4, bigN s⟩], Holds w 1 p.A p.l.length (bvals p.l) := by
    intro p hp
    simp only [List.mem_cons, List.not_mem_nil, or_false] at hp
    rcases hp with rfl | rfl | rfl
    · exact hA
    · exact hB
    · exact hC
  have hall : CPart.all [(⟨some ⟨q, 0, none⟩, 2, [0x78, 0x01]⟩ : CPart), ⟨Av, cv, bs⟩, ⟨some ⟨gq, 0, none⟩, 4, bigN s⟩] = [0x78, 0x01] ++ bs ++ bigN s := by
    simp [CPart.all]
  have hlen : ([0x78, 0x01] ++ bs ++ bigN s).length = bs.length + 6 := by simp [bigN]
  have hcon := concat_any (some ⟨g, 0, none⟩) 3 _ _ hP (by simp) hps
  rw [hall] at hcon
  refine (hcon (by omega) (by omega)).mono ?_
  rintro e w6 ⟨v, rfl, ho, h1⟩
  exact ⟨v, rfl, ho, h1⟩

/-- The head's two bytes, in new memory. -/
def sTwo : (Value → Prop) × (Value → World → Prop) := (fun v => ∃ g, v = .slice (some ⟨g, 0, none⟩) 2 2, fun v w => ∀ g, v = .slice (some ⟨g, 0, none⟩) 2 2 → Holds w 1 (some ⟨g, 0, none⟩) 2 (bvals [0x78, 0x01]))
/-- What lays tells. -/
def sLay (L : List UInt8 → Prop) : (Value → Prop) × (Value → World → Prop) := (fun v => ∃ A n c, v = .slice A n c, fun v w => ∃ bs A c, v = .slice A bs.length c ∧ L bs ∧ Holds w 1 A bs.length (bvals bs))
/-- The three rows. -/
def sRows (L : List UInt8 → Prop) (gq s : Nat) : (Value → Prop) × (Value → World → Prop) := (fun v => ∃ g, v = .slice (some ⟨g, 0, none⟩) 3 3, fun v w => ∀ g, v = .slice (some ⟨g, 0, none⟩) 3 3 → ∃ q Av cv bs, L bs ∧
  Holds w 1 (some ⟨g, 0, none⟩) 3 [.slice (some ⟨q, 0, none⟩) 2 2, .slice Av (List.length bs) cv, .slice (some ⟨gq, 0, none⟩) 4 4] ∧ Holds w 1 (some ⟨q, 0, none⟩) 2 (bvals [0x78, 0x01]) ∧ Holds w 1 Av bs.length (bvals bs) ∧ Holds w 1 (some ⟨gq, 0, none⟩) 4 (bvals (bigN s)))
/-- All of it. -/
def sPack (L : List UInt8 → Prop) (B s : Nat) : (Value → Prop) × (Value → World → Prop) := (fun _ => True, fun v w => ∃ bs, L bs ∧ w.ownsRow B 5 1 v ([0x78, 0x01] ++ bs ++ bigN s).length (bvals ([0x78, 0x01] ++ bs ++ bigN s)))
theorem sTwo_later : ∀ v w w', Only [] w w' → sTwo.2 v w → sTwo.2 v w' := fun v w w' ho h g he => (h g he).keep ho (by simp)
theorem sLay_later (L : List UInt8 → Prop) : ∀ v w w', Only [] w w' → (sLay L).2 v w → (sLay L).2 v w' := fun v w w' ho ⟨bs, A, c, h1, h2, h3⟩ => ⟨bs, A, c, h1, h2, h3.keep ho (by simp)⟩
theorem sRows_later (L : List UInt8 → Prop) (gq s : Nat) : ∀ v w w', Only [] w w' → (sRows L gq s).2 v w → (sRows L gq s).2 v w' := fun v w w' ho h g he => by
  obtain ⟨q, Av, cv, bs, h1, h2, h3, h4, h5⟩ := h g he
  exact ⟨q, Av, cv, bs, h1, h2.keep ho (by simp), h3.keep ho (by simp), h4.keep ho (by simp), h5.keep ho (by simp)⟩
theorem sPack_later (L : List UInt8 → Prop) (B s : Nat) : ∀ v w w', Only [] w w' → (sPack L B s).2 v w → (sPack L B s).2 v w' := fun v w w' ho ⟨bs, h1, h2⟩ => ⟨bs, h1, own_keep h2 ho (by simp)⟩

set_option maxRecDepth 100000 in
set_option maxHeartbeats 8000000 in
theorem pack_fixed (A : Option Addr) (n c : Nat) (b : List UInt8) (w : World) (hb : Holds w 1 A n (bvals b)) (hl : b.length = n) (hc : n ≤ c) (hn : n ≤ 1000000) (L : List UInt8 → Prop) (hL : ∀ bs, L bs → bs.length ≤ 90000)
    (hlay : ∀ w1, Only [] w w1 → Calls Tryz.prog 17 #[.slice A n c] w1 (LayK L w1)) :
    Calls Tryz.prog 8 #[.slice A n c, .bool true] w fun e w' => ∃ v bs, e = .returned v ∧ L bs ∧ w'.ownsRow w.heap.size 5 1 v ([0x78, 0x01] ++ bs ++ bigN (adWord (adOf b))).length (bvals ([0x78, 0x01] ++ bs ++ bigN (adWord (adOf b)))) ∧ Only [] w w' := by
  have HB := hide (And.intro hb (And.intro hl (And.intro hc hn)))
  have HL := hide (And.intro hL hlay)
  clear hb hl hc hn hL hlay
  go_enter Tryz.func8, Tryz.ntmps8
  go_wp2_with fail
  refine (newAdler_any w).mono ?_
  rintro e w1 ⟨ga, rfl, hga, had, ho1⟩
  have hp : Part.Ok ⟨A, c, b⟩ w1 ga := ⟨by
      have h := HB.out.1.keep ho1 (by simp)
      rw [← HB.out.2.1] at h
      exact h, by have := HB.out.2.1; have := HB.out.2.2.1; show b.length ≤ c; omega, by have := HB.out.2.1; have := HB.out.2.2.2; show b.length ≤ _; omega, fun h0 ad ha => by
      obtain ⟨ad', h1, h2, _⟩ := HB.out.1.2 (by have := HB.out.2.1; have h2 : 0 < b.length := h0; omega)
      obtain rfl : ad = ad' := by rw [h1] at ha; exact (Option.some.inj ha).symm
      omega⟩
  have t3 := ofAdler_one ga [] A n c b w1 had hp HB.out.2.1 _ rfl
  have H1 := hide (And.intro ho1 (And.intro had hga))
  have HT := hide t3
  clear ho1 had hga hp t3
  go_wp2_with fail
  refine (HT.out).mono ?_
  rintro e w2 ⟨rfl, ha2, ho2⟩
  have hlt : adWord (adOf b) < 4294967296 := by have := adOf_lt b; unfold adWord; omega
  have HBg := hide (big_any (adWord (adOf b)) hlt w2)
  have H2 := hide (And.intro ha2 ho2)
  clear ha2 ho2 hlt
  go_wp2_with fail
  refine (HBg.out).mono ?_
  rintro e w3 ⟨rfl, ho3⟩
  have hst : (storeCells ⟨w3.heap.size, 0, none⟩ (bvals (bigN (adWord (adOf b))))).run Tryz.prog (w3.alloc (.cells #[.int .u8 0, .int .u8 0, .int .u8 0, .int .u8 0] 55)) = .ok () (w3.alloc (.cells (bvals (bigN (adWord (adOf b)))).toArray 55)) :=
    run_storeCells_new (P := Tryz.prog) w3 55 #[.int .u8 0, .int .u8 0, .int .u8 0, .int .u8 0] (bvals (bigN (adWord (adOf b)))).toArray (by kernel_rfl) rfl (by simp [bvals, bigN, Value.oneCell'])
  have o4 : Only [] w (w3.alloc (.cells (bvals (bigN (adWord (adOf b)))).toArray 55)) := ((H1.out.1.trans (S := []) (T := [ga]) (H2.out.2.trans (ho3.weak (T := [ga]) (by simp)) (by simp)) (by have := H1.out.2.2; simp; omega))).alloc _
  have hg4 : Has (w3.alloc (.cells (bvals (bigN (adWord (adOf b)))).toArray 55)) w3.heap.size 55 (bvals (bigN (adWord (adOf b)))).toArray := Has.new w3 _ _
  obtain ⟨w4, hw4⟩ : ∃ w4, w4 = w3.alloc (.cells (bvals (bigN (adWord (adOf b)))).toArray 55) := ⟨_, rfl⟩
  rw [← hw4] at hst o4 hg4
  obtain ⟨s, hs⟩ : ∃ s, s = adWord (adOf b) := ⟨_, rfl⟩
  rw [← hs] at hg4
  have hsum : Holds w4 1 (some ⟨w3.heap.size, 0, none⟩) 4 (bvals (bigN s)) := hg4.holds (by simp [bigN])
  have H3 := hide (And.intro o4 (And.intro hsum hs))
  clear ho3 o4 hg4 hw4 hs hsum
  go_wp2_with fail
  have hslice := fun w => run_arr4_all w3.heap.size w
  refine region_loose 7 20 (fun i => if i = 0 then some sTwo else if i = 3 then some (sLay L) else if i = 5 then some (sRows L w3.heap.size s) else if i = 6 then some (sPack L w4.heap.size s) else none) (by kernel_rfl) (by kernel_rfl) (by kernel_rfl) (by rfl) (by rfl) (fun i hi => ?_) (fun i S hS => ?_) ?_
  · have hi : 8 ≤ i := hi
    show (if i = 0 then _ else _) = none
    iterate 4 rw [if_neg (by omega)]
  · repeat' split at hS
    all_goals first | (injection hS with hS; subst hS; first | exact sTwo_later | exact sLay_later _ | exact sRows_later _ _ _ | exact sPack_later _ _ _) | cases hS
  simp only [List.take_succ_cons, List.take_zero, List.drop_succ_cons, List.drop_zero]
  refine wpLoose_step sTwo rfl (by rfl) ⟨_, 0, rfl⟩ (fun w' ho hk => ?_) (fun v hv => ?_)
  · go_simp
    exact ⟨(Only.refl [] w').alloc _, ⟨_, rfl⟩, fun g he => by
      injection he with he; injection he with he; injection he with he; subst he
      exact two_lit w'⟩
  obtain ⟨q, rfl⟩ := hv
  go_simp
  refine wpLoose_chunk 2 (by kernel_rfl) (by rfl) ?_
  simp only [List.take_succ_cons, List.take_zero, List.drop_succ_cons, List.drop_zero, List.length_cons, List.length_nil, Nat.zero_add, Nat.reduceAdd]
  iterate 2 (go_big_quiet_step (fail))
  refine wpQuiet_nil ?_
  refine wpLoose_step (sLay L) rfl (by rfl) ⟨_, none, 0, 0, rfl⟩ (fun w' ho hk => ?_) (fun v hv => ?_)
  · go_simp
    refine ⟨rfl, (HL.out.2 w' (H3.out.1.trans ho (S := []) (by simp))).mono ?_⟩
    rintro e w5 ⟨v, bs, rfl, hbs, how, hol⟩
    obtain ⟨Av, cv, rfl, hcv, _⟩ := own_shape how
    exact ⟨_, rfl, hol, ⟨_, _, _, rfl⟩, ⟨bs, Av, cv, rfl, hbs, Holds.of_own how⟩⟩
  obtain ⟨Av, nv, cv, rfl⟩ := hv
  go_simp
  refine wpLoose_chunk 1 (by kernel_rfl) (by rfl) ?_
  simp only [List.take_succ_cons, List.take_zero, List.drop_succ_cons, List.drop_zero, List.length_cons, List.length_nil, Nat.zero_add, Nat.reduceAdd]
  go_big_quiet_step (fail)
  refine wpQuiet_nil ?_
  refine wpLoose_step (sRows L w3.heap.size s) rfl (by rfl) ⟨_, 0, rfl⟩ (fun w' ho hk => ?_) (fun v hv => ?_)
  · have k0 := hk _ (Array.mem_of_getElem? (i := 0) (by rfl)) (by rfl)
    have k0 : sTwo.1 (.slice (some ⟨q, 0, none⟩) 2 2) ∧ sTwo.2 (.slice (some ⟨q, 0, none⟩) 2 2) w' := k0
    have k3 := hk _ (Array.mem_of_getElem? (i := 1) (by rfl)) (by rfl)
    have k3 : (sLay L).1 (.slice Av nv cv) ∧ (sLay L).2 (.slice Av nv cv) w' := k3
    obtain ⟨bs, A5, c5, he, hbs, hB⟩ := k3.2
    have hA := k0.2 q rfl
    injection he with he1 he2 he3
    subst he1; subst he2; subst he3
    clear k0 k3 hk
    go_simp
    refine ⟨(Only.refl [] w').alloc _, ⟨_, rfl⟩, fun g hg => ?_⟩
    injection hg with hg; injection hg with hg; injection hg with hg; subst hg
    refine ⟨q, Av, cv, bs, hbs, ?_, hA.keep ((Only.refl [] w').alloc _) (by simp), hB.keep ((Only.refl [] w').alloc _) (by simp), (H3.out.2.1.keep ho (by simp)).keep ((Only.refl [] w').alloc _) (by simp)⟩
    have := Holds.lit w' #[.slice (some ⟨q, 0, none⟩) 2 2, .slice Av bs.length cv, .slice (some ⟨w3.heap.size, 0, none⟩) 4 4] 22
    simpa using this
  obtain ⟨g, rfl⟩ := hv
  go_simp
  refine wpLoose_step (sPack L w4.heap.size s) rfl (by rfl) ⟨.bool true, trivial⟩ (fun w' ho hk => ?_) (fun v hv => ?_)
  · have k5 := hk _ (Array.mem_of_getElem? (i := 0) (by rfl)) (by rfl)
    have k5 : (sRows L w3.heap.size s).1 (.slice (some ⟨g, 0, none⟩) 3 3) ∧ (sRows L w3.heap.size s).2 (.slice (some ⟨g, 0, none⟩) 3 3) w' := k5
    obtain ⟨q', A5, c5, bs, hbs, hP, hA, hB, hC⟩ := k5.2 g rfl
    go_simp
    refine ⟨rfl, (pack_rows s g q' w3.heap.size c5 A5 bs w' hP hA hB hC (HL.out.1 _ hbs)).mono ?_⟩
    rintro e w6 ⟨vo, rfl, how6, ho6⟩
    exact ⟨vo, rfl, ho6, trivial, ⟨bs, hbs, own_mono how6 ho.size⟩⟩
  clear hv
  go_simp
  intro w' ho hT
  have h6 := hT 6 (by omega)
  have h6 : (sPack L w4.heap.size s).1 v ∧ (sPack L w4.heap.size s).2 v w' := h6
  obtain ⟨bs, hbs, how⟩ := h6.2
  have HE := hide (And.intro hbs (And.intro how (H3.out.1.trans ho (S := []) (by simp))))
  clear hT h6 hbs how ho hslice
  go_wp2_with fail
  go_ret
  refine ⟨v, bs, rfl, HE.out.1, ?_, HE.out.2.2⟩
  have h := own_mono HE.out.2.1 H3.out.1.size
  rw [H3.out.2.2] at h
  exact h

set_option maxRecDepth 100000 in
set_option maxHeartbeats 8000000 in
theorem pack_store (A : Option Addr) (n c : Nat) (b : List UInt8) (w : World) (hb : Holds w 1 A n (bvals b)) (hl : b.length = n) (hc : n ≤ c) (hn : n ≤ 1000000) (L : List UInt8 → Prop) (hL : ∀ bs, L bs → bs.length ≤ 90000)
    (hlay : ∀ w1, Only [] w w1 → Calls Tryz.prog 16 #[.slice A n c] w1 (LayK L w1)) :
    Calls Tryz.prog 8 #[.slice A n c, .bool false] w fun e w' => ∃ v bs, e = .returned v ∧ L bs ∧ w'.ownsRow w.heap.size 5 1 v ([0x78, 0x01] ++ bs ++ bigN (adWord (adOf b))).length (bvals ([0x78, 0x01] ++ bs ++ bigN (adWord (adOf b)))) ∧ Only [] w w' := by
  have HB := hide (And.intro hb (And.intro hl (And.intro hc hn)))
  have HL := hide (And.intro hL hlay)
  clear hb hl hc hn hL hlay
  go_enter Tryz.func8, Tryz.ntmps8
  go_wp2_with fail
  refine (newAdler_any w).mono ?_
  rintro e w1 ⟨ga, rfl, hga, had, ho1⟩
  have hp : Part.Ok ⟨A, c, b⟩ w1 ga := ⟨by
      have h := HB.out.1.keep ho1 (by simp)
      rw [← HB.out.2.1] at h
      exact h, by have := HB.out.2.1; have := HB.out.2.2.1; show b.length ≤ c; omega, by have := HB.out.2.1; have := HB.out.2.2.2; show b.length ≤ _; omega, fun h0 ad ha => by
      obtain ⟨ad', h1, h2, _⟩ := HB.out.1.2 (by have := HB.out.2.1; have h2 : 0 < b.length := h0; omega)
      obtain rfl : ad = ad' := by rw [h1] at ha; exact (Option.some.inj ha).symm
      omega⟩
  have t3 := ofAdler_one ga [] A n c b w1 had hp HB.out.2.1 _ rfl
  have H1 := hide (And.intro ho1 (And.intro had hga))
  have HT := hide t3
  clear ho1 had hga hp t3
  go_wp2_with fail
  refine (HT.out).mono ?_
  rintro e w2 ⟨rfl, ha2, ho2⟩
  have hlt : adWord (adOf b) < 4294967296 := by have := adOf_lt b; unfold adWord; omega
  have HBg := hide (big_any (adWord (adOf b)) hlt w2)
  have H2 := hide (And.intro ha2 ho2)
  clear ha2 ho2 hlt
  go_wp2_with fail
  refine (HBg.out).mono ?_
  rintro e w3 ⟨rfl, ho3⟩
  have hst : (storeCells ⟨w3.heap.size, 0, none⟩ (bvals (bigN (adWord (adOf b))))).run Tryz.prog (w3.alloc (.cells #[.int .u8 0, .int .u8 0, .int .u8 0, .int .u8 0] 55)) = .ok () (w3.alloc (.cells (bvals (bigN (adWord (adOf b)))).toArray 55)) :=
    run_storeCells_new (P := Tryz.prog) w3 55 #[.int .u8 0, .int .u8 0, .int .u8 0, .int .u8 0] (bvals (bigN (adWord (adOf b)))).toArray (by kernel_rfl) rfl (by simp [bvals, bigN, Value.oneCell'])
  have o4 : Only [] w (w3.alloc (.cells (bvals (bigN (adWord (adOf b)))).toArray 55)) := ((H1.out.1.trans (S := []) (T := [ga]) (H2.out.2.trans (ho3.weak (T := [ga]) (by simp)) (by simp)) (by have := H1.out.2.2; simp; omega))).alloc _
  have hg4 : Has (w3.alloc (.cells (bvals (bigN (adWord (adOf b)))).toArray 55)) w3.heap.size 55 (bvals (bigN (adWord (adOf b)))).toArray := Has.new w3 _ _
  obtain ⟨w4, hw4⟩ : ∃ w4, w4 = w3.alloc (.cells (bvals (bigN (adWord (adOf b)))).toArray 55) := ⟨_, rfl⟩
  rw [← hw4] at hst o4 hg4
  obtain ⟨s, hs⟩ : ∃ s, s = adWord (adOf b) := ⟨_, rfl⟩
  rw [← hs] at hg4
  have hsum : Holds w4 1 (some ⟨w3.heap.size, 0, none⟩) 4 (bvals (bigN s)) := hg4.holds (by simp [bigN])
  have H3 := hide (And.intro o4 (And.intro hsum hs))
  clear ho3 o4 hg4 hw4 hs hsum
  go_wp2_with fail
  have hslice := fun w => run_arr4_all w3.heap.size w
  refine region_loose 7 20 (fun i => if i = 0 then some sTwo else if i = 3 then some (sLay L) else if i = 5 then some (sRows L w3.heap.size s) else if i = 6 then some (sPack L w4.heap.size s) else none) (by kernel_rfl) (by kernel_rfl) (by kernel_rfl) (by rfl) (by rfl) (fun i hi => ?_) (fun i S hS => ?_) ?_
  · have hi : 8 ≤ i := hi
    show (if i = 0 then _ else _) = none
    iterate 4 rw [if_neg (by omega)]
  · repeat' split at hS
    all_goals first | (injection hS with hS; subst hS; first | exact sTwo_later | exact sLay_later _ | exact sRows_later _ _ _ | exact sPack_later _ _ _) | cases hS
  simp only [List.take_succ_cons, List.take_zero, List.drop_succ_cons, List.drop_zero]
  refine wpLoose_step sTwo rfl (by rfl) ⟨_, 0, rfl⟩ (fun w' ho hk => ?_) (fun v hv => ?_)
  · go_simp
    exact ⟨(Only.refl [] w').alloc _, ⟨_, rfl⟩, fun g he => by
      injection he with he; injection he with he; injection he with he; subst he
      exact two_lit w'⟩
  obtain ⟨q, rfl⟩ := hv
  go_simp
  refine wpLoose_chunk 2 (by kernel_rfl) (by rfl) ?_
  simp only [List.take_succ_cons, List.take_zero, List.drop_succ_cons, List.drop_zero, List.length_cons, List.length_nil, Nat.zero_add, Nat.reduceAdd]
  iterate 2 (go_big_quiet_step (fail))
  refine wpQuiet_nil ?_
  refine wpLoose_step (sLay L) rfl (by rfl) ⟨_, none, 0, 0, rfl⟩ (fun w' ho hk => ?_) (fun v hv => ?_)
  · go_simp
    refine ⟨rfl, (HL.out.2 w' (H3.out.1.trans ho (S := []) (by simp))).mono ?_⟩
    rintro e w5 ⟨v, bs, rfl, hbs, how, hol⟩
    obtain ⟨Av, cv, rfl, hcv, _⟩ := own_shape how
    exact ⟨_, rfl, hol, ⟨_, _, _, rfl⟩, ⟨bs, Av, cv, rfl, hbs, Holds.of_own how⟩⟩
  obtain ⟨Av, nv, cv, rfl⟩ := hv
  go_simp
  refine wpLoose_chunk 1 (by kernel_rfl) (by rfl) ?_
  simp only [List.take_succ_cons, List.take_zero, List.drop_succ_cons, List.drop_zero, List.length_cons, List.length_nil, Nat.zero_add, Nat.reduceAdd]
  go_big_quiet_step (fail)
  refine wpQuiet_nil ?_
  refine wpLoose_step (sRows L w3.heap.size s) rfl (by rfl) ⟨_, 0, rfl⟩ (fun w' ho hk => ?_) (fun v hv => ?_)
  · have k0 := hk _ (Array.mem_of_getElem? (i := 0) (by rfl)) (by rfl)
    have k0 : sTwo.1 (.slice (some ⟨q, 0, none⟩) 2 2) ∧ sTwo.2 (.slice (some ⟨q, 0, none⟩) 2 2) w' := k0
    have k3 := hk _ (Array.mem_of_getElem? (i := 1) (by rfl)) (by rfl)
    have k3 : (sLay L).1 (.slice Av nv cv) ∧ (sLay L).2 (.slice Av nv cv) w' := k3
    obtain ⟨bs, A5, c5, he, hbs, hB⟩ := k3.2
    have hA := k0.2 q rfl
    injection he with he1 he2 he3
    subst he1; subst he2; subst he3
    clear k0 k3 hk
    go_simp
    refine ⟨(Only.refl [] w').alloc _, ⟨_, rfl⟩, fun g hg => ?_⟩
    injection hg with hg; injection hg with hg; injection hg with hg; subst hg
    refine ⟨q, Av, cv, bs, hbs, ?_, hA.keep ((Only.refl [] w').alloc _) (by simp), hB.keep ((Only.refl [] w').alloc _) (by simp), (H3.out.2.1.keep ho (by simp)).keep ((Only.refl [] w').alloc _) (by simp)⟩
    have := Holds.lit w' #[.slice (some ⟨q, 0, none⟩) 2 2, .slice Av bs.length cv, .slice (some ⟨w3.heap.size, 0, none⟩) 4 4] 22
    simpa using this
  obtain ⟨g, rfl⟩ := hv
  go_simp
  refine wpLoose_step (sPack L w4.heap.size s) rfl (by rfl) ⟨.bool true, trivial⟩ (fun w' ho hk => ?_) (fun v hv => ?_)
  · have k5 := hk _ (Array.mem_of_getElem? (i := 0) (by rfl)) (by rfl)
    have k5 : (sRows L w3.heap.size s).1 (.slice (some ⟨g, 0, none⟩) 3 3) ∧ (sRows L w3.heap.size s).2 (.slice (some ⟨g, 0, none⟩) 3 3) w' := k5
    obtain ⟨q', A5, c5, bs, hbs, hP, hA, hB, hC⟩ := k5.2 g rfl
    go_simp
    refine ⟨rfl, (pack_rows s g q' w3.heap.size c5 A5 bs w' hP hA hB hC (HL.out.1 _ hbs)).mono ?_⟩
    rintro e w6 ⟨vo, rfl, how6, ho6⟩
    exact ⟨vo, rfl, ho6, trivial, ⟨bs, hbs, own_mono how6 ho.size⟩⟩
  clear hv
  go_simp
  intro w' ho hT
  have h6 := hT 6 (by omega)
  have h6 : (sPack L w4.heap.size s).1 v ∧ (sPack L w4.heap.size s).2 v w' := h6
  obtain ⟨bs, hbs, how⟩ := h6.2
  have HE := hide (And.intro hbs (And.intro how (H3.out.1.trans ho (S := []) (by simp))))
  clear hT h6 hbs how ho hslice
  go_wp2_with fail
  go_ret
  refine ⟨v, bs, rfl, HE.out.1, ?_, HE.out.2.2⟩
  have h := own_mono HE.out.2.1 H3.out.1.size
  rw [H3.out.2.2] at h
  exact h
end Go.Proofs.YtlknhiihdejpeaaGreatDoor


namespace Go.Proofs.YtlknhiihdejpeaaGreatDoor
open Go Go.RowKit

/-- Where one stands, in both tellings. -/
structure AtG (T : List UInt8) (s : St) (g : GSt) : Prop where
  k : g.k = s.k
  last : g.last = s.last
  left : s.k = 2 → g.left = s.left
  p : g.p = s.p
  out : g.out = s.out
  tab : s.k = 7 → g.T = T

theorem half16 {N p n : Nat} (h : N / 2 ^ p % 4294967296 = n + (65535 - n) * 65536) (hn : n < 65536) : N / 2 ^ p % 65536 = n ∧ N / 2 ^ (p + 16) % 65536 = 65535 - n := by
  have e : N / 2 ^ (p + 16) = N / 2 ^ p / 65536 := by rw [Nat.pow_add, ← Nat.div_div_eq_div_mul]
  rw [e]
  omega

variable {T D0 : List UInt8} {N most : Nat}

theorem Mv.nx (hread : ∀ i p, ln T i ≠ 0 → N / 2 ^ p % 2 ^ ln T i = rev (cd T i) (ln T i) → huffN T N p = (i, 0, ln T i)) {s t : St} (h : Mv T N s t) {g : GSt} (hg : AtG T s g) (hm : t.out.length ≤ most) :
    ∃ q g', s.k ≠ 11 ∧ g.nx T D0 N most = (q, .ok g') ∧ q ≤ t.p ∧ AtG T t g' := by
  obtain ⟨hk, hl, hle, hp, ho, ht⟩ := hg
  cases h with
  | stored l0 last p p' out h hp' =>
    replace hk : g.k = 0 := hk
    replace hp : g.p = p := hp
    have hv : N / 2 ^ g.p % 8 = last.toNat := by rw [hp]; exact h
    have h2 : last.toNat / 2 = 0 := by cases last <;> rfl
    have h3 : (last.toNat % 2 == 1) = last := by cases last <;> rfl
    refine ⟨g.p + 3, { g with k := 1, last := last, p := (g.p + 10) / 8 * 8 }, by show (0 : Nat) ≠ 11; decide, ?_, by show g.p + 3 ≤ p'; omega, ⟨rfl, rfl, fun h => absurd h (by show (1 : Nat) ≠ 2; decide), by show (g.p + 10) / 8 * 8 = p'; rw [hp, hp'], ho, fun h => absurd h (by show (1 : Nat) ≠ 7; decide)⟩⟩
    rw [GSt.nx_0 hk]
    simp only [hv, h2, h3, if_true]
  | fixed l0 last p out h =>
    replace hk : g.k = 0 := hk
    replace hp : g.p = p := hp
    have hv : N / 2 ^ g.p % 8 = last.toNat + 2 := by rw [hp]; exact h
    have h1 : ¬ (last.toNat + 2) / 2 = 0 := by omega
    have h2 : (last.toNat + 2) / 2 = 1 := by cases last <;> rfl
    have h3 : ((last.toNat + 2) % 2 == 1) = last := by cases last <;> rfl
    refine ⟨g.p + 3, { g with k := 7, last := last, p := g.p + 3, T := T, D := D0 }, by show (0 : Nat) ≠ 11; decide, ?_, by show g.p + 3 ≤ p + 3; omega, ⟨rfl, rfl, fun h => absurd h (by show (7 : Nat) ≠ 2; decide), by show g.p + 3 = p + 3; rw [hp], ho, fun _ => rfl⟩⟩
    rw [GSt.nx_0 hk]
    simp only [hv, h2, h3, if_true]
    rw [if_neg (by decide)]
  | size last n p out hn h8 h =>
    replace hk : g.k = 1 := hk
    replace hp : g.p = p := hp
    replace hl : g.last = last := hl
    obtain ⟨e1, e2⟩ := half16 h hn
    refine ⟨g.p + 32, { g with k := stK last n, left := n, p := g.p + 32 }, by show (1 : Nat) ≠ 11; decide, ?_, by show g.p + 32 ≤ p + 32; omega, ⟨rfl, hl, fun _ => rfl, by show g.p + 32 = p + 32; rw [hp], ho, fun h => absurd h (by
      show stK last n ≠ 7
      unfold stK behindK
      split <;> (try split) <;> decide)⟩⟩
    rw [GSt.nx_1 hk]
    simp only [hp, e1, e2, if_true, hl]
  | byte last n p out h8 =>
    replace hk : g.k = 2 := hk
    replace hp : g.p = p := hp
    replace hl : g.last = last := hl
    replace ho : g.out = out := ho
    have hleft : g.left = n + 1 := hle rfl
    have hm' : g.out.length < most := by rw [ho]; have : (out ++ [UInt8.ofNat (N / 2 ^ p)]).length ≤ most := hm; simp at this; omega
    refine ⟨g.p + 8, { g with k := stK last n, left := n, p := g.p + 8, out := g.out ++ [UInt8.ofNat (N / 2 ^ g.p)] }, by show (2 : Nat) ≠ 11; decide, ?_, by show g.p + 8 ≤ p + 8; omega, ⟨rfl, hl, fun _ => rfl, by show g.p + 8 = p + 8; rw [hp], by show g.out ++ _ = out ++ _; rw [ho, hp], fun h => absurd h (by
      show stK last n ≠ 7
      unfold stK behindK
      split <;> (try split) <;> decide)⟩⟩
    rw [GSt.nx_2 hk]
    simp only [hm', if_true, hleft, hl, Nat.add_sub_cancel]
  | lit last i p out hi h0 h =>
    replace hk : g.k = 7 := hk
    replace hp : g.p = p := hp
    replace hl : g.last = last := hl
    replace ho : g.out = out := ho
    have hT : g.T = T := ht rfl
    have hm' : g.out.length < most := by rw [ho]; have : (out ++ [UInt8.ofNat i]).length ≤ most := hm; simp at this; omega
    have hr := hread i p h0 h
    have hneed : needN T N p = ln T i := by unfold needN; rw [hr]; rfl
    refine ⟨g.p + ln T i, { g with p := g.p + ln T i, out := g.out ++ [UInt8.ofNat i] }, by show (7 : Nat) ≠ 11; decide, ?_, by show g.p + ln T i ≤ p + ln T i; omega, ⟨hk, hl, fun h => absurd h (by show (7 : Nat) ≠ 2; decide), by show g.p + ln T i = p + ln T i; rw [hp], by show g.out ++ _ = out ++ _; rw [ho], fun _ => hT⟩⟩
    rw [GSt.nx_7 hk]
    simp only [hT, hp, hneed, hr]
    rw [if_neg (by omega), if_pos hi, if_pos hm']
  | eob last p out h0 h =>
    replace hk : g.k = 7 := hk
    replace hp : g.p = p := hp
    replace hl : g.last = last := hl
    replace ho : g.out = out := ho
    have hT : g.T = T := ht rfl
    have hr := hread 256 p h0 h
    have hneed : needN T N p = ln T 256 := by unfold needN; rw [hr]; rfl
    have hb : behindK last ≠ 7 ∧ behindK last ≠ 2 := by cases last <;> decide
    refine ⟨g.p + ln T 256, { g with k := behindK last, p := g.p + ln T 256 }, by show (7 : Nat) ≠ 11; decide, ?_, by show g.p + ln T 256 ≤ p + ln T 256; omega, ⟨rfl, hl, fun h => absurd h hb.2, by show g.p + ln T 256 = p + ln T 256; rw [hp], ho, fun h => absurd h hb.1⟩⟩
    rw [GSt.nx_7 hk]
    simp only [hT, hp, hneed, hr, hl]
    rw [if_neg (by omega), if_neg (by omega), if_pos trivial]

/-- All of a way. -/
theorem Way.steps (hS : Sm (cn T) 16 ≤ 32768) (h15 : ∀ i, ln T i ≤ 15) {a : Nat} {s e : St} (h : Way T N s e) : ∀ {g : GSt}, AtG T s g → e.out.length ≤ most → e.p ≤ 8 * a →
    ∃ g', Steps T D0 N a most g g' ∧ AtG T e g' := by
  have hread : ∀ i p, ln T i ≠ 0 → N / 2 ^ p % 2 ^ ln T i = rev (cd T i) (ln T i) → huffN T N p = (i, 0, ln T i) := fun i p hi hb => read_back hS h15 hi (by have := h15 i; omega) hb
  induction h with
  | stop s => exact fun hg _ _ => ⟨_, .refl _, hg⟩
  | go h r ih =>
    intro g hg hm hp
    have h1 := r.out_le
    have h2 := r.grow
    obtain ⟨q, g1, hk, hn, hq, hg1⟩ := h.nx (D0 := D0) (most := most) hread hg (by omega)
    obtain ⟨g', hs, hg'⟩ := ih hg1 hm hp
    exact ⟨g', (Steps.one (by rw [hg.k]; exact hk) hn (by omega)).trans hs, hg'⟩
end Go.Proofs.YtlknhiihdejpeaaGreatDoor


namespace Go.Proofs.YtlknhiihdejpeaaGreatDoor

/-- The bytes bs are a stream that says b. -/
def IsStream (b bs : List UInt8) : Prop := (bs = storeB true b ∧ b.length < 65536) ∨ IsFixed b bs

theorem syms_bytes (b : List UInt8) : (symsOf b).reverse.map UInt8.ofNat = b := by
  unfold symsOf
  rw [List.reverse_reverse, List.map_map]
  have : (UInt8.ofNat ∘ UInt8.toNat) = id := by funext x; simp
  rw [this, List.map_id]

theorem IsStream.way {b bs : List UInt8} (h : IsStream b bs) (N j : Nat) (l0 : Bool) (out more : List UInt8) (hN : N / 2 ^ (8 * j) = num (bs ++ more)) :
    ∃ p, 0 < p ∧ (p + 7) / 8 = bs.length ∧ Way fixedL N ⟨0, l0, 0, 8 * j, out⟩ ⟨11, true, 0, 8 * j + p, out ++ b⟩ := by
  rcases h with ⟨rfl, hb⟩ | ⟨h1, h2⟩
  · refine ⟨8 * (5 + b.length), by omega, by rw [storeB_length]; omega, ?_⟩
    refine way_stored l0 true b j (num more) out hb ?_ _ ?_
    · rw [hN, num_append, storeB_length]; rfl
    · rw [show 8 * j + 8 * (5 + b.length) = 8 * (j + 5 + b.length) by omega]
      exact .stop _
  · obtain ⟨L, hL⟩ : ∃ L, L = bitsL fixedL (256 :: symsOf b) := ⟨_, rfl⟩
    refine ⟨3 + L, by omega, by rw [h2, hL], ?_⟩
    refine way_fixed l0 true (8 * j) (2 ^ (8 * bs.length - 3 - L) * num more) (symsOf b) out (fun i hi => ?_) (fixL_pos 256 (by decide)) ?_ _ ?_
    · unfold symsOf at hi
      rw [List.mem_reverse, List.mem_map] at hi
      obtain ⟨x, _, rfl⟩ := hi
      have := x.toNat_lt
      exact ⟨this, fixL_pos _ (by omega)⟩
    · rw [hN, num_append, h1, ← hL, pow_256]
      have e : 8 * bs.length = 3 + L + (8 * bs.length - 3 - L) := by omega
      rw [e, Nat.pow_add, Nat.pow_add, Nat.mul_add, show 3 + L + (8 * bs.length - 3 - L) - 3 - L = 8 * bs.length - 3 - L by omega]
      rw [Nat.mul_assoc, Nat.mul_assoc]
      show 3 + _ + _ = 1 + 2 + _
      omega
    · rw [syms_bytes, ← hL, Nat.add_assoc]
      exact .stop _

theorem IsStream.len_le {b bs : List UInt8} (h : IsStream b bs) : 0 < bs.length ∧ bs.length ≤ 2 * b.length + 5 := by
  rcases h with ⟨rfl, _⟩ | ⟨_, h2⟩
  · rw [storeB_length]; omega
  · have h1 := bitsL_le fixL_far' (256 :: symsOf b)
    rw [List.length_cons, symsOf_length] at h1
    rw [h2]
    omega

/-- A stored block that is not the last one, and a stream. -/
theorem IsStream.two {a b bs : List UInt8} (h : IsStream b bs) (ha : a.length < 65536) : ∃ p, 0 < p ∧ (p + 7) / 8 = 5 + a.length + bs.length ∧ Way fixedL (num (storeB false a ++ bs)) ⟨0, false, 0, 0, []⟩ ⟨11, true, 0, p, a ++ b⟩ := by
  have hlen : (storeB false a).length = 5 + a.length := storeB_length _ _
  obtain ⟨p, hp0, hp, hw⟩ := h.way (num (storeB false a ++ bs)) (5 + a.length) false a [] (by
    rw [List.append_nil, num_append, hlen, ← pow_256, Nat.add_mul_div_left _ _ (Nat.pow_pos (by decide)), Nat.div_eq_of_lt (by rw [← hlen]; exact num_lt _), Nat.zero_add])
  refine ⟨8 * (5 + a.length) + p, by omega, by omega, ?_⟩
  have := way_stored (T := fixedL) (N := num (storeB false a ++ bs)) false false a 0 (num bs) [] ha (by rw [Nat.mul_zero, Nat.pow_zero, Nat.div_one, num_append, hlen]; rfl) _ (by
    rw [List.nil_append, Nat.zero_add]
    exact hw)
  simpa using this

/-- What is read of a stream, with bytes behind. -/
theorem IsStream.alone {b bs : List UInt8} (h : IsStream b bs) (more : List UInt8) : ∃ p, 0 < p ∧ (p + 7) / 8 = bs.length ∧ Way fixedL (num (bs ++ more)) ⟨0, false, 0, 0, []⟩ ⟨11, true, 0, p, b⟩ := by
  obtain ⟨p, h0, h1, h2⟩ := h.way (num (bs ++ more)) 0 false [] more (by simp)
  exact ⟨p, h0, h1, by simpa using h2⟩

theorem known_a : IsStream [97] [75, 4, 0] := .inr (by unfold IsFixed; decide +kernel)
theorem known_hi : storeB true [104, 105] ++ [9] = [1, 2, 0, 253, 255, 104, 105, 9] := by decide +kernel

/-- The codes' lengths, as the steps want them. -/
theorem fixL_sm : Sm (cn fixedL) 16 ≤ 32768 := by decide +kernel
/-- A stream that is all there is whole: it says b, and takes just its bytes. -/
theorem IsStream.ends {b bs : List UInt8} (h : IsStream b bs) (more : List UInt8) {a most : Nat} (D0 : List UInt8) (ha : bs.length ≤ a) (hm : b.length ≤ most) {g : GSt} (hg : AtG fixedL ⟨0, false, 0, 0, []⟩ g) :
    ∃ u, Ends fixedL D0 (num (bs ++ more)) a most g 0 u ∧ u.k = 11 ∧ u.out = b ∧ 0 < u.p ∧ (u.p + 7) / 8 = bs.length := by
  obtain ⟨p, hp0, hp8, hway⟩ := h.alone more
  obtain ⟨u, hs, hu⟩ := hway.steps (D0 := D0) (most := most) fixL_sm fixL_far' (a := a) hg hm (by show p ≤ 8 * a; omega)
  exact ⟨u, hs.done hu.k, hu.k, hu.out, by rw [hu.p]; exact hp0, by rw [hu.p]; exact hp8⟩
end Go.Proofs.YtlknhiihdejpeaaGreatDoor


namespace Go.Proofs.YtlknhiihdejpeaaGreatDoor
open Go Go.RowKit

/-- b as a stream of zlib: its head, a stream that says b, its sum. -/
def Packed (b s : List UInt8) : Prop := ∃ bs, IsStream b bs ∧ s = [0x78, 0x01] ++ bs ++ bigN (adWord (adOf b))

theorem pack_any (fixed : Bool) (A : Option Addr) (n c : Nat) (b : List UInt8) (w : World) (hb : Holds w 1 A n (bvals b)) (hl : b.length = n) (hc : n ≤ c) (hn : n ≤ 4096) :
    Calls Tryz.prog 8 #[.slice A n c, .bool fixed] w fun e w' => ∃ v s, e = .returned v ∧ Packed b s ∧ s.length ≤ 9000 ∧ w'.ownsRow w.heap.size 5 1 v s.length (bvals s) ∧ Only [] w w' := by
  have hlen : ∀ bs, IsStream b bs → bs.length ≤ 8197 := fun bs h => by have := h.len_le; omega
  have hL : ∀ bs, IsStream b bs → bs.length ≤ 90000 := fun bs h => by have := hlen bs h; omega
  have hout : ∀ (e : Ending) (w' : World), (∃ v bs, e = .returned v ∧ IsStream b bs ∧ w'.ownsRow w.heap.size 5 1 v ([0x78, 0x01] ++ bs ++ bigN (adWord (adOf b))).length (bvals ([0x78, 0x01] ++ bs ++ bigN (adWord (adOf b)))) ∧ Only [] w w') →
      ∃ v s, e = .returned v ∧ Packed b s ∧ s.length ≤ 9000 ∧ w'.ownsRow w.heap.size 5 1 v s.length (bvals s) ∧ Only [] w w' := fun e w' ⟨v, bs, h1, h2, h3, h4⟩ => by
    refine ⟨v, _, h1, ⟨bs, h2, rfl⟩, ?_, h3, h4⟩
    have := hlen bs h2
    simp [bigN]
    omega
  cases fixed with
  | true =>
    refine (pack_fixed A n c b w hb hl hc (by omega) (IsStream b) hL fun w1 ho => ?_).mono fun e w' h => hout e w' h
    refine (fixedP_any A n c b w1 (hb.keep ho (by simp)) hl (by omega)).mono ?_
    rintro e w' ⟨v, bs, rfl, h1, h2, h3⟩
    exact ⟨v, bs, rfl, .inr h1, h2, h3⟩
  | false =>
    refine (pack_store A n c b w hb hl hc (by omega) (IsStream b) hL fun w1 ho => ?_).mono fun e w' h => hout e w' h
    refine (store_any A n c b w1 (hb.keep ho (by simp)) hl (by omega)).mono ?_
    rintro e w' ⟨v, rfl, h1, h2⟩
    exact ⟨v, _, rfl, .inl ⟨rfl, by omega⟩, h1, h2⟩
end Go.Proofs.YtlknhiihdejpeaaGreatDoor

