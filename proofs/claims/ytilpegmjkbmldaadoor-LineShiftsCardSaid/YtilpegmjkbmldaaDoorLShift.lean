/-
  LineShifts: cells that are put in, and taken out again at the same place. (Of what comes in nothing is asked.)
-/
import Derived.Test.YtilpegmjkbmldaaDoorLnO
import Derived.Test.YtilpegmjkbmldaaDoorLnN
import Derived.Test.YtilpegmjkbmldaaDoorLnF
import Derived.Test.YtilpegmjkbmldaaDoorLnI
import Derived.Test.YtilpegmjkbmldaaDoorLoose
import Derived.BigRegion
namespace Go.Proofs.YtilpegmjkbmldaaDoor.lshift
open Go Go.RowKit Go.ChangeShapes Go.WideShapes Go.ChangeAt

/-- What a line is like, put in and taken out. -/
theorem ins_narrow (L : List Ce) (k m : Nat) (a : Lk) (hL : ∀ c ∈ L, c.k = 0) (hk : k + m ≤ L.length) :
    insL L k m a = L.take k ++ List.replicate m (blankC a) ++ (L.drop k).take (L.length - (k + m)) := by
  unfold insL
  rw [mendL_narrow L hL]
  have e : fillL (moveOn L k m) k m a = L.take k ++ List.replicate m (blankC a) ++ (L.drop k).take (L.length - (k + m)) := by
    unfold fillL moveOn
    have hl : (L.take (k + m)).length = k + m := by rw [List.length_take]; omega
    rw [List.take_append_of_le_length (by omega), List.take_take, show min k (k + m) = k by omega]
    have h2 := List.drop_left (l₁ := L.take (k + m)) (l₂ := (L.drop k).take (L.length - (k + m)))
    rw [hl] at h2
    rw [h2]
  rw [e]
  refine mendL_narrow _ fun c hc => ?_
  rcases List.mem_append.1 hc with hc | hc
  · rcases List.mem_append.1 hc with hc | hc
    · exact hL c (List.mem_of_mem_take hc)
    · exact narrow_rep m a c hc
  · exact hL c (List.mem_of_mem_drop (List.mem_of_mem_take hc))
theorem shifted (L : List Ce) (k m : Nat) (a : Lk) (hL : ∀ c ∈ L, c.k = 0) (hk : k + m ≤ L.length) :
    delL (insL L k m a) k m a = L.take (L.length - m) ++ List.replicate m (blankC a) := by
  have hI := ins_narrow L k m a hL hk
  have hlen : (insL L k m a).length = L.length := by rw [hI]; simp; omega
  have hn : ∀ c ∈ insL L k m a, c.k = 0 := by
    rw [hI]
    intro c hc
    rcases List.mem_append.1 hc with hc | hc
    · rcases List.mem_append.1 hc with hc | hc
      · exact hL c (List.mem_of_mem_take hc)
      · exact narrow_rep m a c hc
    · exact hL c (List.mem_of_mem_drop (List.mem_of_mem_take hc))
  have hl1 : (L.take k ++ List.replicate m (blankC a)).length = k + m := by simp; omega
  have hd : (insL L k m a).drop (k + m) = (L.drop k).take (L.length - (k + m)) := by
    rw [hI]
    have h2 := List.drop_left (l₁ := L.take k ++ List.replicate m (blankC a)) (l₂ := (L.drop k).take (L.length - (k + m)))
    rwa [hl1] at h2
  have ht : (insL L k m a).take k = L.take k := by
    rw [hI, List.append_assoc, List.take_append_of_le_length (by rw [List.length_take]; omega), List.take_take, Nat.min_self]
  unfold delL
  rw [mendL_narrow _ hn, hlen]
  have hl2 : ((insL L k m a).take k ++ (insL L k m a).drop (k + m)).length = L.length - m := by rw [hd]; simp; omega
  have e1 : (moveUp (insL L k m a) k m).take (L.length - m) = L.take (L.length - m) := by
    unfold moveUp
    rw [List.take_append_of_le_length (by omega), List.take_of_length_le (by omega), ht, hd]
    have h3 := List.take_add (l := L) (i := k) (j := L.length - (k + m))
    rw [show k + (L.length - (k + m)) = L.length - m by omega] at h3
    exact h3.symm
  have e2 : (moveUp (insL L k m a) k m).drop (L.length - m + m) = [] := List.drop_eq_nil_of_le (by rw [moveUp_len _ k m (by omega), hlen]; omega)
  have e : fillL (moveUp (insL L k m a) k m) (L.length - m) m a = L.take (L.length - m) ++ List.replicate m (blankC a) := by
    unfold fillL
    rw [e1, e2, List.append_nil]
  rw [e]
  refine mendL_narrow _ fun c hc => ?_
  rcases List.mem_append.1 hc with hc | hc
  · exact hL c (List.mem_of_mem_take hc)
  · exact narrow_rep m a c hc
theorem shifted_get (L : List Ce) (m i : Nat) (a : Lk) (hm : m ≤ L.length) (hi : i < L.length) :
    (L.take (L.length - m) ++ List.replicate m (blankC a))[i]? = if i < L.length - m then L[i]? else some (blankC a) := by
  split
  · rename_i h
    rw [List.getElem?_append_left (by rw [List.length_take]; omega), List.getElem?_take, if_pos h]
  · rename_i h
    rw [List.getElem?_append_right (by rw [List.length_take]; omega), List.getElem?_replicate, if_pos (by rw [List.length_take]; omega)]

/-- A line of the call's own, wherever it comes to lie. -/
def isLn (B n : Nat) (L : List Ce) : (Value → Prop) × (Value → World → Prop) :=
  (fun v => ∃ g, v = .slice (some ⟨g, 0, none⟩) n n, fun v w => ∀ g, v = .slice (some ⟨g, 0, none⟩) n n → B ≤ g ∧ Has w g 37 (cvals L).toArray)
theorem isLn_later (B n : Nat) (L : List Ce) : ∀ v w w', Only [] w w' → (isLn B n L).2 v w → (isLn B n L).2 v w' := fun v w w' ho h g he => ⟨(h g he).1, (h g he).2.only ho (by simp)⟩
theorem isLn_of {B n g : Nat} {L : List Ce} {w : World} {e : Ending} {w' : World} (he : e = .returned (.slice (some ⟨g, 0, none⟩) n n)) (hN : NewLine w w' g L) (hB : B ≤ w.heap.size) : ∃ v, e = .returned v ∧ Only [] w w' ∧ (isLn B n L).1 v ∧ (isLn B n L).2 v w' :=
  ⟨_, he, hN.only, ⟨g, rfl⟩, fun g' he' => by injection he' with he'; injection he' with he'; injection he' with he'; subst he'; exact ⟨Nat.le_trans hB hN.new, hN.has⟩⟩

set_option maxRecDepth 100000 in
set_option maxHeartbeats 4000000 in
theorem out (A : Option Addr) (n c : Nat) (L : List Ce) (col z : Int) (a : Lk) (w : World) (h : LineAt w A n c L) (hm : n ≤ 9223372036854775807) (ho : 120 < n ∨ rightL L = false ∨ col < 0 ∨ (n : Int) ≤ col ∨ z < 1 ∨ (n : Int) < z) :
    Calls Tryd.prog 6 #[.slice A n c, .int .i64 col, .int .i64 z, a.val] w fun e w' => e = .returned (.bool true) ∧ Only [] w w' := by
  show Calls Tryd.prog 6 #[.slice A n c, .int .i64 col, .int .i64 z, .agg #[.int .i64 a.fg, .int .i64 a.bg, .int .i64 a.fl]] w _
  have o0 := (Only.refl [] w).alloc (.cells #[.int .i64 a.fg, .int .i64 a.bg, .int .i64 a.fl] 23)
  have HK := hide (known_any (w.alloc (.cells #[.int .i64 a.fg, .int .i64 a.bg, .int .i64 a.fl] 23)))
  have HR := hide (fun w1 (h : LineAt w1 A n c L) (hn : n ≤ 120) => rright_any A n c L w1 h (by omega))
  have HO := hide (And.intro o0 (h.keep o0))
  generalize rightL L = R at *
  clear o0 h
  by_cases k1 : 120 < n
  · have k1' : (120 : Int) < (n : Int) := by omega
    clear ho
    go_enter Tryd.func6, Tryd.ntmps6
    go_wp2_with fail
    refine (HK.out).mono ?_
    rintro e w1 ⟨rfl, ho1⟩
    go_wp2_with fail
    go_ret
    exact ⟨rfl, HO.out.1.trans ho1 (by simp)⟩
  · have k1' : ¬ (120 : Int) < (n : Int) := by omega
    have HR := hide (fun w1 (h : LineAt w1 A n c L) => HR.out w1 h (by omega))
    cases R with
    | false =>
      clear ho
      go_enter Tryd.func6, Tryd.ntmps6
      go_wp2_with fail
      refine (HK.out).mono ?_
      rintro e w1 ⟨rfl, ho1⟩
      have H1 := hide (And.intro (HO.out.1.trans ho1 (S := []) (by simp)) (HO.out.2.keep ho1))
      clear ho1
      go_wp2_with fail
      refine (HR.out _ H1.out.2).mono ?_
      rintro e w2 ⟨rfl, ho2⟩
      go_wp2_with fail
      go_ret
      exact ⟨rfl, H1.out.1.trans ho2 (by simp)⟩
    | true =>
      have ho : col < 0 ∨ (¬ col < 0 ∧ (n : Int) ≤ col) ∨ (¬ col < 0 ∧ ¬ (n : Int) ≤ col ∧ z < 1) ∨ (¬ col < 0 ∧ ¬ (n : Int) ≤ col ∧ ¬ z < 1 ∧ (n : Int) < z) := by
        rcases ho with h | h | h | h | h | h
        · omega
        · cases h
        all_goals omega
      rcases ho with k2 | ⟨k2, k3⟩ | ⟨k2, k3, k4⟩ | ⟨k2, k3, k4, k5⟩
      all_goals
        go_enter Tryd.func6, Tryd.ntmps6
        go_wp2_with fail
        refine (HK.out).mono ?_
        rintro e w1 ⟨rfl, ho1⟩
        have H1 := hide (And.intro (HO.out.1.trans ho1 (S := []) (by simp)) (HO.out.2.keep ho1))
        clear ho1
        go_wp2_with fail
        refine (HR.out _ H1.out.2).mono ?_
        rintro e w2 ⟨rfl, ho2⟩
        go_wp2_with fail
        go_ret
        exact ⟨rfl, H1.out.1.trans ho2 (by simp)⟩

theorem List.nth_some {L : List Ce} {k : Nat} (h : k < L.length) : ∃ c, L[k]? = some c := ⟨L[k], List.getElem?_eq_getElem h⟩
set_option maxRecDepth 100000 in
set_option maxHeartbeats 8000000 in
theorem main (A : Option Addr) (n c : Nat) (L : List Ce) (k m : Nat) (a : Lk) (w : World) (h : LineAt w A n c L) (hn : n ≤ 120) (hR : rightL L = true) (hk : k < n) (hm1 : 1 ≤ m) (hm2 : m ≤ n) :
    Calls Tryd.prog 6 #[.slice A n c, .int .i64 k, .int .i64 m, a.val] w fun e w' => e = .returned (.bool true) ∧ Only [] w w' := by
  show Calls Tryd.prog 6 #[.slice A n c, .int .i64 k, .int .i64 m, .agg #[.int .i64 a.fg, .int .i64 a.bg, .int .i64 a.fl]] w _
  obtain ⟨b, o, rfl⟩ := h.addr (by omega)
  have o0 := (Only.refl [] w).alloc (.cells #[.int .i64 a.fg, .int .i64 a.bg, .int .i64 a.fl] 23)
  have hb := Has.new w 23 #[.int .i64 a.fg, .int .i64 a.bg, .int .i64 a.fl]
  have HK := hide (known_any (w.alloc (.cells #[.int .i64 a.fg, .int .i64 a.bg, .int .i64 a.fl] 23)))
  have HR := hide (fun w1 (h : LineAt w1 (some ⟨b, o, none⟩) n c L) => rright_any (some ⟨b, o, none⟩) n c L w1 h (by omega))
  rw [hR] at HR
  have hl := h.len
  have HO := hide (And.intro o0 (And.intro (h.keep o0) (And.intro hb (And.intro hl (And.intro hn (And.intro hk (And.intro hm1 hm2)))))))
  have k1 : ¬ (120 : Int) < (n : Int) := by omega
  have k2 : ¬ (k : Int) < 0 := by omega
  have k3 : ¬ (n : Int) ≤ (k : Int) := by omega
  have k4 : ¬ (m : Int) < 1 := by omega
  have k5 : ¬ (n : Int) < (m : Int) := by omega
  clear o0 h hb hn hR hl hk hm1 hm2
  go_enter Tryd.func6, Tryd.ntmps6
  go_wp2_with fail
  refine (HK.out).mono ?_
  rintro e w1 ⟨rfl, ho1⟩
  have H1 := hide (And.intro (HO.out.1.trans ho1 (S := []) (by simp)) (And.intro (HO.out.2.1.keep ho1) (HO.out.2.2.1.only ho1 (by simp))))
  clear ho1 HK
  go_wp2_with fail
  refine (HR.out _ H1.out.2.1).mono ?_
  rintro e w2 ⟨rfl, ho2⟩
  have H2 := hide (And.intro (H1.out.1.trans ho2 (S := []) (by simp)) (And.intro (H1.out.2.1.keep ho2) (H1.out.2.2.only ho2 (by simp))))
  clear ho2 H1 HR
  go_wp2_with fail
  go_loopw [9] (fun i wr => ∃ j : Nat, j ≤ n ∧ i = .int .i64 j ∧ (∀ q C, q < j → L[q]? = some C → C.k = 0) ∧ wr = w2) (fun i _ => n - (intOf i).toNat)
  case atStart => exact ⟨0, Nat.zero_le _, rfl, by intro q C hq; omega, rfl⟩
  case round =>
    obtain ⟨j, hj, rfl, hall, rfl⟩ := hrel
    obtain ⟨_, _, _, hl, hn, hk, hm1, hm2⟩ := HO.out
    by_cases hlt : j < n
    · obtain ⟨C, hC⟩ := List.nth_some (L := L) (k := j) (by omega)
      obtain ⟨_, c1, _⟩ := H2.out.2.1.ce j C hC
      have hkk : (j : Int) < (n : Int) := by omega
      have hw1 : IntKind.i64.wrap ((j : Int) + 1) = (j : Int) + 1 := IntWalk.i64_in _ ⟨by omega, by omega⟩
      have HF := hide (And.intro hall hC)
      clear hall hC hl hn hk hm1 hm2
      by_cases hz : C.k = 0
      · rw [hz] at c1
        go_wp2_with fail
        go_roundw
        case rel =>
          refine ⟨j + 1, by omega, by go_num, fun q D hq hD => ?_, trivial⟩
          rcases Nat.lt_or_ge q j with h1 | h1
          · exact HF.out.1 q D h1 hD
          · obtain rfl : q = j := by omega
            have := HF.out.2.symm.trans hD
            injection this with this
            rw [← this]; exact hz
        case measure => simp [intOf]; omega
      · generalize C.k = K at *
        have hz2 : (K != 0) = true := by simpa using hz
        go_wp2_with fail
        go_ret
        exact ⟨rfl, H2.out.1⟩
    · obtain rfl : j = n := by omega
      have hnar : ∀ C ∈ L, C.k = 0 := fun C hC => by
        obtain ⟨q, hq, hqe⟩ := List.mem_iff_getElem.1 hC
        exact hall q C (by omega) (by rw [List.getElem?_eq_getElem hq, hqe])
      obtain ⟨m', hm'⟩ : ∃ m', m' = min m (j - k) := ⟨_, rfl⟩
      have hwn : withinN j k m = m' := by unfold withinN; rw [if_neg (by omega)]; omega
      have hfin := shifted L k m' a hnar (by omega)
      have h2 := H2.out.2.1
      have hb2 := H2.out.2.2
      have HI := hide (fun w' (ho : Only [] wr w') => insert_any (some ⟨b, o, none⟩) j c L k m' m a w' (h2.keep ho) (by omega) hwn (by omega) (by omega))
      have hil : (insL L k m' a).length = j := by rw [ins_narrow L k m' a hnar (by omega)]; simp; omega
      have HD := hide (fun g w' (hh : Has w' g 37 (cvals (insL L k m' a)).toArray) => delete_any (some ⟨g, 0, none⟩) j j (insL L k m' a) k m' m a w' ⟨by have := hh.holds; rwa [hil] at this, Nat.le_refl _, by simp⟩ (by omega) hwn (by omega) (by omega))
      rw [hfin] at HD
      have d0 := later_cell (show wr.cell? ⟨w.heap.size, 0, none⟩ = some (.int .i64 a.fg) from hb2.cell 0)
      have d1 := later_cell (show wr.cell? ⟨w.heap.size, 1, none⟩ = some (.int .i64 a.bg) from hb2.cell 1)
      have d2 := later_cell (show wr.cell? ⟨w.heap.size, 2, none⟩ = some (.int .i64 a.fl) from hb2.cell 2)
      have hRl : (L.take (L.length - m') ++ List.replicate m' (blankC a)).length = j := by simp; omega
      have hget := fun i hi => shifted_get L m' i a (by omega) hi
      have HG := hide (And.intro hm' (And.intro hRl hget))
      unfold Lk.val Lk.cells at HI HD
      generalize insL L k m' a = I1 at *
      generalize L.take (L.length - m') ++ List.replicate m' (blankC a) = I2 at *
      clear hall hnar hm' hwn hfin h2 hb2 hil hRl hget hl hn hk hm1 hm2 hlt
      go_upto_region 10 with fail
      refine region_loose 9 101 (fun i => if i = 4 then some (isLn wr.heap.size j I1) else if i = 8 then some (isLn wr.heap.size j I2) else none) (by kernel_rfl) (by kernel_rfl) (by kernel_rfl) (by rfl) (by rfl) (fun i hi => ?_) (fun i S hS => ?_) ?_
      · have hi : 10 ≤ i := hi
        show (if i = 4 then _ else _) = none
        iterate 2 rw [if_neg (by omega)]
      · repeat' split at hS
        all_goals first | (injection hS with hS; subst hS; exact isLn_later _ _ _) | cases hS
      simp only [List.take_succ_cons, List.take_zero, List.drop_succ_cons, List.drop_zero]
      refine wpLoose_chunk 4 (by kernel_rfl) (by rfl) ?_
      simp only [List.take_succ_cons, List.take_zero, List.drop_succ_cons, List.drop_zero, List.length_cons, List.length_nil, Nat.zero_add, Nat.reduceAdd]
      iterate 4 (go_big_quiet_step (fail))
      refine wpQuiet_nil ?_
      refine wpLoose_step (isLn wr.heap.size j I1) rfl (by rfl) ⟨_, 0, rfl⟩ (fun w' ho hk => ?_) (fun v hv => ?_)
      · go_simp
        exact ⟨rfl, (HI.out w' ho).mono fun e w'' h => by obtain ⟨g, h1, h2⟩ := h; exact isLn_of h1 h2 ho.size⟩
      obtain ⟨g1, rfl⟩ := hv
      go_simp
      refine wpLoose_chunk 3 (by kernel_rfl) (by rfl) ?_
      simp only [List.take_succ_cons, List.take_zero, List.drop_succ_cons, List.drop_zero, List.length_cons, List.length_nil, Nat.zero_add, Nat.reduceAdd]
      iterate 3 (go_big_quiet_step (fail))
      refine wpQuiet_nil ?_
      refine wpLoose_step (isLn wr.heap.size j I2) rfl (by rfl) ⟨_, 0, rfl⟩ (fun w' ho hk => ?_) (fun v hv => ?_)
      · have k9 := hk _ (Array.mem_of_getElem? (i := 0) (by rfl)) (by rfl)
        have k9 : (isLn wr.heap.size j I1).1 (.slice (some ⟨g1, 0, none⟩) j j) ∧ (isLn wr.heap.size j I1).2 (.slice (some ⟨g1, 0, none⟩) j j) w' := k9
        have k10 := (k9.2 g1 rfl).2
        go_simp
        exact ⟨rfl, (HD.out g1 w' k10).mono fun e w'' h => by obtain ⟨g, h1, h2⟩ := h; exact isLn_of h1 h2 ho.size⟩
      obtain ⟨g2, rfl⟩ := hv
      go_simp
      intro w9 ho9 hT
      have hln0 := hT 8 (by omega)
      have hln : (isLn wr.heap.size j I2).1 (.slice (some ⟨g2, 0, none⟩) j j) ∧ (isLn wr.heap.size j I2).2 (.slice (some ⟨g2, 0, none⟩) j j) w9 := hln0
      obtain ⟨_, hHas⟩ := hln.2 g2 rfl
      have H9 := hide (And.intro (H2.out.1.trans ho9 (S := []) (by simp)) (And.intro (H2.out.2.1.keep ho9) (And.intro (H2.out.2.2.only ho9 (by simp)) hHas)))
      clear hT hln hln0 hHas ho9 HI HD d0 d1 d2
      go_wp2_with fail
      have h120 : j ≤ 120 := HO.out.2.2.2.2.1
      go_loopw [11] (fun i wr => ∃ q : Nat, q ≤ j ∧ i = .int .i64 q ∧ Only [] w9 wr) (fun i _ => j - (intOf i).toNat)
      case atStart => exact ⟨0, Nat.zero_le _, rfl, Only.refl _ _⟩
      case round =>
        obtain ⟨q, hq, rfl, ho⟩ := hrel
        by_cases hqlt : q < j
        · obtain ⟨_, h9, hb9, hh9⟩ := H9.out
          obtain ⟨hm', hI2l, hget⟩ := HG.out
          obtain ⟨_, _, _, hl, hn, hk, hm1, hm2⟩ := HO.out
          have hqj : (q : Int) < (j : Int) := by omega
          have hw1 : IntKind.i64.wrap ((q : Int) + 1) = (q : Int) + 1 := IntWalk.i64_in _ ⟨by omega, by omega⟩
          obtain ⟨C, hC⟩ := List.nth_some (L := L) (k := q) (by omega)
          obtain ⟨D, hD⟩ := List.nth_some (L := I2) (k := q) (by omega)
          have hg := hget q (by omega)
          rw [hD, hC] at hg
          obtain ⟨c0, c1, c2, c3, c4⟩ := (h9.keep ho).ce q C hC
          obtain ⟨⟨e0, e1, e2, e3, e4⟩, _⟩ := (hh9.only ho (by simp)).ce q D hD
          have b0 : wr.cell? ⟨w.heap.size, 0, none⟩ = some (.int .i64 a.fg) := (hb9.only ho (by simp)).cell 0
          have b1 : wr.cell? ⟨w.heap.size, 1, none⟩ = some (.int .i64 a.bg) := (hb9.only ho (by simp)).cell 1
          have b2 : wr.cell? ⟨w.heap.size, 2, none⟩ = some (.int .i64 a.fl) := (hb9.only ho (by simp)).cell 2
          have HF := hide ho
          by_cases hin : q < L.length - m'
          · rw [if_pos hin] at hg
            injection hg with hg
            subst hg
            have hne := ce_ne D D
            rw [show D.eqB D = true from Ce.eqB_iff.2 rfl] at hne
            simp only [Bool.not_true] at hne
            unfold Ce.val at hne
            have hcase : (q : Int) < (k : Int) ∨ (¬ (q : Int) < (k : Int) ∧ IntKind.i64.wrap ((j : Int) - (m : Int)) = (j : Int) - (m : Int) ∧ (q : Int) < (j : Int) - (m : Int)) := by
              rcases Nat.lt_or_ge q k with h | h
              · exact .inl (by omega)
              · exact .inr ⟨by omega, IntWalk.i64_in _ ⟨by omega, by omega⟩, by omega⟩
            clear hget hin hC hD b0 b1 b2 h9 hb9 hh9 hl hn hk hm1 hm2 hm' hI2l ho h120
            rcases hcase with t1 | ⟨t1, t2, t3⟩
            all_goals
              go_upto_region 17 with fail
              go_region
              go_wp2_with fail
              go_roundw
            case rel => exact ⟨q + 1, by omega, by go_num, HF.out.drew⟩
            case measure => simp [intOf]; omega
            case rel => exact ⟨q + 1, by omega, by go_num, HF.out.drew⟩
            case measure => simp [intOf]; omega
          · rw [if_neg hin] at hg
            injection hg with hg
            subst hg
            have hne := ce_ne (blankC a) (blankC a)
            rw [show (blankC a).eqB (blankC a) = true from Ce.eqB_iff.2 rfl] at hne
            simp only [Bool.not_true] at hne
            unfold Ce.val blankC at hne
            unfold blankC at e0 e1 e2 e3 e4
            simp only at hne e0 e1 e2 e3 e4
            have t1 : ¬ (q : Int) < (k : Int) := by omega
            have t2 : IntKind.i64.wrap ((j : Int) - (m : Int)) = (j : Int) - (m : Int) := IntWalk.i64_in _ ⟨by omega, by omega⟩
            have t3 : ¬ (q : Int) < (j : Int) - (m : Int) := by omega
            clear hget hin hC hD c0 c1 c2 c3 c4 h9 hb9 hh9 hl hn hk hm1 hm2 hm' hI2l ho h120
            go_upto_region 19 with fail
            go_region
            go_wp2_with fail
            go_roundw
            case rel => exact ⟨q + 1, by omega, by go_num, HF.out.drew⟩
            case measure => simp [intOf]; omega
        · obtain rfl : q = j := by omega
          have HF := hide ho
          clear ho
          go_wp2_with fail
          go_ret
          exact ⟨rfl, H9.out.1.trans HF.out (by simp)⟩

theorem core (A : Option Addr) (n c : Nat) (L : List Ce) (col z : Int) (a : Lk) (w : World) (h : LineAt w A n c L) (hm : n ≤ 9223372036854775807) :
    Calls Tryd.prog 6 #[.slice A n c, .int .i64 col, .int .i64 z, a.val] w fun e w' => e = .returned (.bool true) ∧ Only [] w w' := by
  by_cases ho : 120 < n ∨ rightL L = false ∨ col < 0 ∨ (n : Int) ≤ col ∨ z < 1 ∨ (n : Int) < z
  · exact out A n c L col z a w h hm ho
  · obtain ⟨k, rfl⟩ : ∃ k : Nat, col = k := ⟨col.toNat, by omega⟩
    obtain ⟨m, rfl⟩ : ∃ m : Nat, z = m := ⟨z.toNat, by omega⟩
    refine main A n c L k m a w h (by omega) ?_ (by omega) (by omega) (by omega)
    cases hR : rightL L with
    | true => rfl
    | false => exact absurd (.inr (.inl hR)) ho

set_option maxRecDepth 100000 in
theorem lifted (os : Os) (started : os.Started) (H : Type) (enc : TypeId × Value → H) :
    ReturnsInHanded {} Tryd.checked os 6 .any (fun w args => (Rows.lineShiftsSpec.pre enc Tryd.prog Tryd.f6 [] false w args ∧ laidMetH Tryd.prog laidB w) ∧ sizedMet enc Tryd.prog Tryd.f6 (OpenSpec.ofChange Rows.lineShiftsSpec) false w args)
      (Rows.lineShiftsSpec.post enc Tryd.prog Tryd.f6 false true false false) := by
  refine returnsInHanded_of_change_and (C := Tryd.checked) (X := fun w _ => laidMetH Tryd.prog laidB w) (fun _ _ _ hh h => h.of_heap hh) own_knob started (by kernel_rfl) Tryd.func6
    (ChangeSpec.witness_shaped (enc := enc) (C := Tryd.checked) (os := os) (X := fun w _ => laidMetH Tryd.prog laidB w) false (World.laidAll Tryd.prog os laidB) #[.slice none 0 0, .int .i64 0, .int .i64 0, .agg #[.int .i64 0, .int .i64 0, .int .i64 0]] 8 (World.laidAll_os _ _ _) (World.shaped_of_ZipB (by kernel_rfl) (by kernel_rfl)) (by kernel_rfl) (by kernel_rfl) (by kernel_rfl) (start_met os _)) ?_
  intro W base args ds gs before hval0 hW _ _ hL _
  have hval : ∀ (j : Nat) t v, Tryd.f6.params[j]? = some t → args[j]? = some v → Value.okWide Tryd.prog W .any base t v := hval0
  have hW' := hW
  obtain ⟨p, q, hA0, hV, rfl, hfz, hnd⟩ := hW
  have hA : DataW.TrodAll enc Tryd.prog W 0 (fun _ => true) true Tryd.f6.params.toList args.toList ds p := hA0
  rw [Tryd.params6] at hA hval
  obtain ⟨v0, vs0, d0, ds0, p0, q0, hargs, rfl, rfl, h0, r0⟩ := trodAll_cons hA
  obtain ⟨v1, vs1, d1, ds1, p1, q1, rfl, rfl, rfl, h1, r1⟩ := trodAll_cons r0
  obtain ⟨v2, vs2, d2, ds2, p2, q2, rfl, rfl, rfl, h2, r2⟩ := trodAll_cons r1
  obtain ⟨v3, vs3, d3, ds3, p3, q3, rfl, rfl, rfl, h3, r3⟩ := trodAll_cons r2
  obtain ⟨rfl, rfl, rfl⟩ := trodAll_nil r3
  obtain rfl : args = #[v0, v1, v2, v3] := by cases args; simp_all
  obtain ⟨A0, n0, c0, L0, rfl, hl0, hm0, hr0⟩ := open_line (hval 0 25 v0 rfl rfl) h0
  unfold maxLen at hm0
  obtain ⟨z1, rfl, rfl, rfl, _⟩ := open_int Tryd.underlying3 (hval 1 3 v1 rfl rfl) h1
  obtain ⟨z2, rfl, rfl, rfl, _⟩ := open_int Tryd.underlying3 (hval 2 3 v2 rfl rfl) h2
  obtain ⟨a3, rfl⟩ := open_lk (hval 3 23 v3 rfl rfl) h3
  refine (core A0 n0 c0 L0 z1 z2 a3 W hl0 hm0).mono fun e W' ⟨he, ho⟩ => ?_
  subst he
  exact ⟨_, rfl, law_post rfl hW' (by intro t ht; revert t; exact of_decide_eq_true (by kernel_rfl)) rfl rfl ho⟩

theorem holds : Rows.LineShiftsSaid :=
  OpenClaim.holds_of_wide 6 Tryd.f6 rfl rfl rfl rfl rfl rfl rfl ⟨rfl, rfl, rfl, rfl, rfl⟩ rfl rfl rfl rfl rfl (by kernel_rfl) Tryd.func6 (by kernel_rfl)
    (of_decide_eq_true (by kernel_rfl)) (by unfold Func.isWrapper; first | (rw [if_pos (by decide +kernel)]; kernel_rfl) | (rw [if_neg (by decide +kernel)]; exact ⟨rfl, rfl⟩))
    (fun os started H enc _ => lifted os started H enc)

theorem proved : Rows.LineShiftsCardSaid :=
  Claim7.holds_tied_plain_at .later [] Rows.lineShiftsCard.laidKinds true Rows.lineShiftsCard.stood.harness false
    holds (fun _ h => by cases h) (by kernel_rfl) (fun _ h => by cases h) lineShifts_row_tie rfl ⟨rfl, rfl⟩ (by kernel_rfl) rfl
    (fun f fn hf hfn => by
      obtain rfl : f = 6 := Option.some.inj ((show Tryd.prog.funcNamed "phosphor/phosphorlaw13.LineShifts" = some 6 by kernel_rfl).symm.trans hf) |>.symm
      obtain rfl : fn = Tryd.f6 := (Option.some.inj (Tryd.func6.symm.trans hfn)).symm
      exact ⟨by kernel_rfl, fun j t ht => by
        rw [Tryd.params6] at ht
        have hm : t ∈ [25, 3, 3, 23] := by simpa using Array.mem_of_getElem? ht
        have hall : ([25, 3, 3, 23].all fun u => !Tryd.prog.wantsStandIn u) = true := by kernel_rfl
        exact (show Tryd.prog.wantsStandIn t = false by simpa using List.all_eq_true.1 hall t hm)⟩)
    (by kernel_rfl)
end Go.Proofs.YtilpegmjkbmldaaDoor.lshift
