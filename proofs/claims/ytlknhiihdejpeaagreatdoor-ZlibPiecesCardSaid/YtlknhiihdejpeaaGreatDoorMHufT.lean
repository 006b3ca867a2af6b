/-
  The codes said a second time: New, walked. | The codes said a second time: New that fails, Code, Symbols.
-/
import Derived.Test.YtlknhiihdejpeaaGreatDoorMFlD
namespace Go.Proofs.YtlknhiihdejpeaaGreatDoor
open Go Go.RowKit

/-- A row of numbers 0. -/
def uvals (f : Nat → Nat) (n : Nat) : List Value := (List.range n).map fun i => Value.int .u32 (f i : Int)
theorem uvals_length (f : Nat → Nat) (n : Nat) : (uvals f n).length = n := by simp [uvals]
theorem uvals_get (f : Nat → Nat) (n i : Nat) (h : i < n) : (uvals f n)[i]? = some (.int .u32 (f i : Int)) := by simp [uvals, h]
theorem uvals_congr {f f' : Nat → Nat} {n : Nat} (h : ∀ i, i < n → f i = f' i) : uvals f n = uvals f' n := by
  unfold uvals
  apply List.map_congr_left
  intro i hi
  rw [h i (List.mem_range.1 hi)]
theorem uvals_set (f f' : Nat → Nat) (n i x : Nat) (_ : i < n) (h1 : f' i = x) (h2 : ∀ k, k < n → k ≠ i → f' k = f k) : (uvals f n).set i (.int .u32 (x : Int)) = uvals f' n := by
  apply List.ext_getElem?
  intro k
  rw [List.getElem?_set, uvals_length]
  by_cases hk : k < n
  · by_cases he : i = k
    · subst he; rw [if_pos rfl, if_pos hk, uvals_get _ _ _ hk, h1]
    · rw [if_neg he, uvals_get _ _ _ hk, uvals_get _ _ _ hk, h2 k hk (fun e => he e.symm)]
  · have e1 : (uvals f n)[k]? = none := List.getElem?_eq_none (by rw [uvals_length]; omega)
    have e2 : (uvals f' n)[k]? = none := List.getElem?_eq_none (by rw [uvals_length]; omega)
    rw [e1, e2]
    by_cases he : i = k
    · rw [if_pos he, if_neg (by omega)]
    · rw [if_neg he]

theorem u32_info : (Tryz.prog.info? 60).map (fun i => (i.zero, i.size, i.bytes)) = some (some (.int .u32 0), 1, 4) := by kernel_rfl
theorem urow_eq (m : Nat) : madeCells #[.int .u32 0] m = (uvals (fun _ => 0) m).toArray := by
  apply Array.ext_getElem?
  intro i
  by_cases h : i < m
  · simp [madeCells, uvals, h, Nat.mod_one]
  · simp [madeCells, uvals, h]

/-- Block g is a reference table whose two rows hold the lengths and the numbers f. -/
structure RTf (w : World) (g : Nat) (l : List UInt8) (f : Nat → Nat) (A B : Option Addr) (c c' : Nat) : Prop where
  has : Has w g 130 #[.slice A l.length c, .slice B l.length c']
  lens : w.ownsRow 0 5 1 (.slice A l.length c) l.length (bvals l)
  codes : w.ownsRow 0 60 1 (.slice B l.length c') l.length (uvals f l.length)

theorem own_empty {W : World} {g : Nat} (h : Has W g 5 #[]) : W.ownsRow 0 5 1 (.slice (some ⟨g, 0, none⟩) 0 0) 0 (bvals []) :=
  ⟨rfl, .inr ⟨g, 0, #[], rfl, Nat.zero_le _, h, Nat.le_refl _, by unfold maxLen; omega, rfl, rfl⟩⟩
theorem own_emptyB {W : World} {g B : Nat} (hB : B ≤ g) (h : Has W g 5 #[]) : W.ownsRow B 5 1 (.slice (some ⟨g, 0, none⟩) 0 0) 0 (bvals []) :=
  ⟨rfl, .inr ⟨g, 0, #[], rfl, hB, h, Nat.le_refl _, by unfold maxLen; omega, rfl, rfl⟩⟩
theorem own_u {W : World} {g n : Nat} {f : Nat → Nat} (h : Has W g 60 (uvals f n).toArray) (hn : n ≤ 320) : W.ownsRow 0 60 1 (.slice (some ⟨g, 0, none⟩) n n) n (uvals f n) :=
  ⟨by rw [uvals_length, Nat.mul_one], .inr ⟨g, n, _, rfl, Nat.zero_le _, h, Nat.le_refl _, by unfold maxLen; omega, by simp [uvals], by rw [List.toList_toArray, Nat.mul_one]; exact List.take_of_length_le (by rw [uvals_length]; omega)⟩⟩
theorem rt_a {w1 : World} {A2 : Option Addr} {cc2 : Nat} {l : List UInt8} (hl : l.length ≤ 320) (hown1 : w1.ownsRow 0 5 1 (.slice A2 l.length cc2) l.length (bvals l)) :
    RTf ((w1.alloc (.cells (uvals (fun _ => 0) l.length).toArray 60)).alloc (.cells #[.slice A2 l.length cc2, .slice (some ⟨w1.heap.size, 0, none⟩) l.length l.length] 130)) (w1.heap.size + 1) l (fun _ => 0) A2 (some ⟨w1.heap.size, 0, none⟩) cc2 l.length := by
  refine ⟨?_, own_keep (own_keep hown1 ((Only.refl [] _).alloc _) (by simp)) ((Only.refl [] _).alloc _) (by simp), own_keep (own_u (Has.new w1 _ _) hl) ((Only.refl [] _).alloc _) (by simp)⟩
  have := Has.new (w1.alloc (.cells (uvals (fun _ => 0) l.length).toArray 60)) 130 #[.slice A2 l.length cc2, .slice (some ⟨w1.heap.size, 0, none⟩) l.length l.length]
  rw [World.size_alloc] at this
  exact this
theorem rt_b {w1 : World} {A2 : Option Addr} {cc2 g : Nat} {l : List UInt8} (hl : l.length ≤ 320) (hown1 : w1.ownsRow 0 5 1 (.slice A2 l.length cc2) l.length (bvals l)) (hu : Has w1 g 60 (uvals (fun _ => 0) l.length).toArray) :
    RTf (w1.alloc (.cells #[.slice A2 l.length cc2, .slice (some ⟨g, 0, none⟩) l.length l.length] 130)) w1.heap.size l (fun _ => 0) A2 (some ⟨g, 0, none⟩) cc2 l.length :=
  ⟨Has.new w1 _ _, own_keep hown1 ((Only.refl [] _).alloc _) (by simp), own_keep (own_u hu hl) ((Only.refl [] _).alloc _) (by simp)⟩

theorem RTf.ne {w : World} {g gB : Nat} {l : List UInt8} {f : Nat → Nat} {A : Option Addr} {c c' : Nat} (h : RTf w g l f A (some ⟨gB, 0, none⟩) c c') : g ≠ gB ∧ ∀ b, (Value.slice A l.length c).ownBlock = some b → b ≠ gB := by
  refine ⟨fun e => own_ne h.codes h.has (by decide) (by rw [e]; rfl), fun b hb e => ?_⟩
  subst e
  rcases h.lens.2 with ⟨hv, _⟩ | ⟨q, cap, cur, hv, _, hh, _⟩
  · rw [hv] at hb; cases hb
  · have : q = b := by rw [hv] at hb; simpa [Value.ownBlock] using hb
    subst this
    exact own_ne (t := 5) (cs := cur) h.codes hh (by decide) rfl
theorem RTf.set {w : World} {g gB : Nat} {l : List UInt8} {f f' : Nat → Nat} {A : Option Addr} {c c' : Nat} (h : RTf w g l f A (some ⟨gB, 0, none⟩) c c') (i x : Nat) (e : (uvals f l.length).set i (.int .u32 (x : Int)) = uvals f' l.length) :
    RTf (w.setCell ⟨gB, i, none⟩ (.int .u32 (x : Int))) g l f' A (some ⟨gB, 0, none⟩) c c' := by
  refine ⟨h.has.other (by simpa using h.ne.1) _, own_keep h.lens ((Only.refl [gB] _).setCell (by simp) _) (fun b hb => by simpa using h.ne.2 b hb), ?_⟩
  have := own_set h.codes i (.int .u32 (x : Int))
  rw [e] at this
  exact this

/-- The numbers when all of fewer than k bits, and of k bits those ahead of i, have theirs. -/
def fAt (l : List UInt8) (k i s : Nat) : Nat := if ln l s ≠ 0 ∧ (ln l s < k ∨ (ln l s = k ∧ s < i)) then cd l s else 0
theorem fAt_start (l : List UInt8) (s : Nat) : fAt l 1 0 s = 0 := if_neg (by omega)
theorem fAt_wrap (l : List UInt8) (k s : Nat) (hs : s < l.length) : fAt l k l.length s = fAt l (k + 1) 0 s := by
  unfold fAt
  by_cases h : ln l s ≠ 0 ∧ (ln l s < k ∨ (ln l s = k ∧ s < l.length))
  · rw [if_pos h, if_pos (by omega)]
  · rw [if_neg h, if_neg (by omega)]
theorem fAt_skip (l : List UInt8) (k i s : Nat) (h : ln l i ≠ k) : fAt l k (i + 1) s = fAt l k i s := by
  unfold fAt
  by_cases he : s = i
  · subst he
    by_cases h1 : ln l s ≠ 0 ∧ (ln l s < k ∨ (ln l s = k ∧ s < s + 1))
    · rw [if_pos h1, if_pos (by omega)]
    · rw [if_neg h1, if_neg (by omega)]
  · by_cases h1 : ln l s ≠ 0 ∧ (ln l s < k ∨ (ln l s = k ∧ s < i + 1))
    · rw [if_pos h1, if_pos (by omega)]
    · rw [if_neg h1, if_neg (by omega)]
theorem fAt_step (l : List UInt8) (k i : Nat) (hk : k ≠ 0) (h : ln l i = k) : fAt l k (i + 1) i = Fs (cn l) k + rk l i k := by
  unfold fAt
  rw [if_pos (by omega)]
  unfold cd; rw [h]
theorem fAt_other (l : List UInt8) (k i s : Nat) (h : s ≠ i) : fAt l k (i + 1) s = fAt l k i s := by
  unfold fAt
  by_cases h1 : ln l s ≠ 0 ∧ (ln l s < k ∨ (ln l s = k ∧ s < i + 1))
  · rw [if_pos h1, if_pos (by omega)]
  · rw [if_neg h1, if_neg (by omega)]
/-- A symbol's number; 0 of none. -/
def cdz (l : List UInt8) (s : Nat) : Nat := if ln l s ≠ 0 then cd l s else 0
theorem fAt_all {l : List UInt8} (h15 : ∀ i, ln l i ≤ 15) (s : Nat) : fAt l 16 0 s = cdz l s := by
  unfold fAt cdz
  by_cases h : ln l s ≠ 0
  · rw [if_pos ⟨h, .inl (by have := h15 s; omega)⟩, if_pos h]
  · rw [if_neg (by omega), if_neg h]

/-- Block g is a reference table of these lengths; all of it lies in blocks from base on. -/
def RT2 (w : World) (base g : Nat) (l : List UInt8) : Prop := ∃ A gB c c', base ≤ g ∧ base ≤ gB ∧ (∀ b, (Value.slice A l.length c).ownBlock = some b → base ≤ b) ∧ RTf w g l (cdz l) A (some ⟨gB, 0, none⟩) c c'
/-- Block g is a reference table of these lengths; its codes lie in a block from base on. -/
def RT (w : World) (base g : Nat) (l : List UInt8) : Prop := ∃ A gB c c', base ≤ gB ∧ RTf w g l (cdz l) A (some ⟨gB, 0, none⟩) c c'

set_option maxRecDepth 100000 in
set_option maxHeartbeats 8000000 in
theorem tNewT2 (A : Option Addr) (n c : Nat) (l : List UInt8) (w : World) (hb : Holds w 1 A n (bvals l)) (hl : l.length = n) (hn : n ≤ 320) (hf : far l = false) (hm : mayBe (cn l) = true) :
    Calls Tryz.prog 39 #[.slice A n c] w fun e w' => ∃ g, e = .returned (.tuple #[.pointer (some ⟨g, 0, none⟩), .int .i64 0]) ∧ w.heap.size ≤ g ∧ RT2 w' w.heap.size g l ∧ Only [] w w' := by
  subst hl
  have h15 := ln_far hf
  have hz : (cmpI (Sm (cn l) 16 : Nat) 32768 : Int) ≤ 0 ∧ (cmpI (Sm (cn l) 16 : Nat) 32768 = 0 ∨ nzc l = 0 ∨ (nzc l = 1 ∧ oneOf l = 1)) := by
    have hc := (may_iff h15).1 hm
    unfold cmpI
    rcases Nat.lt_trichotomy (Sm (cn l) 16) 32768 with h | h | h
    · rw [if_pos (by omega)]
      refine ⟨by omega, .inr ?_⟩
      by_cases h1 : 0 < nzc l
      · exact .inr (Decidable.byContradiction fun h2 => hc (.inr ⟨h, h1, h2⟩))
      · exact .inl (by omega)
    · rw [if_neg (by omega), if_neg (by omega)]
      exact ⟨by omega, .inl rfl⟩
    · exact absurd (.inl h) hc
  have HTC := hide (tComplete_any A l.length c l w hb rfl (by omega))
  have hmk : ∀ W : World, (Instr.makeSlice 128 (.int .i64 (l.length : Int)) (.int .i64 (l.length : Int))).run Tryz.prog W = .ok (.slice (some ⟨W.heap.size, 0, none⟩) l.length l.length) (W.alloc (.cells (uvals (fun _ => 0) l.length).toArray 60)) := by
    intro W
    have h := run_make_row' (P := Tryz.prog) 128 60 (.int .u32 0) 4 Tryz.underlying128 u32_info rfl .i64 .i64 l.length (by omega) (by omega) W
    rw [h, urow_eq]
  have HB := hide (And.intro hb (And.intro h15 hn))
  have HSM := hide (mayBe_le hm)
  obtain ⟨z, hzz⟩ : ∃ z, z = cmpI (Sm (cn l) 16 : Nat) 32768 := ⟨_, rfl⟩
  rw [← hzz] at HTC hz
  have hn' : ¬ (320 : Int) < (l.length : Int) := by omega
  clear hb h15 hn hzz hm hf
  go_enter Tryz.func39, Tryz.ntmps39
  go_wp2_with fail
  go_loop [4, 5, 6] (fun v4 v5 v6 => ∃ j : Nat, j ≤ l.length ∧ v6 = .int .i64 j ∧ v4 = .int .i64 (nzc (l.take j) : Nat) ∧ v5 = .int .i64 (oneOf (l.take j) : Nat)) (fun _ _ v6 => l.length - (intOf v6).toNat)
  case atStart => exact ⟨0, Nat.zero_le _, rfl, rfl, rfl⟩
  case round =>
    obtain ⟨j, hj, rfl, rfl, rfl⟩ := hrel
    by_cases hlt : j < l.length
    · obtain ⟨b, o, rfl, hc2⟩ := HB.out.1.addr (by simpa using (show 0 < l.length by omega))
      have hcell : w.cell? ⟨b, o + j, none⟩ = some (.int .u8 (l[j].toNat : Int)) := hc2 j _ (bvals_get l j hlt)
      have hx := HB.out.2.1 j
      rw [ln_get hlt] at hx
      have e1 := nzc_snoc (l.take j) l[j]
      have e2 := oneOf_snoc (l.take j) l[j]
      rw [← take_snoc hlt] at e1 e2
      have hnz : nzc (l.take j) ≤ 320 := Nat.le_trans List.countP_le_length (by rw [List.length_take]; have := HB.out.2.2; omega)
      clear hc2
      generalize l[j].toNat = x at *
      generalize nzc (l.take j) = a at *
      generalize oneOf (l.take j) = d at *
      have k1 : IntKind.i64.wrap (x : Int) = (x : Int) := wrap64 rfl (by omega)
      have hx' : ¬ (15 : Int) < (x : Int) := by omega
      rcases Nat.eq_zero_or_pos x with rfl | hx0
      · rw [if_neg (by omega)] at e1 e2
        have HE := hide (And.intro e1 e2)
        clear e1 e2
        go_wp2_with fail
        go_round
        case rel => exact ⟨j + 1, hlt, by go_num, by rw [HE.out.1]; rfl, by rw [HE.out.2]⟩
        case measure => simp [intOf]; omega
      · rw [if_pos (by omega)] at e1 e2
        have HE := hide (And.intro e1 e2)
        have hx0' : (0 : Int) < (x : Int) := by omega
        clear e1 e2
        go_wp2_with fail
        go_round
        case rel => exact ⟨j + 1, hlt, by go_num, by rw [HE.out.1]; go_num, by rw [HE.out.2]⟩
        case measure => simp [intOf]; omega
    · obtain rfl : j = l.length := by omega
      rw [List.take_length]
      have hd := HB.out.1
      have HZ := hide hz
      have hzp : ¬ (0 : Int) < z := by omega
      generalize nzc l = a at *
      generalize oneOf l = d at *
      go_wp2_with fail
      refine (HTC.out).mono ?_
      rintro e w1 ⟨rfl, rfl⟩
      rcases Int.lt_or_eq_of_le hz.1 with hz1 | hz1
      rotate_left 1
      focus
        subst hz1
        clear hz HZ
        go_wp2_with fail
      rotate_left 1
      rcases hz.2 with hz2 | hz2 | ⟨hz2, hz3⟩
      · omega
      focus
        have ha : (a : Int) = 0 := by omega
        clear hz HZ hz2
        generalize (a : Int) = aa at *
        subst ha
        go_wp2_with fail
      rotate_left 1
      focus
        have ha : (a : Int) = 1 := by omega
        have hdd : (d : Int) = 1 := by omega
        clear hz HZ hz2 hz3
        generalize (a : Int) = aa at *
        generalize (d : Int) = dd at *
        subst ha hdd
        go_wp2_with fail
      all_goals
        have HA1 : Has (w.alloc (.cells #[] 5)).drew w.heap.size 5 #[] := Has.new w _ _
        have HA2 : Has ((w.alloc (.cells #[] 5)).alloc (.cells (uvals (fun _ => 0) l.length).toArray 60)).drew w.heap.size 5 #[] := (Has.new w _ _).alloc _
        have HA3 : Has ((w.alloc (.cells (uvals (fun _ => 0) l.length).toArray 60)).alloc (.cells #[] 5)).drew (w.heap.size + 1) 5 #[] := by
          have := Has.new (w.alloc (.cells (uvals (fun _ => 0) l.length).toArray 60)) 5 #[]
          rw [World.size_alloc] at this
          exact this
        have hb1 : Holds (w.alloc (.cells #[] 5)).drew 1 A l.length (bvals l) := hd.keep (((Only.refl [] w).alloc _).drew) (by simp)
        have hb2 : Holds ((w.alloc (.cells #[] 5)).alloc (.cells (uvals (fun _ => 0) l.length).toArray 60)).drew 1 A l.length (bvals l) := hd.keep ((((Only.refl [] w).alloc _).alloc _).drew) (by simp)
        have hb3 : Holds ((w.alloc (.cells (uvals (fun _ => 0) l.length).toArray 60)).alloc (.cells #[] 5)).drew 1 A l.length (bvals l) := hd.keep ((((Only.refl [] w).alloc _).alloc _).drew) (by simp)
        have hu2 : Has ((w.alloc (.cells #[] 5)).alloc (.cells (uvals (fun _ => 0) l.length).toArray 60)).drew (w.heap.size + 1) 60 (uvals (fun _ => 0) l.length).toArray := by
          have := Has.new (w.alloc (.cells #[] 5)) 60 (uvals (fun _ => 0) l.length).toArray
          rw [World.size_alloc] at this
          exact this
        have hu3 : Has ((w.alloc (.cells (uvals (fun _ => 0) l.length).toArray 60)).alloc (.cells #[] 5)).drew w.heap.size 60 (uvals (fun _ => 0) l.length).toArray := (Has.new w _ _).alloc _
        have HU := hide (And.intro hu2 hu3)
        clear hu2 hu3
        have hone := bvals_one l
        have hroom : (0 + l.length) * 1 ≤ 140737488355328 := by omega
        obtain ⟨i0, hi0, hz0, hz1, hz2⟩ := info_of u8_info
        clear hd
        go_region_law (first
          | (refine step_append _ rfl (.tmp 59) (.tmp 60) 22 rfl w.heap.size 1 1 Tryz.underlying22 hi0 hz0 hz1 hz2 rfl (Nat.zero_lt_one) (own_emptyB (Nat.le_refl _) HA1) rfl hb1 rfl hone hroom (Nat.zero_lt_one) (Only.size (((Only.refl [] w).alloc _).drew)) ?_; intro A2 cc2 w1 hown1 hgrow hat; have H1 := hide (And.intro hown1 hgrow); clear hown1 hgrow hat)
          | (refine step_append _ rfl (.tmp 59) (.tmp 60) 22 rfl w.heap.size 1 1 Tryz.underlying22 hi0 hz0 hz1 hz2 rfl (Nat.zero_lt_one) (own_emptyB (Nat.le_refl _) HA2) rfl hb2 rfl hone hroom (Nat.zero_lt_one) (Only.size ((((Only.refl [] w).alloc _).alloc _).drew)) ?_; intro A2 cc2 w1 hown1 hgrow hat; have H1 := hide (And.intro hown1 hgrow); clear hown1 hgrow hat)
          | (refine step_append _ rfl (.tmp 59) (.tmp 60) 22 rfl w.heap.size 1 1 Tryz.underlying22 hi0 hz0 hz1 hz2 rfl (Nat.zero_lt_one) (own_emptyB (Nat.le_succ _) HA3) rfl hb3 rfl hone hroom (Nat.zero_lt_one) (Only.size ((((Only.refl [] w).alloc _).alloc _).drew)) ?_; intro A2 cc2 w1 hown1 hgrow hat; have H1 := hide (And.intro hown1 hgrow); clear hown1 hgrow hat))
        all_goals
          have hownB : w1.ownsRow w.heap.size 5 1 (.slice A2 l.length cc2) l.length (bvals l) := by have := H1.out.1; rw [Nat.zero_add] at this; exact this
          have hown : w1.ownsRow 0 5 1 (.slice A2 l.length cc2) l.length (bvals l) := own_mono hownB (Nat.zero_le _)
          have HLow : Hid (∀ b, (Value.slice A2 l.length cc2).ownBlock = some b → w.heap.size ≤ b) := hide (fun b hb => (hownB.lt b hb).1)
          clear hownB
        all_goals
          first
          | (have hX : RTf ((w1.alloc (.cells (uvals (fun _ => 0) l.length).toArray 60)).alloc (.cells #[.slice A2 l.length cc2, .slice (some ⟨w1.heap.size, 0, none⟩) l.length l.length] 130)) (w1.heap.size + 1) l (fun _ => 0) A2 (some ⟨w1.heap.size, 0, none⟩) cc2 l.length := rt_a (by omega) hown
             have o1 : Only [] w w1 := (((Only.refl [] w).alloc _).drew).grown H1.out.2 (fun k hk hlt => by simp [Value.ownBlock] at hk; omega)
             have hO := (o1.alloc (.cells (uvals (fun _ => 0) l.length).toArray 60)).alloc (.cells #[.slice A2 l.length cc2, .slice (some ⟨w1.heap.size, 0, none⟩) l.length l.length] 130)
             have hsz := o1.size
             generalize (w1.alloc (.cells (uvals (fun _ => 0) l.length).toArray 60)).alloc (.cells #[.slice A2 l.length cc2, .slice (some ⟨w1.heap.size, 0, none⟩) l.length l.length] 130) = X at *
             have hgT : w.heap.size ≤ w1.heap.size + 1 := by omega
             generalize w1.heap.size + 1 = gT at *
             generalize w1.heap.size = gB at *)
          | (have hX : RTf (w1.alloc (.cells #[.slice A2 l.length cc2, .slice (some ⟨w.heap.size + 1, 0, none⟩) l.length l.length] 130)) w1.heap.size l (fun _ => 0) A2 (some ⟨w.heap.size + 1, 0, none⟩) cc2 l.length := rt_b (by omega) hown (HU.out.1.grown H1.out.2 (by simp [Value.ownBlock]))
             have o1 : Only [] w w1 := ((((Only.refl [] w).alloc _).alloc _).drew).grown H1.out.2 (fun k hk hlt => by simp [Value.ownBlock] at hk; omega)
             have hO := o1.alloc (.cells #[.slice A2 l.length cc2, .slice (some ⟨w.heap.size + 1, 0, none⟩) l.length l.length] 130)
             have hgT := o1.size
             generalize w1.alloc (.cells #[.slice A2 l.length cc2, .slice (some ⟨w.heap.size + 1, 0, none⟩) l.length l.length] 130) = X at *
             generalize w1.heap.size = gT at *
             have hsz : w.heap.size ≤ w.heap.size + 1 := by omega
             generalize w.heap.size + 1 = gB at *)
          | (have hX : RTf (w1.alloc (.cells #[.slice A2 l.length cc2, .slice (some ⟨w.heap.size, 0, none⟩) l.length l.length] 130)) w1.heap.size l (fun _ => 0) A2 (some ⟨w.heap.size, 0, none⟩) cc2 l.length := rt_b (by omega) hown (HU.out.2.grown H1.out.2 (by simp [Value.ownBlock]))
             have o1 : Only [] w w1 := ((((Only.refl [] w).alloc _).alloc _).drew).grown H1.out.2 (fun k hk hlt => by simp [Value.ownBlock] at hk; omega)
             have hO := o1.alloc (.cells #[.slice A2 l.length cc2, .slice (some ⟨w.heap.size, 0, none⟩) l.length l.length] 130)
             have hgT := o1.size
             generalize w1.alloc (.cells #[.slice A2 l.length cc2, .slice (some ⟨w.heap.size, 0, none⟩) l.length l.length] 130) = X at *
             generalize w1.heap.size = gT at *
             obtain ⟨gB, hgB⟩ : ∃ gB, gB = w.heap.size := ⟨_, rfl⟩
             rw [← hgB] at hX
             have hsz : w.heap.size ≤ gB := by omega
             clear hgB)
        all_goals
          have HX := hide (And.intro hX (And.intro hO (And.intro hgT hsz)))
          clear hX hO hgT hsz hown H1 HA1 HA2 HA3 hb1 hb2 hb3 HU o1
          go_wp2_with fail
          go_loopw [9, 10] (fun v9 v10 wr => ∃ k : Nat, 1 ≤ k ∧ k ≤ 16 ∧ v10 = .int .i64 k ∧ v9 = .int .u32 (Fs (cn l) k : Nat) ∧ RTf wr gT l (fAt l k 0) A2 (some ⟨gB, 0, none⟩) cc2 l.length ∧ Only [] w wr) (fun _ v10 _ => 17 - (intOf v10).toNat)
          case atStart => exact ⟨1, by omega, by omega, rfl, rfl, by rw [show fAt l 1 0 = fun _ => 0 from funext (fAt_start l)]; exact HX.out.1, HX.out.2.1⟩
          case round =>
            obtain ⟨k, hk1, hk2, rfl, rfl, hR, ho⟩ := hrel
            by_cases hlt15 : k ≤ 15
            · have hk15 : (k : Int) ≤ 15 := by omega
              have hFl := Fs_le (cn l) k hlt15 HSM.out
              have hp15 := Nat.pow_le_pow_right (n := 2) (by decide) hlt15
              have hF1 := Fs_succ (cn l) k
              have HR := hide (And.intro hR (And.intro ho hF1))
              have hrk := fun i (hi : i ≤ l.length) => Nat.le_trans (rk_mono (l := l) hi k) (Nat.le_of_eq (rk_all (Nat.le_refl _) k))
              have HRK := hide hrk
              obtain ⟨F, hF⟩ : ∃ F, F = Fs (cn l) k := ⟨_, rfl⟩
              obtain ⟨D, hD⟩ : ∃ D, D = cn l k := ⟨_, rfl⟩
              rw [← hF, ← hD] at hFl
              rw [← hF]
              have HFD := hide (And.intro hF hD)
              have hFD : F + D ≤ 32768 := Nat.le_trans hFl hp15
              clear hR ho hF1 hrk hF hD hFl hp15
              go_wp2_with fail
              go_loopw [9, 11] (fun v9 v11 wr => ∃ s : Nat, s ≤ l.length ∧ v11 = .int .i64 s ∧ v9 = .int .u32 (F + rk l s k : Nat) ∧ RTf wr gT l (fAt l k s) A2 (some ⟨gB, 0, none⟩) cc2 l.length ∧ Only [] w wr) (fun _ v11 _ => l.length - (intOf v11).toNat)
              case atStart => exact ⟨0, Nat.zero_le _, rfl, by rw [rk_zero]; rfl, HR.out.1, HR.out.2.1⟩
              case round =>
                obtain ⟨s, hs, rfl, rfl, hR, ho⟩ := hrel
                by_cases hlts : s < l.length
                · obtain ⟨b, o, rfl, hc2⟩ := (HB.out.1.keep ho (by simp)).addr (by simpa using (show 0 < l.length by omega))
                  have hcell : wr.cell? ⟨b, o + s, none⟩ = some (.int .u8 (l[s].toNat : Int)) := hc2 s _ (bvals_get l s hlts)
                  have hlx := ln_get hlts
                  have hx15 := HB.out.2.1 s
                  have hrs := rk_succ (l := l) hlts k
                  have hrl := HRK.out (s + 1) (by omega)
                  rw [hlx] at hx15 hrs
                  clear hc2
                  generalize l[s].toNat = x at *
                  have k1 : IntKind.i64.wrap (x : Int) = (x : Int) := wrap64 rfl (by omega)
                  by_cases hxk : x = k
                  · subst hxk
                    rw [if_pos (by omega)] at hrs
                    rw [hrs, ← HFD.out.2] at hrl
                    have hst := fAt_step l x s (by omega) hlx
                    rw [← HFD.out.1] at hst
                    have hset := uvals_set (fAt l x s) (fAt l x (s + 1)) l.length s (F + rk l s x) hlts hst (fun q _ hq => fAt_other l x s q hq)
                    have hR2 := hR.set s (F + rk l s x) hset
                    have ho2 := ho.setCell (p := ⟨gB, s, none⟩) (by intro h; have := HX.out.2.2.2; simp at h; omega) (.int .u32 ((F + rk l s x : Nat) : Int))
                    have c1 : wr.cell? ⟨gT, 1, none⟩ = some (.slice (some ⟨gB, 0, none⟩) l.length l.length) := hR.has.cell 1
                    have cu : wr.cell? ⟨gB, s, none⟩ = some (.int .u32 (fAt l x s s : Nat)) := by
                      obtain ⟨g', he, _, _, _, hce⟩ := own_open hR.codes (by omega)
                      injection he with he
                      injection he with he
                      subst he
                      exact hce s _ (uvals_get _ _ _ hlts)
                    have fu : wr.frozen? ⟨gB, s, none⟩ = false := by
                      obtain ⟨g', he, _, _, hfz, _⟩ := own_open hR.codes (by omega)
                      injection he with he
                      injection he with he
                      subst he
                      exact hfz s
                    have H2 := hide (And.intro hR2 (And.intro ho2 hrs))
                    clear hR ho hst hset hR2 ho2 hrs hlx
                    generalize fAt l x s s = oldv at *
                    generalize rk l s x = r at *
                    have hu32 : F + r < 65536 := by omega
                    go_wp2_with fail
                    go_roundw
                    case rel => exact ⟨s + 1, hlts, by go_num, by rw [H2.out.2.2]; go_num, H2.out.1, H2.out.2.1⟩
                    case measure => simp [intOf]; omega
                  · have hxk' : ((x : Int) == (k : Int)) = false := beq_eq_false_iff_ne.2 (by omega)
                    have hxk'' : ¬ (x : Int) = (k : Int) := by omega
                    rw [if_neg (by omega)] at hrs
                    have e : fAt l k (s + 1) = fAt l k s := funext fun q => fAt_skip l k s q (by omega)
                    have H2 := hide (And.intro hR (And.intro ho (And.intro hrs e)))
                    clear hR ho hrs e hrl hlx
                    generalize rk l s k = r at *
                    go_wp2_with fail
                    go_roundw
                    case rel => exact ⟨s + 1, hlts, by go_num, by rw [H2.out.2.2.1]; rfl, by rw [H2.out.2.2.2]; exact H2.out.1, H2.out.2.1⟩
                    case measure => simp [intOf]; omega
                · obtain rfl : s = l.length := by omega
                  have hrl := HRK.out l.length (Nat.le_refl _)
                  have hre : rk l l.length k = D := by rw [rk_all (Nat.le_refl _), HFD.out.2]
                  rw [hre]
                  have hsh : uvals (fAt l k l.length) l.length = uvals (fAt l (k + 1) 0) l.length := uvals_congr (fun q hq => fAt_wrap l k q hq)
                  have hR' : RTf wr gT l (fAt l (k + 1) 0) A2 (some ⟨gB, 0, none⟩) cc2 l.length := ⟨hR.has, hR.lens, by rw [← hsh]; exact hR.codes⟩
                  have H2 := hide (And.intro hR' ho)
                  clear hR ho hR' hsh hre hrl
                  go_wp2_with fail
                  go_roundw
                  case rel => exact ⟨k + 1, by omega, by omega, by go_num, by rw [HR.out.2.2, ← HFD.out.1, ← HFD.out.2]; go_num, H2.out.1, H2.out.2⟩
                  case measure => simp [intOf]; omega
            · obtain rfl : k = 16 := by omega
              have e : fAt l 16 0 = cdz l := funext fun q => fAt_all HB.out.2.1 q
              rw [e] at hR
              have H2 := hide (And.intro hR ho)
              clear hR ho e
              go_wp2_with fail
              go_ret2
              exact ⟨gT, rfl, HX.out.2.2.1, ⟨A2, gB, cc2, _, HX.out.2.2.1, HX.out.2.2.2, HLow.out, H2.out.1⟩, H2.out.2⟩
theorem tNewT (A : Option Addr) (n c : Nat) (l : List UInt8) (w : World) (hb : Holds w 1 A n (bvals l)) (hl : l.length = n) (hn : n ≤ 320) (hf : far l = false) (hm : mayBe (cn l) = true) :
    Calls Tryz.prog 39 #[.slice A n c] w fun e w' => ∃ g, e = .returned (.tuple #[.pointer (some ⟨g, 0, none⟩), .int .i64 0]) ∧ w.heap.size ≤ g ∧ RT w' w.heap.size g l ∧ Only [] w w' := by
  refine (tNewT2 A n c l w hb hl hn hf hm).mono ?_
  rintro e w' ⟨g, h1, h2, ⟨A', gB, c1, c2, _, h4, _, h6⟩, h7⟩
  exact ⟨g, h1, h2, ⟨A', gB, c1, c2, h4, h6⟩, h7⟩
end Go.Proofs.YtlknhiihdejpeaaGreatDoor


namespace Go.Proofs.YtlknhiihdejpeaaGreatDoor
open Go Go.RowKit

theorem RTf.only {w w' : World} {g : Nat} {l : List UInt8} {f : Nat → Nat} {A B : Option Addr} {c c' : Nat} {S : List Nat} (h : RTf w g l f A B c c') (ho : Only S w w') (hg : g ∉ S) (hA : ∀ b, (Value.slice A l.length c).ownBlock = some b → b ∉ S) (hB : ∀ b, (Value.slice B l.length c').ownBlock = some b → b ∉ S) : RTf w' g l f A B c c' :=
  ⟨h.has.only ho hg, own_keep h.lens ho hA, own_keep h.codes ho hB⟩
/-- It is kept where a block of another type may have changed. -/
theorem RT.other {w w' : World} {base g q : Nat} {l : List UInt8} {t : TypeId} {cs : Array Value} (h : RT w base g l) (ho : Only [q] w w') (hq : Has w q t cs) (h1 : t ≠ 130) (h2 : t ≠ 5) (h3 : t ≠ 60) : RT w' base g l := by
  obtain ⟨A, gB, c, c', hb, hR⟩ := h
  refine ⟨A, gB, c, c', hb, hR.only ho ?_ ?_ ?_⟩
  · intro hm
    have : g = q := by simpa using hm
    subst this
    exact Has.ne hR.has hq (fun e => h1 e.symm) rfl
  · intro b hbk hm
    have : b = q := by simpa using hm
    subst this
    exact own_ne hR.lens hq (fun e => h2 e.symm) hbk.symm
  · intro b hbk hm
    have : b = q := by simpa using hm
    subst this
    exact own_ne hR.codes hq (fun e => h3 e.symm) hbk.symm
theorem RT.idle {w w' : World} {base g : Nat} {l : List UInt8} (h : RT w base g l) (ho : Only [] w w') : RT w' base g l := by
  obtain ⟨A, gB, c, c', hb, hR⟩ := h
  exact ⟨A, gB, c, c', hb, hR.only ho (by simp) (by simp) (by simp)⟩
theorem RT.lt {w : World} {base g : Nat} {l : List UInt8} (h : RT w base g l) : g < w.heap.size := by
  obtain ⟨A, gB, c, c', hb, hR⟩ := h
  exact hR.has.lt
/-- What is read of it. -/
theorem RT.open_ {w : World} {base g : Nat} {l : List UInt8} (h : RT w base g l) : ∃ A B c c', w.cell? ⟨g, 0, none⟩ = some (.slice A l.length c) ∧ w.cell? ⟨g, 1, none⟩ = some (.slice B l.length c') ∧
    (0 < l.length → ∃ a b, A = some ⟨a, 0, none⟩ ∧ B = some ⟨b, 0, none⟩ ∧ ∀ i, i < l.length → w.cell? ⟨a, i, none⟩ = some (.int .u8 (ln l i : Nat)) ∧ w.cell? ⟨b, i, none⟩ = some (.int .u32 (cdz l i : Nat))) := by
  obtain ⟨A, gB, c, c', hb, hR⟩ := h
  refine ⟨A, some ⟨gB, 0, none⟩, c, c', hR.has.cell 0, hR.has.cell 1, fun h0 => ?_⟩
  obtain ⟨a, ha, _, _, _, hca⟩ := own_open hR.lens h0
  obtain ⟨b, hb, _, _, _, hcb⟩ := own_open hR.codes h0
  refine ⟨a, b, ha, hb, fun i hi => ⟨?_, hcb i _ (uvals_get _ _ _ hi)⟩⟩
  rw [ln_get hi]
  exact hca i _ (bvals_get l i hi)

set_option maxRecDepth 100000 in
set_option maxHeartbeats 4000000 in
theorem tCode_in (g base : Nat) (l : List UInt8) (i : Nat) (w : World) (h : RT w base g l) (hi : i < l.length) (hn : l.length ≤ 320) (h15 : ∀ i, ln l i ≤ 15) (hS : Sm (cn l) 16 ≤ 32768) :
    Calls Tryz.prog 41 #[.pointer (some ⟨g, 0, none⟩), .int .i64 i] w fun e w' => e = .returned (.tuple #[.int .u32 (cvI l i : Nat), .int .i64 (lnI l i : Nat)]) ∧ ∃ m, w' = w.drewN m := by
  obtain ⟨A, B, c, c', c0, c1, hcs⟩ := h.open_
  obtain ⟨a, b, rfl, rfl, hcs2⟩ := hcs (by omega)
  obtain ⟨d0, d1⟩ := hcs2 i hi
  have hx15 := h15 i
  have hcv : cvI l (i : Int) = if ln l i ≠ 0 then rev (cd l i) (ln l i) else 0 := by unfold cvI; rw [lnI_nat, Int.toNat_natCast]
  have hcz : cdz l i = if ln l i ≠ 0 then cd l i else 0 := rfl
  rw [lnI_nat, hcv]
  rw [hcz] at d1
  clear hcs hcs2 hcv hcz h
  have hi0 : (0 : Int) ≤ (i : Int) := by omega
  have hi1 : (i : Int) < (l.length : Int) := by omega
  have hi2 : ¬ (l.length : Int) ≤ (i : Int) := by omega
  by_cases h0 : ln l i ≠ 0
  · have hcl := cd_lt hS h0 (h15 i)
    have hp15 := Nat.pow_le_pow_right (n := 2) (by decide) hx15
    rw [if_pos h0] at d1 ⊢
    generalize cd l i = y at *
    generalize ln l i = x at *
    have hy : y < 32768 := Nat.lt_of_lt_of_le hcl hp15
    have HV := fun q => hide (refReverse_yes y x (w.drewN q) (by omega) (by omega))
    have k1 : IntKind.i64.wrap (x : Int) = (x : Int) := wrap64 rfl (by omega)
    generalize rev y x = R at *
    have hx0 : ((x : Int) == 0) = false := beq_eq_false_iff_ne.2 (by omega)
    have hx0' : ¬ (x : Int) = 0 := by omega
    clear hcl hp15 h0
    go_enter Tryz.func41, Tryz.ntmps41
    go_wp2_with fail
    go_quiet ((go_at_call 56; exact Calls.quiet_of_same ((HV _).out.mono fun _ _ h => ⟨h.1, h.2.symm⟩)))
    go_wp2_with fail
    go_ret2
    exact ⟨rfl, _, rfl⟩
  · have hx : ln l i = 0 := by omega
    rw [hx] at d0 ⊢
    rw [if_neg (by omega)]
    clear d1 h0 hx hx15
    go_enter Tryz.func41, Tryz.ntmps41
    go_wp2_with fail
    go_ret2
    exact ⟨rfl, 0, rfl⟩

set_option maxRecDepth 100000 in
theorem tCode_any (g base : Nat) (l : List UInt8) (i : Int) (w : World) (h : RT w base g l) (hn : l.length ≤ 320) (h15 : ∀ i, ln l i ≤ 15) (hS : Sm (cn l) 16 ≤ 32768) :
    Calls Tryz.prog 41 #[.pointer (some ⟨g, 0, none⟩), .int .i64 i] w fun e w' => e = .returned (.tuple #[.int .u32 (cvI l i : Nat), .int .i64 (lnI l i : Nat)]) ∧ ∃ m, w' = w.drewN m := by
  by_cases hi : 0 ≤ i ∧ i < (l.length : Int)
  · obtain ⟨k, rfl⟩ := Int.eq_ofNat_of_zero_le hi.1
    exact tCode_in g base l k w h (by omega) hn h15 hS
  · have e : lnI l i = 0 := by
      unfold lnI
      by_cases h0 : 0 ≤ i
      · rw [if_pos h0, ln_out (by omega)]
      · rw [if_neg h0]
    have e2 : cvI l i = 0 := by unfold cvI; rw [e]; rfl
    rw [e, e2]
    obtain ⟨A, B, c, c', c0, c1, _⟩ := h.open_
    clear h e e2
    by_cases h1 : i < 0
    · clear hi
      go_enter Tryz.func41, Tryz.ntmps41
      go_wp2_with fail
      go_ret2
      exact ⟨rfl, 0, rfl⟩
    · have h2 : (l.length : Int) ≤ i := by omega
      clear hi
      go_enter Tryz.func41, Tryz.ntmps41
      go_wp2_with fail
      go_ret2
      exact ⟨rfl, 0, rfl⟩

end Go.Proofs.YtlknhiihdejpeaaGreatDoor

