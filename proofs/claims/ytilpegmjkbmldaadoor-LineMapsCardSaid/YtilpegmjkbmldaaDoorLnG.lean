/-
  Package line: Right. The document's Same.
-/
import Derived.Test.YtilpegmjkbmldaaDoorLnE
import Derived.BigRegion
namespace Go.Proofs.YtilpegmjkbmldaaDoor
open Go Go.RowKit

theorem ce_ne (c d : Ce) (w : World) : (binOp .neq 37 c.val d.val).run Tryd.prog w = .ok (.bool (!c.eqB d)) w := by
  unfold Ce.val Ce.eqB Lk.eqB
  generalize c.r = x0
  generalize c.k = x1
  generalize c.a.fg = x2
  generalize c.a.bg = x3
  generalize c.a.fl = x4
  generalize d.r = y0
  generalize d.k = y1
  generalize d.a.fg = y2
  generalize d.a.bg = y3
  generalize d.a.fl = y4
  simp [go_sem, Tryd.underlying37, Tryd.underlying23, Tryd.underlying3, Tryd.underlying21]
  by_cases h0 : x0 = y0 <;> by_cases h1 : x1 = y1 <;> by_cases h2 : x2 = y2 <;> by_cases h3 : x3 = y3 <;> by_cases h4 : x4 = y4 <;> simp [h0, h1, h2, h3, h4]

theorem LineAt.addr {w : World} {A : Option Addr} {n c : Nat} {L : List Ce} (h : LineAt w A n c L) (hn : 0 < n) : ∃ b o, A = some ⟨b, o, none⟩ := by
  obtain ⟨b, o, he, _⟩ := h.row.ce 0 (by rw [h.len]; exact hn)
  exact ⟨b, o, he⟩
/-- Cell i of a line. -/
theorem LineAt.ce {w : World} {b o n c : Nat} {L : List Ce} (h : LineAt w (some ⟨b, o, none⟩) n c L) (i : Nat) (C : Ce) (hc : L[i]? = some C) :
    w.cell? ⟨b, o + i * 5, none⟩ = some (.int .i32 C.r) ∧ w.cell? ⟨b, o + i * 5 + 1, none⟩ = some (.int .i64 C.k) ∧ w.cell? ⟨b, o + i * 5 + 2, none⟩ = some (.int .i64 C.a.fg) ∧ w.cell? ⟨b, o + i * 5 + 3, none⟩ = some (.int .i64 C.a.bg) ∧ w.cell? ⟨b, o + i * 5 + 4, none⟩ = some (.int .i64 C.a.fl) := by
  obtain ⟨hi, rfl⟩ := List.getElem?_eq_some_iff.1 hc
  obtain ⟨b', o', he, _, h0, h1, h2, h3, h4⟩ := h.row.ce i hi
  injection he with he
  injection he with e1 e2
  subst e1
  subst e2
  exact ⟨h0, h1, h2, h3, h4⟩
theorem rightL_yes (L : List Ce) (h : ∀ i, i < L.length → mendAt L i = L.getD i noCe) : rightL L = true := by
  unfold rightL
  rw [decide_eq_true_iff]
  refine List.ext_getElem? fun i => ?_
  by_cases hi : i < L.length
  · rw [mendL_get L i hi, h i hi, List.getD_eq_getElem?_getD, List.getElem?_eq_getElem hi]; rfl
  · rw [List.getElem?_eq_none (by simp; omega), List.getElem?_eq_none (by omega)]
theorem rightL_no (L : List Ce) (i : Nat) (hi : i < L.length) (h : mendAt L i ≠ L.getD i noCe) : rightL L = false := by
  unfold rightL
  rw [decide_eq_false_iff_not]
  intro he
  exact h (by rw [← mendL_getD L i hi, he])
theorem getD_of {L : List Ce} {i : Nat} {C : Ce} (h : L[i]? = some C) : L.getD i noCe = C := by rw [List.getD_eq_getElem?_getD, h]; rfl

set_option maxRecDepth 100000 in
set_option maxHeartbeats 4000000 in
theorem right_any (A : Option Addr) (n c : Nat) (L : List Ce) (w : World) (h : LineAt w A n c L) (hn : n ≤ 1000000000) :
    Calls Tryd.prog 12 #[.slice A n c] w fun e w' => e = .returned (.bool (rightL L)) ∧ Only [] w w' := by
  have hl := h.len
  rcases Nat.eq_zero_or_pos n with h0 | h0
  · subst h0
    have hr : rightL L = true := rightL_yes L (by intro i hi; omega)
    rw [hr]
    clear h hl hr hn
    go_enter Tryd.func12, Tryd.ntmps12
    go_wp2_with fail
    go_loopw [7] (fun i wr => i = .int .i64 0 ∧ wr = w) (fun _ _ => 0)
    case atStart => exact ⟨rfl, rfl⟩
    case round =>
      obtain ⟨rfl, rfl⟩ := hrel
      go_wp2_with fail
      go_ret
      exact ⟨rfl, Only.refl _ _⟩
  · obtain ⟨b, o, rfl⟩ := h.addr h0
    have hy := rightL_yes L
    have hno := rightL_no L
    generalize rightL L = R at *
    have H0 := hide (And.intro h (And.intro hn (And.intro hl (And.intro hy hno))))
    clear h hn hl h0 hy hno
    go_enter Tryd.func12, Tryd.ntmps12
    go_wp2_with fail
    go_loopw [7] (fun i wr => ∃ k : Nat, k ≤ n ∧ i = .int .i64 k ∧ (∀ j, j < k → mendAt L j = L.getD j noCe) ∧ Only [] w wr) (fun i _ => n - (intOf i).toNat)
    case atStart => exact ⟨0, Nat.zero_le _, rfl, by intro j hj; omega, Only.refl _ _⟩
    case round =>
      obtain ⟨k, hk, rfl, hall, ho⟩ := hrel
      obtain ⟨h, hn, hl, hy, hno⟩ := H0.out
      by_cases hlt : k < n
      · have hL : k < L.length := by omega
        obtain ⟨C, hC⟩ := List.get_some hL
        have hm : mendAt L k = mendC (aheadN L k) C (kindN L (k + 1)) := by unfold mendAt; rw [getD_of hC]
        have hr := h.keep ho
        obtain ⟨c0, c1, c2, c3, c4⟩ := hr.ce k C hC
        have hkk : (k : Int) < (n : Int) := by omega
        have hw1 : IntKind.i64.wrap ((k : Int) + 1) = (k : Int) + 1 := IntWalk.i64_in _ ⟨by omega, by omega⟩
        have hw2 : IntKind.i64.wrap ((k : Int) - 1) = (k : Int) - 1 := IntWalk.i64_in _ ⟨by omega, by omega⟩
        have hB : Has (wr.alloc (.cells #[.int .i32 C.r, .int .i64 C.k, .int .i64 C.a.fg, .int .i64 C.a.bg, .int .i64 C.a.fl] 37)) wr.heap.size 37 (cvals [C]).toArray := Has.new wr _ _
        have hr1 := hr.keep ((Only.refl [] wr).alloc (.cells #[.int .i32 C.r, .int .i64 C.k, .int .i64 C.a.fg, .int .i64 C.a.bg, .int .i64 C.a.fl] 37))
        have ho1 := ho.alloc (.cells #[.int .i32 C.r, .int .i64 C.k, .int .i64 C.a.fg, .int .i64 C.a.bg, .int .i64 C.a.fl] 37)
        have HH := hide (And.intro hB (And.intro hr1 (And.intro ho1 (And.intro hm (And.intro hall (And.intro hC hL))))))
        clear hB hr hr1 ho1 ho hm h hn hl hy hno hall hC hL
        go_upto_region 4 with fail
        obtain ⟨hB, hr1, ho1, hm, hall, hC, hL⟩ := HH.out
        clear c0 c1 c2 c3 c4 HH
        generalize wr.alloc (.cells #[.int .i32 C.r, .int .i64 C.k, .int .i64 C.a.fg, .int .i64 C.a.bg, .int .i64 C.a.fl] 37) = W1 at *
        obtain ⟨⟨b0, b1, b2, b3, b4⟩, _⟩ := hB.ce 0 C rfl
        simp only [Nat.zero_mul, Nat.zero_add] at b0 b1 b2 b3 b4
        have b0 := later_cell b0
        have b1 := later_cell b1
        have b2 := later_cell b2
        have b3 := later_cell b3
        have b4 := later_cell b4
        have HK := hide (fun x : Later W1 => (kind_any (some ⟨b, o, none⟩) n c L ((k : Int) + 1) x.val (hr1.keep x.only).row).mono (R' := fun e w' => e = .returned (.int .i64 (kindN L (k + 1))) ∧ Only [] x.val w') (fun e w' ⟨h1, h2⟩ => ⟨by rw [h1, show ((k : Int) + 1) = ((k + 1 : Nat) : Int) by omega, kindL_nat], by rw [h2]; exact Only.refl _ _⟩))
        have HA := hide (fun x : Later W1 => (kind_any (some ⟨b, o, none⟩) n c L ((k : Int) - 1) x.val (hr1.keep x.only).row).mono (R' := fun e w' => e = .returned (.int .i64 (aheadN L k)) ∧ Only [] x.val w') (fun e w' ⟨h1, h2⟩ => ⟨by rw [h1, kindL_ahead], by rw [h2]; exact Only.refl _ _⟩))
        have HM := hide (fun x : Later W1 => mended_any (aheadN L k) C (kindN L (k + 1)) x.val)
        rw [← hm] at HM
        have hne := ce_ne C (mendAt L k)
        have hEq : C.eqB (mendAt L k) = true ↔ mendAt L k = L.getD k noCe := by rw [getD_of hC, Ce.eqB_iff]; exact eq_comm
        have HE := hide (And.intro hEq (And.intro hall (And.intro ho1 hL)))
        unfold Ce.val at HM hne
        generalize C.eqB (mendAt L k) = q at *
        generalize hMM : mendAt L k = M at *
        generalize kindN L (k + 1) = y1 at *
        generalize aheadN L k = y2 at *
        clear hB hr1 ho1 hm hall hC hL hEq
        refine region_later (by kernel_rfl) (by kernel_rfl) ?_
        iterate 4 (go_big_quiet_step (fail))
        go_big_quiet_step ((go_at_call 27; refine later_of (HA.out _)))
        iterate 4 (go_big_quiet_step (fail))
        go_big_quiet_step ((go_at_call 27; refine later_of (HK.out _)))
        go_big_quiet_step ((go_at_call 26; refine later_of (HM.out _)))
        iterate 1 (go_big_quiet_step (fail))
        refine wpQuiet_nil ?_
        rintro _ ⟨X, rfl⟩
        clear b0 b1 b2 b3 b4 hne HK HA HM
        cases q with
        | true =>
          go_wp2_with fail
          go_roundw
          case rel =>
            refine ⟨k + 1, by omega, by go_num, fun j hj => ?_, HE.out.2.2.1.trans X.only (by simp)⟩
            rcases Nat.lt_or_ge j k with h1 | h1
            · exact HE.out.2.1 j h1
            · obtain rfl : j = k := by omega
              rw [hMM]
              exact HE.out.1.1 rfl
          case measure => simp [intOf]; omega
        | false =>
          go_wp2_with fail
          go_ret
          refine ⟨?_, HE.out.2.2.1.trans X.only (by simp)⟩
          rw [H0.out.2.2.2.2 k HE.out.2.2.2 (by rw [hMM]; intro h; have := HE.out.1.2 h; cases this)]
          rfl
      · obtain rfl : k = n := by omega
        have hR := hy (by rw [hl]; exact hall)
        subst hR
        have HF := hide ho
        clear h hn hl hno hall ho hy
        go_wp2_with fail
        go_ret
        exact ⟨rfl, HF.out⟩

def sameL (L M : List Ce) : Bool := decide (L = M)
theorem sameL_no {L M : List Ce} (i : Nat) (C D : Ce) (h1 : L[i]? = some C) (h2 : M[i]? = some D) (h : C.eqB D = false) : sameL L M = false := by
  unfold sameL
  rw [decide_eq_false_iff_not]
  rintro rfl
  rw [h1] at h2
  injection h2 with h2
  rw [Ce.eqB_iff.2 h2] at h
  cases h
theorem sameL_yes {L M : List Ce} (hl : L.length = M.length) (h : ∀ i, i < L.length → L[i]? = M[i]?) : sameL L M = true := by
  unfold sameL
  rw [decide_eq_true_iff]
  refine List.ext_getElem? fun i => ?_
  rcases Nat.lt_or_ge i L.length with hi | hi
  · exact h i hi
  · rw [List.getElem?_eq_none hi, List.getElem?_eq_none (by omega)]
theorem sameL_len {L M : List Ce} (hl : L.length ≠ M.length) : sameL L M = false := by
  unfold sameL
  rw [decide_eq_false_iff_not]
  rintro rfl
  exact hl rfl

set_option maxRecDepth 100000 in
set_option maxHeartbeats 4000000 in
theorem same_any (A B : Option Addr) (n c m d : Nat) (L M : List Ce) (w : World) (hL : LineAt w A n c L) (hM : LineAt w B m d M) (hn : n ≤ 1000000000) (hm : m ≤ 1000000000) :
    Calls Tryd.prog 10 #[.slice A n c, .slice B m d] w fun e w' => e = .returned (.bool (sameL L M)) ∧ Only [] w w' := by
  have hl := hL.len
  have hl2 := hM.len
  by_cases hnm : n = m
  · subst hnm
    rcases Nat.eq_zero_or_pos n with h0 | h0
    · subst h0
      rw [sameL_yes (by omega) (by intro i hi; omega)]
      clear hL hM hl hl2 hn hm
      go_enter Tryd.func10, Tryd.ntmps10
      go_wp2_with fail
      go_loopw [5] (fun i wr => i = .int .i64 0 ∧ wr = w) (fun _ _ => 0)
      case atStart => exact ⟨rfl, rfl⟩
      case round =>
        obtain ⟨rfl, rfl⟩ := hrel
        go_wp2_with fail
        go_ret
        exact ⟨rfl, Only.refl _ _⟩
    · obtain ⟨b, o, rfl⟩ := hL.addr h0
      obtain ⟨b2, o2, rfl⟩ := hM.addr h0
      have hy := sameL_yes (L := L) (M := M) (by omega)
      have hno := @sameL_no L M
      generalize sameL L M = R at *
      have H0 := hide (And.intro hL (And.intro hM (And.intro hn (And.intro hl (And.intro hl2 (And.intro hy hno))))))
      clear hL hM hn hm hl hl2 h0 hy hno
      go_enter Tryd.func10, Tryd.ntmps10
      go_wp2_with fail
      go_loopw [5] (fun i wr => ∃ k : Nat, k ≤ n ∧ i = .int .i64 k ∧ (∀ j, j < k → L[j]? = M[j]?) ∧ Only [] w wr) (fun i _ => n - (intOf i).toNat)
      case atStart => exact ⟨0, Nat.zero_le _, rfl, by intro j hj; omega, Only.refl _ _⟩
      case round =>
        obtain ⟨k, hk, rfl, hall, ho⟩ := hrel
        obtain ⟨hL, hM, hn, hl, hl2, hy, hno⟩ := H0.out
        have hL := hL.keep ho
        have hM := hM.keep ho
        by_cases hlt : k < n
        · obtain ⟨C, hC⟩ := List.get_some (L := L) (k := k) (by omega)
          obtain ⟨D, hD⟩ := List.get_some (L := M) (k := k) (by omega)
          obtain ⟨c0, c1, c2, c3, c4⟩ := hL.ce k C hC
          obtain ⟨d0, d1, d2, d3, d4⟩ := hM.ce k D hD
          have hkk : (k : Int) < (n : Int) := by omega
          have hw1 : IntKind.i64.wrap ((k : Int) + 1) = (k : Int) + 1 := IntWalk.i64_in _ ⟨by omega, by omega⟩
          have hne := ce_ne C D
          have HE := hide (And.intro (hno k C D hC hD) (And.intro (fun h => hC.trans ((congrArg some (Ce.eqB_iff.1 h)).trans hD.symm)) (And.intro hall ho)))
          unfold Ce.val at hne
          generalize C.eqB D = q at *
          clear hL hM hn hl hl2 hy hno hall hC hD ho
          go_upto_region 6 with fail
          cases q with
          | true =>
            go_region
            go_wp2_with fail
            go_roundw
            case rel =>
              refine ⟨k + 1, by omega, by go_num, fun j hj => ?_, HE.out.2.2.2.drew⟩
              rcases Nat.lt_or_ge j k with h1 | h1
              · exact HE.out.2.2.1 j h1
              · obtain rfl : j = k := by omega
                exact HE.out.2.1 rfl
            case measure => simp [intOf]; omega
          | false =>
            go_region
            go_wp2_with fail
            go_ret
            rw [HE.out.1 (by simp)]
            exact ⟨rfl, HE.out.2.2.2.drew⟩
        · obtain rfl : k = n := by omega
          have hR := hy (by rw [hl]; exact hall)
          subst hR
          have HF := hide ho
          clear hL hM hn hl hl2 hno hall hy ho
          go_wp2_with fail
          go_ret
          exact ⟨rfl, HF.out⟩
  · rw [sameL_len (by omega)]
    have h1 : ¬ (n : Int) = (m : Int) := by omega
    clear hL hM hl hl2 hn hm hnm
    go_enter Tryd.func10, Tryd.ntmps10
    go_wp2_with fail
    go_ret
    exact ⟨rfl, Only.refl _ _⟩
end Go.Proofs.YtilpegmjkbmldaaDoor
