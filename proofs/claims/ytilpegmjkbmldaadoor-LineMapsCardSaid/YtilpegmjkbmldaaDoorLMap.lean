/-
  LineMaps: a function of each cell, in order. (Of what comes in nothing is asked.)
-/
import Derived.Test.YtilpegmjkbmldaaDoorLnO
import Derived.Test.YtilpegmjkbmldaaDoorLnN
import Derived.Laws.EntriesVeiled
namespace Go.Proofs.YtilpegmjkbmldaaDoor.lmap
open Go Go.RowKit Go.ChangeShapes Go.WideShapes Go.ChangeAt

/-- What the two functions tell of a cell. -/
def xr (z : Int) (C : Ce) : Int := bits .xor .i64 C.r z
def tl (C : Ce) : Bool := C.k == 2
def xvals (z : Int) (L : List Ce) : List Value := L.map fun C => .int .i64 (xr z C)
def tvals (L : List Ce) : List Value := L.map fun C => .bool (tl C)
theorem xvals_one (z : Int) (L : List Ce) : ∀ u ∈ xvals z L, u.oneCell' = true := by
  intro u hu; simp [xvals] at hu; obtain ⟨b, _, rfl⟩ := hu; rfl
theorem tvals_one (L : List Ce) : ∀ u ∈ tvals L, u.oneCell' = true := by
  intro u hu; simp [tvals] at hu; obtain ⟨b, _, rfl⟩ := hu; rfl
theorem int_info : (Tryd.prog.info? 3).map (fun i => (i.zero, i.size, i.bytes)) = some (some (.int .i64 0), 1, 8) := by kernel_rfl
theorem bool_info : (Tryd.prog.info? 4).map (fun i => (i.zero, i.size, i.bytes)) = some (some (.bool false), 1, 1) := by kernel_rfl

set_option maxRecDepth 100000 in
theorem fx_any (g : Nat) (z : Int) (C : Ce) (hr : -2147483648 ≤ C.r ∧ C.r ≤ 2147483647) (w : World) (hg : Has w g 3 #[.int .i64 z]) :
    Calls Tryd.prog 16 #[C.val, .pointer (some ⟨g, 0, none⟩)] w fun e w' => e = .returned (.int .i64 (xr z C)) ∧ Only [] w w' := by
  unfold xr
  obtain ⟨r, k, a⟩ := C
  simp only at hr ⊢
  have hw : IntKind.i64.wrap r = r := IntWalk.i64_in _ ⟨by omega, by omega⟩
  have c0 : w.cell? ⟨g, 0, none⟩ = some (.int .i64 z) := hg.cell 0
  have hlt := hg.lt
  have HO := hide ((Only.refl [] w).alloc (.cells #[.int .i32 r, .int .i64 k, .int .i64 a.fg, .int .i64 a.bg, .int .i64 a.fl] 37))
  have c1 : (w.alloc (.cells #[.int .i32 r, .int .i64 k, .int .i64 a.fg, .int .i64 a.bg, .int .i64 a.fl] 37)).cell? ⟨g, 0, none⟩ = some (.int .i64 z) := (hg.alloc _).cell 0
  clear hr hg
  show Calls Tryd.prog 16 #[.agg #[.int .i32 r, .int .i64 k, .int .i64 a.fg, .int .i64 a.bg, .int .i64 a.fl], .pointer (some ⟨g, 0, none⟩)] w _
  go_enter Tryd.func16, Tryd.ntmps16
  go_wp2_with fail
  go_ret
  exact ⟨rfl, HO.out⟩
set_option maxRecDepth 100000 in
theorem ft_any (C : Ce) (w : World) :
    Calls Tryd.prog 18 #[C.val] w fun e w' => e = .returned (.bool (tl C)) ∧ Only [] w w' := by
  unfold tl
  obtain ⟨r, k, a⟩ := C
  simp only
  have HO := hide ((Only.refl [] w).alloc (.cells #[.int .i32 r, .int .i64 k, .int .i64 a.fg, .int .i64 a.bg, .int .i64 a.fl] 37))
  show Calls Tryd.prog 18 #[.agg #[.int .i32 r, .int .i64 k, .int .i64 a.fg, .int .i64 a.bg, .int .i64 a.fl]] w _
  go_enter Tryd.func18, Tryd.ntmps18
  go_wp2_with fail
  go_ret
  exact ⟨rfl, HO.out⟩

set_option maxRecDepth 100000 in
set_option maxHeartbeats 4000000 in
theorem mapInt_any (A : Option Addr) (n c : Nat) (L : List Ce) (z : Int) (g : Nat) (w : World) (h : LineAt w A n c L) (hn : n ≤ 240) (hg : Has w g 3 #[.int .i64 z]) (hr : ∀ C ∈ L, -2147483648 ≤ C.r ∧ C.r ≤ 2147483647) :
    Calls Tryd.prog 15 #[.slice A n c, .func (Fn.func 16) #[] #[.pointer (some ⟨g, 0, none⟩)]] w fun e w' => ∃ A' c', e = .returned (.slice A' n c') ∧ w'.ownsRow w.heap.size 3 1 (.slice A' n c') n (xvals z L) ∧ Only [] w w' := by
  obtain ⟨i0, hi0, hz0, hz1, hz2⟩ := info_of int_info
  have hl := h.len
  obtain ⟨Z, hZ, hmk⟩ : ∃ Z : Array Value, Z.size = n * 1 ∧ ∀ W : World, (Instr.makeSlice 34 (.int .i64 0) (.int .i64 (n : Int))).run Tryd.prog W = .ok (.slice (some ⟨W.heap.size, 0, none⟩) 0 n) (W.alloc (.cells Z 3)) := by
    refine ⟨madeCells (.int .i64 0 : Value).cells (n * 1), size_madeCells _ _, fun W => ?_⟩
    have h := run_make (P := Tryd.prog) W 34 3 i0 (.int .i64 0) Tryd.underlying34 hi0 hz0 .i64 .i64 0 n (Int.le_refl _) (by omega) (by rw [hz2]; omega) (by omega)
    rw [hz1] at h
    simpa using h
  have hown0 : (w.alloc (.cells Z 3)).ownsRow w.heap.size 3 1 (.slice (some ⟨w.heap.size, 0, none⟩) 0 n) 0 [] := World.ownsRow_made w Z n (Nat.le_refl _) (by unfold maxLen; omega) hZ
  have o0 := (Only.refl [] w).alloc (.cells Z 3)
  have HO := hide (And.intro h (And.intro hl (And.intro hown0 (And.intro o0 (And.intro hg hr)))))
  clear h hl hown0 o0 hZ
  rcases Nat.eq_zero_or_pos n with h0 | h0
  · subst h0
    have hmk2 : ∀ W : World, (Instr.makeSlice 34 (.int .i64 0) (.int .i64 0)).run Tryd.prog W = .ok (.slice (some ⟨W.heap.size, 0, none⟩) 0 0) (W.alloc (.cells Z 3)) := hmk
    clear hmk
    go_enter Tryd.func15, Tryd.ntmps15
    go_wp2_with fail
    go_loopw [5, 13] (fun v i wr => v = .slice (some ⟨w.heap.size, 0, none⟩) 0 0 ∧ i = .int .i64 0 ∧ wr = w.alloc (.cells Z 3)) (fun _ _ _ => 0)
    case atStart => exact ⟨rfl, rfl, rfl⟩
    case round =>
      obtain ⟨rfl, rfl, rfl⟩ := hrel
      go_wp2_with fail
      go_ret
      refine ⟨_, _, rfl, ?_, HO.out.2.2.2.1⟩
      rw [show xvals z L = [] by rw [List.eq_nil_of_length_eq_zero HO.out.2.1]; rfl]
      exact HO.out.2.2.1
  · obtain ⟨b, o, rfl⟩ := HO.out.1.addr h0
    have HP := hide h0
    clear h0
    go_enter Tryd.func15, Tryd.ntmps15
    go_wp2_with fail
    go_loopw [5, 13] (fun v i wr => ∃ (k : Nat) (A : Option Addr) (c : Nat), k ≤ n ∧ v = .slice A k c ∧ i = .int .i64 k ∧ wr.ownsRow w.heap.size 3 1 (.slice A k c) k (xvals z (L.take k)) ∧ Only [] w wr) (fun _ i _ => n - (intOf i).toNat)
    case atStart => exact ⟨0, _, _, Nat.zero_le _, rfl, rfl, HO.out.2.2.1, HO.out.2.2.2.1⟩
    case round =>
      obtain ⟨k, A, c', hk, rfl, rfl, hown, ho⟩ := hrel
      obtain ⟨h, hl, _⟩ := HO.out
      by_cases hlt : k < n
      · obtain ⟨C, hC⟩ := List.get_some (L := L) (k := k) (by omega)
        obtain ⟨c0, c1, c2, c3, c4⟩ := (h.keep ho).ce k C hC
        have hkk : (k : Int) < (n : Int) := by omega
        have hw1 : IntKind.i64.wrap ((k : Int) + 1) = (k : Int) + 1 := IntWalk.i64_in _ ⟨by omega, by omega⟩
        have oA : Only [] wr (wr.alloc (.cells #[.int .i32 C.r, .int .i64 C.k, .int .i64 C.a.fg, .int .i64 C.a.bg, .int .i64 C.a.fl] 37)) := (Only.refl [] wr).alloc _
        have HF := hide (fx_any g z C (HO.out.2.2.2.2.2 C (List.mem_of_getElem? hC)) (wr.alloc (.cells #[.int .i32 C.r, .int .i64 C.k, .int .i64 C.a.fg, .int .i64 C.a.bg, .int .i64 C.a.fl] 37)) ((HO.out.2.2.2.2.1.only ho (by simp)).only oA (by simp)))
        unfold Ce.val at HF
        have htk : xvals z (L.take (k + 1)) = xvals z (L.take k) ++ [.int .i64 (xr z C)] := by
          unfold xvals
          rw [List.take_add_one, hC, List.map_append]; rfl
        have HI := hide (And.intro hown (And.intro (ho.trans oA (S := []) (by simp)) (And.intro oA htk)))
        generalize hXX : xr z C = X at *
        clear h hl hC hown ho oA htk
        go_wp2_with fail
        refine (HF.out).mono ?_
        rintro e w1 ⟨rfl, ho1⟩
        have hown1 := (own_keep (own_keep HI.out.1 HI.out.2.2.1 (by simp)) ho1 (by simp)).alloc (.cells #[.int .i64 X] 3)
        have hlit := Holds.lit w1 #[.int .i64 X] 3
        have hoo := (HI.out.2.1.trans ho1 (S := []) (by simp)).alloc (.cells #[.int .i64 X] 3)
        have HQ := hide (And.intro hown1 (And.intro hlit (And.intro hoo.size hoo)))
        clear hown1 hlit hoo ho1 HF c0 c1 c2 c3 c4
        go_wp2_with (at_builtin; refine list_append _ rfl (.tmp 17) (.tmp 21) 34 rfl w.heap.size 1 8 Tryd.underlying34 hi0 hz0 hz1 hz2 rfl (by omega) HQ.out.1 rfl HQ.out.2.1 rfl (by simp [Value.oneCell']) (by show (k + 1) * 8 ≤ _; omega) (by omega) HQ.out.2.2.1 ?_; intro A2 c2 w2 hown2 hg2 hat2; have HR := hide (And.intro hown2 hg2); clear hown2 hg2 hat2)
        go_roundw
        case rel =>
          refine ⟨k + 1, A2, c2, by omega, rfl, by go_num, ?_, HQ.out.2.2.2.grown HR.out.2 (fun j hj hlt => by have := (HQ.out.1.lt j hj).1; omega)⟩
          rw [HI.out.2.2.2]
          exact HR.out.1
        case measure => simp [intOf]; omega
      · obtain rfl : k = n := by omega
        rw [List.take_of_length_le (by omega)] at hown
        have HF := hide (And.intro hown ho)
        clear h hl hown ho
        go_wp2_with fail
        go_ret
        exact ⟨A, c', rfl, HF.out⟩

set_option maxRecDepth 100000 in
set_option maxHeartbeats 4000000 in
theorem mapBool_any (A : Option Addr) (n c : Nat) (L : List Ce) (w : World) (h : LineAt w A n c L) (hn : n ≤ 240) :
    Calls Tryd.prog 17 #[.slice A n c, .func (Fn.func 18) #[] #[]] w fun e w' => ∃ A' c', e = .returned (.slice A' n c') ∧ w'.ownsRow w.heap.size 4 1 (.slice A' n c') n (tvals L) ∧ Only [] w w' := by
  obtain ⟨i0, hi0, hz0, hz1, hz2⟩ := info_of bool_info
  have hl := h.len
  obtain ⟨Z, hZ, hmk⟩ : ∃ Z : Array Value, Z.size = n * 1 ∧ ∀ W : World, (Instr.makeSlice 39 (.int .i64 0) (.int .i64 (n : Int))).run Tryd.prog W = .ok (.slice (some ⟨W.heap.size, 0, none⟩) 0 n) (W.alloc (.cells Z 4)) := by
    refine ⟨madeCells (.bool false : Value).cells (n * 1), size_madeCells _ _, fun W => ?_⟩
    have h := run_make (P := Tryd.prog) W 39 4 i0 (.bool false) Tryd.underlying39 hi0 hz0 .i64 .i64 0 n (Int.le_refl _) (by omega) (by rw [hz2]; omega) (by omega)
    rw [hz1] at h
    simpa using h
  have hown0 : (w.alloc (.cells Z 4)).ownsRow w.heap.size 4 1 (.slice (some ⟨w.heap.size, 0, none⟩) 0 n) 0 [] := World.ownsRow_made w Z n (Nat.le_refl _) (by unfold maxLen; omega) hZ
  have o0 := (Only.refl [] w).alloc (.cells Z 4)
  have HO := hide (And.intro h (And.intro hl (And.intro hown0 (And.intro o0 trivial))))
  clear h hl hown0 o0 hZ
  rcases Nat.eq_zero_or_pos n with h0 | h0
  · subst h0
    have hmk2 : ∀ W : World, (Instr.makeSlice 39 (.int .i64 0) (.int .i64 0)).run Tryd.prog W = .ok (.slice (some ⟨W.heap.size, 0, none⟩) 0 0) (W.alloc (.cells Z 4)) := hmk
    clear hmk
    go_enter Tryd.func17, Tryd.ntmps17
    go_wp2_with fail
    go_loopw [5, 13] (fun v i wr => v = .slice (some ⟨w.heap.size, 0, none⟩) 0 0 ∧ i = .int .i64 0 ∧ wr = w.alloc (.cells Z 4)) (fun _ _ _ => 0)
    case atStart => exact ⟨rfl, rfl, rfl⟩
    case round =>
      obtain ⟨rfl, rfl, rfl⟩ := hrel
      go_wp2_with fail
      go_ret
      refine ⟨_, _, rfl, ?_, HO.out.2.2.2.1⟩
      rw [show tvals L = [] by rw [List.eq_nil_of_length_eq_zero HO.out.2.1]; rfl]
      exact HO.out.2.2.1
  · obtain ⟨b, o, rfl⟩ := HO.out.1.addr h0
    have HP := hide h0
    clear h0
    go_enter Tryd.func17, Tryd.ntmps17
    go_wp2_with fail
    go_loopw [5, 13] (fun v i wr => ∃ (k : Nat) (A : Option Addr) (c : Nat), k ≤ n ∧ v = .slice A k c ∧ i = .int .i64 k ∧ wr.ownsRow w.heap.size 4 1 (.slice A k c) k (tvals (L.take k)) ∧ Only [] w wr) (fun _ i _ => n - (intOf i).toNat)
    case atStart => exact ⟨0, _, _, Nat.zero_le _, rfl, rfl, HO.out.2.2.1, HO.out.2.2.2.1⟩
    case round =>
      obtain ⟨k, A, c', hk, rfl, rfl, hown, ho⟩ := hrel
      obtain ⟨h, hl, _⟩ := HO.out
      by_cases hlt : k < n
      · obtain ⟨C, hC⟩ := List.get_some (L := L) (k := k) (by omega)
        obtain ⟨c0, c1, c2, c3, c4⟩ := (h.keep ho).ce k C hC
        have hkk : (k : Int) < (n : Int) := by omega
        have hw1 : IntKind.i64.wrap ((k : Int) + 1) = (k : Int) + 1 := IntWalk.i64_in _ ⟨by omega, by omega⟩
        have oA : Only [] wr (wr.alloc (.cells #[.int .i32 C.r, .int .i64 C.k, .int .i64 C.a.fg, .int .i64 C.a.bg, .int .i64 C.a.fl] 37)) := (Only.refl [] wr).alloc _
        have HF := hide (ft_any C (wr.alloc (.cells #[.int .i32 C.r, .int .i64 C.k, .int .i64 C.a.fg, .int .i64 C.a.bg, .int .i64 C.a.fl] 37)))
        unfold Ce.val at HF
        have htk : tvals (L.take (k + 1)) = tvals (L.take k) ++ [.bool (tl C)] := by
          unfold tvals
          rw [List.take_add_one, hC, List.map_append]; rfl
        have HI := hide (And.intro hown (And.intro (ho.trans oA (S := []) (by simp)) (And.intro oA htk)))
        generalize hXX : tl C = X at *
        clear h hl hC hown ho oA htk
        go_wp2_with fail
        refine (HF.out).mono ?_
        rintro e w1 ⟨rfl, ho1⟩
        have hown1 := (own_keep (own_keep HI.out.1 HI.out.2.2.1 (by simp)) ho1 (by simp)).alloc (.cells #[.bool X] 4)
        have hlit := Holds.lit w1 #[.bool X] 4
        have hoo := (HI.out.2.1.trans ho1 (S := []) (by simp)).alloc (.cells #[.bool X] 4)
        have HQ := hide (And.intro hown1 (And.intro hlit (And.intro hoo.size hoo)))
        clear hown1 hlit hoo ho1 HF c0 c1 c2 c3 c4
        go_wp2_with (at_builtin; refine list_append _ rfl (.tmp 17) (.tmp 21) 39 rfl w.heap.size 1 1 Tryd.underlying39 hi0 hz0 hz1 hz2 rfl (by omega) HQ.out.1 rfl HQ.out.2.1 rfl (by simp [Value.oneCell']) (by show (k + 1) * 1 ≤ _; omega) (by omega) HQ.out.2.2.1 ?_; intro A2 c2 w2 hown2 hg2 hat2; have HR := hide (And.intro hown2 hg2); clear hown2 hg2 hat2)
        go_roundw
        case rel =>
          refine ⟨k + 1, A2, c2, by omega, rfl, by go_num, ?_, HQ.out.2.2.2.grown HR.out.2 (fun j hj hlt => by have := (HQ.out.1.lt j hj).1; omega)⟩
          rw [HI.out.2.2.2]
          exact HR.out.1
        case measure => simp [intOf]; omega
      · obtain rfl : k = n := by omega
        rw [List.take_of_length_le (by omega)] at hown
        have HF := hide (And.intro hown ho)
        clear h hl hown ho
        go_wp2_with fail
        go_ret
        exact ⟨A, c', rfl, HF.out⟩

theorem xvals_get (z : Int) {L : List Ce} {k : Nat} {C : Ce} (h : L[k]? = some C) : (xvals z L)[k]? = some (.int .i64 (xr z C)) := by simp [xvals, h]
theorem tvals_get {L : List Ce} {k : Nat} {C : Ce} (h : L[k]? = some C) : (tvals L)[k]? = some (.bool (C.k == 2)) := by simp [tvals, h, tl]

set_option maxRecDepth 100000 in
theorem out (A : Option Addr) (n c : Nat) (z : Int) (w : World) (hn : 240 < n) (hm : n ≤ 9223372036854775807) :
    Calls Tryd.prog 4 #[.slice A n c, .int .i64 z] w fun e w' => e = .returned (.bool true) ∧ Only [] w w' := by
  have o0 := (Only.refl [] w).alloc (.cells #[.int .i64 z] 3)
  have HK := hide (known_any (w.alloc (.cells #[.int .i64 z] 3)))
  have HO := hide o0
  have hn2 : (240 : Int) < (n : Int) := by omega
  clear o0 hn hm
  go_enter Tryd.func4, Tryd.ntmps4
  go_wp2_with fail
  refine (HK.out).mono ?_
  rintro e w1 ⟨rfl, ho⟩
  go_wp2_with fail
  go_ret
  exact ⟨rfl, HO.out.trans ho (by simp)⟩

set_option maxRecDepth 100000 in
set_option maxHeartbeats 4000000 in
theorem main (A : Option Addr) (n c : Nat) (L : List Ce) (z : Int) (w : World) (h : LineAt w A n c L) (hn : n ≤ 240) (hr : ∀ C ∈ L, -2147483648 ≤ C.r ∧ C.r ≤ 2147483647) :
    Calls Tryd.prog 4 #[.slice A n c, .int .i64 z] w fun e w' => e = .returned (.bool true) ∧ Only [] w w' := by
  have o0 := (Only.refl [] w).alloc (.cells #[.int .i64 z] 3)
  have hb := Has.new w 3 #[.int .i64 z]
  have HK := hide (known_any (w.alloc (.cells #[.int .i64 z] 3)))
  have HO := hide (And.intro o0 (And.intro hb (And.intro (h.keep o0) hr)))
  clear o0 hb h hr
  go_enter Tryd.func4, Tryd.ntmps4
  go_wp2_with fail
  refine (HK.out).mono ?_
  rintro e w1 ⟨rfl, ho1⟩
  have H1 := hide (And.intro (HO.out.1.trans ho1 (S := []) (by simp)) (And.intro (HO.out.2.1.only ho1 (by simp)) (HO.out.2.2.1.keep ho1)))
  have HM := hide (mapInt_any A n c L z w.heap.size w1 H1.out.2.2 hn H1.out.2.1 HO.out.2.2.2)
  clear ho1 HK
  go_wp2_with fail
  refine (HM.out).mono ?_
  rintro e w2 ⟨A2, c2, rfl, hown2, ho2⟩
  have H2 := hide (And.intro (H1.out.1.trans ho2 (S := []) (by simp)) (And.intro (H1.out.2.1.only ho2 (by simp)) (And.intro (H1.out.2.2.keep ho2) hown2)))
  have HB := hide (mapBool_any A n c L w2 H2.out.2.2.1 hn)
  clear ho2 hown2 HM H1
  go_wp2_with fail
  refine (HB.out).mono ?_
  rintro e w3 ⟨A3, c3, rfl, hown3, ho3⟩
  have H3 := hide (And.intro (H2.out.1.trans ho3 (S := []) (by simp)) (And.intro (H2.out.2.1.only ho3 (by simp)) (And.intro (H2.out.2.2.1.keep ho3) (And.intro (own_keep H2.out.2.2.2 ho3 (by simp)) hown3))))
  clear ho3 hown3 HB H2
  rcases Nat.eq_zero_or_pos n with h0 | h0
  · subst h0
    go_wp2_with fail
    go_loopw [7] (fun i wr => i = .int .i64 0 ∧ wr = w3) (fun _ _ => 0)
    case atStart => exact ⟨rfl, rfl⟩
    case round =>
      obtain ⟨rfl, rfl⟩ := hrel
      go_wp2_with fail
      go_ret
      exact ⟨rfl, H3.out.1⟩
  · obtain ⟨b, o, rfl⟩ := H3.out.2.2.1.addr h0
    obtain ⟨g2, rfl, _, _, _, hx⟩ := own_open H3.out.2.2.2.1 h0
    obtain ⟨g3, rfl, _, _, _, hy⟩ := own_open H3.out.2.2.2.2 h0
    have HX := hide (And.intro hx hy)
    clear hx hy h0
    go_wp2_with fail
    go_loopw [7] (fun i wr => ∃ k : Nat, k ≤ n ∧ i = .int .i64 k ∧ Only [] w3 wr) (fun i _ => n - (intOf i).toNat)
    case atStart => exact ⟨0, Nat.zero_le _, rfl, Only.refl _ _⟩
    case round =>
      obtain ⟨k, hk, rfl, ho⟩ := hrel
      by_cases hlt : k < n
      · obtain ⟨o3, hb3, h3, hx3, hy3⟩ := H3.out
        have hl := h3.len
        obtain ⟨C, hC⟩ := List.get_some (L := L) (k := k) (by omega)
        obtain ⟨c0, c1, _⟩ := (h3.keep ho).ce k C hC
        have x0 : wr.cell? ⟨g2, k, none⟩ = some (.int .i64 (xr z C)) := by
          have := HX.out.1 k _ (xvals_get z hC)
          rw [ho.cell (World.block_lt_of_cell? _ _ this) (by simp)]; exact this
        have y0 : wr.cell? ⟨g3, k, none⟩ = some (.bool (C.k == 2)) := by
          have := HX.out.2 k _ (tvals_get hC)
          rw [ho.cell (World.block_lt_of_cell? _ _ this) (by simp)]; exact this
        have b0 : wr.cell? ⟨w.heap.size, 0, none⟩ = some (.int .i64 z) := (hb3.only ho (by simp)).cell 0
        have hrr := HO.out.2.2.2 C (List.mem_of_getElem? hC)
        have hwr : IntKind.i64.wrap C.r = C.r := IntWalk.i64_in _ ⟨by omega, by omega⟩
        have hxr : bits .xor .i64 C.r z = xr z C := rfl
        have hkk : (k : Int) < (n : Int) := by omega
        have hw1 : IntKind.i64.wrap ((k : Int) + 1) = (k : Int) + 1 := IntWalk.i64_in _ ⟨by omega, by omega⟩
        have HF := hide ho
        generalize xr z C = X at *
        obtain ⟨r, K, a⟩ := C
        simp only at c0 c1 hwr hxr y0
        generalize hq : (K == 2) = q at *
        clear o3 hb3 h3 hx3 hy3 hl hC hrr ho
        go_upto_region 12 with fail
        have c0 := later_cell c0
        have c1 := later_cell c1
        have x0 := later_cell x0
        have y0 := later_cell y0
        have b0 := later_cell b0
        refine region_later (by kernel_rfl) (by kernel_rfl) ?_
        iterate 26 (go_big_quiet_step (fail))
        refine wpQuiet_nil ?_
        rintro _ ⟨X, rfl⟩
        go_wp2_with fail
        go_roundw
        case rel => exact ⟨k + 1, by omega, by go_num, HF.out.trans X.only (by simp)⟩
        case measure => simp [intOf]; omega
      · obtain rfl : k = n := by omega
        have HF := hide ho
        clear ho
        go_wp2_with fail
        go_ret
        exact ⟨rfl, H3.out.1.trans HF.out (by simp)⟩

theorem core (A : Option Addr) (n c : Nat) (L : List Ce) (z : Int) (w : World) (h : LineAt w A n c L) (hm : n ≤ 9223372036854775807) (hr : ∀ C ∈ L, -2147483648 ≤ C.r ∧ C.r ≤ 2147483647) :
    Calls Tryd.prog 4 #[.slice A n c, .int .i64 z] w fun e w' => e = .returned (.bool true) ∧ Only [] w w' := by
  by_cases hn : n ≤ 240
  · exact main A n c L z w h hn hr
  · exact out A n c z w (by omega) hm

set_option maxRecDepth 100000 in
theorem lifted (os : Os) (started : os.Started) (H : Type) (enc : TypeId × Value → H) :
    ReturnsInHanded {} Tryd.checked os 4 .any (fun w args => (Rows.lineMapsSpec.pre enc Tryd.prog Tryd.f4 [] false w args ∧ laidMetH Tryd.prog laidB w) ∧ sizedMet enc Tryd.prog Tryd.f4 (OpenSpec.ofChange Rows.lineMapsSpec) false w args)
      (Rows.lineMapsSpec.post enc Tryd.prog Tryd.f4 false true false false) := by
  refine returnsInHanded_of_change_and (C := Tryd.checked) (X := fun w _ => laidMetH Tryd.prog laidB w) (fun _ _ _ hh h => h.of_heap hh) own_knob started (by kernel_rfl) Tryd.func4
    (ChangeSpec.witness_shaped (enc := enc) (C := Tryd.checked) (os := os) (X := fun w _ => laidMetH Tryd.prog laidB w) false (World.laidAll Tryd.prog os laidB) #[.slice none 0 0, .int .i64 0] 8 (World.laidAll_os _ _ _) (World.shaped_of_ZipB (by kernel_rfl) (by kernel_rfl)) (by kernel_rfl) (by kernel_rfl) (by kernel_rfl) (start_met os _)) ?_
  intro W base args ds gs before hval0 hW _ _ hL _
  have hval : ∀ (j : Nat) t v, Tryd.f4.params[j]? = some t → args[j]? = some v → Value.okWide Tryd.prog W .any base t v := hval0
  have hW' := hW
  obtain ⟨p, q, hA0, hV, rfl, hfz, hnd⟩ := hW
  have hA : DataW.TrodAll enc Tryd.prog W 0 (fun _ => true) true Tryd.f4.params.toList args.toList ds p := hA0
  rw [Tryd.params4] at hA hval
  obtain ⟨v0, vs0, d0, ds0, p0, q0, hargs, rfl, rfl, h0, r0⟩ := trodAll_cons hA
  obtain ⟨v1, vs1, d1, ds1, p1, q1, rfl, rfl, rfl, h1, r1⟩ := trodAll_cons r0
  obtain ⟨rfl, rfl, rfl⟩ := trodAll_nil r1
  obtain rfl : args = #[v0, v1] := by cases args; simp_all
  obtain ⟨A0, n0, c0, L0, rfl, hl0, hm0, hr0⟩ := open_line (hval 0 25 v0 rfl rfl) h0
  unfold maxLen at hm0
  obtain ⟨z1, rfl, rfl, rfl, _⟩ := open_int Tryd.underlying3 (hval 1 3 v1 rfl rfl) h1
  refine (core A0 n0 c0 L0 z1 W hl0 hm0 hr0).mono fun e W' ⟨he, ho⟩ => ?_
  subst he
  exact ⟨_, rfl, law_post rfl hW' (by intro t ht; revert t; exact of_decide_eq_true (by kernel_rfl)) rfl rfl ho⟩

theorem holds : Rows.LineMapsSaid :=
  OpenClaim.holds_of_wide 4 Tryd.f4 rfl rfl rfl rfl rfl rfl rfl ⟨rfl, rfl, rfl, rfl, rfl⟩ rfl rfl rfl rfl rfl (by kernel_rfl) Tryd.func4 (by kernel_rfl)
    (of_decide_eq_true (by kernel_rfl)) (by unfold Func.isWrapper; first | (rw [if_pos (by decide +kernel)]; kernel_rfl) | (rw [if_neg (by decide +kernel)]; exact ⟨rfl, rfl⟩))
    (fun os started H enc _ => lifted os started H enc)

theorem proved : Rows.LineMapsCardSaid :=
  Claim7.holds_tied_plain_at .later [] Rows.lineMapsCard.laidKinds true Rows.lineMapsCard.stood.harness false
    holds (fun _ h => by cases h) (by kernel_rfl) (fun _ h => by cases h) lineMaps_row_tie rfl ⟨rfl, rfl⟩ (by kernel_rfl) rfl
    (fun f fn hf hfn => by
      obtain rfl : f = 4 := Option.some.inj ((show Tryd.prog.funcNamed "phosphor/phosphorlaw13.LineMaps" = some 4 by kernel_rfl).symm.trans hf) |>.symm
      obtain rfl : fn = Tryd.f4 := (Option.some.inj (Tryd.func4.symm.trans hfn)).symm
      exact ⟨by kernel_rfl, fun j t ht => by
        rw [Tryd.params4] at ht
        have hm : t ∈ [25, 3] := by simpa using Array.mem_of_getElem? ht
        have hall : ([25, 3].all fun u => !Tryd.prog.wantsStandIn u) = true := by kernel_rfl
        exact (show Tryd.prog.wantsStandIn t = false by simpa using List.all_eq_true.1 hall t hm)⟩)
    (by kernel_rfl)
end Go.Proofs.YtilpegmjkbmldaaDoor.lmap
