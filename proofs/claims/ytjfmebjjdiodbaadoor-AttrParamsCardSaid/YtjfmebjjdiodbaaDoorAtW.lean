/-
  Package attr: Params of what is right.
-/
import Derived.Test.YtjfmebjjdiodbaaDoorAtQ
import Derived.Laws.OwnMore
namespace Go.Proofs.YtjfmebjjdiodbaaDoor
open Go Go.RowKit

theorem flagsTo_len (fl : Int) (j : Nat) : (flagsTo fl j).length ≤ j := by
  induction j with
  | zero => exact Nat.le_refl _
  | succ j ih =>
    unfold flagsTo
    split
    · rw [List.length_append]; simp; omega
    · omega

/-- Where Params' loop stands. -/
structure PrS (w : World) (a : At) (L : List Int) (v : Value) (wr : World) : Prop where
  own : wr.ownsRow (w.heap.size + 1) 3 1 v L.length (ivals L)
  box : Has wr w.heap.size 23 a.cells
  only : Only [] w wr
theorem PrS.grow {w wr w' : World} {a : At} {L M : List Int} {v : Value} {A : Option Addr} {n c : Nat} (S : PrS w a L v wr) (hown : w'.ownsRow (w.heap.size + 1) 3 1 (.slice A n c) n (ivals L ++ ivals M)) (hn : (L ++ M).length = n) (hg : wr.grownBy w' v.ownBlock) : PrS w a (L ++ M) (.slice A n c) w' := by
  subst hn
  have hne := own_ne S.own S.box (by decide)
  refine ⟨by rw [ivals_append]; exact hown, S.box.grown hg hne, S.only.grown hg (fun k hk hlt => ?_)⟩
  rcases S.own.2 with ⟨h, _⟩ | ⟨g, _, _, h, hB, _⟩
  · rw [h] at hk; simp [Value.ownBlock] at hk
  · rw [h] at hk
    have : g = k := by simpa [Value.ownBlock] using hk
    omega
theorem PrS.alloc {w wr : World} {a : At} {L : List Int} {v : Value} (S : PrS w a L v wr) (o : Obj) : PrS w a L v (wr.alloc o) := ⟨S.own.alloc o, S.box.alloc o, S.only.alloc o⟩
theorem PrS.drew {w wr : World} {a : At} {L : List Int} {v : Value} (S : PrS w a L v wr) : PrS w a L v wr.drew := ⟨S.own, S.box.drew, S.only.drew⟩
theorem PrS.keep {w wr w' : World} {a : At} {L : List Int} {v : Value} (S : PrS w a L v wr) (ho : Only [] wr w') : PrS w a L v w' := ⟨own_keep S.own ho (by simp), S.box.only ho (by simp), S.only.trans ho (by simp)⟩

theorem int_info : (Tryd.prog.info? 3).map (fun i => (i.zero, i.size, i.bytes)) = some (some (.int .i64 0), 1, 8) := by kernel_rfl

set_option maxRecDepth 100000 in
set_option maxHeartbeats 8000000 in
theorem params_any (a : At) (ha : a.Wf) (hr : rightA a = true) (w : World) (T : Tab w) :
    Calls Tryd.prog 19 #[a.val] w fun e w' => RowP (paramsL a) w e w' := by
  show Calls Tryd.prog 19 #[.agg #[.int .i64 a.fg, .int .i64 a.bg, .int .i64 a.fl]] w _
  have HR := hide (fun w => right_any a ha w)
  rw [hr] at HR
  unfold At.val At.cells at HR
  have HF := hide (fun w => paramsOf_any a.fg 30 ha.fg (by omega) (by omega) w)
  have HB := hide (fun w => paramsOf_any a.bg 40 ha.bg (by omega) (by omega) w)
  obtain ⟨i0, hi0, hz0, hz1, hz2⟩ := info_of int_info
  have hbox := Has.new w 23 #[.int .i64 a.fg, .int .i64 a.bg, .int .i64 a.fl]
  have o0 := (Only.refl [] w).alloc (.cells #[.int .i64 a.fg, .int .i64 a.bg, .int .i64 a.fl] 23)
  have HI := hide (And.intro hbox (And.intro o0 T))
  have HZ := hide (And.intro hi0 (And.intro hz0 (And.intro hz1 hz2)))
  clear hbox o0 T ha hr hi0 hz0 hz1 hz2
  go_enter Tryd.func19, Tryd.ntmps19
  go_wp2_with fail
  refine (HR.out _).mono ?_
  rintro e w1 ⟨rfl, ho⟩
  have hlt := ho.size
  simp only [World.size_alloc] at hlt
  have S0 : PrS w a [0] (.slice (some ⟨w1.heap.size, 0, none⟩) 1 1) (w1.alloc (.cells #[.int .i64 0] 3)) :=
    ⟨World.ownsRow_lit w1 #[.int .i64 0] 1 hlt (by decide) rfl, (HI.out.1.only ho (by simp)).alloc _, (HI.out.2.1.trans ho (S := []) (by simp)).alloc _⟩
  have HS0 := hide S0
  clear S0 ho HR
  go_wp2_with fail
  go_loopw [3, 9] (fun lv cv wr => ∃ (j : Nat) (v : Value), j ≤ 10 ∧ cv = .int .i64 j ∧ lv = v ∧ PrS w a ((0 : Int) :: flagsTo a.fl j) v wr) (fun _ cv _ => 10 - (intOf cv).toNat)
  case atStart => exact ⟨0, _, by omega, rfl, rfl, HS0.out⟩
  case round =>
    obtain ⟨j, v, hj, rfl, rfl, S⟩ := hrel
    obtain ⟨A, c, rfl, _, _⟩ := own_shape S.own
    by_cases hlt : j < 10
    · have m2 : wr.cell? ⟨w.heap.size, 2, none⟩ = some (.int .i64 a.fl) := S.box.cell 2
      have ct := (HI.out.2.2.only S.only (by simp)).flag j hlt
      have hb : bitOn a.fl j = (bits .and .i64 a.fl (flagL.getD j 0) != 0) := rfl
      have hstep : flagsTo a.fl (j + 1) = if bitOn a.fl j then flagsTo a.fl j ++ [(j : Int)] else flagsTo a.fl j := rfl
      have hlen := flagsTo_len a.fl j
      generalize flagL.getD j 0 = f at *
      have hji : (j : Int) < 10 := by omega
      have hbit := hb.symm
      have SD := S.drew
      cases hbv : bitOn a.fl j with
      | false =>
        rw [hbv] at hbit hstep
        rw [if_neg (by decide)] at hstep
        have HS := hide (And.intro SD hstep)
        clear S SD hb hbv hstep
        go_wp2_with fail
        go_still_tail 6, (by kernel_rfl)
        change wpList _ _ _ _ _ wr.drew
        go_wp2_with fail
        go_roundw
        case rel => exact ⟨j + 1, _, by omega, by go_num, rfl, by rw [HS.out.2]; exact HS.out.1⟩
        case measure => simp [intOf]; omega
      | true =>
        rw [hbv] at hbit hstep
        rw [if_pos rfl] at hstep
        have SA : PrS w a ((0 : Int) :: flagsTo a.fl j) (.slice A ((0 : Int) :: flagsTo a.fl j).length c) (wr.alloc (.cells #[.int .i64 (j : Int)] 3)).drew := (S.alloc _).drew
        have hsrc : Holds (wr.alloc (.cells #[.int .i64 (j : Int)] 3)).drew 1 (some ⟨wr.heap.size, 0, none⟩) 1 (ivals [(j : Int)]) := Holds.lit wr #[.int .i64 (j : Int)] 3
        have hown := SA.own
        have hn8 : (((0 : Int) :: flagsTo a.fl j).length + 1) * 8 ≤ 140737488355328 := by simp only [List.length_cons]; omega
        have hB : w.heap.size + 1 ≤ (wr.alloc (.cells #[.int .i64 (j : Int)] 3)).drew.heap.size := by have := SA.box.lt; omega
        have hLn : ∃ n, ((0 : Int) :: flagsTo a.fl j).length = n := ⟨_, rfl⟩
        obtain ⟨n, hLn⟩ := hLn
        rw [hLn] at SA hown hn8 ⊢
        have HS := hide (And.intro SA (And.intro hstep hLn))
        have HO := hide (And.intro hown (And.intro hsrc (And.intro hn8 hB)))
        clear S SD SA hb hbv hstep hsrc hlen hown hn8 hB hLn
        obtain ⟨hi0, hz0, hz1, hz2⟩ := HZ.out
        go_wp2_with fail
        go_still_tail 6, (by kernel_rfl)
        change wpList _ _ _ _ _ wr.drew
        go_wp2_with (at_builtin; refine list_append _ rfl (.tmp 19) (.tmp 21) 24 rfl (w.heap.size + 1) 1 8 Tryd.underlying24 hi0 hz0 hz1 hz2 rfl (by decide) HO.out.1 rfl HO.out.2.1 rfl (ivals_one [(j : Int)]) HO.out.2.2.1 (by decide) HO.out.2.2.2 ?_; intro A2 c2 w2 hown2 hg2 hat2; have HG := hide (And.intro hown2 hg2); clear hown2 hg2 hat2)
        go_roundw
        case rel =>
          refine ⟨j + 1, _, by omega, by go_num, rfl, ?_⟩
          rw [HS.out.2.1]
          exact HS.out.1.grow HG.out.1 (by rw [List.length_append, HS.out.2.2]; rfl) HG.out.2
        case measure => simp [intOf]; omega
    · obtain rfl : j = 10 := by omega
      have m0 : wr.cell? ⟨w.heap.size, 0, none⟩ = some (.int .i64 a.fg) := S.box.cell 0
      obtain ⟨n, hLn⟩ : ∃ n, ((0 : Int) :: flagsTo a.fl 10).length = n := ⟨_, rfl⟩
      have hown := S.own
      have hfl := flagsTo_len a.fl 10
      have hn11 : n ≤ 11 := by rw [← hLn, List.length_cons]; omega
      rw [hLn] at hown S ⊢
      have HS := hide (And.intro S (And.intro hLn (And.intro hown hn11)))
      clear S hLn hown hfl hn11
      go_wp2_with fail
      refine (HF.out _).mono ?_
      rintro e w2 ⟨A1, n1, c1, rfl, hl1, hc1, hr1, ho1⟩
      have S2 := HS.out.1.keep ho1
      have hown := own_keep HS.out.2.2.1 ho1 (by simp)
      have hlen1 : n1 ≤ 5 := by rw [← hl1]; exact pOf_len _ _
      have hB : w.heap.size + 1 ≤ w2.heap.size := by have := S2.box.lt; omega
      have hn8 : (n + n1) * 8 ≤ 140737488355328 := by have := HS.out.2.2.2; omega
      have HO := hide (And.intro S2 (And.intro hown (And.intro hr1 (And.intro hB (And.intro hn8 (And.intro hl1 hlen1))))))
      clear S2 hown hlen1 hB hn8 hl1 hc1 hr1 ho1 m0
      obtain ⟨hi0, hz0, hz1, hz2⟩ := HZ.out
      go_upto_region 11 with (at_builtin; refine list_append _ rfl (.tmp 24) (.tmp 27) 24 rfl (w.heap.size + 1) 1 8 Tryd.underlying24 hi0 hz0 hz1 hz2 rfl (by decide) HO.out.2.1 rfl HO.out.2.2.1 rfl (ivals_one _) HO.out.2.2.2.2.1 (by decide) HO.out.2.2.2.1 ?_; intro A2 c2 w3 hown3 hg3 hat3; have HG := hide (And.intro hown3 hg3); clear hown3 hg3 hat3)
      have hlen2 : (((0 : Int) :: flagsTo a.fl 10) ++ pOf a.fg 30).length = n + n1 := by rw [List.length_append, HS.out.2.1, HO.out.2.2.2.2.2.1]
      have S3 := HO.out.1.grow HG.out.1 hlen2 HG.out.2
      have m1 : w3.cell? ⟨w.heap.size, 1, none⟩ = some (.int .i64 a.bg) := S3.box.cell 1
      have hn16 : n + n1 ≤ 16 := by have := HS.out.2.2.2; have := HO.out.2.2.2.2.2.2; omega
      generalize n + n1 = p at *
      have hown3 := S3.own
      rw [hlen2] at hown3
      have HS3 := hide (And.intro S3 (And.intro hlen2 (And.intro hown3 hn16)))
      clear S3 hlen2 hown3 hn16 HO HG HS hi0 hz0 hz1 hz2
      go_wp2_with fail
      refine (HB.out _).mono ?_
      rintro e w4 ⟨A4, n4, c4, rfl, hl4, hc4, hr4, ho4⟩
      have S4 := HS3.out.1.keep ho4
      have hown := own_keep HS3.out.2.2.1 ho4 (by simp)
      have hlen4 : n4 ≤ 5 := by rw [← hl4]; exact pOf_len _ _
      have hB : w.heap.size + 1 ≤ w4.heap.size := by have := S4.box.lt; omega
      have hn8 : (p + n4) * 8 ≤ 140737488355328 := by have := HS3.out.2.2.2; omega
      have HO := hide (And.intro S4 (And.intro hown (And.intro hr4 (And.intro hB (And.intro hn8 (And.intro hl4 hlen4))))))
      clear S4 hown hlen4 hB hn8 hl4 hc4 hr4 ho4 m1
      obtain ⟨hi0, hz0, hz1, hz2⟩ := HZ.out
      go_wp2_with (at_builtin; refine list_append _ rfl (.tmp 29) (.tmp 32) 24 rfl (w.heap.size + 1) 1 8 Tryd.underlying24 hi0 hz0 hz1 hz2 rfl (by decide) HO.out.2.1 rfl HO.out.2.2.1 rfl (ivals_one _) HO.out.2.2.2.2.1 (by decide) HO.out.2.2.2.1 ?_; intro A5 c5 w5 hown5 hg5 hat5; have HG := hide (And.intro hown5 hg5); clear hown5 hg5 hat5)
      go_ret
      have hlen5 : (((0 : Int) :: flagsTo a.fl 10) ++ pOf a.fg 30 ++ pOf a.bg 40).length = p + n4 := by rw [List.length_append, HS3.out.2.1, HO.out.2.2.2.2.2.1]
      have S5 := HO.out.1.grow HG.out.1 hlen5 HG.out.2
      have hown5 := S5.own
      rw [hlen5] at hown5
      obtain ⟨A', c', he, hle, _⟩ := own_shape hown5
      injection he with _ _ hcc
      exact ⟨_, _, _, rfl, hlen5, by omega, Holds.of_own hown5, S5.only⟩
end Go.Proofs.YtjfmebjjdiodbaaDoor
