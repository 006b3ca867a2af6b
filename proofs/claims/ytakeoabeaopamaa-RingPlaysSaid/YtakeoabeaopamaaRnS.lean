/-
  The document's ring: Push.
-/
import Derived.Test.YtakeoabeaopamaaRnR
namespace Go.Proofs.Ytakeoabeaopamaa
open Go Go.RowKit

set_option maxRecDepth 100000 in
set_option maxHeartbeats 4000000 in
theorem rpush_room {w : World} {B h M k : Nat} {v : Value} {L : List Int} (R : RfV w B h M v L k) (x : Int) (hl : L.length < M) (hM : M ≤ 65536) :
    Calls Try.prog 10 #[.pointer (some ⟨h, 0, none⟩), .int .i64 x] w fun e w' => ∃ v', e = .returned (.tuple #[.int .i64 0, .bool false]) ∧ RfV w' B h M v' (L ++ [x]) k ∧ Tn [h] w v w' v' := by
  obtain ⟨n, c, A, rfl, R⟩ := R
  obtain ⟨i0, hi0, hz0, hz1, hz2⟩ := info_of int_info
  have hlen := R.len
  have hf := R.few
  have c1 : w.cell? ⟨h, 1, none⟩ = some (.slice A n c) := R.box.cell 1
  have hown := (R.own.alloc (.cells #[.int .i64 x] 3))
  have hne := own_ne R.own R.box (by decide)
  have hsrc : Holds (w.alloc (.cells #[.int .i64 x] 3)) 1 (some ⟨w.heap.size, 0, none⟩) 1 (ivals [x]) := Holds.lit w #[.int .i64 x] 3
  have hB : B ≤ (w.alloc (.cells #[.int .i64 x] 3)).heap.size := by have := R.base; have := R.box.lt; simp; omega
  have hT : Tn [h] w (.slice A n c) (w.alloc (.cells #[.int .i64 x] 3)) (.slice A n c) := Tn.nil ((Only.refl [h] w).alloc _)
  have hbx := R.box.alloc (.cells #[.int .i64 x] 3)
  have hn8 : (n + 1) * 8 ≤ 140737488355328 := by omega
  have HB := hide (And.intro hbx hne)
  have HO := hide (And.intro hown (And.intro hsrc (And.intro hB hn8)))
  have HT := hide (And.intro hT (And.intro R.base hlen))
  have h1c := ivals_one [x]
  clear hown hsrc hB hT hbx hne hn8 R hlen
  go_enter Try.func10, Try.ntmps10
  go_upto_region 2 with (at_builtin; refine list_append _ rfl (.tmp 11) (.tmp 13) 37 rfl B 1 8 Try.underlying37 hi0 hz0 hz1 hz2 rfl (by decide) HO.out.1 rfl HO.out.2.1 rfl h1c HO.out.2.2.2 (by decide) HO.out.2.2.1 ?_; intro A2 c2 w2 hown2 hg2 hat2; have HG := hide (And.intro hown2 (And.intro hg2 hat2)); have hbx2 := HB.out.1.grown hg2 HB.out.2; have e1 : w2.cell? ⟨h, 1, none⟩ = some (.slice A n c) := hbx2.cell 1; have e2 : w2.frozen? ⟨h, 1, none⟩ = false := hbx2.free 1; have HB2 := hide hbx2; clear hown2 hg2 hat2 hbx2)
  have hT2 := HT.out.1.grown0 HG.out.2.1 HG.out.2.2
  have hb3 := HB2.out.set 1 (.slice A2 (n + 1) c2)
  have hnew : some h ≠ (Value.slice A2 (n + 1) c2).ownBlock := own_ne HG.out.1 HB2.out (by decide)
  have hne3 : ∀ b', (Value.slice A2 (n + 1) c2).ownBlock = some b' → b' ∉ [h] := by
    intro b' hb' hm
    simp at hm
    exact hnew (by rw [hb', hm])
  have hS3 : Only [h] w2 (w2.setCell ⟨h, 1, none⟩ (.slice A2 (n + 1) c2)) := (Only.refl [h] w2).setCell (p := ⟨h, 1, none⟩) (by simp) _
  have ho3 := own_keep HG.out.1 hS3 hne3
  have hT3 := hT2.step hS3
  rw [← ivals_append] at ho3
  obtain ⟨hbase, hlen⟩ := HT.out.2
  clear hT2 hnew hS3 HG HB2 HB HO HT h1c c1 e1 e2
  generalize w2.setCell ⟨h, 1, none⟩ (.slice A2 (n + 1) c2) = w3 at *
  have e0 : w3.cell? ⟨h, 0, none⟩ = some (.int .i64 M) := hb3.cell 0
  have e1 : w3.cell? ⟨h, 1, none⟩ = some (.slice A2 (n + 1) c2) := hb3.cell 1
  have k1 : ((n : Int) + 1 ≤ (M : Int)) := by omega
  have HF := hide (And.intro hb3 (And.intro ho3 hT3))
  clear hb3 ho3 hT3 hne3
  go_wp2_with fail
  go_region
  go_wp2_with fail
  go_ret2
  obtain ⟨hb3, ho3, hT3⟩ := HF.out
  exact ⟨_, rfl, ⟨n + 1, c2, A2, rfl, ⟨hb3.drew, own_keep ho3 ((Only.refl [] _).drew) (by simp), hbase, by omega⟩⟩, hT3.step ((Only.refl [h] _).drew)⟩

set_option maxRecDepth 100000 in
set_option maxHeartbeats 4000000 in
theorem rpush_out {w : World} {B h M k : Nat} {v : Value} {L : List Int} (R : RfV w B h M v L k) (x y : Int) (hl : ¬ L.length < M) (hy : (L ++ [x])[0]? = some y) (hk : k ≤ 1000000) :
    Calls Try.prog 10 #[.pointer (some ⟨h, 0, none⟩), .int .i64 x] w fun e w' => ∃ v', e = .returned (.tuple #[.int .i64 y, .bool true]) ∧ RfV w' B h M v' (L ++ [x]).tail (k + 1) ∧ Tn [h] w v w' v' := by
  obtain ⟨n, c, A, rfl, R⟩ := R
  obtain ⟨i0, hi0, hz0, hz1, hz2⟩ := info_of int_info
  have hlen := R.len
  have hf := R.few
  have c1 : w.cell? ⟨h, 1, none⟩ = some (.slice A n c) := R.box.cell 1
  have hown := (R.own.alloc (.cells #[.int .i64 x] 3))
  have hne := own_ne R.own R.box (by decide)
  have hsrc : Holds (w.alloc (.cells #[.int .i64 x] 3)) 1 (some ⟨w.heap.size, 0, none⟩) 1 (ivals [x]) := Holds.lit w #[.int .i64 x] 3
  have hB : B ≤ (w.alloc (.cells #[.int .i64 x] 3)).heap.size := by have := R.base; have := R.box.lt; simp; omega
  have hT : Tn [h] w (.slice A n c) (w.alloc (.cells #[.int .i64 x] 3)) (.slice A n c) := Tn.nil ((Only.refl [h] w).alloc _)
  have hbx := R.box.alloc (.cells #[.int .i64 x] 3)
  have hn8 : (n + 1) * 8 ≤ 140737488355328 := by omega
  have HB := hide (And.intro hbx hne)
  have HO := hide (And.intro hown (And.intro hsrc (And.intro hB hn8)))
  have HT := hide (And.intro hT (And.intro R.base hlen))
  have h1c := ivals_one [x]
  clear hown hsrc hB hT hbx hne hn8 R hlen
  go_enter Try.func10, Try.ntmps10
  go_upto_region 2 with (at_builtin; refine list_append _ rfl (.tmp 11) (.tmp 13) 37 rfl B 1 8 Try.underlying37 hi0 hz0 hz1 hz2 rfl (by decide) HO.out.1 rfl HO.out.2.1 rfl h1c HO.out.2.2.2 (by decide) HO.out.2.2.1 ?_; intro A2 c2 w2 hown2 hg2 hat2; have HG := hide (And.intro hown2 (And.intro hg2 hat2)); have hbx2 := HB.out.1.grown hg2 HB.out.2; have e1 : w2.cell? ⟨h, 1, none⟩ = some (.slice A n c) := hbx2.cell 1; have e2 : w2.frozen? ⟨h, 1, none⟩ = false := hbx2.free 1; have HB2 := hide hbx2; clear hown2 hg2 hat2 hbx2)
  have hT2 := HT.out.1.grown0 HG.out.2.1 HG.out.2.2
  have hb3 := HB2.out.set 1 (.slice A2 (n + 1) c2)
  have hnew : some h ≠ (Value.slice A2 (n + 1) c2).ownBlock := own_ne HG.out.1 HB2.out (by decide)
  have hne3 : ∀ b', (Value.slice A2 (n + 1) c2).ownBlock = some b' → b' ∉ [h] := by
    intro b' hb' hm
    simp at hm
    exact hnew (by rw [hb', hm])
  have hS3 : Only [h] w2 (w2.setCell ⟨h, 1, none⟩ (.slice A2 (n + 1) c2)) := (Only.refl [h] w2).setCell (p := ⟨h, 1, none⟩) (by simp) _
  have ho3 := own_keep HG.out.1 hS3 hne3
  have hT3 := hT2.step hS3
  rw [← ivals_append] at ho3
  obtain ⟨hbase, hlen⟩ := HT.out.2
  clear hT2 hnew hS3 HG HB2 HB HO HT h1c c1 e1 e2
  generalize w2.setCell ⟨h, 1, none⟩ (.slice A2 (n + 1) c2) = w3 at *
  have e0 : w3.cell? ⟨h, 0, none⟩ = some (.int .i64 M) := hb3.cell 0
  have e1 : w3.cell? ⟨h, 1, none⟩ = some (.slice A2 (n + 1) c2) := hb3.cell 1
  have k1 : ¬ ((n : Int) + 1 ≤ (M : Int)) := by omega
  go_wp2_with fail
  go_region
  obtain ⟨b, rfl, hBb, hlt, hfr, hc⟩ := own_open ho3 (by omega)
  have hyc : w3.drew.cell? ⟨b, 0, none⟩ = some (.int .i64 y) := hc 0 _ (by rw [ivals, List.getElem?_map, hy]; rfl)
  have hd := (own_keep ho3 ((Only.refl [] w3).drew) (by simp))
  have hbd := hb3.drew
  obtain ⟨_, _, hv4, hle4, _⟩ := own_shape hd
  have hle : n + 1 ≤ c2 := by injection hv4 with _ _ e; omega
  obtain ⟨A4, c4, hrun, hr4, _, _⟩ := run_ifrom (Holds.of_own hd) (by simp; omega) hle 1 (by omega)
  have d1 : w3.drew.cell? ⟨h, 1, none⟩ = some (.slice (some ⟨b, 0, none⟩) (n + 1) c2) := hbd.cell 1
  have hT4 := hT3.step ((Only.refl [h] w3).drew)
  generalize w3.drew = w4 at *
  rw [show ((1 : Nat) : Int) = 1 from rfl] at hrun
  rw [show n + 1 - 1 = n by omega] at hrun hr4
  have hn8 : n * 8 ≤ 140737488355328 := by omega
  have hn5 : (0 : Int) < (n : Int) + 1 := by omega
  have g2 : w4.cell? ⟨h, 2, none⟩ = some (.int .i64 k) := hbd.cell 2
  have kw : IntKind.i64.wrap ((k : Int) + 1) = (k : Int) + 1 := IntWalk.i64_in _ ⟨by omega, by omega⟩
  have hbk : ∀ w5, Only [] w4 w5 → Has w5 h 50 _ := fun w5 ho => hbd.only ho (by simp)
  have HK := hide hbk
  have HF := hide (And.intro hbd hT4)
  have HR4 := hide (And.intro hr4 hn8)
  have hsz := hbd.lt
  clear hbd hT4 hr4 hb3 ho3 hT3 hne3 hc hfr hBb hlt hd hle4 hle hbk hn8 e0 e1 hv4
  go_upto_region 6 with (at_builtin; refine list_ifresh rfl (.tmp 34) (.tmp 39) rfl w4 (l := List.drop 1 (L ++ [x])) HR4.out.1 HR4.out.2 w4.heap.size rfl rfl rfl ?_; intro A5 c5 w5 hown5 ho5; have hbx5 := HK.out w5 ho5; have f1 : w5.cell? ⟨h, 1, none⟩ = some (.slice (some ⟨b, 0, none⟩) (n + 1) c2) := hbx5.cell 1; have f2 : w5.frozen? ⟨h, 1, none⟩ = false := hbx5.free 1; have H5 := hide (And.intro hown5 (And.intro ho5 hbx5)); clear hown5 ho5 hbx5)
  obtain ⟨hown5, ho5, hbx5⟩ := H5.out
  obtain ⟨hbd, hT4⟩ := HF.out
  have hb6 := (hbx5.set 1 (.slice A5 n c5)).set 2 (.int .i64 (k + 1 : Nat))
  have g3 : (w5.setCell ⟨h, 1, none⟩ (.slice A5 n c5)).cell? ⟨h, 2, none⟩ = some (.int .i64 k) := (hbx5.set 1 (.slice A5 n c5)).cell 2
  have g4 : (w5.setCell ⟨h, 1, none⟩ (.slice A5 n c5)).frozen? ⟨h, 2, none⟩ = false := (hbx5.set 1 (.slice A5 n c5)).free 2
  have hnew : some h ≠ (Value.slice A5 n c5).ownBlock := own_ne hown5 hbx5 (by decide)
  have hS6 : Only [h] w5 ((w5.setCell ⟨h, 1, none⟩ (.slice A5 n c5)).setCell ⟨h, 2, none⟩ (.int .i64 (k + 1 : Nat))) := ((Only.refl [h] w5).setCell (p := ⟨h, 1, none⟩) (by simp) _).setCell (p := ⟨h, 2, none⟩) (by simp) _
  have ho6 := own_keep hown5 hS6 (fun b' hb' hm => by simp at hm; exact hnew (by rw [hb', hm]))
  have hO6 : Only [h] w4 ((w5.setCell ⟨h, 1, none⟩ (.slice A5 n c5)).setCell ⟨h, 2, none⟩ (.int .i64 (k + 1 : Nat))) := (ho5.of_nil (T := [h])).trans hS6 (S := [h]) (by simp)
  have hT6 : Tn [h] w (.slice A n c) ((w5.setCell ⟨h, 1, none⟩ (.slice A5 n c5)).setCell ⟨h, 2, none⟩ (.int .i64 (k + 1 : Nat))) (.slice A5 n c5) :=
    hT4.trans (T := [h]) ⟨hO6.weak (fun _ hm _ => List.mem_append.2 (.inl hm)), fun b' hb' => .inr (own_lt hown5 hb').2⟩ (fun _ h _ => h)
  have hB4 : B ≤ w4.heap.size := by omega
  have HZ := hide (And.intro hb6 (And.intro (own_mono ho6 hB4) hT6))
  clear hown5 ho5 hbx5 hbd hT4 hb6 hnew hS6 ho6 hO6 hT6 H5 HK HF HR4 hrun f1 f2 hB4
  go_wp2_with fail
  go_ret2
  obtain ⟨hb6, ho6, hT6⟩ := HZ.out
  exact ⟨_, rfl, ⟨n, c5, A5, rfl, ⟨hb6, by rw [List.drop_one] at ho6; exact ho6, hbase, hf⟩⟩, hT6⟩
end Go.Proofs.Ytakeoabeaopamaa
