/-
  The document's ring: Pop, Clear; the program's Clear.
-/
import Derived.Test.YtakeoabeaopamaaRnS
import Derived.Test.YtakeoabeaopamaaRnF
import Derived.Test.YtakeoabeaopamaaTail
namespace Go.Proofs.Ytakeoabeaopamaa
open Go Go.RowKit

set_option maxRecDepth 100000 in
set_option maxHeartbeats 4000000 in
theorem rpopNone_v {w : World} {B h M k : Nat} {v : Value} (R : RfV w B h M v [] k) :
    Calls Try.prog 12 #[.pointer (some ⟨h, 0, none⟩)] w fun e w' => e = .returned (.tuple #[.int .i64 0, .bool false]) ∧ Only [] w w' := by
  obtain ⟨n, c, A, rfl, R⟩ := R
  obtain rfl : n = 0 := R.len.symm
  have c1 : w.cell? ⟨h, 1, none⟩ = some (.slice A 0 c) := R.box.cell 1
  clear R
  go_enter Try.func12, Try.ntmps12
  go_wp2_with fail
  go_ret2
  exact ⟨rfl, Only.refl _ _⟩

set_option maxRecDepth 100000 in
set_option maxHeartbeats 4000000 in
theorem rpop_v {w : World} {B h M k : Nat} {v : Value} {L : List Int} (y : Int) (R : RfV w B h M v (L ++ [y]) k) :
    Calls Try.prog 12 #[.pointer (some ⟨h, 0, none⟩)] w fun e w' => ∃ v', e = .returned (.tuple #[.int .i64 y, .bool true]) ∧ RfV w' B h M v' L k ∧ Tn [h] w v w' v' := by
  obtain ⟨n0, c, A, rfl, R⟩ := R
  obtain ⟨n, hn⟩ : ∃ n, L.length = n := ⟨_, rfl⟩
  obtain rfl : n0 = n + 1 := by have := R.len; simp at this; omega
  have hf := R.few
  have hbase := R.base
  have c1 : w.cell? ⟨h, 1, none⟩ = some (.slice A (n + 1) c) := R.box.cell 1
  obtain ⟨b, rfl, hBb, hlt, hfr, hc⟩ := own_open R.own (by omega)
  have hyc : w.cell? ⟨b, n, none⟩ = some (.int .i64 y) := hc n _ (by rw [ivals_append, List.getElem?_append_right (by rw [ivals_len']; omega), ivals_len', hn, Nat.sub_self]; rfl)
  obtain ⟨_, _, hv4, hle4, _⟩ := own_shape R.own
  have hle : n + 1 ≤ c := by injection hv4 with _ _ e; omega
  have hrun := fun w' => run_iupto (some ⟨b, 0, none⟩) (n + 1) c n (by omega) w'
  have hr4 := (Holds.of_own R.own).iupto n (by omega)
  rw [List.take_append_of_le_length (by omega), List.take_of_length_le (by omega)] at hr4
  have hn8 : n * 8 ≤ 140737488355328 := by omega
  have k1 : IntKind.i64.wrap ((n : Int) + 1 - 1) = (n : Int) := by rw [IntWalk.i64_in _ ⟨by omega, by omega⟩]; omega
  have k2 : (n : Int) + 1 - 1 = (n : Int) := by omega
  have k3 : ¬ (n : Int) + 1 = 0 := by omega
  have k4 : (n : Int) < (n : Int) + 1 := by omega
  have hbk : ∀ w5, Only [] w w5 → Has w5 h 50 _ := fun w5 ho => R.box.only ho (by simp)
  have HK := hide hbk
  have HR4 := hide (And.intro hr4 hn8)
  have hsz := R.box.lt
  have HR := hide R
  clear hr4 hc hfr hBb hlt hle4 hle hbk hn8 hv4 R
  go_enter Try.func12, Try.ntmps12
  go_upto_region 6 with (at_builtin; refine list_ifresh rfl (.tmp 22) (.tmp 29) rfl w (l := L) HR4.out.1 HR4.out.2 w.heap.size rfl rfl rfl ?_; intro A5 c5 w5 hown5 ho5; have hbx5 := HK.out w5 ho5; have f1 : w5.cell? ⟨h, 1, none⟩ = some (.slice (some ⟨b, 0, none⟩) (n + 1) c) := hbx5.cell 1; have f2 : w5.frozen? ⟨h, 1, none⟩ = false := hbx5.free 1; have H5 := hide (And.intro hown5 (And.intro ho5 hbx5)); clear hown5 ho5 hbx5)
  obtain ⟨hown5, ho5, hbx5⟩ := H5.out
  have hb6 := hbx5.set 1 (.slice A5 n c5)
  have hnew : some h ≠ (Value.slice A5 n c5).ownBlock := own_ne hown5 hbx5 (by decide)
  have hS6 : Only [h] w5 (w5.setCell ⟨h, 1, none⟩ (.slice A5 n c5)) := (Only.refl [h] w5).setCell (p := ⟨h, 1, none⟩) (by simp) _
  have ho6 := own_keep hown5 hS6 (fun b' hb' hm => by simp at hm; exact hnew (by rw [hb', hm]))
  have hO6 : Only [h] w (w5.setCell ⟨h, 1, none⟩ (.slice A5 n c5)) := (ho5.of_nil (T := [h])).trans hS6 (S := [h]) (by simp)
  have hT6 : Tn [h] w (.slice (some ⟨b, 0, none⟩) (n + 1) c) (w5.setCell ⟨h, 1, none⟩ (.slice A5 n c5)) (.slice A5 n c5) :=
    ⟨hO6.weak (fun _ hm _ => List.mem_append.2 (.inl hm)), fun b' hb' => .inr (own_lt hown5 hb').2⟩
  have hB4 : B ≤ w.heap.size := by omega
  have HZ := hide (And.intro hb6 (And.intro (own_mono ho6 hB4) hT6))
  clear hown5 ho5 hbx5 hb6 hnew hS6 ho6 hO6 hT6 H5 HK HR4 hrun f1 f2 hB4
  go_wp2_with fail
  go_ret2
  obtain ⟨hb6, ho6, hT6⟩ := HZ.out
  exact ⟨_, rfl, ⟨n, c5, A5, rfl, ⟨hb6, ho6, hbase, by omega⟩⟩, hT6⟩

set_option maxRecDepth 100000 in
set_option maxHeartbeats 4000000 in
theorem rclear_v {w : World} {B h M k : Nat} {v : Value} {L : List Int} (R : RfV w B h M v L k) (hk : k ≤ 1000000) :
    Calls Try.prog 14 #[.pointer (some ⟨h, 0, none⟩)] w fun e w' => e = .returned (.tuple #[]) ∧ RfV w' B h M (.slice none 0 0) [] (k + L.length) ∧ Tn [h] w v w' (.slice none 0 0) := by
  obtain ⟨n, c, A, rfl, R⟩ := R
  have hlen := R.len
  have hf := R.few
  have c1 : w.cell? ⟨h, 1, none⟩ = some (.slice A n c) := R.box.cell 1
  have c2 : w.cell? ⟨h, 2, none⟩ = some (.int .i64 k) := R.box.cell 2
  have z2 := R.box.free 2
  have kw : IntKind.i64.wrap ((k : Int) + (n : Int)) = ((k + n : Nat) : Int) := by rw [IntWalk.i64_in _ ⟨by omega, by omega⟩]; omega
  have hb1 := (R.box.set 2 (.int .i64 (k + n : Nat))).set 1 (.slice none 0 0)
  have hS1 : Only [h] w ((w.setCell ⟨h, 2, none⟩ (.int .i64 (k + n : Nat))).setCell ⟨h, 1, none⟩ (.slice none 0 0)) := ((Only.refl [h] w).setCell (p := ⟨h, 2, none⟩) (by simp) _).setCell (p := ⟨h, 1, none⟩) (by simp) _
  have d1 : (w.setCell ⟨h, 2, none⟩ (.int .i64 (k + n : Nat))).cell? ⟨h, 1, none⟩ = some (.slice A n c) := (R.box.set 2 (.int .i64 (k + n : Nat))).cell 1
  have z1 : (w.setCell ⟨h, 2, none⟩ (.int .i64 (k + n : Nat))).frozen? ⟨h, 1, none⟩ = false := (R.box.set 2 (.int .i64 (k + n : Nat))).free 1
  have HF := hide (And.intro hb1 (And.intro hS1 R.base))
  have kk : (k : Int) + (n : Int) = ((k + n : Nat) : Int) := by omega
  generalize hkn : k + n = s at *
  have hlk : k + L.length = s := by omega
  rw [hlk]
  clear hb1 hS1 R hkn hlk
  go_enter Try.func14, Try.ntmps14
  go_wp2_with fail
  go_region
  go_wp2_with fail
  go_end0
  obtain ⟨hb1, hS1, hbase⟩ := HF.out
  exact ⟨rfl, ⟨0, 0, none, rfl, ⟨hb1.drew, ⟨rfl, .inl ⟨rfl, rfl⟩⟩, hbase, Nat.zero_le _⟩⟩, ⟨(hS1.drew).weak (fun _ hm _ => List.mem_append.2 (.inl hm)), fun b hb => by simp [Value.ownBlock] at hb⟩⟩

set_option maxRecDepth 100000 in
set_option maxHeartbeats 4000000 in
theorem clear_v {w : World} {B g M k : Nat} {v : Value} {l : List Value} (R : RgV_ri w B g M v l k) (hk : k ≤ 1000000) :
    Calls Try.prog 13 #[.pointer (some ⟨g, 0, none⟩)] w fun e w' => e = .returned (.tuple #[]) ∧ RgV_ri w' B g M (.slice none 0 0) [] (k + l.length) ∧ Tn [g] w v w' (.slice none 0 0) := by
  obtain ⟨n, c, A, f, xs, rfl, R⟩ := R
  have hf : l.length ≤ 65536 := by have := R.cnt; have := R.most; have := R.top; omega
  have c1 : w.cell? ⟨g, 3, none⟩ = some (.int .i64 (l.length : Nat)) := R.box.cell 3
  have c2 : w.cell? ⟨g, 4, none⟩ = some (.int .i64 k) := R.box.cell 4
  have z2 := R.box.free 4
  have kw : IntKind.i64.wrap ((k : Int) + ((l.length : Nat) : Int)) = ((k + l.length : Nat) : Int) := by rw [IntWalk.i64_in _ ⟨by omega, by omega⟩]; omega
  have kk : (k : Int) + ((l.length : Nat) : Int) = ((k + l.length : Nat) : Int) := by omega
  have h4 := R.box.set 4 (.int .i64 (k + l.length : Nat))
  generalize hW1 : w.setCell ⟨g, 4, none⟩ (.int .i64 (k + l.length : Nat)) = W1 at *
  have hS1 : Only [g] w W1 := by rw [← hW1]; exact (Only.refl [g] w).setCell (p := ⟨g, 4, none⟩) (by simp) _
  have h5 := h4.drew
  have d1 : W1.cell? ⟨g, 1, none⟩ = some (.slice A n c) := h4.cell 1
  have z1 := h4.free 1
  have y2 : W1.cell? ⟨g, 2, none⟩ = some (.int .i64 f) := h4.cell 2
  have x2 := h4.free 2
  have y3 : W1.cell? ⟨g, 3, none⟩ = some (.int .i64 (l.length : Nat)) := h4.cell 3
  have x3 := h4.free 3
  have h6 := h5.set 1 (.slice none 0 0)
  have h7 := h6.set 2 (.int .i64 0)
  have h8 := h7.set 3 (.int .i64 0)
  have hO := hS1.trans (((((Only.refl [g] W1).drew).setCell (p := ⟨g, 1, none⟩) (by simp) (.slice none 0 0)).setCell (p := ⟨g, 2, none⟩) (by simp) (.int .i64 0)).setCell (p := ⟨g, 3, none⟩) (by simp) (.int .i64 0)) (S := [g]) (by simp)
  have HW := hide hW1
  have HF := hide (And.intro h8 (And.intro hO (And.intro R.base (And.intro R.top (Nat.le_trans (Nat.zero_le _) R.most)))))
  clear R h4 hS1 h5 h6 h7 h8 hO
  generalize k + l.length = s at *
  clear hW1
  go_enter Try.func13, Try.ntmps13
  go_wp2_with fail
  go_region
  rw [HW.out]
  go_wp2_with fail
  go_end0
  obtain ⟨h8, hO, hbase, htop, hm⟩ := HF.out
  exact ⟨rfl, ⟨0, 0, none, 0, [], rfl, ⟨h8, ⟨rfl, .inl ⟨rfl, rfl⟩⟩, hbase, hm, htop, Nat.le_refl _, .inr rfl, fun _ => rfl, fun i u h => by simp at h⟩⟩, ⟨hO.weak (fun _ hm _ => List.mem_append.2 (.inl hm)), fun b hb => by simp [Value.ownBlock] at hb⟩⟩
end Go.Proofs.Ytakeoabeaopamaa
