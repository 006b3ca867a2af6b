/-
  The document's writer, as the verifier says it a second time. | The reference's Store, Fixed.
-/
import Derived.Test.YtlknhiihdejpeaaGreatDoorMWriteA
import Derived.Test.YtlknhiihdejpeaaGreatDoorMRzB
import Derived.Deep.OwnRows
import Derived.StillTailTactics
import Derived.Deep.LoopGhost
import Derived.Test.YtlknhiihdejpeaaGreatDoorMFlNw
import Derived.Test.YtlknhiihdejpeaaGreatDoorMHufT
import Derived.Test.YtlknhiihdejpeaaGreatDoorMCut
import Derived.Deep.DeepCutAuto
namespace Go.Proofs.YtlknhiihdejpeaaGreatDoor
open Go Go.RowKit

/-- Block g is a reference writer that has laid n bits, together the number N. -/
def TWr (w : World) (g : Nat) (v : Value) (N n : Nat) : Prop :=
  ∃ l : List UInt8, Has w g 99 #[v] ∧ w.ownsRow 0 5 1 v l.length (bvals l) ∧ (∀ b ∈ l, b.toNat ≤ 1) ∧ bnum l = N ∧ l.length = n

theorem TWr.only {w w' : World} {g : Nat} {v : Value} {N n : Nat} {S : List Nat} (h : TWr w g v N n) (ho : Only S w w') (hg : g ∉ S) (hv : ∀ b, v.ownBlock = some b → b ∉ S) : TWr w' g v N n := by
  obtain ⟨l, h1, h2, h3⟩ := h
  exact ⟨l, h1.only ho hg, own_keep h2 ho hv, h3⟩

/-- One bit has gone to the row, the field is stored. -/
theorem TWr.push {w wr w1 : World} {g : Nat} {v v1 : Value} {l : List UInt8} {N n : Nat} {A : Option Addr} {c : Nat} {b : UInt8} {o : Obj}
    (hh : Has wr g 99 #[v1]) (hown : wr.ownsRow 0 5 1 v1 l.length (bvals l)) (h01 : ∀ b ∈ l, b.toNat ≤ 1) (hN : bnum l = N) (hn : l.length = n) (hs : WSince w g v wr v1) (hb : b.toNat ≤ 1)
    (hown1 : w1.ownsRow 0 5 1 (.slice A (l.length + 1) c) (l.length + 1) (bvals l ++ [.int .u8 (b.toNat : Int)])) (hgrow : (wr.alloc o).grownBy w1 v1.ownBlock)
    (hat : (Value.slice A (l.length + 1) c).ownBlock = v1.ownBlock ∨ (Value.slice A (l.length + 1) c).ownBlock = some (wr.alloc o).heap.size) :
    TWr (w1.setCell ⟨g, 0, none⟩ (.slice A (l.length + 1) c)) g (.slice A (l.length + 1) c) (N + b.toNat * 2 ^ n) (n + 1) ∧
      WSince w g v (w1.setCell ⟨g, 0, none⟩ (.slice A (l.length + 1) c)) (.slice A (l.length + 1) c) := by
  have hne := own_ne hown hh (by decide)
  have hh1 : Has w1 g 99 #[v1] := (hh.alloc o).grown hgrow hne
  have hne1 := own_ne hown1 hh1 (by decide)
  refine ⟨⟨l ++ [b], by simpa using hh1.set 0 (.slice A (l.length + 1) c), ?_, ?_, by rw [bnum_snoc, hN, hn], by rw [List.length_append, hn]; rfl⟩, ?_, ?_⟩
  · rw [bvals_append, List.length_append]
    exact ownsRow_setCell_other hown1 (a := ⟨g, 0, none⟩) (fun h => hne1 h.symm) _
  · intro x hx
    rcases List.mem_append.1 hx with h | h
    · exact h01 x h
    · rw [List.mem_singleton.1 h]; exact hb
  · have h4 : Only (g :: v.ownBlock.toList) w w1 := (hs.1.alloc o).grown hgrow (by
      intro k hk hlt
      rcases hs.2 k hk with h | h
      · simp [h]
      · omega)
    exact h4.setCell (by simp) _
  · intro k hk
    rcases hat with h | h
    · rw [h] at hk; exact hs.2 k hk
    · rw [h] at hk
      right
      have h5 : (wr.alloc o).heap.size = k := by injection hk
      have h6 : wr.heap.size + 1 = k := by rw [← h5]; simp
      have := hs.1.size
      omega

set_option maxRecDepth 100000 in
set_option maxHeartbeats 400000 in
theorem tbits_no (g x : Nat) (k : Int) (w : World) (hk : k < 1 ∨ 32 < k) :
    Calls Tryz.prog 40 #[.pointer (some ⟨g, 0, none⟩), .int .u32 x, .int .i64 k] w fun e w' => e = .returned (.tuple #[]) ∧ w = w' := by
  by_cases h1 : k < 1
  · clear hk
    go_enter Tryz.func40, Tryz.ntmps40
    go_wp2
    exact bodyPost_ret (results_none rfl _ _ _) rfl ⟨rfl, rfl⟩
  · have h2 : 32 < k := by omega
    clear hk
    go_enter Tryz.func40, Tryz.ntmps40
    go_wp2
    exact bodyPost_ret (results_none rfl _ _ _) rfl ⟨rfl, rfl⟩

set_option maxRecDepth 100000 in
set_option maxHeartbeats 2000000 in
theorem tbits_yes (g : Nat) (v : Value) (N n x k : Nat) (w : World) (hW : TWr w g v N n) (hx : x < 4294967296) (hk0 : 1 ≤ k) (hk1 : k ≤ 32) (hn : n + k ≤ 140737488355328) :
    Calls Tryz.prog 40 #[.pointer (some ⟨g, 0, none⟩), .int .u32 x, .int .i64 k] w fun e w' =>
      e = .returned (.tuple #[]) ∧ ∃ v', TWr w' g v' (N + (x % 2 ^ k) * 2 ^ n) (n + k) ∧ WSince w g v w' v' := by
  obtain ⟨i0, hi0, hz0, hz1, hz2⟩ := info_of u8_info
  have HW := hide hW
  clear hW
  go_enter Tryz.func40, Tryz.ntmps40
  go_wp2_with fail
  go_loopw [6] (fun i wr => ∃ (j : Nat) (v1 : Value), j ≤ k ∧ i = .int .i64 j ∧ TWr wr g v1 (N + (x % 2 ^ j) * 2 ^ n) (n + j) ∧ WSince w g v wr v1) (fun i _ => k - (intOf i).toNat)
  case atStart => exact ⟨0, v, Nat.zero_le _, rfl, by simpa [Nat.mod_one] using HW.out, WSince.refl _ _ _⟩
  case round =>
    obtain ⟨j, v1, hj, rfl, ⟨l, hh, hown, h01, hbn, hln⟩, hs⟩ := hrel
    by_cases hlt : j < k
    · obtain ⟨A1, cc1, rfl, _, _⟩ := own_shape hown
      have c0 : wr.cell? ⟨g, 0, none⟩ = some (.slice A1 l.length cc1) := hh.cell 0
      have hb := own_ne hown hh (by decide)
      have glt := hh.lt
      obtain ⟨y, hy⟩ : ∃ y, y = x / 2 ^ j := ⟨_, rfl⟩
      have hyx : y ≤ x := by rw [hy]; exact Nat.div_le_self _ _
      have eD : (x : Int) / 2 ^ j = (y : Int) := by rw [hy]; simp
      have eA : bits BinOp.and IntKind.u32 (y : Int) 1 = ((y % 2 : Nat) : Int) := by
        have := u32_and_nat y 1 (by omega) (by omega)
        rw [Nat.and_one_is_mod] at this; exact this
      obtain ⟨b, hbb⟩ : ∃ b : UInt8, b.toNat = y % 2 := ⟨UInt8.ofNat (y % 2), by simp; omega⟩
      have eB : (y : Int) % 2 = (b.toNat : Int) := by rw [hbb]; omega
      have hb1 : b.toNat ≤ 1 := by omega
      have hmb := mod_bit x j
      rw [← hy, ← hbb] at hmb
      have hone : ∀ u ∈ [Value.int .u8 (b.toNat : Int)], u.oneCell' = true := by simp [Value.oneCell']
      have hroom : (l.length + 1) * 1 ≤ 140737488355328 := by omega
      have hnew : Holds (wr.alloc (.cells #[.int .u8 (b.toNat : Int)] 5)) 1 (some ⟨wr.heap.size, 0, none⟩) 1 [.int .u8 (b.toNat : Int)] :=
        Holds.lit wr #[.int .u8 (b.toNat : Int)] 5
      have hold : (wr.alloc (.cells #[.int .u8 (b.toNat : Int)] 5)).ownsRow 0 5 1 (.slice A1 l.length cc1) l.length (bvals l) := hown.alloc _
      have hhas : Has (wr.alloc (.cells #[.int .u8 (b.toNat : Int)] 5)) g 99 #[.slice A1 l.length cc1] := hh.alloc _
      have HM := hide (And.intro hmb (And.intro hbn hln))
      clear hmb hbb hy hbn hln
      go_wp2_with (at_builtin; refine list_append _ rfl (.tmp 22) (.tmp 29) 22 rfl 0 1 1 Tryz.underlying22 hi0 hz0 hz1 hz2 rfl (Nat.zero_lt_one) hold rfl hnew rfl hone hroom (Nat.zero_lt_one) (Nat.zero_le _) ?_; intro A2 cc2 w1 hown1 hgrow hat; have cw0 : w1.cell? ⟨g, 0, none⟩ = some (.slice A1 l.length cc1) := (hhas.grown hgrow hb).cell 0; have fw0 : w1.frozen? ⟨g, 0, none⟩ = false := (hhas.grown hgrow hb).free 0)
      have hp := TWr.push hh hown h01 HM.out.2.1 HM.out.2.2 hs hb1 hown1 hgrow hat
      have HP := hide hp
      clear hp
      go_roundw
      case rel =>
        refine ⟨j + 1, _, hlt, by go_num, ?_, HP.out.2⟩
        rw [HM.out.1, Nat.add_mul, ← Nat.add_assoc]
        have e : b.toNat * 2 ^ j * 2 ^ n = b.toNat * 2 ^ (n + j) := by rw [Nat.mul_assoc, ← Nat.pow_add, Nat.add_comm n j]
        rw [e]
        exact HP.out.1
      case measure => simp [intOf]; omega
    · obtain rfl : j = k := by omega
      have HF := hide (And.intro hbn hln)
      clear hbn hln
      go_wp2_with fail
      go_end0
      exact ⟨rfl, v1, ⟨l, hh, hown, h01, HF.out.1, HF.out.2⟩, hs⟩

theorem tWBits (g : Nat) (v : Value) (N n x : Nat) (k : Int) (w : World) (hW : TWr w g v N n) (hx : x < 4294967296) (hn : n + 32 ≤ 140737488355328) :
    Calls Tryz.prog 40 #[.pointer (some ⟨g, 0, none⟩), .int .u32 x, .int .i64 k] w fun e w' =>
      e = .returned (.tuple #[]) ∧ ∃ v', TWr w' g v' (laidN N n x k) (laidL n k) ∧ WSince w g v w' v' := by
  unfold laidN laidL
  by_cases hk : 1 ≤ k ∧ k ≤ 32
  · rw [if_pos hk, if_pos hk]
    obtain ⟨k, rfl⟩ := Int.eq_ofNat_of_zero_le (show 0 ≤ k by omega)
    rw [Int.toNat_natCast]
    exact tbits_yes g v N n x k w hW hx (by omega) (by omega) (by omega)
  · rw [if_neg hk, if_neg hk]
    refine (tbits_no g x k w (by omega)).mono ?_
    rintro e w' ⟨rfl, rfl⟩
    exact ⟨rfl, v, hW, WSince.refl _ _ _⟩



/-- The zeros that make lays. -/
def zrow (m : Nat) : Array Value := (bvals (List.replicate m 0)).toArray
theorem zrow_eq (m : Nat) : madeCells #[.int .u8 0] m = zrow m := by
  apply Array.ext'
  rw [toList_madeCells_one]
  simp [zrow, bvals]

theorem u8_orbit (a b k : Nat) (ha : a < 2 ^ k) (hs : a + b * 2 ^ k < 256) : bits .or .u8 (a : Int) ((b * 2 ^ k : Nat) : Int) = ((a + b * 2 ^ k : Nat) : Int) := by
  rw [u8_or_nat _ _ (by omega) (by omega), or_of_lt ha]

set_option maxRecDepth 100000 in
set_option maxHeartbeats 2000000 in
theorem tWDone (g : Nat) (v : Value) (N n : Nat) (w : World) (hW : TWr w g v N n) (hn : n + 64 ≤ 140737488355328) :
    Calls Tryz.prog 42 #[.pointer (some ⟨g, 0, none⟩)] w (DoneAs w N n) := by
  obtain ⟨l, hh, hown, h01, hbn, hln⟩ := hW
  obtain ⟨A1, cc1, rfl, _, _⟩ := own_shape hown
  have c0 : w.cell? ⟨g, 0, none⟩ = some (.slice A1 l.length cc1) := hh.cell 0
  have glt := hh.lt
  obtain ⟨m, hm⟩ : ∃ m, m = (l.length + 7) / 8 := ⟨_, rfl⟩
  have hmk : ∀ W : World, (Instr.makeSlice 22 (.int .i64 (((l.length : Int) + 7) / 8)) (.int .i64 (((l.length : Int) + 7) / 8))).run Tryz.prog W = .ok (.slice (some ⟨W.heap.size, 0, none⟩) m m) (W.alloc (.cells (zrow m) 5)) := by
    intro W
    have e : ((l.length : Int) + 7) / 8 = (m : Int) := by omega
    have h := run_make_row' (P := Tryz.prog) 22 5 (.int .u8 0) 1 Tryz.underlying22 u8_info rfl .i64 .i64 m (by omega) (by omega) W
    rw [e, h, zrow_eq]
  have HM := hide (And.intro hm (And.intro hbn hln))
  have hl47 : l.length + 64 ≤ 140737488355328 := by omega
  have hm8 : l.length ≤ 8 * m := by omega
  have HO := hide (And.intro hown (And.intro h01 hh))
  clear hm hbn hln h01 hown hh
  go_enter Tryz.func42, Tryz.ntmps42
  go_wp2_with fail
  go_loopw [4] (fun i wr => ∃ j : Nat, j ≤ l.length ∧ i = .int .i64 j ∧ Has wr w.heap.size 5 (bvals (bytesOf (bnum (l.take j)) m)).toArray ∧ Only [] w wr) (fun i _ => l.length - (intOf i).toNat)
  case atStart => exact ⟨0, Nat.zero_le _, rfl, by rw [show bnum (l.take 0) = 0 from rfl, bytesOf_zero]; exact Has.new w _ (zrow m), (Only.refl [] w).alloc _⟩
  case round =>
    obtain ⟨j, hj, rfl, hH, ho⟩ := hrel
    have d0 : wr.cell? ⟨g, 0, none⟩ = some (.slice A1 l.length cc1) := by rw [ho.cell glt (by simp)]; exact c0
    by_cases hlt : j < l.length
    · have hownr := own_keep HO.out.1 ho (by simp)
      obtain ⟨gb, rfl, hcl⟩ := own_cells hownr (i := j) hlt
      have d1 : wr.cell? ⟨gb, 0 + j, none⟩ = some (.int .u8 (l[j].toNat : Int)) := hcl j hlt
      rw [Nat.zero_add] at d1
      have hb1 : l[j].toNat ≤ 1 := HO.out.2.1 _ (List.getElem_mem hlt)
      have hjm : j / 8 < m := by omega
      have h01t : ∀ b ∈ l.take j, b.toNat ≤ 1 := fun b hb => HO.out.2.1 b (List.mem_of_mem_take hb)
      have hNj := bnum_lt h01t
      rw [List.length_take, Nat.min_eq_left (by omega)] at hNj
      have hbit := bytesOf_bit (bnum (l.take j)) m j l[j].toNat hNj hb1
      have hsn : bnum (l.take (j + 1)) = bnum (l.take j) + l[j].toNat * 2 ^ j := by
        rw [List.take_succ_eq_append_getElem hlt, bnum_snoc, List.length_take, Nat.min_eq_left (by omega)]
      rw [← hsn] at hbit
      obtain ⟨x, hx⟩ : ∃ x, x = bnum (l.take j) / 256 ^ (j / 8) % 256 := ⟨_, rfl⟩
      have hlen : j / 8 < (bytesOf (bnum (l.take j)) m).length := by rw [bytesOf_length]; exact hjm
      have d2 : wr.cell? ⟨w.heap.size, j / 8, none⟩ = some (.int .u8 (x : Int)) := by
        rw [hH.cell, List.getElem?_toArray, bvals_get _ _ hlen, bytesOf_get, hx]
      have f2 : wr.frozen? ⟨w.heap.size, j / 8, none⟩ = false := hH.free _
      rw [← hx] at hbit
      have hxr : x < 2 ^ (j % 8) := by
        have e2 : 2 ^ j = 256 ^ (j / 8) * 2 ^ (j % 8) := by rw [pow_256, ← Nat.pow_add]; congr 1; omega
        rw [e2] at hNj
        have := Nat.div_lt_of_lt_mul hNj
        rw [hx]; exact Nat.lt_of_le_of_lt (Nat.mod_le _ _) this
      have hr7 : 2 ^ (j % 8) ≤ 128 := Nat.pow_le_pow_right (n := 2) (i := j % 8) (j := 7) (by omega) (by omega)
      have hb2 : l[j].toNat * 2 ^ (j % 8) ≤ 1 * 2 ^ (j % 8) := Nat.mul_le_mul_right _ hb1
      have hor := u8_orbit x l[j].toNat (j % 8) hxr (by omega)
      obtain ⟨y, hy⟩ : ∃ y : UInt8, y = UInt8.ofNat (x + l[j].toNat * 2 ^ (j % 8)) := ⟨_, rfl⟩
      have hyn : y.toNat = x + l[j].toNat * 2 ^ (j % 8) := by rw [hy]; simp; omega
      rw [← hy] at hbit
      rw [← hyn] at hor
      obtain ⟨q, hq⟩ : ∃ q, q = j / 8 := ⟨_, rfl⟩
      obtain ⟨r, hr⟩ : ∃ r, r = j % 8 := ⟨_, rfl⟩
      rw [← hq] at d2 f2 hbit hjm
      rw [← hr] at hor hb2 hr7
      have w1 : IntKind.i64.wrap ((j : Int) / 8) = (q : Int) := by rw [IntWalk.i64_in _ ⟨by omega, by omega⟩]; omega
      have w1' : (j : Int) / 8 = (q : Int) := by omega
      have wq : IntKind.i64.wrap (q : Int) = (q : Int) := IntWalk.i64_in _ ⟨by omega, by omega⟩
      have wr1 : IntKind.i64.wrap (r : Int) = (r : Int) := IntWalk.i64_in _ ⟨by omega, by omega⟩
      have wr2 : IntKind.u64.wrap (r : Int) = (r : Int) := IntWalk.u64_in _ ⟨by omega, by omega⟩
      have r0 : (0 : Int) ≤ (r : Int) := Int.natCast_nonneg _
      have r1 : (r : Int) ≤ 7 := by omega
      have r2 : (r : Int).toNat = r := Int.toNat_natCast _
      have w2 : (j : Int).tmod 8 = (r : Int) := by rw [Int.tmod_eq_emod_of_nonneg (by omega)]; omega
      have w2' : (j : Int) % 8 = (r : Int) := by omega
      have w3 : IntKind.u8.wrap ((l[j].toNat : Int) * 2 ^ r) = (l[j].toNat : Int) * 2 ^ r := by
        rw [← two_pow_cast, ← Int.natCast_mul]; exact IntWalk.u8_in _ ⟨by omega, by omega⟩
      rw [Int.natCast_mul, two_pow_cast] at hor
      have j0 : (0 : Int) ≤ (j : Int) := Int.natCast_nonneg _
      have j1 : (j : Int) < (l.length : Int) := by omega
      have q0 : (0 : Int) ≤ (q : Int) := Int.natCast_nonneg _
      have q1 : (q : Int) < (m : Int) := by omega
      have hset := (hH.set q (.int .u8 (y.toNat : Int))).drew
      have hofin := (ho.setCell (p := ⟨w.heap.size, q, none⟩) (by simp) (.int .u8 (y.toNat : Int))).drew
      have hval : ((bvals (bytesOf (bnum (l.take j)) m)).toArray.setIfInBounds q (.int .u8 (y.toNat : Int))) = (bvals (bytesOf (bnum (l.take (j + 1))) m)).toArray := by
        rw [hbit]
        simp [bvals, List.map_set]
      rw [hval] at hset
      have HE := hide (And.intro hset hofin)
      clear hset hofin hval hbit hsn hx hlen h01t hNj hq hr hy hyn hxr hownr hcl hH
      generalize l[j].toNat = b at *
      go_wp2_with fail
      go_still_tail 21, (by kernel_rfl)
      change wpList _ _ _ _ _ wr.drew
      go_wp2_with fail
      go_roundw
      case rel => exact ⟨j + 1, hlt, by go_num, HE.out.1, HE.out.2⟩
      case measure => simp [intOf]; omega
    · obtain rfl : j = l.length := by omega
      rw [List.take_length] at hH
      have hmb := HM.out
      have hlt2 := bnum_lt HO.out.2.1
      have hN : num (bytesOf (bnum l) m) = N := by
        rw [num_bytesOf, hmb.2.1, Nat.mod_eq_of_lt]
        rw [← hmb.2.1]
        refine Nat.lt_of_lt_of_le hlt2 ?_
        rw [pow_256]
        exact Nat.pow_le_pow_right (by omega) (by omega)
      have hrow : wr.ownsRow w.heap.size 5 1 (.slice (some ⟨w.heap.size, 0, none⟩) m m) (bytesOf (bnum l) m).length (bvals (bytesOf (bnum l) m)) := by
        rw [bytesOf_length]
        refine ⟨by simp, .inr ⟨w.heap.size, m, _, rfl, Nat.le_refl _, hH, Nat.le_refl _, by unfold maxLen; omega, by simp, ?_⟩⟩
        rw [List.toList_toArray, Nat.mul_one]
        exact List.take_of_length_le (by simp)
      have HE := hide (And.intro hrow (And.intro ho hN))
      have hlm : (bytesOf (bnum l) m).length = (n + 7) / 8 := by rw [bytesOf_length]; omega
      have HM2 := hide hlm
      clear hrow ho hN hlt2 hH hmb hlm
      have hjl : ¬ ((l.length : Int) < (l.length : Int)) := by omega
      go_wp2_with fail
      go_ret
      exact ⟨_, bytesOf (bnum l) m, rfl, HE.out.1, HE.out.2.1, HM2.out, HE.out.2.2⟩
end Go.Proofs.YtlknhiihdejpeaaGreatDoor


namespace Go.Proofs.YtlknhiihdejpeaaGreatDoor
open Go Go.RowKit

theorem TWr.keep {w w' : World} {g : Nat} {v : Value} {N n : Nat} (h : TWr w g v N n) (ho : Only [] w w') : TWr w' g v N n := h.only ho (by simp) (by simp)

/-- The symbols laid ahead of round j. -/
def symsTo (b : List UInt8) (j : Nat) : List Nat := if j ≤ b.length then symsOf (b.take j) else 256 :: symsOf b
theorem symsTo_end (b : List UInt8) : symsTo b (b.length + 1) = 256 :: symsOf b := if_neg (by omega)
theorem symsTo_len (b : List UInt8) : symsTo b b.length = symsOf b := by unfold symsTo; rw [if_pos (Nat.le_refl _), List.take_length]
theorem symsTo_step (b : List UInt8) (j : Nat) (h : j < b.length) : symsTo b (j + 1) = b[j].toNat :: symsTo b j := by
  unfold symsTo
  rw [if_pos (by omega), if_pos (by omega), symsOf_take b j h]
theorem symsTo_le (b : List UInt8) (j : Nat) : (symsTo b j).length ≤ b.length + 1 := by
  unfold symsTo
  split
  · rw [symsOf_length, List.length_take]; omega
  · rw [List.length_cons, symsOf_length]; omega

set_option maxRecDepth 100000 in
set_option maxHeartbeats 4000000 in
theorem tFixedP_any (A : Option Addr) (n c : Nat) (b : List UInt8) (w : World) (hb : Holds w 1 A n (bvals b)) (hl : b.length = n) (hn : n ≤ 1000000) :
    Calls Tryz.prog 23 #[.slice A n c] w fun e w' => ∃ v bs, e = .returned v ∧ IsFixed b bs ∧ w'.ownsRow w.heap.size 5 1 v bs.length (bvals bs) ∧ Only [] w w' := by
  subst hl
  have HB := hide (And.intro hb hn)
  clear hb hn
  go_enter Tryz.func23, Tryz.ntmps23
  go_wp2_with fail
  refine (tFixed_any w).mono ?_
  rintro e w1 ⟨g1, g2, rfl, h1, _, ho1⟩
  have H1 := hide (And.intro h1 ho1)
  clear h1 ho1
  go_wp2_with fail
  refine (tNewT (some ⟨g1, 0, none⟩) 288 288 fixedL w1 H1.out.1 fixL_len (by decide) fixL_far fixL_may).mono ?_
  rintro e w2 ⟨gT, rfl, hgT, hRT, ho2⟩
  have H2 := hide (And.intro hRT (H1.out.2.trans ho2 (S := []) (by simp)))
  clear hgT hRT ho2
  go_wp2_with fail
  have hT0 : TWr (w2.alloc (.cells #[.slice none 0 0] 99)) w2.heap.size (.slice none 0 0) 0 0 := ⟨[], Has.new _ _ _, World.ownsRow_nil _ _ _ _, by simp, rfl, rfl⟩
  obtain ⟨g, hg⟩ : ∃ g, g = w2.heap.size := ⟨_, rfl⟩
  rw [← hg] at hT0 ⊢
  have HG := hide hg
  have oa : Only [] w2 (w2.alloc (.cells #[.slice none 0 0] 99)) := (Only.refl [] w2).alloc _
  generalize w2.alloc (.cells #[.slice none 0 0] 99) = w3 at *
  have H3 := hide (And.intro oa (tWBits g _ 0 0 1 1 w3 hT0 (by decide) (by decide)))
  clear oa hT0 hg
  refine (H3.out.2).mono ?_
  rintro e w4 ⟨rfl, v4, hw4, hs4⟩
  rw [show laidN 0 0 1 1 = 1 from rfl, show laidL 0 1 = 1 from rfl] at hw4
  have H4 := hide (And.intro hs4 (tWBits g v4 1 1 1 2 w4 hw4 (by decide) (by decide)))
  clear hw4 hs4
  go_wp2_with fail
  refine (H4.out.2).mono ?_
  rintro e w5 ⟨rfl, v5, hw5, hs5⟩
  rw [show laidN 1 1 1 2 = 3 from rfl, show laidL 1 2 = 3 from rfl] at hw5
  have H5 := hide (And.intro hw5 (H4.out.1.trans hs5))
  clear hw5 hs5
  go_wp2_with fail
  have hto : ∀ wr v', WSince w3 g (.slice none 0 0) wr v' → Only [] w2 wr := fun wr v' hs => H3.out.1.trans hs.1 (fun i hi hlt => by
    have := HG.out
    simp [Value.ownBlock] at hi
    omega)
  have HTO := hide hto
  clear hto
  go_loopw [8] (fun i wr => ∃ (j : Nat) (v' : Value), j ≤ b.length + 1 ∧ i = .int .i64 j ∧ TWr wr g v' (3 + 8 * bitsN fixedL (symsTo b j)) (3 + bitsL fixedL (symsTo b j)) ∧ WSince w3 g (.slice none 0 0) wr v') (fun i _ => b.length + 1 - (intOf i).toNat)
  case atStart => exact ⟨0, v5, Nat.zero_le _, rfl, H5.out.1, H5.out.2⟩
  case round =>
    obtain ⟨j, v', hj, rfl, hW, hS⟩ := hrel
    have hbl := bitsL_le fixL_far' (symsTo b j)
    have hsl := symsTo_le b j
    have hnb := HB.out.2
    have hRT : RT wr w1.heap.size gT fixedL := H2.out.1.idle (HTO.out wr v' hS)
    by_cases hjn : j < b.length
    · have hbr := HB.out.1.keep (H2.out.2.trans (HTO.out wr v' hS) (by simp)) (by simp)
      obtain ⟨ba, oa, rfl, hc2⟩ := hbr.addr (by simpa using (show 0 < b.length by omega))
      have hcell : wr.cell? ⟨ba, oa + j, none⟩ = some (.int .u8 (b[j].toNat : Int)) := hc2 j _ (bvals_get b j hjn)
      have hlt := b[j].toNat_lt
      have htk := symsTo_step b j hjn
      obtain ⟨x, hx⟩ : ∃ x, x = b[j].toNat := ⟨_, rfl⟩
      rw [← hx] at hcell hlt htk
      have hla := laid_sym (symsTo b j) x (by omega)
      have HCo := hide (tCode_any gT w1.heap.size fixedL (x : Int) wr hRT (by rw [fixL_len]; decide) fixL_far' fixL_sum)
      have hcv := cvI_lt fixL_sum fixL_far' (x : Int)
      have HJ := hide (And.intro hW (And.intro hS (And.intro hla (And.intro htk (And.intro hbl hsl)))))
      clear hW hS hla htk hbr hc2 hx hbl hsl hRT
      generalize cvI fixedL (x : Int) = cv at *
      generalize lnI fixedL (x : Int) = nn at *
      go_wp2_with fail
      refine (HCo.out).mono ?_
      rintro e w6 ⟨rfl, m6, rfl⟩
      have hW6 := HJ.out.1.keep ((Only.refl [] wr).drewN m6)
      have hBt := tWBits g v' _ _ cv (nn : Int) (wr.drewN m6) hW6 (by omega) (by have := HJ.out.2.2.2.2; have := HB.out.2; omega)
      rw [HJ.out.2.2.1.1, HJ.out.2.2.1.2] at hBt
      have H6 := hide hBt
      clear hBt hW6
      go_wp2_with fail
      refine (H6.out).mono ?_
      rintro e w7 ⟨rfl, v7, hw7, hs7⟩
      have hS7 : WSince w3 g (.slice none 0 0) w7 v7 := (HJ.out.2.1.trans ⟨(Only.refl _ wr).drewN m6, fun _ h => .inl h⟩).trans hs7
      have H7 := hide (And.intro hw7 hS7)
      clear hw7 hs7 hS7
      go_wp2_with fail
      go_roundw
      case rel => exact ⟨j + 1, v7, by omega, by go_num, by rw [HJ.out.2.2.2.1]; exact H7.out.1, H7.out.2⟩
      case measure => simp [intOf]; omega
    · rcases Nat.eq_or_lt_of_le (show b.length ≤ j by omega) with he | he
      · subst he
        rw [symsTo_len] at hW hbl hsl
        have hla := laid_sym (symsOf b) 256 (by decide)
        have HCo := hide (tCode_any gT w1.heap.size fixedL ((256 : Nat) : Int) wr hRT (by rw [fixL_len]; decide) fixL_far' fixL_sum)
        have hcv := cvI_lt fixL_sum fixL_far' ((256 : Nat) : Int)
        have HJ := hide (And.intro hW (And.intro hS (And.intro hla (And.intro hbl hsl))))
        clear hW hS hla hbl hsl hRT
        generalize cvI fixedL ((256 : Nat) : Int) = cv at *
        generalize lnI fixedL ((256 : Nat) : Int) = nn at *
        go_wp2_with fail
        refine (HCo.out).mono ?_
        rintro e w6 ⟨rfl, m6, rfl⟩
        have hW6 := HJ.out.1.keep ((Only.refl [] wr).drewN m6)
        have hBt := tWBits g v' _ _ cv (nn : Int) (wr.drewN m6) hW6 (by omega) (by have := HJ.out.2.2.2; have := HB.out.2; omega)
        rw [HJ.out.2.2.1.1, HJ.out.2.2.1.2] at hBt
        have H6 := hide hBt
        clear hBt hW6
        go_wp2_with fail
        refine (H6.out).mono ?_
        rintro e w7 ⟨rfl, v7, hw7, hs7⟩
        have hS7 : WSince w3 g (.slice none 0 0) w7 v7 := (HJ.out.2.1.trans ⟨(Only.refl _ wr).drewN m6, fun _ h => .inl h⟩).trans hs7
        have H7 := hide (And.intro hw7 hS7)
        clear hw7 hs7 hS7
        go_wp2_with fail
        go_roundw
        case rel => exact ⟨b.length + 1, v7, Nat.le_refl _, by go_num, by rw [symsTo_end]; exact H7.out.1, H7.out.2⟩
        case measure => simp [intOf]
      · obtain rfl : j = b.length + 1 := by omega
        rw [symsTo_end] at hW hbl hsl
        have hgt : ¬ ((b.length + 1 : Nat) : Int) ≤ (b.length : Int) := by omega
        have H6 := hide (And.intro hS (tWDone g v' _ _ wr hW (by omega)))
        clear hW hS hbl hsl hRT
        go_wp2_with fail
        refine (H6.out.2).mono ?_
        rintro e w6 ⟨rv, bs, rfl, hown, ho6, hlen, hnum⟩
        have o0r : Only [] w wr := H2.out.2.trans (HTO.out wr v' H6.out.1) (by simp)
        have H7 := hide (And.intro (own_mono hown o0r.size) (And.intro (o0r.trans ho6 (by simp)) (And.intro hlen hnum)))
        clear hown ho6 o0r hlen hnum
        go_wp2_with fail
        go_ret
        exact ⟨rv, bs, rfl, ⟨H7.out.2.2.2, H7.out.2.2.1⟩, H7.out.1, H7.out.2.1⟩

/-- b[0:n]. -/
theorem run_whole (A : Option Addr) (n c : Nat) (hc : n ≤ c) (w : World) : (Instr.slice 22 (.slice A n c) (some (.int .i64 0)) (some (.int .i64 (n : Int))) none).run Tryz.prog w = .ok (.slice A n c) w := by
  rw [run_slice_lh (w := w) 22 A n c bytes_elem .i64 .i64 0 n (by omega) (by omega) (by omega), bytes_size]
  cases A with
  | none => simp [sliced, Result.andThen]
  | some ad => by_cases h0 : c = 0 <;> simp [sliced, Result.andThen, h0, Addr.add]

theorem flip8 (n : Nat) (h : n < 256) : bits .xor .u8 255 (n : Int) = ((255 - n : Nat) : Int) := by
  have key : ∀ n : Fin 256, bits .xor .u8 255 ((n.val : Nat) : Int) = ((255 - n.val : Nat) : Int) := by decide +kernel
  exact key ⟨n, h⟩

set_option maxRecDepth 100000 in
set_option maxHeartbeats 4000000 in
theorem tStore_any (A : Option Addr) (n c : Nat) (b : List UInt8) (w : World) (hb : Holds w 1 A n (bvals b)) (hl : b.length = n) (hn : n < 65536) (hc : n ≤ c) :
    Calls Tryz.prog 22 #[.slice A n c] w fun e w' => ∃ v, e = .returned v ∧ w'.ownsRow w.heap.size 5 1 v (storeB true b).length (bvals (storeB true b)) ∧ Only [] w w' := by
  subst hl
  have hn2 : ¬ (65535 : Int) < (b.length : Int) := by omega
  obtain ⟨l0, hl0⟩ : ∃ x, x = b.length % 256 := ⟨_, rfl⟩
  obtain ⟨l1, hl1⟩ : ∃ x, x = b.length / 256 := ⟨_, rfl⟩
  obtain ⟨m0, hm0⟩ : ∃ x, x = 255 - l0 := ⟨_, rfl⟩
  obtain ⟨m1, hm1⟩ : ∃ x, x = 255 - l1 := ⟨_, rfl⟩
  have c1 : IntKind.u8.wrap (b.length : Int) = (l0 : Int) := by rw [IntKind.wrap_u8, hl0]; omega
  have c2 : IntKind.u8.wrap ((b.length : Int) / 256) = (l1 : Int) := by rw [IntKind.wrap_u8, hl1]; omega
  have c3 : (b.length : Int) % 256 = (l0 : Int) := by rw [hl0]; omega
  have c4 : (b.length : Int) / 256 % 256 = (l1 : Int) := by rw [hl1]; omega
  have e0 : bits .xor .u8 IntKind.u8.max (l0 : Int) = (m0 : Int) := by rw [hm0]; exact flip8 l0 (by omega)
  have e1 : bits .xor .u8 IntKind.u8.max (l1 : Int) = (m1 : Int) := by rw [hm1]; exact flip8 l1 (by omega)
  have e5 : (if IntKind.u8.signed = true then -1 else IntKind.u8.max) = IntKind.u8.max := by decide
  obtain ⟨i0, hi0, hz0, hz1, hz2⟩ := info_of u8_info
  have HL := hide (And.intro hl0 (And.intro hl1 (And.intro hm0 hm1)))
  have HB := hide (And.intro hb (And.intro hn hc))
  clear hb hn hc hl0 hl1 hm0 hm1
  go_enter Tryz.func22, Tryz.ntmps22
  go_wp2_with fail
  go_loopw [3, 4] (fun o i wr => o = .slice none 0 0 ∧ i = .int .i64 0 ∧ wr = w) (fun _ _ _ => 0)
  case atStart => exact ⟨rfl, rfl, rfl⟩
  case round =>
    obtain ⟨rfl, rfl, rfl⟩ := hrel
    have hlit := Holds.lit wr #[.int .u8 1, .int .u8 (l0 : Int), .int .u8 (l1 : Int), .int .u8 (m0 : Int), .int .u8 (m1 : Int)] 5
    have hnil := World.ownsRow_nil (wr.alloc (.cells #[.int .u8 1, .int .u8 (l0 : Int), .int .u8 (l1 : Int), .int .u8 (m0 : Int), .int .u8 (m1 : Int)] 5)) wr.heap.size 5 1
    have hsl := run_whole A b.length c HB.out.2.2
    have hbl : (5 + b.length) * 1 ≤ 140737488355328 := by have := HB.out.2.1; omega
    have hone := bvals_one b
    have oa : Only [] wr (wr.alloc (.cells #[.int .u8 1, .int .u8 (l0 : Int), .int .u8 (l1 : Int), .int .u8 (m0 : Int), .int .u8 (m1 : Int)] 5)) := (Only.refl [] wr).alloc _
    have HA := hide oa
    clear oa
    have hone5 : ∀ u ∈ [Value.int .u8 1, .int .u8 (l0 : Int), .int .u8 (l1 : Int), .int .u8 (m0 : Int), .int .u8 (m1 : Int)], u.oneCell' = true := by simp [Value.oneCell']
    have hlen5 : (0 + (#[Value.int .u8 1, .int .u8 (l0 : Int), .int .u8 (l1 : Int), .int .u8 (m0 : Int), .int .u8 (m1 : Int)] : Array Value).size) * 1 ≤ 140737488355328 := by simp
    have hb5 := HA.out.size
    go_upto_region 10 with (at_builtin; refine list_append _ rfl (.tmp 15) (.tmp 29) 22 rfl wr.heap.size 1 1 Tryz.underlying22 hi0 hz0 hz1 hz2 rfl (Nat.zero_lt_one) hnil rfl hlit rfl hone5 hlen5 (Nat.zero_lt_one) hb5 ?_; intro A4 c4' w4 hown4 hgr4 hat4)
    have hown4' : w4.ownsRow wr.heap.size 5 1 (.slice A4 5 c4') 5 [.int .u8 1, .int .u8 (l0 : Int), .int .u8 (l1 : Int), .int .u8 (m0 : Int), .int .u8 (m1 : Int)] := hown4
    have o04 : Only [] wr w4 := HA.out.grown hgr4 (fun k hk _ => by simp [Value.ownBlock] at hk)
    have hbw : Holds w4 1 A b.length (bvals b) := HB.out.1.keep o04 (by simp)
    have hB4 := o04.size
    have hhd : ([.int .u8 1, .int .u8 (l0 : Int), .int .u8 (l1 : Int), .int .u8 (m0 : Int), .int .u8 (m1 : Int)] : List Value) ++ bvals b = bvals (storeB true b) := by
      have h := HL.out
      have hn := HB.out.2.1
      unfold storeB
      rw [bvals_append]
      congr 1
      have u1 : (UInt8.ofNat b.length).toNat = l0 := by rw [UInt8.toNat_ofNat']; omega
      have u2 : (UInt8.ofNat (b.length / 256)).toNat = l1 := by rw [UInt8.toNat_ofNat']; omega
      have u3 : (UInt8.ofNat (255 - b.length % 256)).toNat = m0 := by rw [UInt8.toNat_ofNat']; omega
      have u4 : (UInt8.ofNat (255 - b.length / 256)).toNat = m1 := by rw [UInt8.toNat_ofNat']; omega
      simp [hdr, bvals, u1, u2, u3, u4]
    have HO4 := hide (And.intro o04 hhd)
    clear hown4 hgr4 hat4 hlit hnil hone5 hlen5 hb5 o04 hhd
    go_wp2_with (at_builtin; refine list_append _ rfl (.tmp 31) (.tmp 37) 22 rfl wr.heap.size 1 1 Tryz.underlying22 hi0 hz0 hz1 hz2 rfl (Nat.zero_lt_one) hown4' rfl hbw rfl hone hbl (Nat.zero_lt_one) hB4 ?_; intro A5 c5' w5 hown5 hgr5 hat5)
    go_ret
    have hlt := hown4'.lt
    have o05 : Only [] wr w5 := HO4.out.1.trans ((Only.refl (Value.slice A4 5 c4').ownBlock.toList w4).grown hgr5 (fun k hk _ => mem_own.2 hk)) (fun i hi hl => by
      have := (hlt i (mem_own.1 hi)).1
      omega)
    refine ⟨_, rfl, ?_, o05⟩
    rw [storeB_length, ← HO4.out.2]
    exact hown5
end Go.Proofs.YtlknhiihdejpeaaGreatDoor

