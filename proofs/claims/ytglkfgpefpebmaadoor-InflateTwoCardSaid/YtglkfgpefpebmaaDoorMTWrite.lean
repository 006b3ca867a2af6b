/-
  Plain facts on bits laid one a byte, and put together again. | The document's writer, as the verifier says it a second time.
-/
import Derived.Test.YtglkfgpefpebmaaDoorInt
import Derived.Test.YtglkfgpefpebmaaDoorWriteB
import Derived.Deep.OwnRows
import Derived.StillTailTactics
import Derived.Deep.LoopGhost
namespace Go.Proofs.YtglkfgpefpebmaaDoor
open Go

/-- Bits, one a byte, the first the lowest. -/
def bnum : List UInt8 → Nat
  | [] => 0
  | b :: r => b.toNat + 2 * bnum r

theorem bnum_append (l m : List UInt8) : bnum (l ++ m) = bnum l + 2 ^ l.length * bnum m := by
  induction l with
  | nil => simp [bnum]
  | cons b r ih =>
    rw [List.cons_append, bnum, ih, bnum, List.length_cons, Nat.pow_succ, Nat.mul_add, Nat.mul_comm (2 ^ r.length) 2, Nat.mul_assoc]
    omega
theorem bnum_snoc (l : List UInt8) (b : UInt8) : bnum (l ++ [b]) = bnum l + b.toNat * 2 ^ l.length := by
  rw [bnum_append, Nat.mul_comm]; simp [bnum]
theorem bnum_lt {l : List UInt8} (h : ∀ b ∈ l, b.toNat ≤ 1) : bnum l < 2 ^ l.length := by
  induction l with
  | nil => simp [bnum]
  | cons b r ih =>
    have h1 := h b (by simp)
    have h2 := ih (fun x hx => h x (by simp [hx]))
    rw [bnum, List.length_cons, Nat.pow_succ]; omega

/-- The bytes of a number. -/
def bytesOf (N m : Nat) : List UInt8 := (List.range m).map fun j => UInt8.ofNat (N / 256 ^ j % 256)
@[simp] theorem bytesOf_length (N m : Nat) : (bytesOf N m).length = m := by simp [bytesOf]
theorem bytesOf_get (N m j : Nat) (h : j < (bytesOf N m).length) : (bytesOf N m)[j].toNat = N / 256 ^ j % 256 := by
  simp [bytesOf]
theorem bytesOf_zero (m : Nat) : bytesOf 0 m = List.replicate m 0 := by
  apply List.ext_getElem
  · simp
  · intro j h1 h2
    simp [bytesOf]
theorem num_bytesOf (N m : Nat) : num (bytesOf N m) = N % 256 ^ m := by
  induction m with
  | zero => simp [bytesOf, num, Nat.mod_one]
  | succ m ih =>
    have e : bytesOf N (m + 1) = bytesOf N m ++ [UInt8.ofNat (N / 256 ^ m % 256)] := by
      simp [bytesOf, List.range_succ]
    rw [e, num_snoc, ih, bytesOf_length, Nat.pow_succ, Nat.mod_mul]
    simp

/-- One bit more. -/
theorem bytesOf_bit (N m i b : Nat) (hN : N < 2 ^ i) (hb : b ≤ 1) :
    bytesOf (N + b * 2 ^ i) m = (bytesOf N m).set (i / 8) (UInt8.ofNat (N / 256 ^ (i / 8) % 256 + b * 2 ^ (i % 8))) := by
  have e2 : 2 ^ i = 256 ^ (i / 8) * 2 ^ (i % 8) := by
    rw [pow_256, ← Nat.pow_add]; congr 1; omega
  have hr : 2 ^ (i % 8) ≤ 128 := Nat.pow_le_pow_right (n := 2) (i := i % 8) (j := 7) (by omega) (by omega)
  have hb2 : b * 2 ^ (i % 8) ≤ 1 * 2 ^ (i % 8) := Nat.mul_le_mul_right _ hb
  apply List.ext_getElem
  · simp
  · intro j h1 h2
    have hj : j < m := by simpa using h1
    rw [List.getElem_set]
    by_cases hji : i / 8 = j
    · subst hji
      rw [if_pos rfl]
      simp only [bytesOf, List.getElem_map, List.getElem_range]
      congr 1
      have hlt : N / 256 ^ (i / 8) < 2 ^ (i % 8) := by
        rw [e2] at hN
        exact Nat.div_lt_of_lt_mul hN
      rw [e2, show N + b * (256 ^ (i / 8) * 2 ^ (i % 8)) = N + (b * 2 ^ (i % 8)) * 256 ^ (i / 8) from by
        rw [Nat.mul_comm (256 ^ (i / 8)), ← Nat.mul_assoc], Nat.add_mul_div_right _ _ (Nat.pow_pos (by decide))]
      generalize N / 256 ^ (i / 8) = x at *
      generalize b * 2 ^ (i % 8) = y at *
      omega
    · rw [if_neg hji]
      simp only [bytesOf, List.getElem_map, List.getElem_range]
      congr 1
      rcases Nat.lt_or_ge j (i / 8) with hlt | hge
      · have e3 : 2 ^ i = 2 ^ (i - 8 * j) * 256 ^ j := by rw [pow_256, ← Nat.pow_add]; congr 1; omega
        have e4 : 2 ^ (i - 8 * j) = 256 * 2 ^ (i - 8 * j - 8) := by
          rw [show (256 : Nat) = 2 ^ 8 from rfl, ← Nat.pow_add]; congr 1; omega
        rw [e3, ← Nat.mul_assoc, Nat.add_mul_div_right _ _ (Nat.pow_pos (by decide)), e4, Nat.mul_left_comm, Nat.add_mul_mod_self_left]
      · have h8 : 2 ^ (i + 1) ≤ 256 ^ j := by rw [pow_256]; exact Nat.pow_le_pow_right (by omega) (by omega)
        have hbi : b * 2 ^ i ≤ 1 * 2 ^ i := Nat.mul_le_mul_right _ hb
        rw [Nat.pow_succ] at h8
        rw [Nat.div_eq_of_lt (show N < 256 ^ j by omega), Nat.div_eq_of_lt (show N + b * 2 ^ i < 256 ^ j by omega)]

/-- The lowest bits of a number, one more. -/
theorem mod_bit (v i : Nat) : v % 2 ^ (i + 1) = v % 2 ^ i + (v / 2 ^ i % 2) * 2 ^ i := by
  rw [Nat.pow_succ, Nat.mod_mul, Nat.mul_comm]

end Go.Proofs.YtglkfgpefpebmaaDoor


namespace Go.Proofs.YtglkfgpefpebmaaDoor
open Go Go.RowKit

/-- Block g is a reference writer that has laid n bits, together the number N. -/
def TWr (w : World) (g : Nat) (v : Value) (N n : Nat) : Prop :=
  ∃ l : List UInt8, Has w g 54 #[v] ∧ w.ownsRow 0 5 1 v l.length (bvals l) ∧ (∀ b ∈ l, b.toNat ≤ 1) ∧ bnum l = N ∧ l.length = n

theorem TWr.only {w w' : World} {g : Nat} {v : Value} {N n : Nat} {S : List Nat} (h : TWr w g v N n) (ho : Only S w w') (hg : g ∉ S) (hv : ∀ b, v.ownBlock = some b → b ∉ S) : TWr w' g v N n := by
  obtain ⟨l, h1, h2, h3⟩ := h
  exact ⟨l, h1.only ho hg, own_keep h2 ho hv, h3⟩

/-- One bit has gone to the row, the field is stored. -/
theorem TWr.push {w wr w1 : World} {g : Nat} {v v1 : Value} {l : List UInt8} {N n : Nat} {A : Option Addr} {c : Nat} {b : UInt8} {o : Obj}
    (hh : Has wr g 54 #[v1]) (hown : wr.ownsRow 0 5 1 v1 l.length (bvals l)) (h01 : ∀ b ∈ l, b.toNat ≤ 1) (hN : bnum l = N) (hn : l.length = n) (hs : WSince w g v wr v1) (hb : b.toNat ≤ 1)
    (hown1 : w1.ownsRow 0 5 1 (.slice A (l.length + 1) c) (l.length + 1) (bvals l ++ [.int .u8 (b.toNat : Int)])) (hgrow : (wr.alloc o).grownBy w1 v1.ownBlock)
    (hat : (Value.slice A (l.length + 1) c).ownBlock = v1.ownBlock ∨ (Value.slice A (l.length + 1) c).ownBlock = some (wr.alloc o).heap.size) :
    TWr (w1.setCell ⟨g, 0, none⟩ (.slice A (l.length + 1) c)) g (.slice A (l.length + 1) c) (N + b.toNat * 2 ^ n) (n + 1) ∧
      WSince w g v (w1.setCell ⟨g, 0, none⟩ (.slice A (l.length + 1) c)) (.slice A (l.length + 1) c) := by
  have hne := own_ne hown hh (by decide)
  have hh1 : Has w1 g 54 #[v1] := (hh.alloc o).grown hgrow hne
  have hne1 := own_ne hown1 hh1 (by decide)
  refine ⟨⟨l ++ [b], by simpa using hh1.set 0 (.slice A (l.length + 1) c), ?_, ?_, by rw [bnum_snoc, hN, hn], by rw [List.length_append, hn]; rfl⟩, ?_, ?_⟩
  · rw [bvals_append, List.length_append]
    exact ownsRow_setCell_other hown1 (a := ⟨g, 0, none⟩) (fun h => hne1 h.symm) _
  · intro x hx
    rcases List.mem_append.1 hx with h | h
    · exact h01 x h
    · rw [List.mem_singleton.1 h]; exact hb
  · have h4 : Only (g :: v.ownBlock.toList) w w1 := (hs.1.alloc o).grown hgrow (by
      intro k hk hlt
      rcases hs.2 k hk with h | h
      · simp [h]
      · omega)
    exact h4.setCell (by simp) _
  · intro k hk
    rcases hat with h | h
    · rw [h] at hk; exact hs.2 k hk
    · rw [h] at hk
      right
      have h5 : (wr.alloc o).heap.size = k := by injection hk
      have h6 : wr.heap.size + 1 = k := by rw [← h5]; simp
      have := hs.1.size
      omega

set_option maxRecDepth 100000 in
set_option maxHeartbeats 400000 in
theorem tbits_no (g x : Nat) (k : Int) (w : World) (hk : k < 1 ∨ 32 < k) :
    Calls Tryd.prog 26 #[.pointer (some ⟨g, 0, none⟩), .int .u32 x, .int .i64 k] w fun e w' => e = .returned (.tuple #[]) ∧ w = w' := by
  by_cases h1 : k < 1
  · clear hk
    go_enter Tryd.func26, Tryd.ntmps26
    go_wp2
    exact bodyPost_ret (results_none rfl _ _ _) rfl ⟨rfl, rfl⟩
  · have h2 : 32 < k := by omega
    clear hk
    go_enter Tryd.func26, Tryd.ntmps26
    go_wp2
    exact bodyPost_ret (results_none rfl _ _ _) rfl ⟨rfl, rfl⟩

set_option maxRecDepth 100000 in
set_option maxHeartbeats 2000000 in
theorem tbits_yes (g : Nat) (v : Value) (N n x k : Nat) (w : World) (hW : TWr w g v N n) (hx : x < 4294967296) (hk0 : 1 ≤ k) (hk1 : k ≤ 32) (hn : n + k ≤ 140737488355328) :
    Calls Tryd.prog 26 #[.pointer (some ⟨g, 0, none⟩), .int .u32 x, .int .i64 k] w fun e w' =>
      e = .returned (.tuple #[]) ∧ ∃ v', TWr w' g v' (N + (x % 2 ^ k) * 2 ^ n) (n + k) ∧ WSince w g v w' v' := by
  obtain ⟨i0, hi0, hz0, hz1, hz2⟩ := info_of u8_info
  have HW := hide hW
  clear hW
  go_enter Tryd.func26, Tryd.ntmps26
  go_wp2_with fail
  go_loopw [6] (fun i wr => ∃ (j : Nat) (v1 : Value), j ≤ k ∧ i = .int .i64 j ∧ TWr wr g v1 (N + (x % 2 ^ j) * 2 ^ n) (n + j) ∧ WSince w g v wr v1) (fun i _ => k - (intOf i).toNat)
  case atStart => exact ⟨0, v, Nat.zero_le _, rfl, by simpa [Nat.mod_one] using HW.out, WSince.refl _ _ _⟩
  case round =>
    obtain ⟨j, v1, hj, rfl, ⟨l, hh, hown, h01, hbn, hln⟩, hs⟩ := hrel
    by_cases hlt : j < k
    · obtain ⟨A1, cc1, rfl, _, _⟩ := own_shape hown
      have c0 : wr.cell? ⟨g, 0, none⟩ = some (.slice A1 l.length cc1) := hh.cell 0
      have hb := own_ne hown hh (by decide)
      have glt := hh.lt
      obtain ⟨y, hy⟩ : ∃ y, y = x / 2 ^ j := ⟨_, rfl⟩
      have hyx : y ≤ x := by rw [hy]; exact Nat.div_le_self _ _
      have eD : (x : Int) / 2 ^ j = (y : Int) := by rw [hy]; simp
      have eA : bits BinOp.and IntKind.u32 (y : Int) 1 = ((y % 2 : Nat) : Int) := by
        have := u32_and_nat y 1 (by omega) (by omega)
        rw [Nat.and_one_is_mod] at this; exact this
      obtain ⟨b, hbb⟩ : ∃ b : UInt8, b.toNat = y % 2 := ⟨UInt8.ofNat (y % 2), by simp; omega⟩
      have eB : (y : Int) % 2 = (b.toNat : Int) := by rw [hbb]; omega
      have hb1 : b.toNat ≤ 1 := by omega
      have hmb := mod_bit x j
      rw [← hy, ← hbb] at hmb
      have hone : ∀ u ∈ [Value.int .u8 (b.toNat : Int)], u.oneCell' = true := by simp [Value.oneCell']
      have hroom : (l.length + 1) * 1 ≤ 140737488355328 := by omega
      have hnew : Holds (wr.alloc (.cells #[.int .u8 (b.toNat : Int)] 5)) 1 (some ⟨wr.heap.size, 0, none⟩) 1 [.int .u8 (b.toNat : Int)] :=
        Holds.lit wr #[.int .u8 (b.toNat : Int)] 5
      have hold : (wr.alloc (.cells #[.int .u8 (b.toNat : Int)] 5)).ownsRow 0 5 1 (.slice A1 l.length cc1) l.length (bvals l) := hown.alloc _
      have hhas : Has (wr.alloc (.cells #[.int .u8 (b.toNat : Int)] 5)) g 54 #[.slice A1 l.length cc1] := hh.alloc _
      have HM := hide (And.intro hmb (And.intro hbn hln))
      clear hmb hbb hy hbn hln
      go_wp2_with (at_builtin; refine list_append _ rfl (.tmp 22) (.tmp 29) 22 rfl 0 1 1 Tryd.underlying22 hi0 hz0 hz1 hz2 rfl (Nat.zero_lt_one) hold rfl hnew rfl hone hroom (Nat.zero_lt_one) (Nat.zero_le _) ?_; intro A2 cc2 w1 hown1 hgrow hat; have cw0 : w1.cell? ⟨g, 0, none⟩ = some (.slice A1 l.length cc1) := (hhas.grown hgrow hb).cell 0; have fw0 : w1.frozen? ⟨g, 0, none⟩ = false := (hhas.grown hgrow hb).free 0)
      have hp := TWr.push hh hown h01 HM.out.2.1 HM.out.2.2 hs hb1 hown1 hgrow hat
      have HP := hide hp
      clear hp
      go_roundw
      case rel =>
        refine ⟨j + 1, _, hlt, by go_num, ?_, HP.out.2⟩
        rw [HM.out.1, Nat.add_mul, ← Nat.add_assoc]
        have e : b.toNat * 2 ^ j * 2 ^ n = b.toNat * 2 ^ (n + j) := by rw [Nat.mul_assoc, ← Nat.pow_add, Nat.add_comm n j]
        rw [e]
        exact HP.out.1
      case measure => simp [intOf]; omega
    · obtain rfl : j = k := by omega
      have HF := hide (And.intro hbn hln)
      clear hbn hln
      go_wp2_with fail
      go_end0
      exact ⟨rfl, v1, ⟨l, hh, hown, h01, HF.out.1, HF.out.2⟩, hs⟩

theorem tWBits (g : Nat) (v : Value) (N n x : Nat) (k : Int) (w : World) (hW : TWr w g v N n) (hx : x < 4294967296) (hn : n + 32 ≤ 140737488355328) :
    Calls Tryd.prog 26 #[.pointer (some ⟨g, 0, none⟩), .int .u32 x, .int .i64 k] w fun e w' =>
      e = .returned (.tuple #[]) ∧ ∃ v', TWr w' g v' (laidN N n x k) (laidL n k) ∧ WSince w g v w' v' := by
  unfold laidN laidL
  by_cases hk : 1 ≤ k ∧ k ≤ 32
  · rw [if_pos hk, if_pos hk]
    obtain ⟨k, rfl⟩ := Int.eq_ofNat_of_zero_le (show 0 ≤ k by omega)
    rw [Int.toNat_natCast]
    exact tbits_yes g v N n x k w hW hx (by omega) (by omega) (by omega)
  · rw [if_neg hk, if_neg hk]
    refine (tbits_no g x k w (by omega)).mono ?_
    rintro e w' ⟨rfl, rfl⟩
    exact ⟨rfl, v, hW, WSince.refl _ _ _⟩



/-- The zeros that make lays. -/
def zrow (m : Nat) : Array Value := (bvals (List.replicate m 0)).toArray
theorem zrow_eq (m : Nat) : madeCells #[.int .u8 0] m = zrow m := by
  apply Array.ext'
  rw [toList_madeCells_one]
  simp [zrow, bvals]

theorem u8_orbit (a b k : Nat) (ha : a < 2 ^ k) (hs : a + b * 2 ^ k < 256) : bits .or .u8 (a : Int) ((b * 2 ^ k : Nat) : Int) = ((a + b * 2 ^ k : Nat) : Int) := by
  rw [u8_or_nat _ _ (by omega) (by omega), or_of_lt ha]

set_option maxRecDepth 100000 in
set_option maxHeartbeats 2000000 in
theorem tWDone (g : Nat) (v : Value) (N n : Nat) (w : World) (hW : TWr w g v N n) (hn : n + 64 ≤ 140737488355328) :
    Calls Tryd.prog 28 #[.pointer (some ⟨g, 0, none⟩)] w (DoneAs w N n) := by
  obtain ⟨l, hh, hown, h01, hbn, hln⟩ := hW
  obtain ⟨A1, cc1, rfl, _, _⟩ := own_shape hown
  have c0 : w.cell? ⟨g, 0, none⟩ = some (.slice A1 l.length cc1) := hh.cell 0
  have glt := hh.lt
  obtain ⟨m, hm⟩ : ∃ m, m = (l.length + 7) / 8 := ⟨_, rfl⟩
  have hmk : ∀ W : World, (Instr.makeSlice 22 (.int .i64 (((l.length : Int) + 7) / 8)) (.int .i64 (((l.length : Int) + 7) / 8))).run Tryd.prog W = .ok (.slice (some ⟨W.heap.size, 0, none⟩) m m) (W.alloc (.cells (zrow m) 5)) := by
    intro W
    have e : ((l.length : Int) + 7) / 8 = (m : Int) := by omega
    have h := run_make_row' (P := Tryd.prog) 22 5 (.int .u8 0) 1 Tryd.underlying22 u8_info rfl .i64 .i64 m (by omega) (by omega) W
    rw [e, h, zrow_eq]
  have HM := hide (And.intro hm (And.intro hbn hln))
  have hl47 : l.length + 64 ≤ 140737488355328 := by omega
  have hm8 : l.length ≤ 8 * m := by omega
  have HO := hide (And.intro hown (And.intro h01 hh))
  clear hm hbn hln h01 hown hh
  go_enter Tryd.func28, Tryd.ntmps28
  go_wp2_with fail
  go_loopw [4] (fun i wr => ∃ j : Nat, j ≤ l.length ∧ i = .int .i64 j ∧ Has wr w.heap.size 5 (bvals (bytesOf (bnum (l.take j)) m)).toArray ∧ Only [] w wr) (fun i _ => l.length - (intOf i).toNat)
  case atStart => exact ⟨0, Nat.zero_le _, rfl, by rw [show bnum (l.take 0) = 0 from rfl, bytesOf_zero]; exact Has.new w _ (zrow m), (Only.refl [] w).alloc _⟩
  case round =>
    obtain ⟨j, hj, rfl, hH, ho⟩ := hrel
    have d0 : wr.cell? ⟨g, 0, none⟩ = some (.slice A1 l.length cc1) := by rw [ho.cell glt (by simp)]; exact c0
    by_cases hlt : j < l.length
    · have hownr := own_keep HO.out.1 ho (by simp)
      obtain ⟨gb, rfl, hcl⟩ := own_cells hownr (i := j) hlt
      have d1 : wr.cell? ⟨gb, 0 + j, none⟩ = some (.int .u8 (l[j].toNat : Int)) := hcl j hlt
      rw [Nat.zero_add] at d1
      have hb1 : l[j].toNat ≤ 1 := HO.out.2.1 _ (List.getElem_mem hlt)
      have hjm : j / 8 < m := by omega
      have h01t : ∀ b ∈ l.take j, b.toNat ≤ 1 := fun b hb => HO.out.2.1 b (List.mem_of_mem_take hb)
      have hNj := bnum_lt h01t
      rw [List.length_take, Nat.min_eq_left (by omega)] at hNj
      have hbit := bytesOf_bit (bnum (l.take j)) m j l[j].toNat hNj hb1
      have hsn : bnum (l.take (j + 1)) = bnum (l.take j) + l[j].toNat * 2 ^ j := by
        rw [List.take_succ_eq_append_getElem hlt, bnum_snoc, List.length_take, Nat.min_eq_left (by omega)]
      rw [← hsn] at hbit
      obtain ⟨x, hx⟩ : ∃ x, x = bnum (l.take j) / 256 ^ (j / 8) % 256 := ⟨_, rfl⟩
      have hlen : j / 8 < (bytesOf (bnum (l.take j)) m).length := by rw [bytesOf_length]; exact hjm
      have d2 : wr.cell? ⟨w.heap.size, j / 8, none⟩ = some (.int .u8 (x : Int)) := by
        rw [hH.cell, List.getElem?_toArray, bvals_get _ _ hlen, bytesOf_get, hx]
      have f2 : wr.frozen? ⟨w.heap.size, j / 8, none⟩ = false := hH.free _
      rw [← hx] at hbit
      have hxr : x < 2 ^ (j % 8) := by
        have e2 : 2 ^ j = 256 ^ (j / 8) * 2 ^ (j % 8) := by rw [pow_256, ← Nat.pow_add]; congr 1; omega
        rw [e2] at hNj
        have := Nat.div_lt_of_lt_mul hNj
        rw [hx]; exact Nat.lt_of_le_of_lt (Nat.mod_le _ _) this
      have hr7 : 2 ^ (j % 8) ≤ 128 := Nat.pow_le_pow_right (n := 2) (i := j % 8) (j := 7) (by omega) (by omega)
      have hb2 : l[j].toNat * 2 ^ (j % 8) ≤ 1 * 2 ^ (j % 8) := Nat.mul_le_mul_right _ hb1
      have hor := u8_orbit x l[j].toNat (j % 8) hxr (by omega)
      obtain ⟨y, hy⟩ : ∃ y : UInt8, y = UInt8.ofNat (x + l[j].toNat * 2 ^ (j % 8)) := ⟨_, rfl⟩
      have hyn : y.toNat = x + l[j].toNat * 2 ^ (j % 8) := by rw [hy]; simp; omega
      rw [← hy] at hbit
      rw [← hyn] at hor
      obtain ⟨q, hq⟩ : ∃ q, q = j / 8 := ⟨_, rfl⟩
      obtain ⟨r, hr⟩ : ∃ r, r = j % 8 := ⟨_, rfl⟩
      rw [← hq] at d2 f2 hbit hjm
      rw [← hr] at hor hb2 hr7
      have w1 : IntKind.i64.wrap ((j : Int) / 8) = (q : Int) := by rw [IntWalk.i64_in _ ⟨by omega, by omega⟩]; omega
      have w1' : (j : Int) / 8 = (q : Int) := by omega
      have wq : IntKind.i64.wrap (q : Int) = (q : Int) := IntWalk.i64_in _ ⟨by omega, by omega⟩
      have wr1 : IntKind.i64.wrap (r : Int) = (r : Int) := IntWalk.i64_in _ ⟨by omega, by omega⟩
      have wr2 : IntKind.u64.wrap (r : Int) = (r : Int) := IntWalk.u64_in _ ⟨by omega, by omega⟩
      have r0 : (0 : Int) ≤ (r : Int) := Int.natCast_nonneg _
      have r1 : (r : Int) ≤ 7 := by omega
      have r2 : (r : Int).toNat = r := Int.toNat_natCast _
      have w2 : (j : Int).tmod 8 = (r : Int) := by rw [Int.tmod_eq_emod_of_nonneg (by omega)]; omega
      have w2' : (j : Int) % 8 = (r : Int) := by omega
      have w3 : IntKind.u8.wrap ((l[j].toNat : Int) * 2 ^ r) = (l[j].toNat : Int) * 2 ^ r := by
        rw [← two_pow_cast, ← Int.natCast_mul]; exact IntWalk.u8_in _ ⟨by omega, by omega⟩
      rw [Int.natCast_mul, two_pow_cast] at hor
      have j0 : (0 : Int) ≤ (j : Int) := Int.natCast_nonneg _
      have j1 : (j : Int) < (l.length : Int) := by omega
      have q0 : (0 : Int) ≤ (q : Int) := Int.natCast_nonneg _
      have q1 : (q : Int) < (m : Int) := by omega
      have hset := (hH.set q (.int .u8 (y.toNat : Int))).drew
      have hofin := (ho.setCell (p := ⟨w.heap.size, q, none⟩) (by simp) (.int .u8 (y.toNat : Int))).drew
      have hval : ((bvals (bytesOf (bnum (l.take j)) m)).toArray.setIfInBounds q (.int .u8 (y.toNat : Int))) = (bvals (bytesOf (bnum (l.take (j + 1))) m)).toArray := by
        rw [hbit]
        simp [bvals, List.map_set]
      rw [hval] at hset
      have HE := hide (And.intro hset hofin)
      clear hset hofin hval hbit hsn hx hlen h01t hNj hq hr hy hyn hxr hownr hcl hH
      generalize l[j].toNat = b at *
      go_wp2_with fail
      go_still_tail 21, (by kernel_rfl)
      change wpList _ _ _ _ _ wr.drew
      go_wp2_with fail
      go_roundw
      case rel => exact ⟨j + 1, hlt, by go_num, HE.out.1, HE.out.2⟩
      case measure => simp [intOf]; omega
    · obtain rfl : j = l.length := by omega
      rw [List.take_length] at hH
      have hmb := HM.out
      have hlt2 := bnum_lt HO.out.2.1
      have hN : num (bytesOf (bnum l) m) = N := by
        rw [num_bytesOf, hmb.2.1, Nat.mod_eq_of_lt]
        rw [← hmb.2.1]
        refine Nat.lt_of_lt_of_le hlt2 ?_
        rw [pow_256]
        exact Nat.pow_le_pow_right (by omega) (by omega)
      have hrow : wr.ownsRow w.heap.size 5 1 (.slice (some ⟨w.heap.size, 0, none⟩) m m) (bytesOf (bnum l) m).length (bvals (bytesOf (bnum l) m)) := by
        rw [bytesOf_length]
        refine ⟨by simp, .inr ⟨w.heap.size, m, _, rfl, Nat.le_refl _, hH, Nat.le_refl _, by unfold maxLen; omega, by simp, ?_⟩⟩
        rw [List.toList_toArray, Nat.mul_one]
        exact List.take_of_length_le (by simp)
      have HE := hide (And.intro hrow (And.intro ho hN))
      have hlm : (bytesOf (bnum l) m).length = (n + 7) / 8 := by rw [bytesOf_length]; omega
      have HM2 := hide hlm
      clear hrow ho hN hlt2 hH hmb hlm
      have hjl : ¬ ((l.length : Int) < (l.length : Int)) := by omega
      go_wp2_with fail
      go_ret
      exact ⟨_, bytesOf (bnum l) m, rfl, HE.out.1, HE.out.2.1, HM2.out, HE.out.2.2⟩
end Go.Proofs.YtglkfgpefpebmaaDoor

