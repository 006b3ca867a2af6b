/-
  Package bits as package huff uses it: turned round, read, laid (the texts of stage 1, without what that package's other callers want).
-/
import Derived.Test.YtkjdlpibnnhocaaClone
import Derived.Test.YtkjdlpibnnhocaaMulP
import Derived.Test.YtkjdlpibnnhocaaWriteA
import Derived.Deep.QuietTactic
import Derived.BigQuiet
import Derived.Deep.RegionWith
import Derived.Deep.RegionHeld3
namespace Go.Proofs.Ytkjdlpibnnhocaa
open Go Go.RowKit

/-- Reverse, with its guard. -/
def revI (v : Nat) (n : Int) : Nat := if 0 ≤ n ∧ n ≤ 32 then rev v n.toNat else 0

set_option maxHeartbeats 1000000 in
theorem reverse_no (v : Nat) (n : Int) (w : World) (h : ¬ (0 ≤ n ∧ n ≤ 32)) :
    Calls Try.prog 43 #[.int .u32 v, .int .i64 n] w fun e w' => e = .returned (.int .u32 0) ∧ w = w' := by
  by_cases h1 : n < 0
  · clear h
    go_enter Try.func43, Try.ntmps43
    go_wp2
    go_ret
    exact ⟨rfl, rfl⟩
  · have h2 : 32 < n := by omega
    clear h
    go_enter Try.func43, Try.ntmps43
    go_wp2
    go_ret
    exact ⟨rfl, rfl⟩

set_option maxHeartbeats 1000000 in
theorem reverse_yes (v n : Nat) (w : World) (hv : v < 4294967296) (hn : n ≤ 32) :
    Calls Try.prog 43 #[.int .u32 v, .int .i64 n] w fun e w' => e = .returned (.int .u32 (rev v n : Nat)) ∧ w = w' := by
  go_enter Try.func43, Try.ntmps43
  go_wp2
  go_loop [0, 5, 13] (fun x b i => ∃ j : Nat, j ≤ n ∧ i = .int .i64 j ∧ b = .int .u32 (rev v j : Nat) ∧ x = .int .u32 ((v / 2 ^ j : Nat) : Int)) (fun _ _ i => n - (intOf i).toNat)
  case atStart => exact ⟨0, Nat.zero_le _, rfl, rfl, by simp⟩
  case round =>
    obtain ⟨j, hj, rfl, rfl, rfl⟩ := hrel
    by_cases hlt : j < n
    · have hr := rev_lt v j
      have hp : 2 ^ j ≤ 2147483648 := Nat.pow_le_pow_right (n := 2) (i := j) (j := 31) (by omega) (by omega)
      have hx : v / 2 ^ j ≤ v := Nat.div_le_self _ _
      obtain ⟨R, hR⟩ : ∃ R, R = rev v j := ⟨_, rfl⟩
      obtain ⟨X, hX⟩ : ∃ X, X = v / 2 ^ j := ⟨_, rfl⟩
      have hs : rev v (j + 1) = 2 * R + X % 2 := by rw [hR, hX]; rfl
      have hd : v / 2 ^ (j + 1) = X / 2 := by rw [hX, Nat.pow_succ, Nat.div_div_eq_div_mul]
      rw [← hR, ← hX]
      rw [← hR] at hr
      rw [← hX] at hx
      have H := hide (And.intro hs hd)
      have eA := u32_and1 X (by omega)
      have eO := u32_orbit R X (by omega)
      clear hs hd hR hX
      go_wp2
      go_round
      case rel => exact ⟨j + 1, hlt, by go_num, by rw [H.out.1]; rfl, by rw [H.out.2]; rfl⟩
      case measure => simp [intOf]; omega
    · obtain rfl : j = n := by omega
      clear hlt
      go_wp2
      go_ret
      exact ⟨rfl, rfl⟩

set_option maxHeartbeats 1000000 in
theorem refReverse_no (v : Nat) (n : Int) (w : World) (h : ¬ (0 ≤ n ∧ n ≤ 32)) :
    Calls Try.prog 33 #[.int .u32 v, .int .i64 n] w fun e w' => e = .returned (.int .u32 0) ∧ w = w' := by
  by_cases h1 : n < 0
  · clear h
    go_enter Try.func33, Try.ntmps33
    go_wp2
    go_ret
    exact ⟨rfl, rfl⟩
  · have h2 : 32 < n := by omega
    clear h
    go_enter Try.func33, Try.ntmps33
    go_wp2
    go_ret
    exact ⟨rfl, rfl⟩

set_option maxHeartbeats 1000000 in
theorem refReverse_yes (v n : Nat) (w : World) (hv : v < 4294967296) (hn : n ≤ 32) :
    Calls Try.prog 33 #[.int .u32 v, .int .i64 n] w fun e w' => e = .returned (.int .u32 (rev v n : Nat)) ∧ w = w' := by
  go_enter Try.func33, Try.ntmps33
  go_wp2
  go_loop [5, 6] (fun b i => ∃ j : Nat, j ≤ n ∧ i = .int .i64 j ∧ b = .int .u32 (rev v j : Nat)) (fun _ i => n - (intOf i).toNat)
  case atStart => exact ⟨0, Nat.zero_le _, rfl, rfl⟩
  case round =>
    obtain ⟨j, hj, rfl, rfl⟩ := hrel
    by_cases hlt : j < n
    · have hr := rev_lt v j
      have hp : 2 ^ j ≤ 2147483648 := Nat.pow_le_pow_right (n := 2) (i := j) (j := 31) (by omega) (by omega)
      have hx : v / 2 ^ j ≤ v := Nat.div_le_self _ _
      obtain ⟨R, hR⟩ : ∃ R, R = rev v j := ⟨_, rfl⟩
      obtain ⟨X, hX⟩ : ∃ X, X = v / 2 ^ j := ⟨_, rfl⟩
      have hs : rev v (j + 1) = 2 * R + X % 2 := by rw [hR, hX]; rfl
      rw [← hR]
      rw [← hR] at hr
      rw [← hX] at hx
      have H := hide hs
      have eD : (v : Int) / 2 ^ j = (X : Int) := by rw [hX]; simp
      have eA := u32_and1 X (by omega)
      have eO := u32_orbit R X (by omega)
      clear hs hR hX
      go_wp2
      go_round
      case rel => exact ⟨j + 1, hlt, by go_num, by rw [H.out]; rfl⟩
      case measure => simp [intOf]; omega
    · obtain rfl : j = n := by omega
      clear hlt
      go_wp2
      go_ret
      exact ⟨rfl, rfl⟩

theorem reverse_any (v : Nat) (n : Int) (w : World) (hv : v < 4294967296) :
    Calls Try.prog 43 #[.int .u32 v, .int .i64 n] w fun e w' => e = .returned (.int .u32 (revI v n : Nat)) ∧ w = w' := by
  unfold revI
  by_cases h : 0 ≤ n ∧ n ≤ 32
  · rw [if_pos h]
    obtain ⟨k, rfl⟩ := Int.eq_ofNat_of_zero_le h.1
    exact reverse_yes v k w hv (by omega)
  · rw [if_neg h]; exact reverse_no v n w h

theorem refReverse_any (v : Nat) (n : Int) (w : World) (hv : v < 4294967296) :
    Calls Try.prog 33 #[.int .u32 v, .int .i64 n] w fun e w' => e = .returned (.int .u32 (revI v n : Nat)) ∧ w = w' := by
  unfold revI
  by_cases h : 0 ≤ n ∧ n ≤ 32
  · rw [if_pos h]
    obtain ⟨k, rfl⟩ := Int.eq_ofNat_of_zero_le h.1
    exact refReverse_yes v k w hv (by omega)
  · rw [if_neg h]; exact refReverse_no v n w h

set_option maxHeartbeats 400000 in
theorem newReader_any (A : Option Addr) (n c : Nat) (l : List UInt8) (w : World) (h : Holds w 1 A n (bvals l)) (hl : l.length = n) (hn : n ≤ 140737488355328) (hA : A = none → c = 0 ∧ n = 0) :
    Calls Try.prog 14 #[.slice A n c] w fun e w' =>
      ∃ g v, e = .returned (.pointer (some ⟨g, 0, none⟩)) ∧ w.heap.size ≤ g ∧ (∀ b, v.ownBlock = some b → w.heap.size ≤ b) ∧ Rd w' g v l 0 ∧ Only [] w w' := by
  subst hl
  go_enter Try.func14, Try.ntmps14
  go_wp2_with fail
  refine (clone_any A _ c l _ h hn hA).mono ?_
  rintro e w' ⟨v, rfl, hown, ho⟩
  obtain ⟨A', c', rfl, hc', hA'⟩ := own_shape hown
  have hlt := hown.lt
  have ho2 : Only [] w (w'.alloc (.cells #[.slice A' l.length c', .int .i64 0] 76)) := ho.alloc _
  have hrd : Rd (w'.alloc (.cells #[.slice A' l.length c', .int .i64 0] 76)) w'.heap.size (.slice A' l.length c') l 0 :=
    ⟨Has.new _ _ _, own_mono (hown.alloc _) (Nat.zero_le _), hn, by omega⟩
  have hsz := ho.size
  go_wp2
  go_ret
  exact ⟨w'.heap.size, _, rfl, hsz, fun b hb => (hlt b hb).1, hrd, ho2⟩

/-- Block g is a reference reader over the bytes l (the slice is not its own), k bits passed. -/
structure TRd (w : World) (g : Nat) (A : Option Addr) (c : Nat) (l : List UInt8) (k : Nat) : Prop where
  has : Has w g 39 #[.slice A l.length c, .int .i64 k]
  holds : Holds w 1 A l.length (bvals l)
  nil : A = none → c = 0 ∧ l.length = 0
  cap : l.length ≤ c
  small : l.length ≤ 140737488355328
  le : k ≤ 8 * l.length

theorem keep_if {w w' : World} {size n : Nat} {A : Option Addr} {xs : List Value} {S : List Nat} (h : Holds w size A n xs) (ho : Only S w w') (hS : 0 < n → ∀ ad, A = some ad → ad.block < w.heap.size → ad.block ∉ S) : Holds w' size A n xs := by
  rcases Nat.eq_zero_or_pos n with h0 | h0
  · exact ⟨h.1, fun hp => absurd hp (by omega)⟩
  · exact h.keep ho (hS h0)

theorem TRd.only {w w' : World} {g c k : Nat} {A : Option Addr} {l : List UInt8} {S : List Nat} (h : TRd w g A c l k) (ho : Only S w w') (hg : g ∉ S) (hA : 0 < l.length → ∀ ad, A = some ad → ad.block < w.heap.size → ad.block ∉ S) : TRd w' g A c l k :=
  ⟨h.has.only ho hg, keep_if h.holds ho hA, h.nil, h.cap, h.small, h.le⟩

set_option maxHeartbeats 400000 in
theorem tLeft (g c k : Nat) (A : Option Addr) (l : List UInt8) (w : World) (h : TRd w g A c l k) :
    Calls Try.prog 49 #[.pointer (some ⟨g, 0, none⟩)] w fun e w' => e = .returned (.int .i64 ((8 * l.length - k : Nat) : Int)) ∧ ∃ m, w' = w.drewN m := by
  have c1 : w.cell? ⟨g, 1, none⟩ = some (.int .i64 (k : Int)) := h.has.cell 1
  have c0 : w.cell? ⟨g, 0, none⟩ = some (.slice A l.length c) := h.has.cell 0
  have hn := h.small
  have hk := h.le
  clear h
  go_enter Try.func49, Try.ntmps49
  go_wp2
  go_quiet (fail)
  go_wp2
  go_ret
  exact ⟨ret_int (by omega), _, rfl⟩

set_option maxHeartbeats 400000 in
theorem tBit (g c k : Nat) (A : Option Addr) (l : List UInt8) (a : Int) (at_ : Nat) (w : World) (h : TRd w g A c l k) (hat : a = at_) (ha : at_ < 8 * l.length) :
    Calls Try.prog 50 #[.pointer (some ⟨g, 0, none⟩), .int .i64 a] w fun e w' => e = .returned (.int .u32 ((num l / 2 ^ at_ % 2 : Nat) : Int)) ∧ w = w' := by
  subst hat
  have hi : at_ / 8 < l.length := by omega
  obtain ⟨b, o, rfl, hc⟩ := h.holds.addr (by rw [bvals_length]; omega)
  have c0 : w.cell? ⟨g, 0, none⟩ = some (.slice (some ⟨b, o, none⟩) l.length c) := h.has.cell 0
  have hcell : w.cell? ⟨b, o + at_ / 8, none⟩ = some (.int .u8 (l[at_ / 8].toNat : Int)) := hc _ _ (bvals_get l _ hi)
  have hn := h.small
  have hb := l[at_ / 8].toNat_lt
  have hbit := hide (num_bit l at_ hi)
  obtain ⟨x, hx⟩ : ∃ x, x = l[at_ / 8].toNat := ⟨_, rfl⟩
  rw [← hx] at hcell hb hbit
  have hd : x / 2 ^ (at_ % 8) ≤ x := Nat.div_le_self _ _
  obtain ⟨y, hy⟩ : ∃ y, y = x / 2 ^ (at_ % 8) := ⟨_, rfl⟩
  have eD : (x : Int) / 2 ^ (at_ % 8) = (y : Int) := by rw [hy]; simp
  rw [← hy] at hd hbit
  have eA : bits BinOp.and IntKind.u32 (y : Int) 1 = ((y % 2 : Nat) : Int) := by
    have := u32_and_nat y 1 (by omega) (by omega)
    rw [Nat.and_one_is_mod] at this; exact this
  clear hx hy hc
  go_enter Try.func50, Try.ntmps50
  go_wp2
  go_ret
  exact ⟨ret_int (by rw [← hbit.out]; rfl), rfl⟩

set_option maxHeartbeats 400000 in
theorem tPeek_no (g c k : Nat) (A : Option Addr) (l : List UInt8) (n : Int) (w : World) (h : TRd w g A c l k) (hn : n < 0 ∨ 32 < n ∨ (8 * l.length - k : Nat) < n) :
    Calls Try.prog 45 #[.pointer (some ⟨g, 0, none⟩), .int .i64 n] w fun e w' => e = .returned (.tuple #[.int .u32 0, .bool false]) ∧ ∃ m, w' = w.drewN m := by
  by_cases h1 : n < 0
  · go_enter Try.func45, Try.ntmps45
    go_wp2
    go_ret2
    exact ⟨rfl, 0, rfl⟩
  · by_cases h2 : 32 < n
    · go_enter Try.func45, Try.ntmps45
      go_wp2
      go_ret2
      exact ⟨rfl, 0, rfl⟩
    · have h3 : ((8 * l.length - k : Nat) : Int) < n := by omega
      go_enter Try.func45, Try.ntmps45
      go_wp2_with fail
      refine (tLeft g c k A l _ h).mono ?_
      rintro e w' ⟨rfl, m, rfl⟩
      go_wp2
      go_ret2
      exact ⟨rfl, m, rfl⟩

theorem TRd.drewN {w : World} {g c k : Nat} {A : Option Addr} {l : List UInt8} (h : TRd w g A c l k) (m : Nat) : TRd (w.drewN m) g A c l k :=
  ⟨h.has, h.holds, h.nil, h.cap, h.small, h.le⟩

/-- One bit more laid above the bits so far. -/
theorem u32_bit (N k j : Nat) (hj : j < 32) :
    bits .or .u32 (bitsOf N k j : Nat) (((N / 2 ^ (k + j) % 2 : Nat) : Int) * 2 ^ j % 4294967296) = (bitsOf N k (j + 1) : Nat) := by
  have hb : N / 2 ^ (k + j) % 2 ≤ 1 := by omega
  have hlt := bitsOf_lt N k j
  have hs := bitsOf_succ N k j
  have hp : 2 ^ j ≤ 2147483648 := Nat.pow_le_pow_right (n := 2) (i := j) (j := 31) (by omega) (by omega)
  generalize N / 2 ^ (k + j) % 2 = b at *
  have hm : b * 2 ^ j ≤ 1 * 2 ^ j := Nat.mul_le_mul_right _ hb
  have e : (b : Int) * 2 ^ j % 4294967296 = ((b * 2 ^ j : Nat) : Int) := by
    rw [← two_pow_cast, ← Int.natCast_mul]; omega
  rw [e, u32_join _ _ _ hlt (by omega), hs, Nat.mul_comm]

set_option maxHeartbeats 1000000 in
theorem tPeek_yes (g c k n : Nat) (A : Option Addr) (l : List UInt8) (w : World) (h : TRd w g A c l k) (hn : n ≤ 32) (hk : k + n ≤ 8 * l.length) :
    Calls Try.prog 45 #[.pointer (some ⟨g, 0, none⟩), .int .i64 n] w fun e w' =>
      e = .returned (.tuple #[.int .u32 (bitsOf (num l) k n : Nat), .bool true]) ∧ ∃ m, w' = w.drewN m := by
  have c1 : w.cell? ⟨g, 1, none⟩ = some (.int .i64 (k : Int)) := h.has.cell 1
  have h3 : decide (8 * l.length - k < n) = false := by simp; omega
  have hsm := h.small
  go_enter Try.func45, Try.ntmps45
  go_wp2_with fail
  refine (tLeft g c k A l _ h).mono ?_
  rintro e w' ⟨rfl, m, rfl⟩
  go_wp2
  go_loopw [6, 7] (fun v i wr => wr = w.drewN m ∧ ∃ j : Nat, j ≤ n ∧ i = .int .i64 j ∧ v = .int .u32 (bitsOf (num l) k j : Nat)) (fun _ i _ => n - (intOf i).toNat)
  case atStart => exact ⟨rfl, 0, Nat.zero_le _, rfl, by rw [bitsOf_zero]; rfl⟩
  case round =>
    obtain ⟨rfl, j, hj, rfl, rfl⟩ := hrel
    by_cases hlt : j < n
    · have hst := u32_bit (num l) k j (by omega)
      have Hst := hide hst
      have hb2 : num l / 2 ^ (k + j) % 2 < 2 := by omega
      clear hst
      go_wp2_with fail
      refine (tBit g c k A l _ (k + j) _ (h.drewN m) (by omega) (by omega)).mono ?_
      rintro e w' ⟨rfl, rfl⟩
      obtain ⟨b, hb⟩ : ∃ b, b = num l / 2 ^ (k + j) % 2 := ⟨_, rfl⟩
      rw [← hb] at Hst hb2 ⊢
      clear hb
      go_wp2_with fail
      go_roundw
      case rel =>
        rw [Hst.out]
        first
          | exact ⟨trivial, j + 1, hlt, by go_num, rfl⟩
          | exact ⟨rfl, j + 1, hlt, by go_num, rfl⟩
      case measure => simp [intOf]; omega
    · obtain rfl : j = n := by omega
      clear hlt
      go_wp2
      go_ret2
      exact ⟨rfl, _, rfl⟩

theorem tPeek (g c k : Nat) (A : Option Addr) (l : List UInt8) (n : Int) (w : World) (h : TRd w g A c l k) :
    Calls Try.prog 45 #[.pointer (some ⟨g, 0, none⟩), .int .i64 n] w fun e w' =>
      e = .returned (.tuple #[.int .u32 (gotBits l k n : Nat), .bool (okBits l.length k n)]) ∧ ∃ m, w' = w.drewN m := by
  unfold gotBits
  by_cases hok : 0 ≤ n ∧ n ≤ 32 ∧ n ≤ ((8 * l.length - k : Nat) : Int)
  · have hb : okBits l.length k n = true := by simp only [okBits, decide_eq_true_eq]; exact hok
    rw [hb, if_pos rfl]
    obtain ⟨h0, h1, h2⟩ := hok
    obtain ⟨n, rfl⟩ := Int.eq_ofNat_of_zero_le h0
    rw [Int.toNat_natCast]
    have := h.le
    exact tPeek_yes g c k n A l w h (by omega) (by omega)
  · have hb : okBits l.length k n = false := by simp only [okBits, decide_eq_false_iff_not]; exact hok
    rw [hb, if_neg (by simp)]
    exact tPeek_no g c k A l n w h (by omega)

theorem TRd.set {w : World} {g c k j : Nat} {A : Option Addr} {l : List UInt8} (h : TRd w g A c l k) (hj : j ≤ 8 * l.length) (hA : 0 < l.length → ∀ ad, A = some ad → ad.block ≠ g) : TRd (w.setCell ⟨g, 1, none⟩ (.int .i64 j)) g A c l j :=
  ⟨by simpa using h.has.set 1 (.int .i64 j), keep_if h.holds ((Only.refl [g] _).setCell (by simp) _) (fun h0 ad ha _ => by simpa using hA h0 ad ha), h.nil, h.cap, h.small, hj⟩

set_option maxHeartbeats 400000 in
theorem tBits (g c k : Nat) (A : Option Addr) (l : List UInt8) (n : Int) (w : World) (hR : TRd w g A c l k) (hA : 0 < l.length → ∀ ad, A = some ad → ad.block ≠ g) :
    Calls Try.prog 38 #[.pointer (some ⟨g, 0, none⟩), .int .i64 n] w fun e w' =>
      e = .returned (.tuple #[.int .u32 (gotBits l k n : Nat), .bool (okBits l.length k n)]) ∧ Only [g] w w' ∧ TRd w' g A c l (if okBits l.length k n then k + n.toNat else k) := by
  have hk := hR.le
  have hl := hR.small
  have HP := hide (tPeek g c k A l n w hR)
  by_cases hok : 0 ≤ n ∧ n ≤ 32 ∧ n ≤ ((8 * l.length - k : Nat) : Int)
  · have hb : okBits l.length k n = true := by simp only [okBits, decide_eq_true_eq]; exact hok
    rw [hb] at HP ⊢
    obtain ⟨h0, h1, h2⟩ := hok
    obtain ⟨n, rfl⟩ := Int.eq_ofNat_of_zero_le h0
    have c1 : w.cell? ⟨g, 1, none⟩ = some (.int .i64 (k : Int)) := hR.has.cell 1
    have f1 : w.frozen? ⟨g, 1, none⟩ = false := hR.has.free 1
    clear hb
    go_enter Try.func38, Try.ntmps38
    go_wp2_with fail
    refine (HP.out).mono ?_
    rintro e w' ⟨rfl, m, rfl⟩
    go_wp2
    go_ret2
    exact ⟨rfl, ((Only.refl _ _).drewN m).setCell (by simp) _, (hR.drewN m).set (j := k + n) (by omega) hA⟩
  · have hb : okBits l.length k n = false := by simp only [okBits, decide_eq_false_iff_not]; exact hok
    rw [hb] at HP ⊢
    clear hb hok
    go_enter Try.func38, Try.ntmps38
    go_wp2_with fail
    refine (HP.out).mono ?_
    rintro e w' ⟨rfl, m, rfl⟩
    go_wp2
    go_ret2
    exact ⟨rfl, (Only.refl _ _).drewN m, hR.drewN m⟩

set_option maxHeartbeats 400000 in
theorem newWriter_any (w : World) :
    Calls Try.prog 20 #[] w fun e w' =>
      ∃ g, e = .returned (.pointer (some ⟨g, 0, none⟩)) ∧ w.heap.size ≤ g ∧ Wr w' g (.slice none 0 0) 0 0 ∧ Only [] w w' := by
  have hwr : Wr (w.alloc (.cells #[.slice none 0 0, .int .u64 0, .int .i64 0] 82)) w.heap.size (.slice none 0 0) 0 0 :=
    ⟨[], 0, 0, ⟨Has.new _ _ _, World.ownsRow_nil _ _ _ _, by decide, rfl, rfl⟩, by decide⟩
  have ho : Only [] w (w.alloc (.cells #[.slice none 0 0, .int .u64 0, .int .i64 0] 82)) := (Only.refl _ _).alloc _
  go_enter Try.func20, Try.ntmps20
  go_wp2
  go_ret
  exact ⟨w.heap.size, rfl, Nat.le_refl _, hwr, ho⟩

theorem WSince.refl (w : World) (g : Nat) (v : Value) : WSince w g v w v := ⟨Only.refl _ _, fun _ h => .inl h⟩

theorem WSince.trans {w w' w'' : World} {g : Nat} {v v' v'' : Value} (h : WSince w g v w' v') (k : WSince w' g v' w'' v'') : WSince w g v w'' v'' := by
  refine ⟨h.1.trans k.1 ?_, fun b hb => ?_⟩
  · intro i hi hlt
    rcases List.mem_cons.1 hi with rfl | hi
    · simp
    · have hv : v'.ownBlock = some i := by cases hv : v'.ownBlock with
        | none => rw [hv] at hi; simp at hi
        | some j => rw [hv] at hi; simp at hi; rw [hi]
      rcases h.2 i hv with h1 | h1
      · rw [h1]; simp
      · omega
  · rcases k.2 b hb with h1 | h1
    · exact h.2 b h1
    · exact .inr (Nat.le_trans h.1.size h1)

set_option maxHeartbeats 400000 in
theorem wbits_no (g x : Nat) (k : Int) (w : World) (hk : k < 1 ∨ 32 < k) :
    Calls Try.prog 21 #[.pointer (some ⟨g, 0, none⟩), .int .u32 x, .int .i64 k] w fun e w' => e = .returned (.tuple #[]) ∧ w = w' := by
  by_cases h1 : k < 1
  · clear hk
    go_enter Try.func21, Try.ntmps21
    go_wp2
    exact bodyPost_ret (results_none rfl _ _ _) rfl ⟨rfl, rfl⟩
  · have h2 : 32 < k := by omega
    clear hk
    go_enter Try.func21, Try.ntmps21
    go_wp2
    exact bodyPost_ret (results_none rfl _ _ _) rfl ⟨rfl, rfl⟩

/-- What a writer has laid behind Bits(x, k). -/
def laidN (N n x : Nat) (k : Int) : Nat := if 1 ≤ k ∧ k ≤ 32 then N + (x % 2 ^ k.toNat) * 2 ^ n else N

def laidL (n : Nat) (k : Int) : Nat := if 1 ≤ k ∧ k ≤ 32 then n + k.toNat else n

theorem wBits (g : Nat) (v : Value) (N n x : Nat) (k : Int) (w : World) (hW : Wr w g v N n) (hx : x < 4294967296) (hn : n + 32 ≤ 140737488355328) :
    Calls Try.prog 21 #[.pointer (some ⟨g, 0, none⟩), .int .u32 x, .int .i64 k] w fun e w' =>
      e = .returned (.tuple #[]) ∧ ∃ v', Wr w' g v' (laidN N n x k) (laidL n k) ∧ WSince w g v w' v' := by
  unfold laidN laidL
  by_cases hk : 1 ≤ k ∧ k ≤ 32
  · rw [if_pos hk, if_pos hk]
    obtain ⟨k, rfl⟩ := Int.eq_ofNat_of_zero_le (show 0 ≤ k by omega)
    rw [Int.toNat_natCast]
    obtain ⟨l, rest, cnt, h, hc⟩ := hW
    exact wbits_any g v l rest cnt N n x k w h hc hx (by omega) (by omega) (by omega)
  · rw [if_neg hk, if_neg hk]
    refine (wbits_no g x k w (by omega)).mono ?_
    rintro e w' ⟨rfl, rfl⟩
    exact ⟨rfl, v, hW, WSince.refl _ _ _⟩

theorem num_one (b : UInt8) : num [b] = b.toNat := by simp [num]

/-- What Done hands back. -/
def DoneAs (w : World) (N n : Nat) (e : Ending) (w' : World) : Prop :=
  ∃ rv bs, e = .returned rv ∧ w'.ownsRow w.heap.size 5 1 rv bs.length (bvals bs) ∧ Only [] w w' ∧ bs.length = (n + 7) / 8 ∧ num bs = N

set_option maxHeartbeats 1000000 in
theorem wDone (g : Nat) (v : Value) (N n : Nat) (w : World) (hW : Wr w g v N n) (hN : n + 64 ≤ 140737488355328) :
    Calls Try.prog 22 #[.pointer (some ⟨g, 0, none⟩)] w (DoneAs w N n) := by
  obtain ⟨l, rest, cnt, ⟨hh, hown, hr, hN1, hn1⟩, hc⟩ := hW
  obtain ⟨A1, cc1, rfl, hcap, hnil⟩ := own_shape hown
  obtain ⟨i0, hi0, hz0, hz1, hz2⟩ := info_of u8_info
  have c0 : w.cell? ⟨g, 0, none⟩ = some (.slice A1 l.length cc1) := hh.cell 0
  have c1 : w.cell? ⟨g, 1, none⟩ = some (.int .u64 (rest : Int)) := hh.cell 1
  have c2 : w.cell? ⟨g, 2, none⟩ = some (.int .i64 (cnt : Int)) := hh.cell 2
  have hlen : l.length + 1 ≤ 140737488355328 := by omega
  by_cases h0 : 0 < cnt
  · have hp7 : 2 ^ cnt ≤ 2 ^ 7 := Nat.pow_le_pow_right (by omega) (by omega)
    obtain ⟨b, hb⟩ : ∃ b : UInt8, b.toNat = rest := ⟨UInt8.ofNat rest, by simp; omega⟩
    have e8 : IntKind.u8.wrap (rest : Int) = (b.toNat : Int) := by rw [hb, IntKind.wrap_u8]; omega
    have HB := hide hb
    have hone : ∀ u ∈ [Value.int .u8 (b.toNat : Int)], u.oneCell' = true := by simp [Value.oneCell']
    have hold : ∀ nq, Holds ((w.drewN nq).alloc (.cells #[.int .u8 (b.toNat : Int)] 5)) 1 A1 l.length (bvals l) := fun nq =>
      (Holds.of_own hown).keep (((Only.refl [] w).drewN nq).alloc _) (by simp)
    have hnew : ∀ nq, ∀ j u, [Value.int .u8 (b.toNat : Int)][j]? = some u → ((w.drewN nq).alloc (.cells #[.int .u8 (b.toNat : Int)] 5)).cell? ((⟨w.heap.size, 0, none⟩ : Addr).add j) = some u := fun nq =>
      (Holds.lit (w.drewN nq) #[.int .u8 (b.toNat : Int)] 5).at_ _ rfl
    have hnil' : A1 = none → l.length = 0 ∧ l.length = 0 := fun h => by have := hnil h; omega
    have HN := hide (And.intro hN1 hn1)
    clear hb hN1 hn1 hh
    go_enter Try.func22, Try.ntmps22
    go_wp2_with fail
    go_quiet (fail)
    go_wp2_with (at_builtin; refine wpList_append_grows _ rfl (.tmp 24) (.tmp 30) 22 rfl 5 i0 _ 1 1 Try.underlying22 hi0 hz0 hz1 hz2 rfl (Nat.zero_lt_one) A1 l.length l.length (bvals l) rfl hnil' (by simp) (hold nq).at_ _ 1 1 [.int .u8 (b.toNat : Int)] rfl rfl (hnew nq) hone (by omega) (by unfold maxLen; omega) (by omega) ?_; intro v2 w2 hown2 hg2)
    go_ret
    have ho : Only [] w w2 := (((Only.refl [] w).drewN nq).alloc _).grown hg2 (by simp)
    have hsz : w.heap.size ≤ ((w.drewN nq).alloc (.cells #[.int .u8 (b.toNat : Int)] 5)).heap.size := (((Only.refl [] w).drewN nq).alloc _).size
    refine ⟨v2, l ++ [b], rfl, ?_, ho, ?_, ?_⟩
    · rw [bvals_append, List.length_append]
      exact own_mono hown2 hsz
    · rw [List.length_append, List.length_singleton]; have := HN.out.2; omega
    · rw [num_snoc, HB.out, HN.out.1]
  · obtain rfl : cnt = 0 := by omega
    obtain rfl : rest = 0 := by omega
    have hold : ∀ nq, Holds (w.drewN nq) 1 A1 l.length (bvals l) := fun nq => (Holds.of_own hown).keep ((Only.refl [] w).drewN nq) (by simp)
    have hnil' : A1 = none → l.length = 0 ∧ l.length = 0 := fun h => by have := hnil h; omega
    have HN := hide (And.intro hN1 hn1)
    clear hN1 hn1 hh
    go_enter Try.func22, Try.ntmps22
    go_wp2_with fail
    go_quiet (fail)
    go_wp2_with fail
    refine (clone_any A1 l.length l.length l _ (hold nq) (by omega) (fun h => by have := hnil' h; omega)).mono ?_
    rintro e w' ⟨rv, rfl, hown2, ho⟩
    go_wp2
    go_ret
    refine ⟨rv, l, rfl, hown2, ((Only.refl [] w).drewN nq).trans ho (by simp), ?_, ?_⟩
    · have := HN.out.2; omega
    · have := HN.out.1; omega

end Go.Proofs.Ytkjdlpibnnhocaa
