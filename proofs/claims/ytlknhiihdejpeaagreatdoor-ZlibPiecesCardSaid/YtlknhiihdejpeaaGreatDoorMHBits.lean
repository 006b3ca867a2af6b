/-
  Package bits as package huff uses it: turned round, read, laid (the texts of stage 1, without what that package's other callers want). | Codes by their lengths, plainly: how many there are of each length, where they begin, which symbol has which.
-/
import Derived.Test.YtlknhiihdejpeaaGreatDoorMNum
import Derived.Test.YtlknhiihdejpeaaGreatDoorMWriteA
import Derived.Deep.QuietTactic
import Derived.BigQuiet
import Derived.Deep.RegionWith
import Derived.Deep.RegionHeld3
namespace Go.Proofs.YtlknhiihdejpeaaGreatDoor
open Go Go.RowKit

/-- Reverse, with its guard. -/
def revI (v : Nat) (n : Int) : Nat := if 0 ≤ n ∧ n ≤ 32 then rev v n.toNat else 0

set_option maxHeartbeats 1000000 in
theorem reverse_no (v : Nat) (n : Int) (w : World) (h : ¬ (0 ≤ n ∧ n ≤ 32)) :
    Calls Tryz.prog 78 #[.int .u32 v, .int .i64 n] w fun e w' => e = .returned (.int .u32 0) ∧ w = w' := by
  by_cases h1 : n < 0
  · clear h
    go_enter Tryz.func78, Tryz.ntmps78
    go_wp2
    go_ret
    exact ⟨rfl, rfl⟩
  · have h2 : 32 < n := by omega
    clear h
    go_enter Tryz.func78, Tryz.ntmps78
    go_wp2
    go_ret
    exact ⟨rfl, rfl⟩

set_option maxHeartbeats 1000000 in
theorem reverse_yes (v n : Nat) (w : World) (hv : v < 4294967296) (hn : n ≤ 32) :
    Calls Tryz.prog 78 #[.int .u32 v, .int .i64 n] w fun e w' => e = .returned (.int .u32 (rev v n : Nat)) ∧ w = w' := by
  go_enter Tryz.func78, Tryz.ntmps78
  go_wp2
  go_loop [0, 5, 13] (fun x b i => ∃ j : Nat, j ≤ n ∧ i = .int .i64 j ∧ b = .int .u32 (rev v j : Nat) ∧ x = .int .u32 ((v / 2 ^ j : Nat) : Int)) (fun _ _ i => n - (intOf i).toNat)
  case atStart => exact ⟨0, Nat.zero_le _, rfl, rfl, by simp⟩
  case round =>
    obtain ⟨j, hj, rfl, rfl, rfl⟩ := hrel
    by_cases hlt : j < n
    · have hr := rev_lt v j
      have hp : 2 ^ j ≤ 2147483648 := Nat.pow_le_pow_right (n := 2) (i := j) (j := 31) (by omega) (by omega)
      have hx : v / 2 ^ j ≤ v := Nat.div_le_self _ _
      obtain ⟨R, hR⟩ : ∃ R, R = rev v j := ⟨_, rfl⟩
      obtain ⟨X, hX⟩ : ∃ X, X = v / 2 ^ j := ⟨_, rfl⟩
      have hs : rev v (j + 1) = 2 * R + X % 2 := by rw [hR, hX]; rfl
      have hd : v / 2 ^ (j + 1) = X / 2 := by rw [hX, Nat.pow_succ, Nat.div_div_eq_div_mul]
      rw [← hR, ← hX]
      rw [← hR] at hr
      rw [← hX] at hx
      have H := hide (And.intro hs hd)
      have eA := u32_and1 X (by omega)
      have eO := u32_orbit R X (by omega)
      clear hs hd hR hX
      go_wp2
      go_round
      case rel => exact ⟨j + 1, hlt, by go_num, by rw [H.out.1]; rfl, by rw [H.out.2]; rfl⟩
      case measure => simp [intOf]; omega
    · obtain rfl : j = n := by omega
      clear hlt
      go_wp2
      go_ret
      exact ⟨rfl, rfl⟩

set_option maxHeartbeats 1000000 in
theorem refReverse_no (v : Nat) (n : Int) (w : World) (h : ¬ (0 ≤ n ∧ n ≤ 32)) :
    Calls Tryz.prog 56 #[.int .u32 v, .int .i64 n] w fun e w' => e = .returned (.int .u32 0) ∧ w = w' := by
  by_cases h1 : n < 0
  · clear h
    go_enter Tryz.func56, Tryz.ntmps56
    go_wp2
    go_ret
    exact ⟨rfl, rfl⟩
  · have h2 : 32 < n := by omega
    clear h
    go_enter Tryz.func56, Tryz.ntmps56
    go_wp2
    go_ret
    exact ⟨rfl, rfl⟩

set_option maxHeartbeats 1000000 in
theorem refReverse_yes (v n : Nat) (w : World) (hv : v < 4294967296) (hn : n ≤ 32) :
    Calls Tryz.prog 56 #[.int .u32 v, .int .i64 n] w fun e w' => e = .returned (.int .u32 (rev v n : Nat)) ∧ w = w' := by
  go_enter Tryz.func56, Tryz.ntmps56
  go_wp2
  go_loop [5, 6] (fun b i => ∃ j : Nat, j ≤ n ∧ i = .int .i64 j ∧ b = .int .u32 (rev v j : Nat)) (fun _ i => n - (intOf i).toNat)
  case atStart => exact ⟨0, Nat.zero_le _, rfl, rfl⟩
  case round =>
    obtain ⟨j, hj, rfl, rfl⟩ := hrel
    by_cases hlt : j < n
    · have hr := rev_lt v j
      have hp : 2 ^ j ≤ 2147483648 := Nat.pow_le_pow_right (n := 2) (i := j) (j := 31) (by omega) (by omega)
      have hx : v / 2 ^ j ≤ v := Nat.div_le_self _ _
      obtain ⟨R, hR⟩ : ∃ R, R = rev v j := ⟨_, rfl⟩
      obtain ⟨X, hX⟩ : ∃ X, X = v / 2 ^ j := ⟨_, rfl⟩
      have hs : rev v (j + 1) = 2 * R + X % 2 := by rw [hR, hX]; rfl
      rw [← hR]
      rw [← hR] at hr
      rw [← hX] at hx
      have H := hide hs
      have eD : (v : Int) / 2 ^ j = (X : Int) := by rw [hX]; simp
      have eA := u32_and1 X (by omega)
      have eO := u32_orbit R X (by omega)
      clear hs hR hX
      go_wp2
      go_round
      case rel => exact ⟨j + 1, hlt, by go_num, by rw [H.out]; rfl⟩
      case measure => simp [intOf]; omega
    · obtain rfl : j = n := by omega
      clear hlt
      go_wp2
      go_ret
      exact ⟨rfl, rfl⟩

theorem reverse_any (v : Nat) (n : Int) (w : World) (hv : v < 4294967296) :
    Calls Tryz.prog 78 #[.int .u32 v, .int .i64 n] w fun e w' => e = .returned (.int .u32 (revI v n : Nat)) ∧ w = w' := by
  unfold revI
  by_cases h : 0 ≤ n ∧ n ≤ 32
  · rw [if_pos h]
    obtain ⟨k, rfl⟩ := Int.eq_ofNat_of_zero_le h.1
    exact reverse_yes v k w hv (by omega)
  · rw [if_neg h]; exact reverse_no v n w h

theorem refReverse_any (v : Nat) (n : Int) (w : World) (hv : v < 4294967296) :
    Calls Tryz.prog 56 #[.int .u32 v, .int .i64 n] w fun e w' => e = .returned (.int .u32 (revI v n : Nat)) ∧ w = w' := by
  unfold revI
  by_cases h : 0 ≤ n ∧ n ≤ 32
  · rw [if_pos h]
    obtain ⟨k, rfl⟩ := Int.eq_ofNat_of_zero_le h.1
    exact refReverse_yes v k w hv (by omega)
  · rw [if_neg h]; exact refReverse_no v n w h


/-- Block g is a reference reader over the bytes l (the slice is not its own), k bits passed. -/
structure TRd (w : World) (g : Nat) (A : Option Addr) (c : Nat) (l : List UInt8) (k : Nat) : Prop where
  has : Has w g 104 #[.slice A l.length c, .int .i64 k]
  holds : Holds w 1 A l.length (bvals l)
  nil : A = none → c = 0 ∧ l.length = 0
  cap : l.length ≤ c
  small : l.length ≤ 140737488355328
  le : k ≤ 8 * l.length

theorem keep_if {w w' : World} {size n : Nat} {A : Option Addr} {xs : List Value} {S : List Nat} (h : Holds w size A n xs) (ho : Only S w w') (hS : 0 < n → ∀ ad, A = some ad → ad.block < w.heap.size → ad.block ∉ S) : Holds w' size A n xs := by
  rcases Nat.eq_zero_or_pos n with h0 | h0
  · exact ⟨h.1, fun hp => absurd hp (by omega)⟩
  · exact h.keep ho (hS h0)

theorem TRd.only {w w' : World} {g c k : Nat} {A : Option Addr} {l : List UInt8} {S : List Nat} (h : TRd w g A c l k) (ho : Only S w w') (hg : g ∉ S) (hA : 0 < l.length → ∀ ad, A = some ad → ad.block < w.heap.size → ad.block ∉ S) : TRd w' g A c l k :=
  ⟨h.has.only ho hg, keep_if h.holds ho hA, h.nil, h.cap, h.small, h.le⟩

set_option maxHeartbeats 400000 in
theorem tLeft (g c k : Nat) (A : Option Addr) (l : List UInt8) (w : World) (h : TRd w g A c l k) :
    Calls Tryz.prog 79 #[.pointer (some ⟨g, 0, none⟩)] w fun e w' => e = .returned (.int .i64 ((8 * l.length - k : Nat) : Int)) ∧ ∃ m, w' = w.drewN m := by
  have c1 : w.cell? ⟨g, 1, none⟩ = some (.int .i64 (k : Int)) := h.has.cell 1
  have c0 : w.cell? ⟨g, 0, none⟩ = some (.slice A l.length c) := h.has.cell 0
  have hn := h.small
  have hk := h.le
  clear h
  go_enter Tryz.func79, Tryz.ntmps79
  go_wp2
  go_quiet (fail)
  go_wp2
  go_ret
  exact ⟨ret_int (by omega), _, rfl⟩

set_option maxHeartbeats 400000 in
theorem tBit (g c k : Nat) (A : Option Addr) (l : List UInt8) (a : Int) (at_ : Nat) (w : World) (h : TRd w g A c l k) (hat : a = at_) (ha : at_ < 8 * l.length) :
    Calls Tryz.prog 80 #[.pointer (some ⟨g, 0, none⟩), .int .i64 a] w fun e w' => e = .returned (.int .u32 ((num l / 2 ^ at_ % 2 : Nat) : Int)) ∧ w = w' := by
  subst hat
  have hi : at_ / 8 < l.length := by omega
  obtain ⟨b, o, rfl, hc⟩ := h.holds.addr (by rw [bvals_length]; omega)
  have c0 : w.cell? ⟨g, 0, none⟩ = some (.slice (some ⟨b, o, none⟩) l.length c) := h.has.cell 0
  have hcell : w.cell? ⟨b, o + at_ / 8, none⟩ = some (.int .u8 (l[at_ / 8].toNat : Int)) := hc _ _ (bvals_get l _ hi)
  have hn := h.small
  have hb := l[at_ / 8].toNat_lt
  have hbit := hide (num_bit l at_ hi)
  obtain ⟨x, hx⟩ : ∃ x, x = l[at_ / 8].toNat := ⟨_, rfl⟩
  rw [← hx] at hcell hb hbit
  have hd : x / 2 ^ (at_ % 8) ≤ x := Nat.div_le_self _ _
  obtain ⟨y, hy⟩ : ∃ y, y = x / 2 ^ (at_ % 8) := ⟨_, rfl⟩
  have eD : (x : Int) / 2 ^ (at_ % 8) = (y : Int) := by rw [hy]; simp
  rw [← hy] at hd hbit
  have eA : bits BinOp.and IntKind.u32 (y : Int) 1 = ((y % 2 : Nat) : Int) := by
    have := u32_and_nat y 1 (by omega) (by omega)
    rw [Nat.and_one_is_mod] at this; exact this
  clear hx hy hc
  go_enter Tryz.func80, Tryz.ntmps80
  go_wp2
  go_ret
  exact ⟨ret_int (by rw [← hbit.out]; rfl), rfl⟩

set_option maxHeartbeats 400000 in
theorem tPeek_no (g c k : Nat) (A : Option Addr) (l : List UInt8) (n : Int) (w : World) (h : TRd w g A c l k) (hn : n < 0 ∨ 32 < n ∨ (8 * l.length - k : Nat) < n) :
    Calls Tryz.prog 69 #[.pointer (some ⟨g, 0, none⟩), .int .i64 n] w fun e w' => e = .returned (.tuple #[.int .u32 0, .bool false]) ∧ ∃ m, w' = w.drewN m := by
  by_cases h1 : n < 0
  · go_enter Tryz.func69, Tryz.ntmps69
    go_wp2
    go_ret2
    exact ⟨rfl, 0, rfl⟩
  · by_cases h2 : 32 < n
    · go_enter Tryz.func69, Tryz.ntmps69
      go_wp2
      go_ret2
      exact ⟨rfl, 0, rfl⟩
    · have h3 : ((8 * l.length - k : Nat) : Int) < n := by omega
      go_enter Tryz.func69, Tryz.ntmps69
      go_wp2_with fail
      refine (tLeft g c k A l _ h).mono ?_
      rintro e w' ⟨rfl, m, rfl⟩
      go_wp2
      go_ret2
      exact ⟨rfl, m, rfl⟩

theorem TRd.drewN {w : World} {g c k : Nat} {A : Option Addr} {l : List UInt8} (h : TRd w g A c l k) (m : Nat) : TRd (w.drewN m) g A c l k :=
  ⟨h.has, h.holds, h.nil, h.cap, h.small, h.le⟩

/-- One bit more laid above the bits so far. -/
theorem u32_bit (N k j : Nat) (hj : j < 32) :
    bits .or .u32 (bitsOf N k j : Nat) (((N / 2 ^ (k + j) % 2 : Nat) : Int) * 2 ^ j % 4294967296) = (bitsOf N k (j + 1) : Nat) := by
  have hb : N / 2 ^ (k + j) % 2 ≤ 1 := by omega
  have hlt := bitsOf_lt N k j
  have hs := bitsOf_succ N k j
  have hp : 2 ^ j ≤ 2147483648 := Nat.pow_le_pow_right (n := 2) (i := j) (j := 31) (by omega) (by omega)
  generalize N / 2 ^ (k + j) % 2 = b at *
  have hm : b * 2 ^ j ≤ 1 * 2 ^ j := Nat.mul_le_mul_right _ hb
  have e : (b : Int) * 2 ^ j % 4294967296 = ((b * 2 ^ j : Nat) : Int) := by
    rw [← two_pow_cast, ← Int.natCast_mul]; omega
  rw [e, u32_join _ _ _ hlt (by omega), hs, Nat.mul_comm]

set_option maxHeartbeats 1000000 in
theorem tPeek_yes (g c k n : Nat) (A : Option Addr) (l : List UInt8) (w : World) (h : TRd w g A c l k) (hn : n ≤ 32) (hk : k + n ≤ 8 * l.length) :
    Calls Tryz.prog 69 #[.pointer (some ⟨g, 0, none⟩), .int .i64 n] w fun e w' =>
      e = .returned (.tuple #[.int .u32 (bitsOf (num l) k n : Nat), .bool true]) ∧ ∃ m, w' = w.drewN m := by
  have c1 : w.cell? ⟨g, 1, none⟩ = some (.int .i64 (k : Int)) := h.has.cell 1
  have h3 : decide (8 * l.length - k < n) = false := by simp; omega
  have hsm := h.small
  go_enter Tryz.func69, Tryz.ntmps69
  go_wp2_with fail
  refine (tLeft g c k A l _ h).mono ?_
  rintro e w' ⟨rfl, m, rfl⟩
  go_wp2
  go_loopw [6, 7] (fun v i wr => wr = w.drewN m ∧ ∃ j : Nat, j ≤ n ∧ i = .int .i64 j ∧ v = .int .u32 (bitsOf (num l) k j : Nat)) (fun _ i _ => n - (intOf i).toNat)
  case atStart => exact ⟨rfl, 0, Nat.zero_le _, rfl, by rw [bitsOf_zero]; rfl⟩
  case round =>
    obtain ⟨rfl, j, hj, rfl, rfl⟩ := hrel
    by_cases hlt : j < n
    · have hst := u32_bit (num l) k j (by omega)
      have Hst := hide hst
      have hb2 : num l / 2 ^ (k + j) % 2 < 2 := by omega
      clear hst
      go_wp2_with fail
      refine (tBit g c k A l _ (k + j) _ (h.drewN m) (by omega) (by omega)).mono ?_
      rintro e w' ⟨rfl, rfl⟩
      obtain ⟨b, hb⟩ : ∃ b, b = num l / 2 ^ (k + j) % 2 := ⟨_, rfl⟩
      rw [← hb] at Hst hb2 ⊢
      clear hb
      go_wp2_with fail
      go_roundw
      case rel =>
        rw [Hst.out]
        first
          | exact ⟨trivial, j + 1, hlt, by go_num, rfl⟩
          | exact ⟨rfl, j + 1, hlt, by go_num, rfl⟩
      case measure => simp [intOf]; omega
    · obtain rfl : j = n := by omega
      clear hlt
      go_wp2
      go_ret2
      exact ⟨rfl, _, rfl⟩

theorem tPeek (g c k : Nat) (A : Option Addr) (l : List UInt8) (n : Int) (w : World) (h : TRd w g A c l k) :
    Calls Tryz.prog 69 #[.pointer (some ⟨g, 0, none⟩), .int .i64 n] w fun e w' =>
      e = .returned (.tuple #[.int .u32 (gotBits l k n : Nat), .bool (okBits l.length k n)]) ∧ ∃ m, w' = w.drewN m := by
  unfold gotBits
  by_cases hok : 0 ≤ n ∧ n ≤ 32 ∧ n ≤ ((8 * l.length - k : Nat) : Int)
  · have hb : okBits l.length k n = true := by simp only [okBits, decide_eq_true_eq]; exact hok
    rw [hb, if_pos rfl]
    obtain ⟨h0, h1, h2⟩ := hok
    obtain ⟨n, rfl⟩ := Int.eq_ofNat_of_zero_le h0
    rw [Int.toNat_natCast]
    have := h.le
    exact tPeek_yes g c k n A l w h (by omega) (by omega)
  · have hb : okBits l.length k n = false := by simp only [okBits, decide_eq_false_iff_not]; exact hok
    rw [hb, if_neg (by simp)]
    exact tPeek_no g c k A l n w h (by omega)

theorem TRd.set {w : World} {g c k j : Nat} {A : Option Addr} {l : List UInt8} (h : TRd w g A c l k) (hj : j ≤ 8 * l.length) (hA : 0 < l.length → ∀ ad, A = some ad → ad.block ≠ g) : TRd (w.setCell ⟨g, 1, none⟩ (.int .i64 j)) g A c l j :=
  ⟨by simpa using h.has.set 1 (.int .i64 j), keep_if h.holds ((Only.refl [g] _).setCell (by simp) _) (fun h0 ad ha _ => by simpa using hA h0 ad ha), h.nil, h.cap, h.small, hj⟩

set_option maxHeartbeats 400000 in
theorem tBits (g c k : Nat) (A : Option Addr) (l : List UInt8) (n : Int) (w : World) (hR : TRd w g A c l k) (hA : 0 < l.length → ∀ ad, A = some ad → ad.block ≠ g) :
    Calls Tryz.prog 57 #[.pointer (some ⟨g, 0, none⟩), .int .i64 n] w fun e w' =>
      e = .returned (.tuple #[.int .u32 (gotBits l k n : Nat), .bool (okBits l.length k n)]) ∧ Only [g] w w' ∧ TRd w' g A c l (if okBits l.length k n then k + n.toNat else k) := by
  have hk := hR.le
  have hl := hR.small
  have HP := hide (tPeek g c k A l n w hR)
  by_cases hok : 0 ≤ n ∧ n ≤ 32 ∧ n ≤ ((8 * l.length - k : Nat) : Int)
  · have hb : okBits l.length k n = true := by simp only [okBits, decide_eq_true_eq]; exact hok
    rw [hb] at HP ⊢
    obtain ⟨h0, h1, h2⟩ := hok
    obtain ⟨n, rfl⟩ := Int.eq_ofNat_of_zero_le h0
    have c1 : w.cell? ⟨g, 1, none⟩ = some (.int .i64 (k : Int)) := hR.has.cell 1
    have f1 : w.frozen? ⟨g, 1, none⟩ = false := hR.has.free 1
    clear hb
    go_enter Tryz.func57, Tryz.ntmps57
    go_wp2_with fail
    refine (HP.out).mono ?_
    rintro e w' ⟨rfl, m, rfl⟩
    go_wp2
    go_ret2
    exact ⟨rfl, ((Only.refl _ _).drewN m).setCell (by simp) _, (hR.drewN m).set (j := k + n) (by omega) hA⟩
  · have hb : okBits l.length k n = false := by simp only [okBits, decide_eq_false_iff_not]; exact hok
    rw [hb] at HP ⊢
    clear hb hok
    go_enter Tryz.func57, Tryz.ntmps57
    go_wp2_with fail
    refine (HP.out).mono ?_
    rintro e w' ⟨rfl, m, rfl⟩
    go_wp2
    go_ret2
    exact ⟨rfl, (Only.refl _ _).drewN m, hR.drewN m⟩











end Go.Proofs.YtlknhiihdejpeaaGreatDoor


namespace Go.Proofs.YtlknhiihdejpeaaGreatDoor

/-- A symbol's length; 0 beyond the end. -/
def ln (l : List UInt8) (i : Nat) : Nat := ((l[i]?).map (·.toNat)).getD 0
/-- How many have the length n (none has 0). -/
def cn (l : List UInt8) (n : Nat) : Nat := if n = 0 then 0 else l.countP (fun b => b.toNat == n)

theorem cn_zero (l : List UInt8) : cn l 0 = 0 := rfl
theorem cn_nil (n : Nat) : cn [] n = 0 := by unfold cn; split <;> rfl
theorem cn_snoc (l : List UInt8) (b : UInt8) (n : Nat) : cn (l ++ [b]) n = cn l n + (if b.toNat = n ∧ n ≠ 0 then 1 else 0) := by
  unfold cn
  by_cases h : n = 0
  · simp [h]
  · by_cases hb : b.toNat = n <;> simp [h, hb, List.countP_append]
theorem cn_append (l m : List UInt8) (n : Nat) : cn (l ++ m) n = cn l n + cn m n := by
  unfold cn
  by_cases h : n = 0
  · simp [h]
  · simp [h, List.countP_append]
theorem ln_get {l : List UInt8} {i : Nat} (h : i < l.length) : ln l i = l[i].toNat := by simp [ln, h]
theorem ln_out {l : List UInt8} {i : Nat} (h : l.length ≤ i) : ln l i = 0 := by simp [ln, h]
theorem ln_lt {l : List UInt8} {i : Nat} (h : ln l i ≠ 0) : i < l.length := by
  rcases Nat.lt_or_ge i l.length with hl | hl
  · exact hl
  · exact absurd (ln_out hl) h
theorem take_snoc {l : List UInt8} {i : Nat} (h : i < l.length) : l.take (i + 1) = l.take i ++ [l[i]] := by
  rw [List.take_add_one, List.getElem?_eq_getElem h]; rfl
/-- How many symbols ahead of i have the length n. -/
def rk (l : List UInt8) (i n : Nat) : Nat := cn (l.take i) n
theorem rk_zero (l : List UInt8) (n : Nat) : rk l 0 n = 0 := by simp [rk, cn_nil]
theorem rk_succ {l : List UInt8} {i : Nat} (h : i < l.length) (n : Nat) : rk l (i + 1) n = rk l i n + (if ln l i = n ∧ n ≠ 0 then 1 else 0) := by
  unfold rk
  rw [take_snoc h, cn_snoc, ln_get h]
theorem rk_all {l : List UInt8} {i : Nat} (h : l.length ≤ i) (n : Nat) : rk l i n = cn l n := by
  unfold rk; rw [List.take_of_length_le h]
theorem rk_mono {l : List UInt8} {i j : Nat} (h : i ≤ j) (n : Nat) : rk l i n ≤ rk l j n := by
  induction j with
  | zero => obtain rfl : i = 0 := by omega
            exact Nat.le_refl _
  | succ j ih =>
    rcases Nat.lt_or_ge j l.length with hj | hj
    · rcases Nat.lt_or_ge i (j + 1) with hi | hi
      · have := ih (by omega)
        rw [rk_succ hj]; omega
      · obtain rfl : i = j + 1 := by omega
        exact Nat.le_refl _
    · rw [rk_all (show l.length ≤ j + 1 by omega)]
      rcases Nat.lt_or_ge i (j + 1) with hi | hi
      · have := ih (by omega)
        rw [rk_all hj] at this; exact this
      · rw [rk_all (by omega)]; exact Nat.le_refl _
theorem rk_lt {l : List UInt8} {i : Nat} (h : ln l i ≠ 0) : rk l i (ln l i) < cn l (ln l i) := by
  have hi := ln_lt h
  have h1 := rk_mono (l := l) (show i + 1 ≤ l.length by omega) (ln l i)
  rw [rk_all (Nat.le_refl _), rk_succ hi, if_pos ⟨rfl, h⟩] at h1
  omega
theorem rk_inj {l : List UInt8} {i j : Nat} (hi : ln l i ≠ 0) (h : ln l i = ln l j) (hr : rk l i (ln l i) = rk l j (ln l i)) : i = j := by
  have key : ∀ a b, ln l a ≠ 0 → ln l a = ln l b → a < b → rk l a (ln l a) < rk l b (ln l a) := by
    intro a b ha _ hab
    have h1 := rk_mono (l := l) (show a + 1 ≤ b by omega) (ln l a)
    rw [rk_succ (ln_lt ha), if_pos ⟨rfl, ha⟩] at h1
    omega
  rcases Nat.lt_trichotomy i j with hl | hl | hl
  · have := key i j hi h hl; omega
  · exact hl
  · have := key j i (h ▸ hi) h.symm hl
    rw [← h] at this; omega
/-- The j-th symbol of length n. -/
theorem rk_sur {l : List UInt8} {n j : Nat} (_ : n ≠ 0) (hj : j < cn l n) : ∃ i, i < l.length ∧ ln l i = n ∧ rk l i n = j := by
  have key : ∀ m, m ≤ l.length → j < rk l m n → ∃ i, i < m ∧ ln l i = n ∧ rk l i n = j := by
    intro m
    induction m with
    | zero => intro _ h; rw [rk_zero] at h; omega
    | succ m ih =>
      intro hm h
      rw [rk_succ (by omega)] at h
      rcases Nat.lt_or_ge j (rk l m n) with h1 | h1
      · obtain ⟨i, hi, h2⟩ := ih (by omega) h1
        exact ⟨i, by omega, h2⟩
      · by_cases hc : ln l m = n ∧ n ≠ 0
        · rw [if_pos hc] at h
          exact ⟨m, by omega, hc.1, by omega⟩
        · rw [if_neg hc] at h; omega
  exact key l.length (Nat.le_refl _) (by rw [rk_all (Nat.le_refl _)]; exact hj)

/-- The first code of n bits, its first bit the highest. -/
def Fs (c : Nat → Nat) : Nat → Nat
  | 0 => 0
  | n + 1 => 2 * (Fs c n + c n)
/-- How many codes are shorter. -/
def Bf (c : Nat → Nat) : Nat → Nat
  | 0 => 0
  | n + 1 => Bf c n + c n
theorem Fs_succ (c : Nat → Nat) (n : Nat) : Fs c (n + 1) = 2 * (Fs c n + c n) := rfl
theorem Bf_succ (c : Nat → Nat) (n : Nat) : Bf c (n + 1) = Bf c n + c n := rfl
/-- The longest of up to n bits. -/
def Lg (c : Nat → Nat) : Nat → Nat
  | 0 => 0
  | n + 1 => if 0 < c (n + 1) then n + 1 else Lg c n
/-- What codes of fewer than n bits take of 1 << 15. -/
def Sm (c : Nat → Nat) : Nat → Nat
  | 0 => 0
  | n + 1 => Sm c n + c n * 2 ^ (15 - n)

theorem Lg_le (c : Nat → Nat) (n : Nat) : Lg c n ≤ n := by
  induction n with
  | zero => exact Nat.le_refl _
  | succ n ih => unfold Lg; split <;> omega
theorem Lg_ge (c : Nat → Nat) {m n : Nat} (hm : 0 < m) (hmn : m ≤ n) (h : 0 < c m) : m ≤ Lg c n := by
  induction n with
  | zero => omega
  | succ n ih =>
    unfold Lg
    by_cases hc : 0 < c (n + 1)
    · rw [if_pos hc]; exact hmn
    · rw [if_neg hc]
      apply ih
      rcases Nat.lt_or_ge m (n + 1) with h1 | h1
      · omega
      · obtain rfl : m = n + 1 := by omega
        exact absurd h hc
theorem Lg_pos (c : Nat → Nat) {n : Nat} (h : 0 < Lg c n) : 0 < c (Lg c n) := by
  induction n with
  | zero => simp [Lg] at h
  | succ n ih =>
    unfold Lg at h ⊢
    by_cases hc : 0 < c (n + 1)
    · rw [if_pos hc]; exact hc
    · rw [if_neg hc] at h ⊢; exact ih h

theorem Fs_Sm (c : Nat → Nat) (n : Nat) (h : n ≤ 15) : Fs c n * 2 ^ (15 - n) = Sm c n := by
  induction n with
  | zero => simp [Fs, Sm]
  | succ n ih =>
    have e : (15 - n) = (15 - (n + 1)) + 1 := by omega
    have := ih (by omega)
    unfold Fs Sm
    rw [← this, e, Nat.pow_succ, ← Nat.add_mul, Nat.mul_comm 2, Nat.mul_assoc, Nat.mul_comm 2]
theorem Sm_mono (c : Nat → Nat) {m n : Nat} (h : m ≤ n) : Sm c m ≤ Sm c n := by
  induction n with
  | zero => obtain rfl : m = 0 := by omega
            exact Nat.le_refl _
  | succ n ih =>
    rcases Nat.lt_or_ge m (n + 1) with h1 | h1
    · exact Nat.le_trans (ih (by omega)) (Nat.le_add_right _ _)
    · obtain rfl : m = n + 1 := by omega
      exact Nat.le_refl _
theorem Bf_mono (c : Nat → Nat) {m n : Nat} (h : m ≤ n) : Bf c m ≤ Bf c n := by
  induction n with
  | zero => obtain rfl : m = 0 := by omega
            exact Nat.le_refl _
  | succ n ih =>
    rcases Nat.lt_or_ge m (n + 1) with h1 | h1
    · exact Nat.le_trans (ih (by omega)) (Nat.le_add_right _ _)
    · obtain rfl : m = n + 1 := by omega
      exact Nat.le_refl _
theorem Fs_end (c : Nat → Nat) (n : Nat) (h : n ≤ 15) : (Fs c n + c n) * 2 ^ (15 - n) = Sm c (n + 1) := by
  rw [Nat.add_mul, Fs_Sm c n h]; rfl
/-- Codes of n bits end within 1 << n. -/
theorem Fs_le (c : Nat → Nat) (n : Nat) (h : n ≤ 15) (hS : Sm c 16 ≤ 32768) : Fs c n + c n ≤ 2 ^ n := by
  have h1 := Fs_end c n h
  have h2 := Sm_mono c (show n + 1 ≤ 16 by omega)
  have h3 : 2 ^ n * 2 ^ (15 - n) = 32768 := by rw [← Nat.pow_add, show n + (15 - n) = 15 by omega]
  have hp := Nat.two_pow_pos (15 - n)
  apply Nat.le_of_mul_le_mul_right _ hp
  omega
/-- What follows codes of n bits, in d bits more. -/
theorem Fs_far (c : Nat → Nat) (n d : Nat) : (Fs c n + c n) * 2 ^ (d + 1) ≤ Fs c (n + d + 1) := by
  induction d with
  | zero => rw [Nat.zero_add, Nat.pow_one, Nat.add_zero, Fs_succ]; omega
  | succ d ih =>
    rw [show n + (d + 1) + 1 = (n + d + 1) + 1 by omega, Fs_succ c (n + d + 1), Nat.pow_succ]
    have : (Fs c n + c n) * (2 ^ (d + 1) * 2) = 2 * ((Fs c n + c n) * 2 ^ (d + 1)) := by rw [← Nat.mul_assoc, Nat.mul_comm _ 2]
    omega
/-- All that is within the sum is in some code. -/
theorem Sm_find (c : Nat → Nat) {x a b : Nat} (hab : a ≤ b) (h1 : Sm c a ≤ x) (h2 : x < Sm c b) : ∃ m, a ≤ m ∧ m < b ∧ Sm c m ≤ x ∧ x < Sm c (m + 1) := by
  induction b with
  | zero => obtain rfl : a = 0 := by omega
            simp [Sm] at h2
  | succ b ih =>
    rcases Nat.lt_or_ge x (Sm c b) with h | h
    · rcases Nat.lt_or_ge a (b + 1) with h3 | h3
      · obtain ⟨m, m1, m2, m3⟩ := ih (by omega) h
        exact ⟨m, m1, by omega, m3⟩
      · obtain rfl : a = b + 1 := by omega
        omega
    · rcases Nat.lt_or_ge a (b + 1) with h3 | h3
      · exact ⟨b, by omega, by omega, h, h2⟩
      · obtain rfl : a = b + 1 := by omega
        omega

/-- How many codes there are is no more than how many symbols. -/
theorem Bf_le (l : List UInt8) (n : Nat) : Bf (cn l) n ≤ l.length := by
  have key : ∀ n, Bf (cn l) n + l.countP (fun b => decide (n ≤ b.toNat)) ≤ l.length := by
    intro n
    induction n with
    | zero => simp [Bf]
    | succ n ih =>
      have h : cn l n + l.countP (fun b => decide (n + 1 ≤ b.toNat)) ≤ l.countP (fun b => decide (n ≤ b.toNat)) := by
        clear ih
        induction l with
        | nil => simp [cn_nil]
        | cons b l ih =>
          unfold cn at ih ⊢
          by_cases h0 : n = 0
          · subst h0
            simp only [if_pos, Nat.zero_add, List.countP_cons, Nat.zero_le, decide_true] at ih ⊢
            split <;> omega
          · simp only [if_neg h0, List.countP_cons] at ih ⊢
            by_cases h1 : b.toNat = n
            · simp only [h1, decide_true, decide_false, if_true, Bool.false_eq_true, if_false, beq_self_eq_true, Nat.le_refl, Nat.not_succ_le_self]; omega
            · by_cases h2 : n + 1 ≤ b.toNat
              · have h3 : n ≤ b.toNat := by omega
                simp [h1, h2, h3]; omega
              · have h3 : ¬ n ≤ b.toNat := by omega
                simp [h1, h2, h3]; omega
      show Bf (cn l) n + cn l n + _ ≤ _
      omega
  have := key n
  omega

/-- A symbol's code, its first bit the highest. -/
def cd (l : List UInt8) (i : Nat) : Nat := Fs (cn l) (ln l i) + rk l i (ln l i)
theorem cd_lt {l : List UInt8} {i : Nat} (hS : Sm (cn l) 16 ≤ 32768) (h : ln l i ≠ 0) (h15 : ln l i ≤ 15) : cd l i < 2 ^ ln l i := by
  have h1 := Fs_le (cn l) (ln l i) h15 hS
  have h2 := rk_lt h
  unfold cd; omega
/-- Where a symbol stands among all as they are dealt out. -/
def pl (l : List UInt8) (i : Nat) : Nat := Bf (cn l) (ln l i) + rk l i (ln l i)
theorem pl_lt {l : List UInt8} {i : Nat} (h : ln l i ≠ 0) : pl l i < l.length := by
  have h1 := rk_lt h
  have h2 := Bf_le l (ln l i + 1)
  rw [Bf_succ] at h2
  unfold pl; omega
theorem pl_inj {l : List UInt8} {i j : Nat} (hi : ln l i ≠ 0) (hj : ln l j ≠ 0) (h : pl l i = pl l j) : i = j := by
  have far : ∀ a b, ln l a ≠ 0 → ln l a < ln l b → pl l a < pl l b := by
    intro a b ha hab
    have h1 := rk_lt ha
    have h2 := Bf_mono (cn l) (show ln l a + 1 ≤ ln l b by omega)
    rw [Bf_succ] at h2
    unfold pl; omega
  rcases Nat.lt_trichotomy (ln l i) (ln l j) with hl | hl | hl
  · have := far i j hi hl; omega
  · refine rk_inj hi hl ?_
    unfold pl at h; rw [← hl] at h; omega
  · have := far j i hj hl; omega

/-- No code begins another. -/
theorem cd_front {l : List UInt8} {i k : Nat} (hi : ln l i ≠ 0) (hk : ln l i ≤ ln l k) (h : cd l k / 2 ^ (ln l k - ln l i) = cd l i) : i = k := by
  rcases Nat.lt_or_ge (ln l i) (ln l k) with hl | hl
  · exfalso
    obtain ⟨d, hd⟩ : ∃ d, ln l k = ln l i + d + 1 := ⟨ln l k - ln l i - 1, by omega⟩
    have h1 := Fs_far (cn l) (ln l i) d
    rw [← hd] at h1
    have h2 := rk_lt hi
    have h3 : ln l k - ln l i = d + 1 := by omega
    rw [h3] at h
    have h4 : (Fs (cn l) (ln l i) + cn l (ln l i)) ≤ cd l k / 2 ^ (d + 1) := by
      rw [Nat.le_div_iff_mul_le (Nat.two_pow_pos _)]
      unfold cd; omega
    unfold cd at h h4; omega
  · have he : ln l i = ln l k := by omega
    rw [← he, Nat.sub_self, Nat.pow_zero, Nat.div_one] at h
    unfold cd at h
    rw [← he] at h
    exact rk_inj hi he (by omega)

/-- The low bits of a number turned round are its high bits turned round. -/
theorem rev_mod (v n d : Nat) : rev v (n + d) % 2 ^ n = rev (v / 2 ^ d) n := by
  induction n with
  | zero => simp [rev, Nat.mod_one]
  | succ n ih =>
    rw [show n + 1 + d = (n + d) + 1 by omega, rev, rev, ← ih, Nat.div_div_eq_div_mul, ← Nat.pow_add, Nat.add_comm d n, Nat.pow_succ]
    have h1 : v / 2 ^ (n + d) % 2 < 2 := Nat.mod_lt _ (by omega)
    generalize v / 2 ^ (n + d) % 2 = b at *
    generalize rev v (n + d) = r
    have h2 : 2 ^ n * 2 = 2 * 2 ^ n := Nat.mul_comm _ _
    have e : 2 * r + b = 2 * 2 ^ n * (r / 2 ^ n) + (2 * (r % 2 ^ n) + b) := by
      have := Nat.div_add_mod r (2 ^ n)
      rw [Nat.mul_assoc]; omega
    rw [h2, e, Nat.mul_add_mod, Nat.mod_eq_of_lt]
    have := Nat.mod_lt r (Nat.two_pow_pos n)
    omega
theorem rev_inj {a b n : Nat} (ha : a < 2 ^ n) (hb : b < 2 ^ n) (h : rev a n = rev b n) : a = b := by
  have h1 := rev_rev a n
  have h2 := rev_rev b n
  rw [h] at h1
  rw [Nat.mod_eq_of_lt ha] at h1
  rw [Nat.mod_eq_of_lt hb] at h2
  omega
end Go.Proofs.YtlknhiihdejpeaaGreatDoor

