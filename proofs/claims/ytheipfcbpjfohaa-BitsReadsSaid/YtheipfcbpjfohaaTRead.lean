/-
  The document's reader, as the verifier says it a second time.
-/
import Derived.Test.YtheipfcbpjfohaaReadD
import Derived.Test.YtheipfcbpjfohaaMul
import Derived.Deep.RegionWith
import Derived.Deep.RegionHeld3
namespace Go.Proofs.Ytheipfcbpjfohaa
open Go Go.RowKit

/-- Block g is a reference reader over the bytes l (the slice is not its own), k bits passed. -/
structure TRd (w : World) (g : Nat) (A : Option Addr) (c : Nat) (l : List UInt8) (k : Nat) : Prop where
  has : Has w g 29 #[.slice A l.length c, .int .i64 k]
  holds : Holds w 1 A l.length (bvals l)
  nil : A = none → c = 0 ∧ l.length = 0
  cap : l.length ≤ c
  small : l.length ≤ 140737488355328
  le : k ≤ 8 * l.length

theorem keep_if {w w' : World} {size n : Nat} {A : Option Addr} {xs : List Value} {S : List Nat} (h : Holds w size A n xs) (ho : Only S w w') (hS : 0 < n → ∀ ad, A = some ad → ad.block < w.heap.size → ad.block ∉ S) : Holds w' size A n xs := by
  rcases Nat.eq_zero_or_pos n with h0 | h0
  · exact ⟨h.1, fun hp => absurd hp (by omega)⟩
  · exact h.keep ho (hS h0)

theorem TRd.only {w w' : World} {g c k : Nat} {A : Option Addr} {l : List UInt8} {S : List Nat} (h : TRd w g A c l k) (ho : Only S w w') (hg : g ∉ S) (hA : 0 < l.length → ∀ ad, A = some ad → ad.block < w.heap.size → ad.block ∉ S) : TRd w' g A c l k :=
  ⟨h.has.only ho hg, keep_if h.holds ho hA, h.nil, h.cap, h.small, h.le⟩

set_option maxHeartbeats 400000 in
theorem tLeft (g c k : Nat) (A : Option Addr) (l : List UInt8) (w : World) (h : TRd w g A c l k) :
    Calls Try.prog 21 #[.pointer (some ⟨g, 0, none⟩)] w fun e w' => e = .returned (.int .i64 ((8 * l.length - k : Nat) : Int)) ∧ ∃ m, w' = w.drewN m := by
  have c1 : w.cell? ⟨g, 1, none⟩ = some (.int .i64 (k : Int)) := h.has.cell 1
  have c0 : w.cell? ⟨g, 0, none⟩ = some (.slice A l.length c) := h.has.cell 0
  have hn := h.small
  have hk := h.le
  clear h
  go_enter Try.func21, Try.ntmps21
  go_wp2
  go_quiet (fail)
  go_wp2
  go_ret
  exact ⟨ret_int (by omega), _, rfl⟩

set_option maxHeartbeats 400000 in
theorem tBit (g c k : Nat) (A : Option Addr) (l : List UInt8) (a : Int) (at_ : Nat) (w : World) (h : TRd w g A c l k) (hat : a = at_) (ha : at_ < 8 * l.length) :
    Calls Try.prog 40 #[.pointer (some ⟨g, 0, none⟩), .int .i64 a] w fun e w' => e = .returned (.int .u32 ((num l / 2 ^ at_ % 2 : Nat) : Int)) ∧ w = w' := by
  subst hat
  have hi : at_ / 8 < l.length := by omega
  obtain ⟨b, o, rfl, hc⟩ := h.holds.addr (by rw [bvals_length]; omega)
  have c0 : w.cell? ⟨g, 0, none⟩ = some (.slice (some ⟨b, o, none⟩) l.length c) := h.has.cell 0
  have hcell : w.cell? ⟨b, o + at_ / 8, none⟩ = some (.int .u8 (l[at_ / 8].toNat : Int)) := hc _ _ (bvals_get l _ hi)
  have hn := h.small
  have hb := l[at_ / 8].toNat_lt
  have hbit := hide (num_bit l at_ hi)
  obtain ⟨x, hx⟩ : ∃ x, x = l[at_ / 8].toNat := ⟨_, rfl⟩
  rw [← hx] at hcell hb hbit
  have hd : x / 2 ^ (at_ % 8) ≤ x := Nat.div_le_self _ _
  obtain ⟨y, hy⟩ : ∃ y, y = x / 2 ^ (at_ % 8) := ⟨_, rfl⟩
  have eD : (x : Int) / 2 ^ (at_ % 8) = (y : Int) := by rw [hy]; simp
  rw [← hy] at hd hbit
  have eA : bits BinOp.and IntKind.u32 (y : Int) 1 = ((y % 2 : Nat) : Int) := by
    have := u32_and_nat y 1 (by omega) (by omega)
    rw [Nat.and_one_is_mod] at this; exact this
  clear hx hy hc
  go_enter Try.func40, Try.ntmps40
  go_wp2
  go_ret
  exact ⟨ret_int (by rw [← hbit.out]; rfl), rfl⟩

set_option maxHeartbeats 400000 in
theorem tPeek_no (g c k : Nat) (A : Option Addr) (l : List UInt8) (n : Int) (w : World) (h : TRd w g A c l k) (hn : n < 0 ∨ 32 < n ∨ (8 * l.length - k : Nat) < n) :
    Calls Try.prog 14 #[.pointer (some ⟨g, 0, none⟩), .int .i64 n] w fun e w' => e = .returned (.tuple #[.int .u32 0, .bool false]) ∧ ∃ m, w' = w.drewN m := by
  by_cases h1 : n < 0
  · go_enter Try.func14, Try.ntmps14
    go_wp2
    go_ret2
    exact ⟨rfl, 0, rfl⟩
  · by_cases h2 : 32 < n
    · go_enter Try.func14, Try.ntmps14
      go_wp2
      go_ret2
      exact ⟨rfl, 0, rfl⟩
    · have h3 : ((8 * l.length - k : Nat) : Int) < n := by omega
      go_enter Try.func14, Try.ntmps14
      go_wp2_with fail
      refine (tLeft g c k A l _ h).mono ?_
      rintro e w' ⟨rfl, m, rfl⟩
      go_wp2
      go_ret2
      exact ⟨rfl, m, rfl⟩

theorem TRd.drewN {w : World} {g c k : Nat} {A : Option Addr} {l : List UInt8} (h : TRd w g A c l k) (m : Nat) : TRd (w.drewN m) g A c l k :=
  ⟨h.has, h.holds, h.nil, h.cap, h.small, h.le⟩

/-- One bit more laid above the bits so far. -/
theorem u32_bit (N k j : Nat) (hj : j < 32) :
    bits .or .u32 (bitsOf N k j : Nat) (((N / 2 ^ (k + j) % 2 : Nat) : Int) * 2 ^ j % 4294967296) = (bitsOf N k (j + 1) : Nat) := by
  have hb : N / 2 ^ (k + j) % 2 ≤ 1 := by omega
  have hlt := bitsOf_lt N k j
  have hs := bitsOf_succ N k j
  have hp : 2 ^ j ≤ 2147483648 := Nat.pow_le_pow_right (n := 2) (i := j) (j := 31) (by omega) (by omega)
  generalize N / 2 ^ (k + j) % 2 = b at *
  have hm : b * 2 ^ j ≤ 1 * 2 ^ j := Nat.mul_le_mul_right _ hb
  have e : (b : Int) * 2 ^ j % 4294967296 = ((b * 2 ^ j : Nat) : Int) := by
    rw [← two_pow_cast, ← Int.natCast_mul]; omega
  rw [e, u32_join _ _ _ hlt (by omega), hs, Nat.mul_comm]

set_option maxHeartbeats 1000000 in
theorem tPeek_yes (g c k n : Nat) (A : Option Addr) (l : List UInt8) (w : World) (h : TRd w g A c l k) (hn : n ≤ 32) (hk : k + n ≤ 8 * l.length) :
    Calls Try.prog 14 #[.pointer (some ⟨g, 0, none⟩), .int .i64 n] w fun e w' =>
      e = .returned (.tuple #[.int .u32 (bitsOf (num l) k n : Nat), .bool true]) ∧ ∃ m, w' = w.drewN m := by
  have c1 : w.cell? ⟨g, 1, none⟩ = some (.int .i64 (k : Int)) := h.has.cell 1
  have h3 : decide (8 * l.length - k < n) = false := by simp; omega
  have hsm := h.small
  go_enter Try.func14, Try.ntmps14
  go_wp2_with fail
  refine (tLeft g c k A l _ h).mono ?_
  rintro e w' ⟨rfl, m, rfl⟩
  go_wp2
  go_loopw [6, 7] (fun v i wr => wr = w.drewN m ∧ ∃ j : Nat, j ≤ n ∧ i = .int .i64 j ∧ v = .int .u32 (bitsOf (num l) k j : Nat)) (fun _ i _ => n - (intOf i).toNat)
  case atStart => exact ⟨rfl, 0, Nat.zero_le _, rfl, by rw [bitsOf_zero]; rfl⟩
  case round =>
    obtain ⟨rfl, j, hj, rfl, rfl⟩ := hrel
    by_cases hlt : j < n
    · have hst := u32_bit (num l) k j (by omega)
      have Hst := hide hst
      have hb2 : num l / 2 ^ (k + j) % 2 < 2 := by omega
      clear hst
      go_wp2_with fail
      refine (tBit g c k A l _ (k + j) _ (h.drewN m) (by omega) (by omega)).mono ?_
      rintro e w' ⟨rfl, rfl⟩
      obtain ⟨b, hb⟩ : ∃ b, b = num l / 2 ^ (k + j) % 2 := ⟨_, rfl⟩
      rw [← hb] at Hst hb2 ⊢
      clear hb
      go_wp2_with fail
      go_roundw
      case rel =>
        rw [Hst.out]
        first
          | exact ⟨trivial, j + 1, hlt, by go_num, rfl⟩
          | exact ⟨rfl, j + 1, hlt, by go_num, rfl⟩
      case measure => simp [intOf]; omega
    · obtain rfl : j = n := by omega
      clear hlt
      go_wp2
      go_ret2
      exact ⟨rfl, _, rfl⟩

theorem tPeek (g c k : Nat) (A : Option Addr) (l : List UInt8) (n : Int) (w : World) (h : TRd w g A c l k) :
    Calls Try.prog 14 #[.pointer (some ⟨g, 0, none⟩), .int .i64 n] w fun e w' =>
      e = .returned (.tuple #[.int .u32 (gotBits l k n : Nat), .bool (okBits l.length k n)]) ∧ ∃ m, w' = w.drewN m := by
  unfold gotBits
  by_cases hok : 0 ≤ n ∧ n ≤ 32 ∧ n ≤ ((8 * l.length - k : Nat) : Int)
  · have hb : okBits l.length k n = true := by simp only [okBits, decide_eq_true_eq]; exact hok
    rw [hb, if_pos rfl]
    obtain ⟨h0, h1, h2⟩ := hok
    obtain ⟨n, rfl⟩ := Int.eq_ofNat_of_zero_le h0
    rw [Int.toNat_natCast]
    have := h.le
    exact tPeek_yes g c k n A l w h (by omega) (by omega)
  · have hb : okBits l.length k n = false := by simp only [okBits, decide_eq_false_iff_not]; exact hok
    rw [hb, if_neg (by simp)]
    exact tPeek_no g c k A l n w h (by omega)

theorem TRd.set {w : World} {g c k j : Nat} {A : Option Addr} {l : List UInt8} (h : TRd w g A c l k) (hj : j ≤ 8 * l.length) (hA : 0 < l.length → ∀ ad, A = some ad → ad.block ≠ g) : TRd (w.setCell ⟨g, 1, none⟩ (.int .i64 j)) g A c l j :=
  ⟨by simpa using h.has.set 1 (.int .i64 j), keep_if h.holds ((Only.refl [g] _).setCell (by simp) _) (fun h0 ad ha _ => by simpa using hA h0 ad ha), h.nil, h.cap, h.small, hj⟩

set_option maxHeartbeats 400000 in
theorem tBits (g c k : Nat) (A : Option Addr) (l : List UInt8) (n : Int) (w : World) (hR : TRd w g A c l k) (hA : 0 < l.length → ∀ ad, A = some ad → ad.block ≠ g) :
    Calls Try.prog 12 #[.pointer (some ⟨g, 0, none⟩), .int .i64 n] w fun e w' =>
      e = .returned (.tuple #[.int .u32 (gotBits l k n : Nat), .bool (okBits l.length k n)]) ∧ Only [g] w w' ∧ TRd w' g A c l (if okBits l.length k n then k + n.toNat else k) := by
  have hk := hR.le
  have hl := hR.small
  have HP := hide (tPeek g c k A l n w hR)
  by_cases hok : 0 ≤ n ∧ n ≤ 32 ∧ n ≤ ((8 * l.length - k : Nat) : Int)
  · have hb : okBits l.length k n = true := by simp only [okBits, decide_eq_true_eq]; exact hok
    rw [hb] at HP ⊢
    obtain ⟨h0, h1, h2⟩ := hok
    obtain ⟨n, rfl⟩ := Int.eq_ofNat_of_zero_le h0
    have c1 : w.cell? ⟨g, 1, none⟩ = some (.int .i64 (k : Int)) := hR.has.cell 1
    have f1 : w.frozen? ⟨g, 1, none⟩ = false := hR.has.free 1
    clear hb
    go_enter Try.func12, Try.ntmps12
    go_wp2_with fail
    refine (HP.out).mono ?_
    rintro e w' ⟨rfl, m, rfl⟩
    go_wp2
    go_ret2
    exact ⟨rfl, ((Only.refl _ _).drewN m).setCell (by simp) _, (hR.drewN m).set (j := k + n) (by omega) hA⟩
  · have hb : okBits l.length k n = false := by simp only [okBits, decide_eq_false_iff_not]; exact hok
    rw [hb] at HP ⊢
    clear hb hok
    go_enter Try.func12, Try.ntmps12
    go_wp2_with fail
    refine (HP.out).mono ?_
    rintro e w' ⟨rfl, m, rfl⟩
    go_wp2
    go_ret2
    exact ⟨rfl, (Only.refl _ _).drewN m, hR.drewN m⟩

set_option maxHeartbeats 400000 in
theorem tAlign (g c k : Nat) (A : Option Addr) (l : List UInt8) (w : World) (hR : TRd w g A c l k) (hA : 0 < l.length → ∀ ad, A = some ad → ad.block ≠ g) :
    Calls Try.prog 16 #[.pointer (some ⟨g, 0, none⟩)] w fun e w' =>
      e = .returned (.int .i64 (toByte k : Nat)) ∧ Only [g] w w' ∧ TRd w' g A c l (k + toByte k) := by
  have hk := hR.le
  have hl := hR.small
  have h7 : toByte k ≤ 7 := by unfold toByte; omega
  have ht : k + toByte k ≤ 8 * l.length ∧ (k + toByte k) % 8 = 0 ∧ ∀ j, j < toByte k → ¬ (k + j) % 8 = 0 := by
    unfold toByte; exact ⟨by omega, by omega, by omega⟩
  go_enter Try.func16, Try.ntmps16
  go_wp2
  go_loopw [3] (fun i wr => ∃ j : Nat, j ≤ toByte k ∧ i = .int .i64 j ∧ Only [g] w wr ∧ TRd wr g A c l (k + j)) (fun i _ => toByte k - (intOf i).toNat)
  case atStart => exact ⟨0, Nat.zero_le _, rfl, Only.refl _ _, hR⟩
  case round =>
    obtain ⟨j, hj, rfl, ho, hT⟩ := hrel
    have c1 : wr.cell? ⟨g, 1, none⟩ = some (.int .i64 ((k + j : Nat) : Int)) := hT.has.cell 1
    have f1 : wr.frozen? ⟨g, 1, none⟩ = false := hT.has.free 1
    by_cases hlt : j < toByte k
    · have h8 := ht.2.2 j hlt
      have e8 : (((k : Int) + j) % 8 == 0) = false := by simp; omega
      have e9 : (((k : Int) + j) % 8 != 0) = true := by simp; omega
      have hset := hT.set (j := k + (j + 1)) (by omega) hA
      have hgo := ho.setCell (p := ⟨g, 1, none⟩) (by simp) (.int .i64 ((k + (j + 1) : Nat) : Int))
      have ec : ((k + (j + 1) : Nat) : Int) = (k : Int) + j + 1 := by omega
      rw [ec] at hset hgo
      clear ht ec
      go_wp2
      go_roundw
      case rel => exact ⟨j + 1, hlt, by go_num, hgo, hset⟩
      case measure => simp [intOf]; omega
    · obtain rfl : j = toByte k := by omega
      have h8 := ht.2.1
      have e9 : (((k : Int) + (toByte k : Nat)) % 8 != 0) = false := by simp; omega
      clear ht h8
      go_wp2
      go_ret
      exact ⟨rfl, ho, hT⟩

set_option maxHeartbeats 400000 in
theorem tBytes_no (g c k : Nat) (A : Option Addr) (l : List UInt8) (n : Int) (w : World) (hR : TRd w g A c l k) (hno : ¬ (k % 8 = 0 ∧ 0 ≤ n ∧ n ≤ ((l.length - k / 8 : Nat) : Int))) :
    Calls Try.prog 18 #[.pointer (some ⟨g, 0, none⟩), .int .i64 n] w fun e w' =>
      e = .returned (.tuple #[.slice none 0 0, .bool false]) ∧ ∃ m, w' = w.drewN m := by
  have hk := hR.le
  have hl := hR.small
  have c1 : w.cell? ⟨g, 1, none⟩ = some (.int .i64 (k : Int)) := hR.has.cell 1
  by_cases h8 : k % 8 = 0
  · have e7 : ((k : Int) % 8 != 0) = false := by simp; omega
    by_cases h0 : n < 0
    · clear hno h8
      go_enter Try.func18, Try.ntmps18
      go_wp2
      go_ret2
      exact ⟨rfl, 0, rfl⟩
    · have h1 : ((8 * l.length - k : Nat) : Int) / 8 < n := by omega
      clear hno h8
      go_enter Try.func18, Try.ntmps18
      go_wp2_with fail
      refine (tLeft g c k A l _ hR).mono ?_
      rintro e w' ⟨rfl, m, rfl⟩
      go_wp2
      go_ret2
      exact ⟨rfl, m, rfl⟩
  · have e7 : ((k : Int) % 8 != 0) = true := by simp; omega
    clear hno h8
    go_enter Try.func18, Try.ntmps18
    go_wp2
    go_ret2
    exact ⟨rfl, 0, rfl⟩

set_option maxHeartbeats 1000000 in
theorem tBytes_yes (g c k n : Nat) (A : Option Addr) (l : List UInt8) (w : World) (hR : TRd w g A c l k) (hA : 0 < l.length → ∀ ad, A = some ad → ad.block ≠ g) (h8 : k % 8 = 0) (hn : n ≤ l.length - k / 8) (hp : 0 < n) :
    Calls Try.prog 18 #[.pointer (some ⟨g, 0, none⟩), .int .i64 n] w fun e w' =>
      ∃ rv, e = .returned (.tuple #[rv, .bool true]) ∧ w'.ownsRow w.heap.size 5 1 rv n (bvals ((l.drop (k / 8)).take n)) ∧ Only [g] w w' ∧ TRd w' g A c l (k + 8 * n) := by
  have hk := hR.le
  have hl := hR.small
  have hcap := hR.cap
  have c1 : w.cell? ⟨g, 1, none⟩ = some (.int .i64 (k : Int)) := hR.has.cell 1
  have e7 : ((k : Int) % 8 != 0) = false := by simp; omega
  have h1 : ¬ ((8 * l.length - k : Nat) : Int) / 8 < (n : Nat) := by omega
  obtain ⟨i0, hi0, hz0, hz1, hz2⟩ := info_of u8_info
  go_enter Try.func18, Try.ntmps18
  go_wp2_with fail
  refine (tLeft g c k A l _ hR).mono ?_
  rintro e wm ⟨rfl, hq⟩
  have hom : Only [] w wm := by obtain ⟨m, rfl⟩ := hq; exact (Only.refl _ _).drewN m
  have hRm : TRd wm g A c l k := by obtain ⟨m, rfl⟩ := hq; exact hR.drewN m
  have hsz : w.heap.size ≤ wm.heap.size := hom.size
  have d1 : wm.cell? ⟨g, 1, none⟩ = some (.int .i64 (k : Int)) := hRm.has.cell 1
  have d0 : wm.cell? ⟨g, 0, none⟩ = some (.slice A l.length c) := hRm.has.cell 0
  have fd : wm.frozen? ⟨g, 1, none⟩ = false := hRm.has.free 1
  have gltm := hRm.has.lt
  clear hq c1
  go_wp2_with fail
  have hempty : ((wm.alloc (.cells #[] 5)).drew).ownsRow wm.heap.size 5 1 (.slice (some ⟨wm.heap.size, 0, none⟩) 0 0) 0 [] :=
    World.ownsRow_made wm #[] 0 (Nat.le_refl _) (by simp [maxLen]) rfl
  obtain ⟨q, hq⟩ : ∃ q, q = k / 8 := ⟨_, rfl⟩
  have hcut : Holds (wm.alloc (.cells #[] 5)).drew 1 (A.map (·.add q)) n (bvals ((l.drop q).take n)) := by
    have h : Holds (wm.alloc (.cells #[] 5)) 1 (A.map (·.add (q * 1))) n _ := (hRm.holds.cut (f := q) (m := n) (by omega)).keep ((Only.refl [] wm).alloc (.cells #[] 5)) (by simp)
    simp only [Nat.mul_one, ← bvals_take, ← bvals_drop] at h
    exact h
  have hone := bvals_one ((l.drop q).take n)
  have hroom : (0 + n) * 1 ≤ 140737488355328 := by omega
  have hc : ¬ c = q := by omega
  have w1 : IntKind.i64.wrap ((k : Int) / 8) = (q : Int) := by rw [IntWalk.i64_in _ ⟨by omega, by omega⟩]; omega
  have w2 : IntKind.i64.wrap ((q : Int) + n) = (q : Int) + n := IntWalk.i64_in _ ⟨by omega, by omega⟩
  have w3 : ((q : Int) + n).toNat = q + n := by omega
  have w4 : (0 : Int) ≤ (q : Int) + n := by omega
  have w5 : (q : Int) + n ≤ (c : Int) := by omega
  have w6 : max ((q : Int) + n) 0 = (q : Int) + n := by omega
  have w7 : (q : Int) ≤ (q : Int) + n := by omega
  have w9 : (0 : Int) ≤ (q : Int) := by omega
  have w8 : (q : Int).toNat = q := by omega
  have hqc : q ≤ l.length := by omega
  have HQ := hide hq
  have hne : some g ≠ (Value.slice (some ⟨wm.heap.size, 0, none⟩) 0 0).ownBlock := by
    intro h
    have h' : g = wm.heap.size := by injection h
    omega
  clear hq
  go_region_held3 (fun w' => w'.cell? ⟨g, 0, none⟩ = some (.slice A l.length c) ∧ w'.cell? ⟨g, 1, none⟩ = some (.int .i64 (k : Int)))
    (first
      | (go_split_ands
         refine ⟨?_, ?_⟩
         · (rw [World.cell?_drew, World.cell?_alloc_past _ _ _ gltm]; assumption)
         · (rw [World.cell?_drew, World.cell?_alloc_past _ _ _ gltm]; assumption))
      | (go_split_ands
         refine ⟨?_, ?_⟩
         · (rw [hgrow.cell_far _ (by simp; omega) hne]; assumption)
         · (rw [hgrow.cell_far _ (by simp; omega) hne]; assumption))
      | go_keep)
    ((refine step_append _ rfl (.tmp 24) (.tmp 41) 22 rfl wm.heap.size 1 1 Try.underlying22 hi0 hz0 hz1 hz2 rfl (Nat.zero_lt_one) hempty rfl hcut rfl hone hroom (Nat.zero_lt_one) (by simp) ?_; intro A2 c2 w1 hown1 hgrow hat))
  have e1 : w1.cell? ⟨g, 1, none⟩ = some (.int .i64 (k : Int)) := by
    rw [hgrow.cell_far _ (by simp; omega) hne, World.cell?_drew, World.cell?_alloc_past _ _ _ gltm]; exact d1
  have e2 : w1.frozen? ⟨g, 1, none⟩ = false := by
    rw [hgrow.frozen_far _ (by simp; omega) hne, World.frozen?_drew, World.frozen?_alloc_past _ _ _ gltm]; exact fd
  have ho1 : Only [] wm w1 := ((Only.refl [] wm).alloc (.cells #[] 5)).drew.grown hgrow (by
    intro k' hk' hlt
    have h' : wm.heap.size = k' := by injection hk'
    omega)
  have hR1 : TRd w1 g A c l k := hRm.only ho1 (by simp) (by simp)
  have hset := hR1.set (j := k + 8 * n) (by omega) hA
  have HF := hide (And.intro hown1 (And.intro hset (And.intro hom ho1)))
  clear hown1 hset
  go_wp2_with fail
  go_ret2
  obtain ⟨hown1, hset, hom, ho1⟩ := HF.out
  have hb := own_ne hown1 hR1.has (by decide)
  have hown2 := own_mono (ownsRow_setCell_other hown1 (a := ⟨g, 1, none⟩) (fun h => hb h.symm) (.int .i64 ((k + 8 * n : Nat) : Int))) hsz
  rw [HQ.out] at hown2
  simp only [Nat.zero_add, List.nil_append] at hown2
  exact ⟨_, rfl, hown2, ((hom.of_nil.trans ho1 (by simp)).setCell (by simp) _), hset⟩

set_option maxHeartbeats 1000000 in
theorem tBytes_zeroA (g c k : Nat) (A : Option Addr) (l : List UInt8) (w : World) (hR : TRd w g A c l k) (hA : 0 < l.length → ∀ ad, A = some ad → ad.block ≠ g) (h8 : k % 8 = 0) (hc : c = k / 8) :
    Calls Try.prog 18 #[.pointer (some ⟨g, 0, none⟩), .int .i64 0] w fun e w' =>
      ∃ rv, e = .returned (.tuple #[rv, .bool true]) ∧ w'.ownsRow w.heap.size 5 1 rv 0 (bvals ((l.drop (k / 8)).take 0)) ∧ Only [g] w w' ∧ TRd w' g A c l (k + 8 * 0) := by
  have hk := hR.le
  have hl := hR.small
  have hcap := hR.cap
  have c1 : w.cell? ⟨g, 1, none⟩ = some (.int .i64 (k : Int)) := hR.has.cell 1
  have e7 : ((k : Int) % 8 != 0) = false := by simp; omega
  have h1 : ¬ ((8 * l.length - k : Nat) : Int) / 8 < (0 : Nat) := by omega
  obtain ⟨i0, hi0, hz0, hz1, hz2⟩ := info_of u8_info
  go_enter Try.func18, Try.ntmps18
  go_wp2_with fail
  refine (tLeft g c k A l _ hR).mono ?_
  rintro e wm ⟨rfl, hq⟩
  have hom : Only [] w wm := by obtain ⟨m, rfl⟩ := hq; exact (Only.refl _ _).drewN m
  have hRm : TRd wm g A c l k := by obtain ⟨m, rfl⟩ := hq; exact hR.drewN m
  have hsz : w.heap.size ≤ wm.heap.size := hom.size
  have d1 : wm.cell? ⟨g, 1, none⟩ = some (.int .i64 (k : Int)) := hRm.has.cell 1
  have d0 : wm.cell? ⟨g, 0, none⟩ = some (.slice A l.length c) := hRm.has.cell 0
  have fd : wm.frozen? ⟨g, 1, none⟩ = false := hRm.has.free 1
  have gltm := hRm.has.lt
  clear hq c1
  go_wp2_with fail
  have hempty : ((wm.alloc (.cells #[] 5)).drew).ownsRow wm.heap.size 5 1 (.slice (some ⟨wm.heap.size, 0, none⟩) 0 0) 0 [] :=
    World.ownsRow_made wm #[] 0 (Nat.le_refl _) (by simp [maxLen]) rfl
  obtain ⟨q, hq⟩ : ∃ q, q = k / 8 := ⟨_, rfl⟩
  have w1 : IntKind.i64.wrap ((k : Int) / 8) = (q : Int) := by rw [IntWalk.i64_in _ ⟨by omega, by omega⟩]; omega
  have w2 : IntKind.i64.wrap (q : Int) = (q : Int) := IntWalk.i64_in _ ⟨by omega, by omega⟩
  have w5 : (q : Int) ≤ (c : Int) := by omega
  have w6 : max (q : Int) 0 = (q : Int) := by omega
  have w9 : (0 : Int) ≤ (q : Int) := by omega
  have w8 : (q : Int).toNat = q := by omega
  have hqc : q ≤ l.length := by omega
  obtain rfl : c = q := by omega
  have hne : some g ≠ (Value.slice (some ⟨wm.heap.size, 0, none⟩) 0 0).ownBlock := by
    intro h
    have h' : g = wm.heap.size := by injection h
    omega
  clear hq hc
  go_region_held3 (fun w' => w'.cell? ⟨g, 0, none⟩ = some (.slice A l.length c) ∧ w'.cell? ⟨g, 1, none⟩ = some (.int .i64 (k : Int)))
    (first
      | (go_split_ands
         refine ⟨?_, ?_⟩
         · (rw [World.cell?_drew, World.cell?_alloc_past _ _ _ gltm]; assumption)
         · (rw [World.cell?_drew, World.cell?_alloc_past _ _ _ gltm]; assumption))
      | (go_split_ands
         refine ⟨?_, ?_⟩
         · (rw [hgrow.cell_far _ (by simp; omega) hne]; assumption)
         · (rw [hgrow.cell_far _ (by simp; omega) hne]; assumption))
      | go_keep)
    ((refine step_append _ rfl (.tmp 24) (.tmp 41) 22 rfl wm.heap.size 1 1 Try.underlying22 hi0 hz0 hz1 hz2 rfl (Nat.zero_lt_one) hempty rfl (Holds.empty _ 1 _) rfl (by simp) (by simp) (Nat.zero_lt_one) (by simp) ?_; intro A2 c2 w1 hown1 hgrow hat))
  have e1 : w1.cell? ⟨g, 1, none⟩ = some (.int .i64 (k : Int)) := by
    rw [hgrow.cell_far _ (by simp; omega) hne, World.cell?_drew, World.cell?_alloc_past _ _ _ gltm]; exact d1
  have e2 : w1.frozen? ⟨g, 1, none⟩ = false := by
    rw [hgrow.frozen_far _ (by simp; omega) hne, World.frozen?_drew, World.frozen?_alloc_past _ _ _ gltm]; exact fd
  have ho1 : Only [] wm w1 := ((Only.refl [] wm).alloc (.cells #[] 5)).drew.grown hgrow (by
    intro k' hk' hlt
    have h' : wm.heap.size = k' := by injection hk'
    omega)
  have hR1 : TRd w1 g A c l k := hRm.only ho1 (by simp) (by simp)
  have hset := hR1.set (j := k + 8 * 0) (by omega) hA
  have HF := hide (And.intro hown1 (And.intro hset (And.intro hom ho1)))
  clear hown1 hset
  go_wp2_with fail
  go_ret2
  obtain ⟨hown1, hset, hom, ho1⟩ := HF.out
  have hb := own_ne hown1 hR1.has (by decide)
  have hown2 := own_mono (ownsRow_setCell_other hown1 (a := ⟨g, 1, none⟩) (fun h => hb h.symm) (.int .i64 ((k + 8 * 0 : Nat) : Int))) hsz
  exact ⟨_, rfl, hown2, ((hom.of_nil.trans ho1 (by simp)).setCell (by simp) _), hset⟩

set_option maxHeartbeats 1000000 in
theorem tBytes_zeroB (g c k : Nat) (A : Option Addr) (l : List UInt8) (w : World) (hR : TRd w g A c l k) (hA : 0 < l.length → ∀ ad, A = some ad → ad.block ≠ g) (h8 : k % 8 = 0) (hc : ¬ c = k / 8) :
    Calls Try.prog 18 #[.pointer (some ⟨g, 0, none⟩), .int .i64 0] w fun e w' =>
      ∃ rv, e = .returned (.tuple #[rv, .bool true]) ∧ w'.ownsRow w.heap.size 5 1 rv 0 (bvals ((l.drop (k / 8)).take 0)) ∧ Only [g] w w' ∧ TRd w' g A c l (k + 8 * 0) := by
  have hk := hR.le
  have hl := hR.small
  have hcap := hR.cap
  have c1 : w.cell? ⟨g, 1, none⟩ = some (.int .i64 (k : Int)) := hR.has.cell 1
  have e7 : ((k : Int) % 8 != 0) = false := by simp; omega
  have h1 : ¬ ((8 * l.length - k : Nat) : Int) / 8 < (0 : Nat) := by omega
  obtain ⟨i0, hi0, hz0, hz1, hz2⟩ := info_of u8_info
  go_enter Try.func18, Try.ntmps18
  go_wp2_with fail
  refine (tLeft g c k A l _ hR).mono ?_
  rintro e wm ⟨rfl, hq⟩
  have hom : Only [] w wm := by obtain ⟨m, rfl⟩ := hq; exact (Only.refl _ _).drewN m
  have hRm : TRd wm g A c l k := by obtain ⟨m, rfl⟩ := hq; exact hR.drewN m
  have hsz : w.heap.size ≤ wm.heap.size := hom.size
  have d1 : wm.cell? ⟨g, 1, none⟩ = some (.int .i64 (k : Int)) := hRm.has.cell 1
  have d0 : wm.cell? ⟨g, 0, none⟩ = some (.slice A l.length c) := hRm.has.cell 0
  have fd : wm.frozen? ⟨g, 1, none⟩ = false := hRm.has.free 1
  have gltm := hRm.has.lt
  clear hq c1
  go_wp2_with fail
  have hempty : ((wm.alloc (.cells #[] 5)).drew).ownsRow wm.heap.size 5 1 (.slice (some ⟨wm.heap.size, 0, none⟩) 0 0) 0 [] :=
    World.ownsRow_made wm #[] 0 (Nat.le_refl _) (by simp [maxLen]) rfl
  obtain ⟨q, hq⟩ : ∃ q, q = k / 8 := ⟨_, rfl⟩
  have w1 : IntKind.i64.wrap ((k : Int) / 8) = (q : Int) := by rw [IntWalk.i64_in _ ⟨by omega, by omega⟩]; omega
  have w2 : IntKind.i64.wrap (q : Int) = (q : Int) := IntWalk.i64_in _ ⟨by omega, by omega⟩
  have w5 : (q : Int) ≤ (c : Int) := by omega
  have w6 : max (q : Int) 0 = (q : Int) := by omega
  have w9 : (0 : Int) ≤ (q : Int) := by omega
  have w8 : (q : Int).toNat = q := by omega
  have hqc : q ≤ l.length := by omega
  have hc' : ¬ c = q := by omega
  have hne : some g ≠ (Value.slice (some ⟨wm.heap.size, 0, none⟩) 0 0).ownBlock := by
    intro h
    have h' : g = wm.heap.size := by injection h
    omega
  clear hq
  go_region_held3 (fun w' => w'.cell? ⟨g, 0, none⟩ = some (.slice A l.length c) ∧ w'.cell? ⟨g, 1, none⟩ = some (.int .i64 (k : Int)))
    (first
      | (go_split_ands
         refine ⟨?_, ?_⟩
         · (rw [World.cell?_drew, World.cell?_alloc_past _ _ _ gltm]; assumption)
         · (rw [World.cell?_drew, World.cell?_alloc_past _ _ _ gltm]; assumption))
      | (go_split_ands
         refine ⟨?_, ?_⟩
         · (rw [hgrow.cell_far _ (by simp; omega) hne]; assumption)
         · (rw [hgrow.cell_far _ (by simp; omega) hne]; assumption))
      | go_keep)
    ((refine step_append _ rfl (.tmp 24) (.tmp 41) 22 rfl wm.heap.size 1 1 Try.underlying22 hi0 hz0 hz1 hz2 rfl (Nat.zero_lt_one) hempty rfl (Holds.empty _ 1 _) rfl (by simp) (by simp) (Nat.zero_lt_one) (by simp) ?_; intro A2 c2 w1 hown1 hgrow hat))
  have e1 : w1.cell? ⟨g, 1, none⟩ = some (.int .i64 (k : Int)) := by
    rw [hgrow.cell_far _ (by simp; omega) hne, World.cell?_drew, World.cell?_alloc_past _ _ _ gltm]; exact d1
  have e2 : w1.frozen? ⟨g, 1, none⟩ = false := by
    rw [hgrow.frozen_far _ (by simp; omega) hne, World.frozen?_drew, World.frozen?_alloc_past _ _ _ gltm]; exact fd
  have ho1 : Only [] wm w1 := ((Only.refl [] wm).alloc (.cells #[] 5)).drew.grown hgrow (by
    intro k' hk' hlt
    have h' : wm.heap.size = k' := by injection hk'
    omega)
  have hR1 : TRd w1 g A c l k := hRm.only ho1 (by simp) (by simp)
  have hset := hR1.set (j := k + 8 * 0) (by omega) hA
  have HF := hide (And.intro hown1 (And.intro hset (And.intro hom ho1)))
  clear hown1 hset
  go_wp2_with fail
  go_ret2
  obtain ⟨hown1, hset, hom, ho1⟩ := HF.out
  have hb := own_ne hown1 hR1.has (by decide)
  have hown2 := own_mono (ownsRow_setCell_other hown1 (a := ⟨g, 1, none⟩) (fun h => hb h.symm) (.int .i64 ((k + 8 * 0 : Nat) : Int))) hsz
  exact ⟨_, rfl, hown2, ((hom.of_nil.trans ho1 (by simp)).setCell (by simp) _), hset⟩

theorem tBytes (g c k : Nat) (A : Option Addr) (l : List UInt8) (n : Int) (w : World) (hR : TRd w g A c l k) (hA : 0 < l.length → ∀ ad, A = some ad → ad.block ≠ g) :
    Calls Try.prog 18 #[.pointer (some ⟨g, 0, none⟩), .int .i64 n] w fun e w' =>
      ∃ rv, e = .returned (.tuple #[rv, .bool (okBytes l.length k n)]) ∧ w'.ownsRow w.heap.size 5 1 rv (gotBytes l k n).length (bvals (gotBytes l k n)) ∧ Only [g] w w' ∧
        TRd w' g A c l (k + 8 * (gotBytes l k n).length) := by
  by_cases hok : k % 8 = 0 ∧ 0 ≤ n ∧ n ≤ ((l.length - k / 8 : Nat) : Int)
  · have hb : okBytes l.length k n = true := by simp only [okBytes, decide_eq_true_eq]; exact hok
    have hg : gotBytes l k n = (l.drop (k / 8)).take n.toNat := by rw [gotBytes, if_pos hb]
    obtain ⟨h8, h0, h1⟩ := hok
    obtain ⟨n, rfl⟩ := Int.eq_ofNat_of_zero_le h0
    have hlen : ((l.drop (k / 8)).take n).length = n := by rw [List.length_take, List.length_drop]; omega
    rw [hb, hg, Int.toNat_natCast, hlen]
    rcases Nat.eq_zero_or_pos n with h | h
    · subst h
      by_cases hc : c = k / 8
      · exact tBytes_zeroA g c k A l w hR hA h8 hc
      · exact tBytes_zeroB g c k A l w hR hA h8 hc
    · exact tBytes_yes g c k n A l w hR hA h8 (by omega) h
  · have hb : okBytes l.length k n = false := by simp only [okBytes, decide_eq_false_iff_not]; exact hok
    have hg : gotBytes l k n = [] := by rw [gotBytes, hb]; rfl
    rw [hb, hg]
    refine (tBytes_no g c k A l n w hR hok).mono ?_
    rintro e w' ⟨rfl, m, rfl⟩
    exact ⟨_, rfl, World.ownsRow_nil _ _ _ _, (Only.refl _ _).drewN m, hR.drewN m⟩
end Go.Proofs.Ytheipfcbpjfohaa
