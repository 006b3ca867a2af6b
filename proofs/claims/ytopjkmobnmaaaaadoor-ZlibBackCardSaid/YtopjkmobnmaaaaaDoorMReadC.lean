/-
   |  | Plain facts on the checked product and on bits turned round. | 
-/
import Derived.Test.YtopjkmobnmaaaaaDoorMLaw
import Derived.Deep.RegionWith
import Derived.Deep.RegionLaw
import Derived.Deep.RegionHeld3
import Derived.StillTailTactics
import Derived.Deep.LoopGhost
namespace Go.Proofs.YtopjkmobnmaaaaaDoor
open Go Go.RowKit

/-- Block g is a bits.Reader over the bytes l (its own row, the slice v), k bits passed. -/
def Rd (w : World) (g : Nat) (v : Value) (l : List UInt8) (k : Nat) : Prop :=
  Has w g 133 #[v, .int .i64 k] ∧ w.ownsRow 0 5 1 v l.length (bvals l) ∧ l.length ≤ 140737488355328 ∧ k ≤ 8 * l.length

theorem own_cells {w : World} {base e c n : Nat} {A : Option Addr} {l : List UInt8} (h : w.ownsRow base e 1 (.slice A n c) n (bvals l)) {i : Nat} (hi : i < l.length) :
    ∃ gb, A = some ⟨gb, 0, none⟩ ∧ ∀ j, (hj : j < l.length) → w.cell? ⟨gb, 0 + j, none⟩ = some (.int .u8 (l[j].toNat : Int)) := by
  rcases h.2 with ⟨hv, rfl⟩ | ⟨g, cap, cur, hv, hb, hg, hc, hm, hs, ht⟩
  · have := h.1; rw [bvals_length] at this; omega
  · injection hv with hA hn hcap
    subst hA
    refine ⟨g, rfl, fun j hj => ?_⟩
    rw [cell_of_row w g (0 + j) cur e (0, 0) hg]
    have hl := h.1; rw [bvals_length] at hl
    have h1 : (cur.toList.take (n * 1))[j]? = (bvals l)[j]? := by rw [ht]
    rw [List.getElem?_take_of_lt (by omega), bvals_get l j hj] at h1
    simpa using h1

theorem Rd.only {w w' : World} {g : Nat} {v : Value} {l : List UInt8} {k : Nat} {S : List Nat} (h : Rd w g v l k) (ho : Only S w w') (hg : g ∉ S) (hv : ∀ b, v.ownBlock = some b → b ∉ S) : Rd w' g v l k := by
  refine ⟨h.1.only ho hg, ?_, h.2.2⟩
  obtain ⟨h1, h2⟩ := h.2.1
  refine ⟨h1, ?_⟩
  rcases h2 with h2 | ⟨gb, cap, cur, hv', hb, hgb, r⟩
  · exact .inl h2
  · refine .inr ⟨gb, cap, cur, hv', hb, ?_, r⟩
    have hlt : gb < w.heap.size := Has.lt (cs := cur) hgb
    rw [ho.block gb hlt (hv gb (by rw [hv']; rfl))]; exact hgb

def okBits (len k : Nat) (n : Int) : Bool := decide (0 ≤ n ∧ n ≤ 32 ∧ n ≤ ((8 * len - k : Nat) : Int))
def gotBits (l : List UInt8) (k : Nat) (n : Int) : Nat := if okBits l.length k n then bitsOf (num l) k n.toNat else 0

theorem peek_any (g : Nat) (v : Value) (l : List UInt8) (k : Nat) (n : Int) (w : World) (h : Rd w g v l k) :
    Calls Tryd.prog 61 #[.pointer (some ⟨g, 0, none⟩), .int .i64 n] w fun e w' =>
      e = .returned (.tuple #[.int .u32 (gotBits l k n : Nat), .bool (okBits l.length k n)]) ∧ ∃ m, w' = w.drewN m := by
  obtain ⟨hh, hown, hl, hk⟩ := h
  obtain ⟨A, c, rfl, hc, hA⟩ := own_shape hown
  unfold gotBits
  by_cases hok : 0 ≤ n ∧ n ≤ 32 ∧ n ≤ ((8 * l.length - k : Nat) : Int)
  · have hb : okBits l.length k n = true := by simp only [okBits, decide_eq_true_eq]; exact hok
    rw [hb, if_pos rfl]
    obtain ⟨h0, h1, h2⟩ := hok
    obtain ⟨n, rfl⟩ := Int.eq_ofNat_of_zero_le h0
    rw [Int.toNat_natCast]
    by_cases hz : (k + n + 7) / 8 = k / 8
    · obtain rfl : n = 0 := by omega
      rw [bitsOf_zero]
      exact peek_zero g l.length c A k w hh hl hc hA hk (by omega)
    · obtain ⟨gb, rfl, hcell⟩ := own_cells hown (i := 0) (by omega)
      exact peek_yes g l.length c gb 0 l k n w hh rfl hl hc hcell (by omega) (by omega) hz
  · have hb : okBits l.length k n = false := by simp only [okBits, decide_eq_false_iff_not]; exact hok
    rw [hb, if_neg (by simp)]
    exact peek_no g l.length c A k n w hh hl hk (by omega)

theorem Rd.drewN {w : World} {g : Nat} {v : Value} {l : List UInt8} {k : Nat} (h : Rd w g v l k) (m : Nat) : Rd (w.drewN m) g v l k := h

theorem Rd.set {w : World} {g : Nat} {v : Value} {l : List UInt8} {k j : Nat} (h : Rd w g v l k) (hj : j ≤ 8 * l.length) : Rd (w.setCell ⟨g, 1, none⟩ (.int .i64 j)) g v l j := by
  refine ⟨by simpa using h.1.set 1 (.int .i64 j), ?_, h.2.2.1, hj⟩
  refine ownsRow_setCell_other h.2.1 ?_ _
  intro hb
  obtain ⟨_, h2⟩ := h.2.1
  rcases h2 with ⟨rfl, _⟩ | ⟨gb, cap, cur, rfl, _, hg, _⟩
  · cases hb
  · have : gb = g := by simpa [Value.ownBlock] using hb
    subst this
    have h1 := h.1
    unfold Has at h1
    rw [hg] at h1
    injection h1 with h1
    injection h1 with _ ht
    exact absurd ht (by decide)

set_option maxHeartbeats 400000 in
theorem bits_any (g : Nat) (v : Value) (l : List UInt8) (k : Nat) (n : Int) (w : World) (hR : Rd w g v l k) :
    Calls Tryd.prog 57 #[.pointer (some ⟨g, 0, none⟩), .int .i64 n] w fun e w' =>
      e = .returned (.tuple #[.int .u32 (gotBits l k n : Nat), .bool (okBits l.length k n)]) ∧ Only [g] w w' ∧ Rd w' g v l (if okBits l.length k n then k + n.toNat else k) := by
  have hk : k ≤ 8 * l.length := hR.2.2.2
  have hl : l.length ≤ 140737488355328 := hR.2.2.1
  by_cases hok : 0 ≤ n ∧ n ≤ 32 ∧ n ≤ ((8 * l.length - k : Nat) : Int)
  · have hb : okBits l.length k n = true := by simp only [okBits, decide_eq_true_eq]; exact hok
    have HP := hide (peek_any g v l k n w hR)
    rw [hb] at HP ⊢
    obtain ⟨h0, h1, h2⟩ := hok
    obtain ⟨n, rfl⟩ := Int.eq_ofNat_of_zero_le h0
    have c1 : w.cell? ⟨g, 1, none⟩ = some (.int .i64 (k : Int)) := hR.1.cell 1
    have f1 : w.frozen? ⟨g, 1, none⟩ = false := hR.1.free 1
    clear hb
    go_enter Tryd.func57, Tryd.ntmps57
    go_wp2_with fail
    refine (HP.out).mono ?_
    rintro e w' ⟨rfl, m, rfl⟩
    go_wp2
    go_ret2
    refine ⟨rfl, ((Only.refl _ _).drewN m).setCell (by simp) _, ?_⟩
    exact (hR.drewN m).set (j := k + n) (by omega)
  · have hb : okBits l.length k n = false := by simp only [okBits, decide_eq_false_iff_not]; exact hok
    have HP := hide (peek_any g v l k n w hR)
    rw [hb] at HP ⊢
    clear hb hok
    go_enter Tryd.func57, Tryd.ntmps57
    go_wp2_with fail
    refine (HP.out).mono ?_
    rintro e w' ⟨rfl, m, rfl⟩
    go_wp2
    go_ret2
    exact ⟨rfl, (Only.refl _ _).drewN m, hR.drewN m⟩
end Go.Proofs.YtopjkmobnmaaaaaDoor


namespace Go.Proofs.YtopjkmobnmaaaaaDoor
open Go Go.RowKit

theorem u8_info : (Tryd.prog.info? 5).map (fun i => (i.zero, i.size, i.bytes)) = some (some (.int .u8 0), 1, 1) := by kernel_rfl


set_option maxHeartbeats 400000 in
theorem clone_nil (w : World) : Calls Tryd.prog 31 #[.slice none 0 0] w fun e w' => e = .returned (.slice none 0 0) ∧ w = w' := by
  have hn : (binOp .eql 22 (.slice none 0 0) (.slice none 0 0)).run Tryd.prog w = .ok (.bool true) w := by kernel_rfl
  go_enter Tryd.func31, Tryd.ntmps31
  go_wp2_with fail
  go_ret
  exact ⟨rfl, rfl⟩

set_option maxHeartbeats 400000 in
theorem clone_some (ad : Addr) (n c : Nat) (l : List UInt8) (w : World) (h : Holds w 1 (some ad) n (bvals l)) (hn : n ≤ 140737488355328) :
    Calls Tryd.prog 31 #[.slice (some ad) n c] w fun e w' =>
      ∃ v, e = .returned v ∧ w'.ownsRow w.heap.size 5 1 v n (bvals l) ∧ Only [] w w' := by
  obtain ⟨i0, hi0, hz0, hz1, hz2⟩ := info_of u8_info
  have hne : ∀ w : World, (binOp .eql 22 (.slice (some ad) n c) (.slice none 0 0)).run Tryd.prog w = .ok (.bool false) w := fun w => by
    have := Lib.run_eql_slice_nil (P := Tryd.prog) w 22 5 (some ad) n c 0 0 Tryd.underlying22
    simpa using this
  go_enter Tryd.func31, Tryd.ntmps31
  have hempty : (w.alloc (.cells #[] 5)).ownsRow w.heap.size 5 1 (.slice (some ⟨w.heap.size, 0, none⟩) 0 0) 0 [] :=
    World.ownsRow_made w #[] 0 (Nat.le_refl _) (by simp [maxLen]) rfl
  go_wp2_with (at_builtin; refine list_append _ rfl (.tmp 5) (.tmp 6) 22 rfl w.heap.size 1 1 Tryd.underlying22 hi0 hz0 hz1 hz2 rfl (by omega) hempty rfl (h.keep ((Only.refl [] w).alloc _) (by simp)) rfl (bvals_one l) (by omega) (by omega) (by simp) ?_; intro A1 c1 w1 hown1 hg1 hat1)
  go_ret
  refine ⟨_, rfl, by simpa using hown1, ((Only.refl [] w).alloc _).grown hg1 ?_⟩
  intro k hk hlt
  have hk' : w.heap.size = k := by injection hk
  omega

/-- slices.Clone of bytes: a row of the call's own, nil for nil. -/
theorem clone_any (A : Option Addr) (n c : Nat) (l : List UInt8) (w : World) (h : Holds w 1 A n (bvals l)) (hn : n ≤ 140737488355328) (hA : A = none → c = 0 ∧ n = 0) :
    Calls Tryd.prog 31 #[.slice A n c] w fun e w' =>
      ∃ v, e = .returned v ∧ w'.ownsRow w.heap.size 5 1 v n (bvals l) ∧ Only [] w w' := by
  rcases A with _ | ad
  · obtain ⟨rfl, rfl⟩ := hA rfl
    refine (clone_nil w).mono ?_
    rintro e w' ⟨rfl, rfl⟩
    have : bvals l = [] := List.eq_nil_of_length_eq_zero (by rw [h.1])
    rw [this]
    exact ⟨_, rfl, World.ownsRow_nil _ _ _ _, Only.refl _ _⟩
  · exact clone_some ad n c l w h hn
end Go.Proofs.YtopjkmobnmaaaaaDoor


namespace Go.Proofs.YtopjkmobnmaaaaaDoor
open Go

/-- The product of numbers, on from p; refused where one is below 0 or the product is above 2^40. -/
def mulGo (p : Int) : List Int → Int × Bool
  | [] => (p, true)
  | n :: r => if n < 0 ∨ (0 < p ∧ 1099511627776 / p < n) then (0, false) else mulGo (p * n) r

theorem mulGo_no {p n : Int} {r : List Int} (h : n < 0 ∨ (0 < p ∧ 1099511627776 / p < n)) : mulGo p (n :: r) = (0, false) := by
  rw [mulGo, if_pos h]
theorem mulGo_yes {p n : Int} {r : List Int} (h : ¬ (n < 0 ∨ (0 < p ∧ 1099511627776 / p < n))) : mulGo p (n :: r) = mulGo (p * n) r := by
  rw [mulGo, if_neg h]

theorem mul_fits {p n : Int} (hp : 0 ≤ p) (hp1 : p ≤ 1099511627776) (hn : 0 ≤ n) (h : ¬ (0 < p ∧ 1099511627776 / p < n)) : 0 ≤ p * n ∧ p * n ≤ 1099511627776 := by
  refine ⟨Int.mul_nonneg hp hn, ?_⟩
  by_cases h0 : 0 < p
  · have h1 : n ≤ 1099511627776 / p := by
      have : ¬ 1099511627776 / p < n := fun hc => h ⟨h0, hc⟩
      omega
    calc p * n ≤ p * (1099511627776 / p) := Int.mul_le_mul_of_nonneg_left h1 hp
      _ ≤ 1099511627776 := Int.mul_ediv_self_le (by omega)
  · have : p = 0 := by omega
    rw [this, Int.zero_mul]; decide


/-- The lowest n bits of v the other way round. -/
def rev (v : Nat) : Nat → Nat
  | 0 => 0
  | n + 1 => 2 * rev v n + v / 2 ^ n % 2

theorem rev_lt (v n : Nat) : rev v n < 2 ^ n := by
  induction n with
  | zero => simp [rev]
  | succ n ih => rw [rev, Nat.pow_succ]; omega

/-- From the other end: the lowest bit stands highest. -/
theorem rev_low (v n : Nat) : rev v (n + 1) = (v % 2) * 2 ^ n + rev (v / 2) n := by
  induction n generalizing v with
  | zero => simp [rev]
  | succ n ih =>
    have e1 : v / 2 ^ (n + 1) = v / 2 / 2 ^ n := by rw [Nat.div_div_eq_div_mul, Nat.pow_succ, Nat.mul_comm]
    have e2 : v % 2 * 2 ^ (n + 1) = 2 * (v % 2 * 2 ^ n) := by rw [Nat.pow_succ, Nat.mul_comm (2 ^ n) 2, Nat.mul_left_comm]
    rw [rev, ih, rev, e1, e2]
    omega

theorem rev_add_high (v a n : Nat) (h : v < 2 ^ n) : rev (v + a * 2 ^ n) n = rev v n := by
  induction n generalizing v a with
  | zero => rfl
  | succ n ih =>
    rw [rev_low, rev_low]
    have e : v + a * 2 ^ (n + 1) = v + 2 * (a * 2 ^ n) := by rw [Nat.pow_succ]; rw [Nat.mul_comm (2 ^ n) 2, Nat.mul_left_comm]
    have e1 : (v + 2 * (a * 2 ^ n)) % 2 = v % 2 := by omega
    have e2 : (v + 2 * (a * 2 ^ n)) / 2 = v / 2 + a * 2 ^ n := by omega
    rw [e, e1, e2, ih]
    rw [Nat.pow_succ] at h; omega

theorem rev_rev (v n : Nat) : rev (rev v n) n = v % 2 ^ n := by
  induction n generalizing v with
  | zero => simp [rev, Nat.mod_one]
  | succ n ih =>
    have hl := rev_lt (v / 2) n
    rw [rev_low v n, rev, Nat.add_comm ((v % 2) * 2 ^ n), rev_add_high _ _ _ hl, ih]
    have e : (rev (v / 2) n + v % 2 * 2 ^ n) / 2 ^ n = v % 2 := by
      rw [Nat.add_mul_div_right _ _ (Nat.two_pow_pos n), Nat.div_eq_of_lt hl]; omega
    rw [e, Nat.pow_succ, Nat.mul_comm (2 ^ n) 2, Nat.mod_mul]
    omega

theorem u32_and1 (v : Nat) (h : v < 4294967296) : bits .and .u32 (v : Int) 1 = ((v % 2 : Nat) : Int) := by
  have := u32_and_nat v 1 h (by omega)
  rw [Nat.and_one_is_mod] at this
  exact this

theorem u32_or1 (a b : Nat) (hb : b < 2) (h : a * 2 + b < 4294967296) : bits .or .u32 ((a : Int) * 2) (b : Int) = ((2 * a + b : Nat) : Int) := by
  have e := u32_join b a 1 (by omega) (by omega)
  have e2 : bits .or .u32 ((a : Int) * 2) (b : Int) = bits .or .u32 (b : Int) ((a : Int) * 2) := by simp only [bits, BitVec.or_comm]
  rw [e2]
  have e3 : (((a * 2 ^ 1 : Nat)) : Int) = (a : Int) * 2 := by omega
  rw [e3] at e
  rw [e]; omega

theorem u32_hi (a b k : Nat) (ha : a < 2 ^ k) (hs : a + b * 2 ^ k < 4294967296) : bits .or .u32 ((b * 2 ^ k : Nat) : Int) (a : Int) = ((b * 2 ^ k + a : Nat) : Int) := by
  have e : bits .or .u32 ((b * 2 ^ k : Nat) : Int) (a : Int) = bits .or .u32 (a : Int) ((b * 2 ^ k : Nat) : Int) := by simp only [bits, BitVec.or_comm]
  rw [e, u32_join a b k ha hs, Nat.add_comm]

theorem u32_four (x0 x1 x2 x3 : Nat) (h0 : x0 < 256) (h1 : x1 < 256) (h2 : x2 < 256) (h3 : x3 < 256) :
    bits .or .u32 (bits .or .u32 (bits .or .u32 ((x0 : Int) * 16777216) ((x1 : Int) * 65536)) ((x2 : Int) * 256)) (x3 : Int) = ((x0 * 16777216 + x1 * 65536 + x2 * 256 + x3 : Nat) : Int) := by
  have e1 : bits .or .u32 ((x0 : Int) * 16777216) ((x1 : Int) * 65536) = ((x0 * 16777216 + x1 * 65536 : Nat) : Int) := by
    have := u32_hi (x1 * 65536) x0 24 (by omega) (by omega)
    simpa using this
  have e2 : bits .or .u32 ((x0 * 16777216 + x1 * 65536 : Nat) : Int) ((x2 : Int) * 256) = ((x0 * 16777216 + x1 * 65536 + x2 * 256 : Nat) : Int) := by
    have := u32_hi (x2 * 256) (x0 * 256 + x1) 16 (by omega) (by omega)
    have e : (x0 * 256 + x1) * 2 ^ 16 = x0 * 16777216 + x1 * 65536 := by omega
    rw [e] at this
    simpa using this
  have e3 : bits .or .u32 ((x0 * 16777216 + x1 * 65536 + x2 * 256 : Nat) : Int) (x3 : Int) = ((x0 * 16777216 + x1 * 65536 + x2 * 256 + x3 : Nat) : Int) := by
    have := u32_hi x3 (x0 * 65536 + x1 * 256 + x2) 8 (by omega) (by omega)
    have e : (x0 * 65536 + x1 * 256 + x2) * 2 ^ 8 = x0 * 16777216 + x1 * 65536 + x2 * 256 := by omega
    rw [e] at this
    exact this
  rw [e1, e2, e3]

theorem u32_orbit (a x : Nat) (h : a * 2 + 1 < 4294967296) : bits .or .u32 ((a : Int) * 2) ((x : Int) % 2) = ((2 * a + x % 2 : Nat) : Int) := by
  have e : (x : Int) % 2 = ((x % 2 : Nat) : Int) := by omega
  rw [e]; exact u32_or1 a (x % 2) (by omega) (by omega)

end Go.Proofs.YtopjkmobnmaaaaaDoor


namespace Go.Proofs.YtopjkmobnmaaaaaDoor
open Go Go.RowKit

/-- Block g is a bits.Writer that has laid n bits, together the number N; whole bytes in v; what is left may yet be more than a byte. -/
def WrL (w : World) (g : Nat) (v : Value) (l : List UInt8) (rest cnt : Nat) (N n : Nat) : Prop :=
  Has w g 90 #[v, .int .u64 rest, .int .i64 cnt] ∧ w.ownsRow 0 5 1 v l.length (bvals l) ∧ rest < 2 ^ cnt ∧ N = num l + 256 ^ l.length * rest ∧ n = 8 * l.length + cnt

def Wr (w : World) (g : Nat) (v : Value) (N n : Nat) : Prop := ∃ l rest cnt, WrL w g v l rest cnt N n ∧ cnt < 8

/-- What has become of a writer since the world w: at v in the world w'. -/
def WSince (w : World) (g : Nat) (v : Value) (w' : World) (v' : Value) : Prop :=
  Only (g :: v.ownBlock.toList) w w' ∧ (∀ b, v'.ownBlock = some b → v.ownBlock = some b ∨ w.heap.size ≤ b)

/-- The loop's relation. -/
def WLoop (w : World) (g : Nat) (v : Value) (N n : Nat) (q : Nat) (w' : World) : Prop :=
  ∃ v' l rest, WrL w' g v' l rest q N n ∧ q ≤ 39 ∧ n ≤ 140737488355328 ∧ WSince w g v w' v'

/-- One byte more has gone to the row; the three fields are stored. -/
theorem WLoop.step {w wr w1 : World} {g : Nat} {v v1 : Value} {l1 : List UInt8} {rest1 q N n : Nat} {A : Option Addr} {c : Nat} {b : UInt8} {o : Obj}
    (hW : WrL wr g v1 l1 rest1 q N n) (hq : q ≤ 39) (h8 : 8 ≤ q) (hmax : n ≤ 140737488355328) (hs : WSince w g v wr v1) (hb : b.toNat = rest1 % 256)
    (hown1 : w1.ownsRow 0 5 1 (.slice A (l1.length + 1) c) (l1.length + 1) (bvals l1 ++ [.int .u8 (b.toNat : Int)])) (hgrow : (wr.alloc o).drew.grownBy w1 v1.ownBlock)
    (hat : (Value.slice A (l1.length + 1) c).ownBlock = v1.ownBlock ∨ (Value.slice A (l1.length + 1) c).ownBlock = some (wr.alloc o).drew.heap.size) :
    WLoop w g v N n (q - 8) (((w1.setCell ⟨g, 0, none⟩ (.slice A (l1.length + 1) c)).setCell ⟨g, 1, none⟩ (.int .u64 ((rest1 : Int) / 256))).setCell ⟨g, 2, none⟩ (.int .i64 ((q : Int) - 8))) := by
  obtain ⟨hh, hown, hr, hN, hn⟩ := hW
  have hne := own_ne hown hh (by decide)
  have hh1 : Has w1 g 90 #[v1, .int .u64 (rest1 : Int), .int .i64 (q : Int)] := (hh.alloc o).drew.grown hgrow hne
  have hne1 := own_ne hown1 hh1 (by decide)
  have hpow : 2 ^ q = 256 * 2 ^ (q - 8) := by rw [show q = (q - 8) + 8 from by omega, Nat.pow_add]; simp; omega
  refine ⟨.slice A (l1.length + 1) c, l1 ++ [b], rest1 / 256, ⟨?_, ?_, ?_, ?_, ?_⟩, by omega, hmax, ?_, ?_⟩
  · have h2 := ((hh1.set 0 (.slice A (l1.length + 1) c)).set 1 (.int .u64 ((rest1 : Int) / 256))).set 2 (.int .i64 ((q : Int) - 8))
    have e1 : ((rest1 / 256 : Nat) : Int) = (rest1 : Int) / 256 := by omega
    have e2 : ((q - 8 : Nat) : Int) = (q : Int) - 8 := by omega
    rw [e1, e2]
    simpa using h2
  · have h3 := ownsRow_setCell_other (ownsRow_setCell_other (ownsRow_setCell_other hown1 (a := ⟨g, 0, none⟩) (fun h => hne1 h.symm) (.slice A (l1.length + 1) c)) (a := ⟨g, 1, none⟩) (fun h => hne1 h.symm) (.int .u64 ((rest1 : Int) / 256))) (a := ⟨g, 2, none⟩) (fun h => hne1 h.symm) (.int .i64 ((q : Int) - 8))
    rw [bvals_append, List.length_append]
    exact h3
  · rw [hpow] at hr; omega
  · rw [hN, num_snoc, List.length_append, List.length_singleton, Nat.pow_succ, hb, Nat.add_assoc, Nat.mul_assoc, ← Nat.mul_add]
    congr 2; omega
  · rw [hn, List.length_append, List.length_singleton]; omega
  · have h4 : Only (g :: v.ownBlock.toList) w w1 := (hs.1.alloc o).drew.grown hgrow (by
      intro k hk hlt
      rcases hs.2 k hk with h | h
      · simp [h]
      · omega)
    exact ((h4.setCell (by simp) _).setCell (by simp) _).setCell (by simp) _
  · intro k hk
    rcases hat with h | h
    · rw [h] at hk; exact hs.2 k hk
    · rw [h] at hk
      right
      have h5 : (wr.alloc o).drew.heap.size = k := by injection hk
      have h6 : wr.heap.size + 1 = k := by rw [← h5]; simp
      have := hs.1.size
      omega

set_option maxRecDepth 100000 in
set_option maxHeartbeats 2000000 in
theorem wbits_any (g : Nat) (v : Value) (l : List UInt8) (rest cnt N n : Nat) (x k : Nat) (w : World) (hW : WrL w g v l rest cnt N n) (hc : cnt < 8) (hx : x < 4294967296) (hk0 : 1 ≤ k) (hk1 : k ≤ 32) (hn : n + k ≤ 140737488355328) :
    Calls Tryd.prog 22 #[.pointer (some ⟨g, 0, none⟩), .int .u32 x, .int .i64 k] w fun e w' =>
      e = .returned (.tuple #[]) ∧ ∃ v', Wr w' g v' (N + (x % 2 ^ k) * 2 ^ n) (n + k) ∧ WSince w g v w' v' := by
  have c0 : w.cell? ⟨g, 0, none⟩ = some v := hW.1.cell 0
  have c1 : w.cell? ⟨g, 1, none⟩ = some (.int .u64 (rest : Int)) := hW.1.cell 1
  have c2 : w.cell? ⟨g, 2, none⟩ = some (.int .i64 (cnt : Int)) := hW.1.cell 2
  have f1 : w.frozen? ⟨g, 1, none⟩ = false := hW.1.free 1
  have f2 : w.frozen? ⟨g, 2, none⟩ = false := hW.1.free 2
  obtain ⟨X, hX⟩ : ∃ X, X = x % 2 ^ k := ⟨_, rfl⟩
  obtain ⟨Y, hY⟩ : ∃ Y, Y = rest + X * 2 ^ cnt := ⟨_, rfl⟩
  have hX32 : X < 2 ^ k := by rw [hX]; exact Nat.mod_lt _ (Nat.two_pow_pos k)
  have hr : rest < 2 ^ cnt := hW.2.2.1
  have hXm : X * 2 ^ cnt + 2 ^ cnt ≤ 2 ^ (cnt + k) := by
    rw [Nat.pow_add, Nat.mul_comm (2 ^ cnt), ← Nat.succ_mul]; exact Nat.mul_le_mul_right _ hX32
  have h39 : 2 ^ (cnt + k) ≤ 1099511627776 := pow_le40 (by omega)
  have e1 : IntKind.u64.wrap ((X : Int) * 2 ^ cnt) = (X : Int) * 2 ^ cnt := by
    rw [← two_pow_cast, ← Int.natCast_mul]; exact IntWalk.u64_in _ ⟨by omega, by omega⟩
  have e2 : bits .or .u64 (rest : Int) ((X : Int) * 2 ^ cnt) = (Y : Int) := by
    rw [hY, ← two_pow_cast, ← Int.natCast_mul]; exact u64_join _ _ _ hr (by omega)
  have e0 : IntKind.u64.wrap (x : Int) = x := IntWalk.u64_in _ ⟨by omega, by omega⟩
  have e3 : (cnt : Int) + k = ((cnt + k : Nat) : Int) := rfl
  have hYlt : Y < 2 ^ (cnt + k) := by omega
  have hstart : ∀ d, WLoop w g v (N + (x % 2 ^ k) * 2 ^ n) (n + k) (cnt + k) (((w.setCell ⟨g, 1, none⟩ (.int .u64 (Y : Int))).setCell ⟨g, 2, none⟩ (.int .i64 ((cnt : Int) + k))).drewN d) := by
    intro d
    obtain ⟨hh, hown, _, hN, hn'⟩ := hW
    have hb := own_ne hown hh (by decide)
    refine ⟨v, l, Y, ⟨?_, ?_, hYlt, ?_, ?_⟩, by omega, hn, ?_, fun b hb => .inl hb⟩
    · have h2 := (hh.set 1 (.int .u64 (Y : Int))).set 2 (.int .i64 ((cnt : Int) + k))
      exact (by simpa using h2 : Has _ g 90 #[v, .int .u64 (Y : Int), .int .i64 ((cnt : Int) + k)]).drewN d
    · exact ownsRow_setCell_other (ownsRow_setCell_other hown (fun h => hb h.symm) _) (fun h => hb h.symm) _
    · rw [hN, hn', hY, hX, Nat.mul_add, Nat.pow_add, pow_256]
      generalize x % 2 ^ k = X
      rw [Nat.mul_left_comm X, Nat.add_assoc]
    · rw [hn']; omega
    · exact (((Only.refl _ _).setCell (by simp) _).setCell (by simp) _).drewN d
  have HS := hide hstart
  have HX := hide hX
  clear hX hY hstart
  clear hW e3
  go_enter Tryd.func22, Tryd.ntmps22
  go_wp2_with fail
  go_still_tail 16, (by kernel_rfl)
  still_call ((lowest_any (x : Int) x k w.drew rfl (by omega) hk1).mono (fun e w' h => ⟨h.1.trans (by rw [← HX.out]), h.2.symm⟩))
  repeat still_step
  refine wpStill_nil ?_
  change wpList _ _ _ _ _ w.drew
  go_wp2_with fail
  go_loopg [41] (cnt + k) (fun q _ wr => WLoop w g v (N + (x % 2 ^ k) * 2 ^ n) (n + k) q wr)
  case atStart => exact HS.out 1
  case round =>
    obtain ⟨v1, l1, rest1, ⟨hh, hown, hr1, hN1, hn1⟩, hq, hmax, hs⟩ := hrel
    by_cases h8 : 8 ≤ gk
    · have c0 : wr.cell? ⟨g, 0, none⟩ = some v1 := hh.cell 0
      have c1 : wr.cell? ⟨g, 1, none⟩ = some (.int .u64 (rest1 : Int)) := hh.cell 1
      have c2 : wr.cell? ⟨g, 2, none⟩ = some (.int .i64 (gk : Int)) := hh.cell 2
      have f0 : wr.frozen? ⟨g, 0, none⟩ = false := hh.free 0
      have hb := own_ne hown hh (by decide)
      have glt := hh.lt
      obtain ⟨by1, hby⟩ : ∃ b : UInt8, b.toNat = rest1 % 256 := ⟨UInt8.ofNat rest1, by simp⟩
      have e8 : IntKind.u8.wrap (rest1 : Int) = (by1.toNat : Int) := by
        rw [IntKind.wrap_u8, hby]; omega
      have HB := hide hby
      clear hby
      obtain ⟨i0, hi0, hz0, hz1, hz2⟩ := info_of u8_info
      have hlen : l1.length ≤ 140737488355327 := by omega
      have HN := hide (And.intro hN1 hn1)
      clear hN1 hn1
      go_wp2_with fail
      have hone : ∀ u ∈ [Value.int .u8 (by1.toNat : Int)], u.oneCell' = true := by simp [Value.oneCell']
      have hroom : (l1.length + 1) * 1 ≤ 140737488355328 := by omega
      have hnew : Holds (wr.alloc (.cells #[.int .u8 (by1.toNat : Int)] 5)).drew 1 (some ⟨wr.heap.size, 0, none⟩) 1 [.int .u8 (by1.toNat : Int)] :=
        Holds.lit wr #[.int .u8 (by1.toNat : Int)] 5
      have hold : (wr.alloc (.cells #[.int .u8 (by1.toNat : Int)] 5)).drew.ownsRow 0 5 1 v1 l1.length (bvals l1) := hown.alloc _
      have hhas : Has (wr.alloc (.cells #[.int .u8 (by1.toNat : Int)] 5)).drew g 90 #[v1, .int .u64 (rest1 : Int), .int .i64 (gk : Int)] := hh.alloc _
      go_region_law ((refine step_append _ rfl (.tmp 45) (.tmp 51) 22 rfl 0 1 1 Tryd.underlying22 hi0 hz0 hz1 hz2 rfl (Nat.zero_lt_one) hold rfl hnew rfl hone hroom (Nat.zero_lt_one) (Nat.zero_le _) ?_; intro A2 cc2 w1 hown1 hgrow hat; have cw0 : w1.cell? ⟨g, 0, none⟩ = some v1 := (hhas.grown hgrow hb).cell 0; have fw0 : w1.frozen? ⟨g, 0, none⟩ = false := (hhas.grown hgrow hb).free 0; have cw1 : w1.cell? ⟨g, 1, none⟩ = some (.int .u64 (rest1 : Int)) := (hhas.grown hgrow hb).cell 1; have fw1 : w1.frozen? ⟨g, 1, none⟩ = false := (hhas.grown hgrow hb).free 1; have cw2 : w1.cell? ⟨g, 2, none⟩ = some (.int .i64 (gk : Int)) := (hhas.grown hgrow hb).cell 2; have fw2 : w1.frozen? ⟨g, 2, none⟩ = false := (hhas.grown hgrow hb).free 2))
      all_goals go_wp2
      all_goals
        go_roundg (gk - 8)
        case measure => omega
        case rel => exact WLoop.step ⟨hh, hown, hr1, HN.out.1, HN.out.2⟩ hq h8 hmax hs HB.out hown1 hgrow hat
    · have c2 : wr.cell? ⟨g, 2, none⟩ = some (.int .i64 (gk : Int)) := hh.cell 2
      have h8' : gk < 8 := by omega
      have HN := hide (And.intro hN1 hn1)
      clear h8 hN1 hn1
      go_wp2_with fail
      go_end0
      exact ⟨rfl, v1, ⟨l1, rest1, gk, ⟨hh, hown, hr1, HN.out.1, HN.out.2⟩, h8'⟩, hs⟩
end Go.Proofs.YtopjkmobnmaaaaaDoor

