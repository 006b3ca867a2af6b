import Derived.Test.YtglkfgpefpebmaaDoorReadB
namespace Go.Proofs.YtglkfgpefpebmaaDoor
open Go Go.RowKit

/-- Block g is a bits.Reader over the bytes l (its own row, the slice v), k bits passed. -/
def Rd (w : World) (g : Nat) (v : Value) (l : List UInt8) (k : Nat) : Prop :=
  Has w g 138 #[v, .int .i64 k] ∧ w.ownsRow 0 5 1 v l.length (bvals l) ∧ l.length ≤ 140737488355328 ∧ k ≤ 8 * l.length

theorem own_cells {w : World} {base e c n : Nat} {A : Option Addr} {l : List UInt8} (h : w.ownsRow base e 1 (.slice A n c) n (bvals l)) {i : Nat} (hi : i < l.length) :
    ∃ gb, A = some ⟨gb, 0, none⟩ ∧ ∀ j, (hj : j < l.length) → w.cell? ⟨gb, 0 + j, none⟩ = some (.int .u8 (l[j].toNat : Int)) := by
  rcases h.2 with ⟨hv, rfl⟩ | ⟨g, cap, cur, hv, hb, hg, hc, hm, hs, ht⟩
  · have := h.1; rw [bvals_length] at this; omega
  · injection hv with hA hn hcap
    subst hA
    refine ⟨g, rfl, fun j hj => ?_⟩
    rw [cell_of_row w g (0 + j) cur e (0, 0) hg]
    have hl := h.1; rw [bvals_length] at hl
    have h1 : (cur.toList.take (n * 1))[j]? = (bvals l)[j]? := by rw [ht]
    rw [List.getElem?_take_of_lt (by omega), bvals_get l j hj] at h1
    simpa using h1

theorem Rd.only {w w' : World} {g : Nat} {v : Value} {l : List UInt8} {k : Nat} {S : List Nat} (h : Rd w g v l k) (ho : Only S w w') (hg : g ∉ S) (hv : ∀ b, v.ownBlock = some b → b ∉ S) : Rd w' g v l k := by
  refine ⟨h.1.only ho hg, ?_, h.2.2⟩
  obtain ⟨h1, h2⟩ := h.2.1
  refine ⟨h1, ?_⟩
  rcases h2 with h2 | ⟨gb, cap, cur, hv', hb, hgb, r⟩
  · exact .inl h2
  · refine .inr ⟨gb, cap, cur, hv', hb, ?_, r⟩
    have hlt : gb < w.heap.size := Has.lt (cs := cur) hgb
    rw [ho.block gb hlt (hv gb (by rw [hv']; rfl))]; exact hgb

def okBits (len k : Nat) (n : Int) : Bool := decide (0 ≤ n ∧ n ≤ 32 ∧ n ≤ ((8 * len - k : Nat) : Int))
def gotBits (l : List UInt8) (k : Nat) (n : Int) : Nat := if okBits l.length k n then bitsOf (num l) k n.toNat else 0

theorem peek_any (g : Nat) (v : Value) (l : List UInt8) (k : Nat) (n : Int) (w : World) (h : Rd w g v l k) :
    Calls Tryd.prog 72 #[.pointer (some ⟨g, 0, none⟩), .int .i64 n] w fun e w' =>
      e = .returned (.tuple #[.int .u32 (gotBits l k n : Nat), .bool (okBits l.length k n)]) ∧ ∃ m, w' = w.drewN m := by
  obtain ⟨hh, hown, hl, hk⟩ := h
  obtain ⟨A, c, rfl, hc, hA⟩ := own_shape hown
  unfold gotBits
  by_cases hok : 0 ≤ n ∧ n ≤ 32 ∧ n ≤ ((8 * l.length - k : Nat) : Int)
  · have hb : okBits l.length k n = true := by simp only [okBits, decide_eq_true_eq]; exact hok
    rw [hb, if_pos rfl]
    obtain ⟨h0, h1, h2⟩ := hok
    obtain ⟨n, rfl⟩ := Int.eq_ofNat_of_zero_le h0
    rw [Int.toNat_natCast]
    by_cases hz : (k + n + 7) / 8 = k / 8
    · obtain rfl : n = 0 := by omega
      rw [bitsOf_zero]
      exact peek_zero g l.length c A k w hh hl hc hA hk (by omega)
    · obtain ⟨gb, rfl, hcell⟩ := own_cells hown (i := 0) (by omega)
      exact peek_yes g l.length c gb 0 l k n w hh rfl hl hc hcell (by omega) (by omega) hz
  · have hb : okBits l.length k n = false := by simp only [okBits, decide_eq_false_iff_not]; exact hok
    rw [hb, if_neg (by simp)]
    exact peek_no g l.length c A k n w hh hl hk (by omega)

theorem Rd.drewN {w : World} {g : Nat} {v : Value} {l : List UInt8} {k : Nat} (h : Rd w g v l k) (m : Nat) : Rd (w.drewN m) g v l k := h

theorem Rd.set {w : World} {g : Nat} {v : Value} {l : List UInt8} {k j : Nat} (h : Rd w g v l k) (hj : j ≤ 8 * l.length) : Rd (w.setCell ⟨g, 1, none⟩ (.int .i64 j)) g v l j := by
  refine ⟨by simpa using h.1.set 1 (.int .i64 j), ?_, h.2.2.1, hj⟩
  refine ownsRow_setCell_other h.2.1 ?_ _
  intro hb
  obtain ⟨_, h2⟩ := h.2.1
  rcases h2 with ⟨rfl, _⟩ | ⟨gb, cap, cur, rfl, _, hg, _⟩
  · cases hb
  · have : gb = g := by simpa [Value.ownBlock] using hb
    subst this
    have h1 := h.1
    unfold Has at h1
    rw [hg] at h1
    injection h1 with h1
    injection h1 with _ ht
    exact absurd ht (by decide)

set_option maxHeartbeats 400000 in
theorem bits_any (g : Nat) (v : Value) (l : List UInt8) (k : Nat) (n : Int) (w : World) (hR : Rd w g v l k) :
    Calls Tryd.prog 62 #[.pointer (some ⟨g, 0, none⟩), .int .i64 n] w fun e w' =>
      e = .returned (.tuple #[.int .u32 (gotBits l k n : Nat), .bool (okBits l.length k n)]) ∧ Only [g] w w' ∧ Rd w' g v l (if okBits l.length k n then k + n.toNat else k) := by
  have hk : k ≤ 8 * l.length := hR.2.2.2
  have hl : l.length ≤ 140737488355328 := hR.2.2.1
  by_cases hok : 0 ≤ n ∧ n ≤ 32 ∧ n ≤ ((8 * l.length - k : Nat) : Int)
  · have hb : okBits l.length k n = true := by simp only [okBits, decide_eq_true_eq]; exact hok
    have HP := hide (peek_any g v l k n w hR)
    rw [hb] at HP ⊢
    obtain ⟨h0, h1, h2⟩ := hok
    obtain ⟨n, rfl⟩ := Int.eq_ofNat_of_zero_le h0
    have c1 : w.cell? ⟨g, 1, none⟩ = some (.int .i64 (k : Int)) := hR.1.cell 1
    have f1 : w.frozen? ⟨g, 1, none⟩ = false := hR.1.free 1
    clear hb
    go_enter Tryd.func62, Tryd.ntmps62
    go_wp2_with fail
    refine (HP.out).mono ?_
    rintro e w' ⟨rfl, m, rfl⟩
    go_wp2
    go_ret2
    refine ⟨rfl, ((Only.refl _ _).drewN m).setCell (by simp) _, ?_⟩
    exact (hR.drewN m).set (j := k + n) (by omega)
  · have hb : okBits l.length k n = false := by simp only [okBits, decide_eq_false_iff_not]; exact hok
    have HP := hide (peek_any g v l k n w hR)
    rw [hb] at HP ⊢
    clear hb hok
    go_enter Tryd.func62, Tryd.ntmps62
    go_wp2_with fail
    refine (HP.out).mono ?_
    rintro e w' ⟨rfl, m, rfl⟩
    go_wp2
    go_ret2
    exact ⟨rfl, (Only.refl _ _).drewN m, hR.drewN m⟩
end Go.Proofs.YtglkfgpefpebmaaDoor
