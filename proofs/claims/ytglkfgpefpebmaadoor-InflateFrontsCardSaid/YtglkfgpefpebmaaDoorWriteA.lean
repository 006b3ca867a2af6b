import Derived.Test.YtglkfgpefpebmaaDoorClone
import Derived.Deep.RegionWith
import Derived.Deep.RegionLaw
import Derived.Deep.RegionHeld3
import Derived.StillTailTactics
import Derived.Deep.LoopGhost
namespace Go.Proofs.YtglkfgpefpebmaaDoor
open Go Go.RowKit

/-- Block g is a bits.Writer that has laid n bits, together the number N; whole bytes in v; what is left may yet be more than a byte. -/
def WrL (w : World) (g : Nat) (v : Value) (l : List UInt8) (rest cnt : Nat) (N n : Nat) : Prop :=
  Has w g 88 #[v, .int .u64 rest, .int .i64 cnt] ∧ w.ownsRow 0 5 1 v l.length (bvals l) ∧ rest < 2 ^ cnt ∧ N = num l + 256 ^ l.length * rest ∧ n = 8 * l.length + cnt

def Wr (w : World) (g : Nat) (v : Value) (N n : Nat) : Prop := ∃ l rest cnt, WrL w g v l rest cnt N n ∧ cnt < 8

/-- What has become of a writer since the world w: at v in the world w'. -/
def WSince (w : World) (g : Nat) (v : Value) (w' : World) (v' : Value) : Prop :=
  Only (g :: v.ownBlock.toList) w w' ∧ (∀ b, v'.ownBlock = some b → v.ownBlock = some b ∨ w.heap.size ≤ b)

/-- The loop's relation. -/
def WLoop (w : World) (g : Nat) (v : Value) (N n : Nat) (q : Nat) (w' : World) : Prop :=
  ∃ v' l rest, WrL w' g v' l rest q N n ∧ q ≤ 39 ∧ n ≤ 140737488355328 ∧ WSince w g v w' v'

/-- One byte more has gone to the row; the three fields are stored. -/
theorem WLoop.step {w wr w1 : World} {g : Nat} {v v1 : Value} {l1 : List UInt8} {rest1 q N n : Nat} {A : Option Addr} {c : Nat} {b : UInt8} {o : Obj}
    (hW : WrL wr g v1 l1 rest1 q N n) (hq : q ≤ 39) (h8 : 8 ≤ q) (hmax : n ≤ 140737488355328) (hs : WSince w g v wr v1) (hb : b.toNat = rest1 % 256)
    (hown1 : w1.ownsRow 0 5 1 (.slice A (l1.length + 1) c) (l1.length + 1) (bvals l1 ++ [.int .u8 (b.toNat : Int)])) (hgrow : (wr.alloc o).drew.grownBy w1 v1.ownBlock)
    (hat : (Value.slice A (l1.length + 1) c).ownBlock = v1.ownBlock ∨ (Value.slice A (l1.length + 1) c).ownBlock = some (wr.alloc o).drew.heap.size) :
    WLoop w g v N n (q - 8) (((w1.setCell ⟨g, 0, none⟩ (.slice A (l1.length + 1) c)).setCell ⟨g, 1, none⟩ (.int .u64 ((rest1 : Int) / 256))).setCell ⟨g, 2, none⟩ (.int .i64 ((q : Int) - 8))) := by
  obtain ⟨hh, hown, hr, hN, hn⟩ := hW
  have hne := own_ne hown hh (by decide)
  have hh1 : Has w1 g 88 #[v1, .int .u64 (rest1 : Int), .int .i64 (q : Int)] := (hh.alloc o).drew.grown hgrow hne
  have hne1 := own_ne hown1 hh1 (by decide)
  have hpow : 2 ^ q = 256 * 2 ^ (q - 8) := by rw [show q = (q - 8) + 8 from by omega, Nat.pow_add]; simp; omega
  refine ⟨.slice A (l1.length + 1) c, l1 ++ [b], rest1 / 256, ⟨?_, ?_, ?_, ?_, ?_⟩, by omega, hmax, ?_, ?_⟩
  · have h2 := ((hh1.set 0 (.slice A (l1.length + 1) c)).set 1 (.int .u64 ((rest1 : Int) / 256))).set 2 (.int .i64 ((q : Int) - 8))
    have e1 : ((rest1 / 256 : Nat) : Int) = (rest1 : Int) / 256 := by omega
    have e2 : ((q - 8 : Nat) : Int) = (q : Int) - 8 := by omega
    rw [e1, e2]
    simpa using h2
  · have h3 := ownsRow_setCell_other (ownsRow_setCell_other (ownsRow_setCell_other hown1 (a := ⟨g, 0, none⟩) (fun h => hne1 h.symm) (.slice A (l1.length + 1) c)) (a := ⟨g, 1, none⟩) (fun h => hne1 h.symm) (.int .u64 ((rest1 : Int) / 256))) (a := ⟨g, 2, none⟩) (fun h => hne1 h.symm) (.int .i64 ((q : Int) - 8))
    rw [bvals_append, List.length_append]
    exact h3
  · rw [hpow] at hr; omega
  · rw [hN, num_snoc, List.length_append, List.length_singleton, Nat.pow_succ, hb, Nat.add_assoc, Nat.mul_assoc, ← Nat.mul_add]
    congr 2; omega
  · rw [hn, List.length_append, List.length_singleton]; omega
  · have h4 : Only (g :: v.ownBlock.toList) w w1 := (hs.1.alloc o).drew.grown hgrow (by
      intro k hk hlt
      rcases hs.2 k hk with h | h
      · simp [h]
      · omega)
    exact ((h4.setCell (by simp) _).setCell (by simp) _).setCell (by simp) _
  · intro k hk
    rcases hat with h | h
    · rw [h] at hk; exact hs.2 k hk
    · rw [h] at hk
      right
      have h5 : (wr.alloc o).drew.heap.size = k := by injection hk
      have h6 : wr.heap.size + 1 = k := by rw [← h5]; simp
      have := hs.1.size
      omega

set_option maxRecDepth 100000 in
set_option maxHeartbeats 2000000 in
theorem wbits_any (g : Nat) (v : Value) (l : List UInt8) (rest cnt N n : Nat) (x k : Nat) (w : World) (hW : WrL w g v l rest cnt N n) (hc : cnt < 8) (hx : x < 4294967296) (hk0 : 1 ≤ k) (hk1 : k ≤ 32) (hn : n + k ≤ 140737488355328) :
    Calls Tryd.prog 22 #[.pointer (some ⟨g, 0, none⟩), .int .u32 x, .int .i64 k] w fun e w' =>
      e = .returned (.tuple #[]) ∧ ∃ v', Wr w' g v' (N + (x % 2 ^ k) * 2 ^ n) (n + k) ∧ WSince w g v w' v' := by
  have c0 : w.cell? ⟨g, 0, none⟩ = some v := hW.1.cell 0
  have c1 : w.cell? ⟨g, 1, none⟩ = some (.int .u64 (rest : Int)) := hW.1.cell 1
  have c2 : w.cell? ⟨g, 2, none⟩ = some (.int .i64 (cnt : Int)) := hW.1.cell 2
  have f1 : w.frozen? ⟨g, 1, none⟩ = false := hW.1.free 1
  have f2 : w.frozen? ⟨g, 2, none⟩ = false := hW.1.free 2
  obtain ⟨X, hX⟩ : ∃ X, X = x % 2 ^ k := ⟨_, rfl⟩
  obtain ⟨Y, hY⟩ : ∃ Y, Y = rest + X * 2 ^ cnt := ⟨_, rfl⟩
  have hX32 : X < 2 ^ k := by rw [hX]; exact Nat.mod_lt _ (Nat.two_pow_pos k)
  have hr : rest < 2 ^ cnt := hW.2.2.1
  have hXm : X * 2 ^ cnt + 2 ^ cnt ≤ 2 ^ (cnt + k) := by
    rw [Nat.pow_add, Nat.mul_comm (2 ^ cnt), ← Nat.succ_mul]; exact Nat.mul_le_mul_right _ hX32
  have h39 : 2 ^ (cnt + k) ≤ 1099511627776 := pow_le40 (by omega)
  have e1 : IntKind.u64.wrap ((X : Int) * 2 ^ cnt) = (X : Int) * 2 ^ cnt := by
    rw [← two_pow_cast, ← Int.natCast_mul]; exact IntWalk.u64_in _ ⟨by omega, by omega⟩
  have e2 : bits .or .u64 (rest : Int) ((X : Int) * 2 ^ cnt) = (Y : Int) := by
    rw [hY, ← two_pow_cast, ← Int.natCast_mul]; exact u64_join _ _ _ hr (by omega)
  have e0 : IntKind.u64.wrap (x : Int) = x := IntWalk.u64_in _ ⟨by omega, by omega⟩
  have e3 : (cnt : Int) + k = ((cnt + k : Nat) : Int) := rfl
  have hYlt : Y < 2 ^ (cnt + k) := by omega
  have hstart : ∀ d, WLoop w g v (N + (x % 2 ^ k) * 2 ^ n) (n + k) (cnt + k) (((w.setCell ⟨g, 1, none⟩ (.int .u64 (Y : Int))).setCell ⟨g, 2, none⟩ (.int .i64 ((cnt : Int) + k))).drewN d) := by
    intro d
    obtain ⟨hh, hown, _, hN, hn'⟩ := hW
    have hb := own_ne hown hh (by decide)
    refine ⟨v, l, Y, ⟨?_, ?_, hYlt, ?_, ?_⟩, by omega, hn, ?_, fun b hb => .inl hb⟩
    · have h2 := (hh.set 1 (.int .u64 (Y : Int))).set 2 (.int .i64 ((cnt : Int) + k))
      exact (by simpa using h2 : Has _ g 88 #[v, .int .u64 (Y : Int), .int .i64 ((cnt : Int) + k)]).drewN d
    · exact ownsRow_setCell_other (ownsRow_setCell_other hown (fun h => hb h.symm) _) (fun h => hb h.symm) _
    · rw [hN, hn', hY, hX, Nat.mul_add, Nat.pow_add, pow_256]
      generalize x % 2 ^ k = X
      rw [Nat.mul_left_comm X, Nat.add_assoc]
    · rw [hn']; omega
    · exact (((Only.refl _ _).setCell (by simp) _).setCell (by simp) _).drewN d
  have HS := hide hstart
  have HX := hide hX
  clear hX hY hstart
  clear hW e3
  go_enter Tryd.func22, Tryd.ntmps22
  go_wp2_with fail
  go_still_tail 16, (by kernel_rfl)
  still_call ((lowest_any (x : Int) x k w.drew rfl (by omega) hk1).mono (fun e w' h => ⟨h.1.trans (by rw [← HX.out]), h.2.symm⟩))
  repeat still_step
  refine wpStill_nil ?_
  change wpList _ _ _ _ _ w.drew
  go_wp2_with fail
  go_loopg [41] (cnt + k) (fun q _ wr => WLoop w g v (N + (x % 2 ^ k) * 2 ^ n) (n + k) q wr)
  case atStart => exact HS.out 1
  case round =>
    obtain ⟨v1, l1, rest1, ⟨hh, hown, hr1, hN1, hn1⟩, hq, hmax, hs⟩ := hrel
    by_cases h8 : 8 ≤ gk
    · have c0 : wr.cell? ⟨g, 0, none⟩ = some v1 := hh.cell 0
      have c1 : wr.cell? ⟨g, 1, none⟩ = some (.int .u64 (rest1 : Int)) := hh.cell 1
      have c2 : wr.cell? ⟨g, 2, none⟩ = some (.int .i64 (gk : Int)) := hh.cell 2
      have f0 : wr.frozen? ⟨g, 0, none⟩ = false := hh.free 0
      have hb := own_ne hown hh (by decide)
      have glt := hh.lt
      obtain ⟨by1, hby⟩ : ∃ b : UInt8, b.toNat = rest1 % 256 := ⟨UInt8.ofNat rest1, by simp⟩
      have e8 : IntKind.u8.wrap (rest1 : Int) = (by1.toNat : Int) := by
        rw [IntKind.wrap_u8, hby]; omega
      have HB := hide hby
      clear hby
      obtain ⟨i0, hi0, hz0, hz1, hz2⟩ := info_of u8_info
      have hlen : l1.length ≤ 140737488355327 := by omega
      have HN := hide (And.intro hN1 hn1)
      clear hN1 hn1
      go_wp2_with fail
      have hone : ∀ u ∈ [Value.int .u8 (by1.toNat : Int)], u.oneCell' = true := by simp [Value.oneCell']
      have hroom : (l1.length + 1) * 1 ≤ 140737488355328 := by omega
      have hnew : Holds (wr.alloc (.cells #[.int .u8 (by1.toNat : Int)] 5)).drew 1 (some ⟨wr.heap.size, 0, none⟩) 1 [.int .u8 (by1.toNat : Int)] :=
        Holds.lit wr #[.int .u8 (by1.toNat : Int)] 5
      have hold : (wr.alloc (.cells #[.int .u8 (by1.toNat : Int)] 5)).drew.ownsRow 0 5 1 v1 l1.length (bvals l1) := hown.alloc _
      have hhas : Has (wr.alloc (.cells #[.int .u8 (by1.toNat : Int)] 5)).drew g 88 #[v1, .int .u64 (rest1 : Int), .int .i64 (gk : Int)] := hh.alloc _
      go_region_law ((refine step_append _ rfl (.tmp 45) (.tmp 51) 22 rfl 0 1 1 Tryd.underlying22 hi0 hz0 hz1 hz2 rfl (Nat.zero_lt_one) hold rfl hnew rfl hone hroom (Nat.zero_lt_one) (Nat.zero_le _) ?_; intro A2 cc2 w1 hown1 hgrow hat; have cw0 : w1.cell? ⟨g, 0, none⟩ = some v1 := (hhas.grown hgrow hb).cell 0; have fw0 : w1.frozen? ⟨g, 0, none⟩ = false := (hhas.grown hgrow hb).free 0; have cw1 : w1.cell? ⟨g, 1, none⟩ = some (.int .u64 (rest1 : Int)) := (hhas.grown hgrow hb).cell 1; have fw1 : w1.frozen? ⟨g, 1, none⟩ = false := (hhas.grown hgrow hb).free 1; have cw2 : w1.cell? ⟨g, 2, none⟩ = some (.int .i64 (gk : Int)) := (hhas.grown hgrow hb).cell 2; have fw2 : w1.frozen? ⟨g, 2, none⟩ = false := (hhas.grown hgrow hb).free 2))
      all_goals go_wp2
      all_goals
        go_roundg (gk - 8)
        case measure => omega
        case rel => exact WLoop.step ⟨hh, hown, hr1, HN.out.1, HN.out.2⟩ hq h8 hmax hs HB.out hown1 hgrow hat
    · have c2 : wr.cell? ⟨g, 2, none⟩ = some (.int .i64 (gk : Int)) := hh.cell 2
      have h8' : gk < 8 := by omega
      have HN := hide (And.intro hN1 hn1)
      clear h8 hN1 hn1
      go_wp2_with fail
      go_end0
      exact ⟨rfl, v1, ⟨l1, rest1, gk, ⟨hh, hown, hr1, HN.out.1, HN.out.2⟩, h8'⟩, hs⟩
end Go.Proofs.YtglkfgpefpebmaaDoor
