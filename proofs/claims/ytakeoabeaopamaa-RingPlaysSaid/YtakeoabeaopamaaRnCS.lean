/-
  Package ring, of texts: New, pushOut.
-/
import Derived.Test.YtakeoabeaopamaaRnBS
import Derived.Test.YtakeoabeaopamaaRnP
import Derived.Test.YtakeoabeaopamaaTail
namespace Go.Proofs.Ytakeoabeaopamaa
open Go Go.RowKit

set_option maxHeartbeats 4000000 in
theorem new_rs (M : Nat) (hM : M ≤ 65536) (w : World) :
    Calls Try.prog 19 #[.int .i64 M] w fun e w' => e = .returned (.tuple #[.pointer (some ⟨w.heap.size, 0, none⟩), .int .i64 0]) ∧ Rg 57 9 w' w.heap.size w.heap.size M 0 0 none 0 [] [] 0 ∧ Only [] w w' := by
  have k1 : ¬ (M : Int) < 0 := by omega
  have k2 : ¬ (M : Int) > 65536 := by omega
  go_enter Try.func19, Try.ntmps19
  go_wp2_with fail
  go_ret2
  refine ⟨rfl, ⟨Has.new w _ _, ⟨rfl, .inl ⟨rfl, rfl⟩⟩, Nat.le_refl _, Nat.zero_le _, hM, Nat.le_refl _, .inr rfl, fun _ => rfl, fun i u h => by simp at h⟩, (Only.refl _ _).alloc _⟩

set_option maxRecDepth 100000 in
set_option maxHeartbeats 4000000 in
theorem pushOut_rs {w : World} {B g M n c f k : Nat} {A : Option Addr} {xs l : List Value} (h : Rg 57 9 w B g M n c A f xs l k) (x : ByteArray) (y : Value) (hl : l.length = n) (hM : n = M) (hy : l[0]? = some y) (hk : k ≤ 1000000) :
    Calls Try.prog 27 #[.pointer (some ⟨g, 0, none⟩), (Value.string x)] w fun e w' => e = .returned y ∧ Rg 57 9 w' B g M n c A ((f + 1) % n) (xs.set f (Value.string x)) (l ++ [(Value.string x)]).tail (k + 1) ∧ Tn [g] w (.slice A n c) w' (.slice A n c) := by
  have hn : 0 < n := by have := (List.getElem?_eq_some_iff.1 hy).1; omega
  have hf : f < n := by have := h.first; omega
  obtain ⟨b, rfl, hB, hlt, hfr, hc⟩ := own_open h.own hn
  have hbg : b ≠ g := fun e => own_ne h.own h.box (by decide) (by rw [e]; rfl)
  have hu := h.spot 0 y hy
  rw [Nat.add_zero, Nat.mod_eq_of_lt hf] at hu
  have hu := hc _ _ hu
  have c1 : w.cell? ⟨g, 1, none⟩ = some (.slice (some ⟨b, 0, none⟩) n c) := h.box.cell 1
  have c2 : w.cell? ⟨g, 2, none⟩ = some (.int .i64 f) := h.box.cell 2
  have f2 := h.box.free 2
  have hfr := hfr f
  have hf6 : (f : Int) < (n : Int) := by omega
  have hn6 : n ≤ 65536 := by have := h.most; have := h.top; omega
  have hfn : f ≤ 65536 := by omega
  have hb1 := (h.box.other (p := ⟨b, f, none⟩) (fun e => hbg e.symm) (Value.string x)).drew.drew
  have ho1 := own_keep (own_set h.own f (Value.string x)) (((Only.refl [] _).drew).drew) (by simp)
  have hO := (((Only.refl [g, b] w).setCell (p := ⟨b, f, none⟩) (by simp) (Value.string x)).drew).drew
  obtain ⟨W1, hW⟩ : ∃ W1, W1 = (w.setCell ⟨b, f, none⟩ (Value.string x)).drew.drew := ⟨_, rfl⟩
  rw [← hW] at hb1 ho1 hO
  have HW := hide hW
  have HM := hide hM
  clear hW hM
  have HS := hide (slot_rs (hb1.cell 1) (hb1.cell 2) hfn hn6 1 (by omega) hn)
  rw [show ((1 : Nat) : Int) = 1 from rfl] at HS
  have HH := hide (And.intro h (And.intro hb1 (And.intro ho1 hO)))
  clear h hB hlt hc hb1 ho1 hO
  go_enter Try.func27, Try.ntmps27
  go_wp2_with fail
  go_region
  go_wp2_with fail
  go_region
  go_wp2_with fail
  rw [← HW.out]
  go_wp2_with fail
  refine (HS.out).mono ?_
  rintro e w2 ⟨rfl, ho⟩
  obtain ⟨h, hb1, ho1, hO⟩ := HH.out
  have hb2 := hb1.only ho (by simp)
  have ho2 := own_keep ho1 ho (by simp)
  have hO2 := hO.trans ho (S := [g, b]) (by simp)
  have g2 : w2.cell? ⟨g, 2, none⟩ = some (.int .i64 f) := hb2.cell 2
  have z2 : w2.frozen? ⟨g, 2, none⟩ = false := hb2.free 2
  have g4 : w2.cell? ⟨g, 4, none⟩ = some (.int .i64 k) := hb2.cell 4
  have z4 : w2.frozen? ⟨g, 4, none⟩ = false := hb2.free 4
  have kw : IntKind.i64.wrap ((k : Int) + 1) = (k : Int) + 1 := IntWalk.i64_in _ ⟨by omega, by omega⟩
  have hb3 := (hb2.set 2 (.int .i64 ((f + 1) % n : Nat))).set 4 (.int .i64 (k + 1 : Nat))
  have hne : ∀ b', (Value.slice (some ⟨b, 0, none⟩) n c).ownBlock = some b' → b' ∉ [g] := by
    intro b' hb'
    have : b = b' := by simpa [Value.ownBlock] using hb'
    subst this
    simp [hbg]
  have hS3 : Only [g] w2 ((w2.setCell ⟨g, 2, none⟩ (.int .i64 ((f + 1) % n : Nat))).setCell ⟨g, 4, none⟩ (.int .i64 (k + 1 : Nat))) := ((Only.refl [g] w2).setCell (p := ⟨g, 2, none⟩) (by simp) _).setCell (p := ⟨g, 4, none⟩) (by simp) _
  have ho3 := own_keep ho2 hS3 hne
  have hO3 := hO2.trans hS3 (S := [g, b]) (by simp)
  have HF := hide (And.intro h (And.intro hb3 (And.intro ho3 hO3)))
  clear h hb1 ho1 hO hb2 ho2 hO2 hb3 ho3 hO3 hS3 hne HH ho HW c1 c2
  go_wp2_with fail
  go_ret
  obtain ⟨h, hb3, ho3, hO3⟩ := HF.out
  have hM := HM.out
  have e2 : (((f + 1) % n : Nat) : Int) = ((f : Int) + 1) % (n : Int) := by rw [Int.natCast_emod, Int.natCast_add]; rfl
  rw [← e2]
  refine ⟨rfl, ⟨?_, ho3, h.base, h.most, h.top, ?_, .inl (Nat.mod_lt _ hn), fun hlt => ?_, spot_out _ ?_ hl hf h.spot⟩, ⟨hO3, fun b h => .inl h⟩⟩
  · have e1 : (l ++ [Value.string x]).tail.length = l.length := by simp
    rw [e1]
    exact hb3
  · simp [hl]
  · omega
  · have := h.own.1; omega
end Go.Proofs.Ytakeoabeaopamaa
