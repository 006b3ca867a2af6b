import Derived.Test.YtheipfcbpjfohaaRev
import Derived.Test.YtheipfcbpjfohaaReadD
import Derived.Test.YtheipfcbpjfohaaWriteB
import Derived.Test.YtheipfcbpjfohaaStr
namespace Go.Proofs.Ytheipfcbpjfohaa
open Go Go.RowKit

theorem bits_at (g : Nat) (v : Value) (l : List UInt8) (k : Nat) (n : Int) (w : World) (hR : Rd w g v l k) (x : Nat) (b : Bool) (k' : Nat) (hx : gotBits l k n = x) (hb : okBits l.length k n = b) (hk : (if okBits l.length k n then k + n.toNat else k) = k') :
    Calls Try.prog 11 #[.pointer (some ⟨g, 0, none⟩), .int .i64 n] w fun e w' =>
      e = .returned (.tuple #[.int .u32 x, .bool b]) ∧ Only [g] w w' ∧ Rd w' g v l k' := by
  have h := bits_any g v l k n w hR
  rw [hk, hx, hb] at h
  exact h

theorem Wr.only {w w' : World} {g : Nat} {v : Value} {N n : Nat} {S : List Nat} (h : Wr w g v N n) (ho : Only S w w') (hg : g ∉ S) (hv : ∀ b, v.ownBlock = some b → b ∉ S) : Wr w' g v N n := by
  obtain ⟨l, rest, cnt, ⟨h1, h2, h3⟩, hc⟩ := h
  exact ⟨l, rest, cnt, ⟨h1.only ho hg, own_keep h2 ho hv, h3⟩, hc⟩
theorem Wr.lt {w : World} {g : Nat} {v : Value} {N n : Nat} (h : Wr w g v N n) : g < w.heap.size := by
  obtain ⟨l, rest, cnt, ⟨h1, _⟩, _⟩ := h; exact h1.lt

set_option maxHeartbeats 1000000 in
theorem known_any (w : World) : Calls Try.prog 9 #[] w fun e w' => e = .returned (.bool true) ∧ Only [] w w' := by
  have hlit : Holds (w.alloc (.cells #[.int .u8 181, .int .u8 3] 5)) 1 (some ⟨w.heap.size, 0, none⟩) 2 (bvals [181, 3]) := Holds.lit w #[.int .u8 181, .int .u8 3] 5
  have hn1 : ∀ (g : Nat) (w : World), (binOp .eql 25 (.pointer (some ⟨g, 0, none⟩)) (.pointer none)).run Try.prog w = .ok (.bool false) w := fun g w => by kernel_rfl
  have hn2 : ∀ (g : Nat) (w : World), (binOp .eql 41 (.pointer (some ⟨g, 0, none⟩)) (.pointer none)).run Try.prog w = .ok (.bool false) w := fun g w => by kernel_rfl
  go_enter Try.func9, Try.ntmps9
  go_wp2_with fail
  refine (newReader_any _ 2 _ [181, 3] _ hlit rfl (by decide) (by simp)).mono ?_
  rintro e w1 ⟨g, v, rfl, hg, hv, hR, ho1⟩
  go_wp2_with fail
  refine (newWriter_any _).mono ?_
  rintro e w2 ⟨gw, rfl, hgw, hW, ho2⟩
  have hglt : g < w1.heap.size := hR.1.lt
  have hR2 := hR.only ho2 (by simp) (by simp)
  go_wp2_with fail
  refine (bits_at g v _ 0 3 _ hR2 5 true 3 (by decide +kernel) (by decide +kernel) (by decide +kernel)).mono ?_
  rintro e w3 ⟨rfl, ho3, hR3⟩
  go_wp2_with fail
  refine (bits_at g v _ 3 7 _ hR3 118 true 10 (by decide +kernel) (by decide +kernel) (by decide +kernel)).mono ?_
  rintro e w4 ⟨rfl, ho4, hR4⟩
  go_wp2_with fail
  refine (bits_at g v _ 10 9 _ hR4 0 false 10 (by decide +kernel) (by decide +kernel) (by decide +kernel)).mono ?_
  rintro e w5 ⟨rfl, ho5, hR5⟩
  go_wp2_with fail
  have hglt2 : g < w2.heap.size := hR2.1.lt
  have hgne : gw ≠ g := by omega
  have hW5 : Wr w5 gw (.slice none 0 0) 0 0 := ((hW.only ho3 (by simpa using hgne) (by simp [Value.ownBlock])).only ho4 (by simpa using hgne) (by simp [Value.ownBlock])).only ho5 (by simpa using hgne) (by simp [Value.ownBlock])
  refine (wBits gw _ 0 0 5 3 _ hW5 (by decide) (by decide)).mono ?_
  rintro e w6 ⟨rfl, v6, hW6, hs6⟩
  have eW : laidN 0 0 5 3 = 5 ∧ laidL 0 3 = 3 := by decide +kernel
  rw [eW.1, eW.2] at hW6
  have hi34 : Holds (w6.alloc (.cells #[.int .i64 3, .int .i64 4] 3)) 1 (some ⟨w6.heap.size, 0, none⟩) 2 (ivals [3, 4]) := Holds.lit w6 #[.int .i64 3, .int .i64 4] 3
  have hm := hide (mul_any _ 2 2 [3, 4] _ hi34 rfl (by decide) (by decide))
  have hmv : mulGo 1 [3, 4] = (12, true) := by decide +kernel
  rw [hmv] at hm
  clear hmv eW
  go_wp2_with fail
  refine (hm.out).mono ?_
  rintro e w7 ⟨rfl, rfl⟩
  go_wp2_with fail
  have hW7 : Wr (w6.alloc (.cells #[.int .i64 3, .int .i64 4] 3)) gw v6 5 3 := hW6.only ((Only.refl [] _).alloc _) (by simp) (by simp)
  refine (wDone gw v6 5 3 _ hW7 (by decide)).mono ?_
  rintro e w8 ⟨rv, bs, rfl, hown8, ho8, hlen8, hnum8⟩
  have hbs : bs = [5] := num_inj (by rw [hlen8]; decide) (by rw [hnum8]; decide)
  subst hbs
  obtain ⟨A8, c8, rfl, _, _⟩ := own_shape hown8
  have hstr : (convert 22 9 (.slice A8 1 c8)).run Try.prog w8 = .ok (.string ⟨#[5]⟩) w8 := run_string_of (Holds.of_own hown8) c8 22 5 9 Try.underlying22 Try.underlying5 Try.underlying9
  go_wp2_with fail
  refine (reverse_any 1 4 _ (by decide)).mono ?_
  rintro e w9 ⟨rfl, rfl⟩
  have hrev : revI 1 4 = 8 := by decide +kernel
  rw [hrev]
  go_wp2_with fail
  go_ret
  refine ⟨rfl, ?_⟩
  have h0 : Only [] w w1 := ((Only.refl [] w).alloc _).trans ho1 (by simp)
  have h1 : Only [] w w2 := h0.trans ho2 (by simp)
  have hsz := ho1.size
  simp only [World.size_alloc] at hg hsz
  have h3 : Only [] w w3 := h1.trans ho3 (by simp; omega)
  have h4 : Only [] w w4 := h3.trans ho4 (by simp; omega)
  have h5 : Only [] w w5 := h4.trans ho5 (by simp; omega)
  have h6 : Only [] w w6 := h5.trans hs6.1 (by simp [Value.ownBlock]; omega)
  exact (h6.alloc _).trans ho8 (by simp)
end Go.Proofs.Ytheipfcbpjfohaa
