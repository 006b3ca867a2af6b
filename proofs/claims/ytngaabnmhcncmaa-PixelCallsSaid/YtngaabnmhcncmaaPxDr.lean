/-
  Package pixel: rows drawn over rows.
-/
import Derived.Test.YtngaabnmhcncmaaPxSa
namespace Go.Proofs.Ytngaabnmhcncmaa
open Go Go.RowKit

theorem at4_drop (l : List UInt8) (p q : Nat) : at4 (l.drop (4 * p)) q = at4 l (p + q) := by
  unfold at4
  rw [getD_drop, getD_drop, getD_drop, getD_drop, Nat.mul_add]
  simp only [Nat.add_assoc]

/-- Where drawRow's loop stands. -/
structure DrSt (w : World) (g n cc B K base a : Nat) (s R : List UInt8) (tv fv : Value) (wr : World) (u q cb : Nat) (X Y : Option Addr) (m : List UInt8) : Prop where
  le : u ≤ K
  tail : IsTail (some ⟨g, 0, none⟩) (4 * (base + a)) K u tv X q
  fval : fv = .slice Y (4 * (K - u)) cb
  cap : 4 * (K - u) ≤ cb
  hs : Holds wr 1 Y (4 * (K - u)) (bvals (s.drop (4 * u)))
  ne : ∀ ad, Y = some ad → 0 < 4 * (K - u) → ad.block ≠ g
  mlen : m.length = n
  own : wr.ownsRow B 5 1 (.slice (some ⟨g, 0, none⟩) n cc) n (bvals m)
  done : rowF (fun i c => over c (at4 s (i - a))) base m (a + u) (K - u) = R
  only : Only [g] w wr

set_option maxRecDepth 100000 in
set_option maxHeartbeats 4000000 in
theorem drawRow_any (g n cc B K base a : Nat) (m s : List UInt8) (Y : Option Addr) (w : World) (ho : w.ownsRow B 5 1 (.slice (some ⟨g, 0, none⟩) n cc) n (bvals m)) (hm : m.length = n) (hfit : 4 * (base + a + K) ≤ n)
    (hs : Holds w 1 Y (4 * K) (bvals s)) (hsl : s.length = 4 * K) (hne : ∀ ad, Y = some ad → 0 < 4 * K → ad.block ≠ g) :
    Calls Try.prog 57 #[rowV (some ⟨g, 0, none⟩) (4 * (base + a)) (4 * K), .slice Y (4 * K) (4 * K)] w fun e w' => e = .returned (.tuple #[]) ∧
      w'.ownsRow B 5 1 (.slice (some ⟨g, 0, none⟩) n cc) n (bvals (rowF (fun i c => over c (at4 s (i - a))) base m a K)) ∧ Only [g] w w' := by
  obtain ⟨R, hR⟩ : ∃ R, R = rowF (fun i c => over c (at4 s (i - a))) base m a K := ⟨_, rfl⟩
  rw [← hR]
  have T0 := IsTail.start (some ⟨g, 0, none⟩) (4 * (base + a)) K
  generalize rowV (some ⟨g, 0, none⟩) (4 * (base + a)) (4 * K) = v0 at *
  have HI := hide (And.intro hsl (And.intro hfit (And.intro T0 (And.intro ho (And.intro hm (And.intro hs (And.intro hne hR)))))))
  clear ho hm hfit hs hsl hne hR T0
  go_enter Try.func57, Try.ntmps57
  go_wp2_with fail
  go_loopw [0, 1] (fun tv fv wr => ∃ (u q cb : Nat) (X Y : Option Addr) (m : List UInt8), DrSt w g n cc B K base a s R tv fv wr u q cb X Y m) (fun tv _ _ => slen tv)
  case atStart =>
    obtain ⟨hsl, hfit, T0, ho, hm, hs, hne, hR⟩ := HI.out
    exact ⟨0, _, 4 * K, _, Y, m, Nat.zero_le _, T0, rfl, Nat.le_refl _, by rw [Nat.mul_zero, List.drop_zero]; exact hs, hne, hm, ho, hR.symm, Only.refl _ _⟩
  case round =>
    obtain ⟨u, q, cb, X, Y, m, S⟩ := hrel
    have htv := S.tail.val
    have hq := S.tail.len
    have hfv := S.fval
    by_cases hlt : u < K
    · obtain ⟨X', q', hT', hrunA⟩ := S.tail.step hlt
      have hdl : (s.drop (4 * u)).length = 4 * (K - u) := by rw [List.length_drop, HI.out.1]; omega
      obtain ⟨Y', cb', hrunB, hB', hcb', hblk⟩ := run_from S.hs hdl S.cap 4 (by omega)
      have hX := S.tail.addr hlt
      obtain ⟨p, hp⟩ : ∃ p, p = base + (a + u) := ⟨_, rfl⟩
      rw [Option.map_some, add_zero_of, show 4 * (base + a) + 4 * u = 4 * p by omega] at hX
      have hfit := HI.out.2.1
      have hrow := (Holds.of_own S.own).row (4 * p) q (by omega)
      rw [Option.map_some, add_zero_of] at hrow
      have HA := hide (first_any (some ⟨g, 4 * p, none⟩) q q _ wr hrow (by rw [List.length_take, List.length_drop, S.mlen]; omega) (by omega))
      rw [at4_row m p 0 q (by omega), Nat.add_zero] at HA
      have HB := hide (fun w' (h : Only [] wr w') => first_any Y (4 * (K - u)) cb _ w' (S.hs.keep h (by simp)) hdl (by omega))
      rw [at4_drop, Nat.add_zero] at HB
      have HO := hide (fun w => over_any (at4 m p) (at4 s u) w)
      have HL := hide (fun w' (h : Only [] wr w') => lay_any g p n cc q q B m (over (at4 m p) (at4 s u)) w' (own_keep S.own h (by simp)) S.mlen (by omega) (by omega))
      have hnext : rowF (fun i c => over c (at4 s (i - a))) base (put4 m p (over (at4 m p) (at4 s u))) (a + (u + 1)) (K - (u + 1)) = R := by
        have hd := S.done
        rw [show K - u = (K - (u + 1)) + 1 by omega, rowF, ← hp, show a + u - a = u by omega] at hd
        exact hd
      obtain ⟨N, hN⟩ : ∃ N, N = 4 * (K - u) := ⟨_, rfl⟩
      have HS := hide (And.intro S (And.intro hnext (And.intro hT' (And.intro hB' (And.intro hcb' (And.intro hblk (And.intro hN (And.intro hlt (And.intro hT'.len hq)))))))))
      rw [← hN] at hfv HB hrunB
      have hrunB : ∀ w' : World, (Instr.slice 22 (.slice Y N cb) (some (.int .i64 4)) none none).run Try.prog w' = .ok (.slice Y' (N - 4) cb') w' := hrunB
      have hq0 : 0 < q := by omega
      generalize at4 m p = c1 at *
      generalize at4 s u = c2 at *
      generalize over c1 c2 = c3 at *
      subst htv
      subst hX
      subst hfv
      clear S hnext hT' hB' hcb' hblk hN hlt hq hdl hrow hfit hp
      go_wp2_with fail
      refine (HA.out).mono ?_
      rintro e w3 ⟨rfl, ho3⟩
      go_wp2_with fail
      refine (HB.out _ ho3).mono ?_
      rintro e w4 ⟨rfl, ho4⟩
      have o4 := ho3.trans ho4 (S := []) (by simp)
      go_wp2_with fail
      refine (HO.out _).mono ?_
      rintro e w5 ⟨rfl, ho5⟩
      have o5 := o4.trans ho5 (S := []) (by simp)
      go_wp2_with fail
      refine (HL.out _ o5).mono ?_
      rintro e w6 ⟨rfl, how6, ho6⟩
      have H6 := hide (And.intro how6 ((o5.of_nil (T := [g])).trans ho6 (by simp)))
      clear how6 ho6 o4 o5 ho3 ho4 ho5 HA HB HO HL
      go_wp2_with fail
      go_quiet (fail)
      go_roundw
      case rel =>
        obtain ⟨S, hnext, hT', hB', hcb', hblk, hN, hlt, _, _⟩ := HS.out
        have o6 := H6.out.2.drewN nq
        have e4 : 4 * (K - u) - 4 = 4 * (K - (u + 1)) := by omega
        rw [e4] at hB' hcb'
        rw [List.drop_drop, show 4 * u + 4 = 4 * (u + 1) by omega] at hB'
        have hne' : ∀ ad, Y' = some ad → 0 < 4 * (K - (u + 1)) → ad.block ≠ g := fun ad had h0 => by
          obtain ⟨ad0, h1, h2⟩ := hblk ad had
          rw [h2]; exact S.ne ad0 h1 (by omega)
        refine ⟨_, _, _, _, _, _, _, _, _, _, _, _, _, _, _, _, ?_, rfl⟩
        exact ⟨u + 1, q', cb', X', Y', _, hlt, hT', by rw [hN, e4], hcb', hB'.keepPos o6 (fun h0 ad had _ => by simp; exact hne' ad had h0), hne', by rw [put4_length]; exact S.mlen, H6.out.1, hnext, S.only.trans o6 (by simp)⟩
      case measure => have := HS.out.2.2.2.2.2.2; simp [slen]; omega
    · obtain rfl : u = K := by have := S.le; omega
      have hd := S.done
      rw [Nat.sub_self] at hd
      have hd : m = R := hd
      have hq0 : q = 0 := by omega
      subst hq0
      subst hd
      subst htv
      have HS := hide S
      clear S hq hfv
      go_wp2_with fail
      go_end0
      exact ⟨rfl, HS.out.own, HS.out.only⟩
end Go.Proofs.Ytngaabnmhcncmaa
