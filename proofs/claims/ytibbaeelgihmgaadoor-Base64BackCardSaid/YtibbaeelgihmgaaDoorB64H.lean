/-
  Contracts of package base64: Encode, whole.
-/
import Derived.Test.YtibbaeelgihmgaaDoorB64G
namespace Go.Proofs.YtibbaeelgihmgaaDoor
open Go Go.RowKit

def slen : Value → Nat
  | .slice _ n _ => n
  | _ => 0

/-- A call that makes a row of bytes: these; of what was there nothing has turned. -/
def Makes (x : List UInt8) (w : World) (e : Ending) (w' : World) : Prop :=
  ∃ v', e = .returned v' ∧ w'.ownsRow w.heap.size 5 1 v' x.length (bvals x) ∧ Only [] w w'

set_option maxHeartbeats 2000000 in
theorem encode_any (A : Option Addr) (n c : Nat) (l : List UInt8) (w : World) (T : Tab w) (hb : Holds w 1 A n (bvals l)) (hl : l.length = n) (hn : n ≤ 100000) (hc : n ≤ c) :
    Calls Tryd.prog 19 #[.slice A n c] w (Makes (enc l) w) := by
  have HE := hide (And.intro T (And.intro hb hl))
  have hB2 : 1 < w.heap.size := by have := T.lt1; omega
  clear T hb hl
  obtain ⟨i0, hi0, hz0, hz1, hz2⟩ := info_of u8_info
  go_enter Tryd.func19, Tryd.ntmps19
  go_wp2_with (at_make; refine wpList_make_own _ rfl _ _ _ rfl w.heap.size 5 i0 (.int .u8 0) 1 Tryd.underlying28 hi0 hz0 hz1 .i64 .i64 _ ((n + 2) / 3 * 4) rfl rfl (by omega) (by rw [hz2]; omega) (by unfold maxLen; omega) (Nat.le_refl _) ?_; intro w2 hown2 hgr2; have H2 := hide (And.intro hown2 hgr2); clear hown2 hgr2)
  go_loopw [0, 3] (fun b o wr => ∃ (L : List UInt8) (d c' : Nat) (A' : Option Addr) (vr : Value) (q : List UInt8), d ≤ n ∧ b = .slice A' d c' ∧ o = vr ∧ L.length = d ∧ Holds w 1 A' d (bvals L) ∧ d ≤ c' ∧ wr.ownsRow w.heap.size 5 1 vr q.length (bvals q) ∧ q ++ enc L = enc l ∧ Only [] w wr) (fun b _ _ => slen b)
  case atStart => exact ⟨l, n, c, A, _, [], Nat.le_refl _, rfl, rfl, HE.out.2.2, HE.out.2.1, hc, H2.out.1, rfl, (Only.refl [] w).grown H2.out.2 (by simp)⟩
  case round =>
    obtain ⟨L, d, c', A', vr, q, hd, rfl, rfl, hL, hbL, hdc, hownr, heq, hon⟩ := hrel
    have hle := congrArg List.length heq
    rw [List.length_append, enc_length l, HE.out.2.2] at hle
    have hql : q.length ≤ 1000000 := by omega
    clear hle
    have hTr := HE.out.1.only hon (by simp) (by simp)
    by_cases hlt : 0 < d
    · obtain ⟨A1, cc1, rfl, _, _⟩ := own_shape hownr
      have hst := enc_step L (fun h => by rw [h] at hL; simp at hL; omega)
      obtain ⟨m, hm⟩ : ∃ m, m = min d 3 := ⟨_, rfl⟩
      have hmin : (if (3 : Int) < (d : Int) then (3 : Int) else (d : Int)) = (m : Int) := by split <;> omega
      have h4 : L.take 3 = L.take m := by
        by_cases h : d ≤ 3
        · rw [List.take_of_length_le (by omega), List.take_of_length_le (by omega)]
        · have : m = 3 := by omega
          rw [this]
      have h5 : L.drop 3 = L.drop m := by
        by_cases h : d ≤ 3
        · rw [List.drop_of_length_le (by omega), List.drop_of_length_le (by omega)]
        · have : m = 3 := by omega
          rw [this]
      rw [h4, h5] at hst
      have hm3 : m ≤ 3 := by omega
      have hmd : m ≤ d := by omega
      have hm0 : 0 < m := by omega
      obtain ⟨A2, c2, hfr, hh2, hdc2, _⟩ := run_from hbL hL hdc m hmd
      have hup := run_upto A' d c' m (by omega)
      have hlen : (L.take m).length = m := by rw [List.length_take]; omega
      have hlf := layFour_any (.slice A1 q.length cc1) q A' m c' (L.take m) wr hTr w.heap.size hon.size hB2 hownr hql ((hbL.keep hon (by simp)).upto m hmd) hlen hm3
      have hBr := hon.size
      have HF := hide (And.intro hlf (And.intro hst (And.intro heq (And.intro hh2 (And.intro hon hL)))))
      have HR := hide hownr.lt
      clear hlf hst heq hh2 hon hL hbL hownr hTr h4 h5 hlen hm
      go_wp2_with fail
      refine (HF.out.1).mono ?_
      rintro e w3 ⟨v3', rfl, ho3, hs3⟩
      have H3 := hide (And.intro ho3 hs3)
      clear ho3 hs3
      go_wp2_with fail
      go_roundw
      case rel =>
        refine ⟨L.drop m, d - m, c2, A2, _, q ++ four (L.take m), by omega, rfl, rfl, by rw [List.length_drop, HF.out.2.2.2.2.2], HF.out.2.2.2.1, hdc2, H3.out.1, ?_, ?_⟩
        · rw [List.append_assoc, ← HF.out.2.1]; exact HF.out.2.2.1
        · refine HF.out.2.2.2.2.1.trans H3.out.2.only ?_
          intro i hi hlt
          have hb : (Value.slice A1 q.length cc1).ownBlock = some i := by simpa using hi
          have := HR.out i hb
          omega
      case measure => show d - m < d; omega
    · obtain rfl : d = 0 := by omega
      obtain rfl : L = [] := List.eq_nil_of_length_eq_zero hL
      have hq : q = enc l := by simpa [enc] using heq
      subst hq
      have HN := hide (And.intro hownr hon)
      clear hownr hon heq hL hbL hTr hlt
      go_wp2_with fail
      go_ret
      exact ⟨_, rfl, HN.out.1, HN.out.2⟩
end Go.Proofs.YtibbaeelgihmgaaDoor
