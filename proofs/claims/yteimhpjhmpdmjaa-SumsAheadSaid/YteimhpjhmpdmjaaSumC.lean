/-
  Adler's add and Write.
-/
import Derived.Test.YteimhpjhmpdmjaaSumA
namespace Go.Proofs.Yteimhpjhmpdmjaa
open Go Go.RowKit

theorem adFree_snd (p : Nat × Nat) (l : List UInt8) : 2 * (adFree p l).2 ≤ 2 * p.2 + 2 * (l.length * p.1) + 255 * (l.length * (l.length + 1)) := by
  induction l generalizing p with
  | nil => simp [adFree]
  | cons b l ih =>
    have hb := b.toNat_lt
    have h := ih (p.1 + b.toNat, p.2 + (p.1 + b.toNat))
    rw [adFree, List.length_cons]
    refine Nat.le_trans h ?_
    show 2 * (p.2 + (p.1 + b.toNat)) + 2 * (l.length * (p.1 + b.toNat)) + 255 * (l.length * (l.length + 1)) ≤ 2 * p.2 + 2 * ((l.length + 1) * p.1) + 255 * ((l.length + 1) * (l.length + 1 + 1))
    have h3 : l.length * b.toNat ≤ l.length * 255 := Nat.mul_le_mul_left _ (by omega)
    have e1 : l.length * (p.1 + b.toNat) = l.length * p.1 + l.length * b.toNat := Nat.mul_add _ _ _
    have e2 : (l.length + 1) * p.1 = l.length * p.1 + p.1 := by rw [Nat.add_mul, Nat.one_mul]
    have e3 : (l.length + 1) * (l.length + 1 + 1) = l.length * (l.length + 1) + 2 * (l.length + 1) := by
      rw [show l.length + 1 + 1 = l.length + 2 from rfl, Nat.mul_add, Nat.mul_comm (l.length + 1) l.length, Nat.mul_comm (l.length + 1) 2]
    omega

theorem adFree_fit {a t : Nat} (ha : a < 65521) (ht : t < 65521) (l : List UInt8) (hl : l.length ≤ 5552) :
    1 ≤ (adFree (a + 1, t) l).1 ∧ (adFree (a + 1, t) l).1 < 4294967296 ∧ (adFree (a + 1, t) l).2 < 4294967296 := by
  have h1 := adFree_fst (a + 1, t) l
  have h2 := (adFree_le (a + 1, t) l).1
  have h3 := adFree_snd (a + 1, t) l
  have e1 : l.length * (a + 1) ≤ 5552 * 65521 := Nat.mul_le_mul hl (by omega)
  have e2 : l.length * (l.length + 1) ≤ 5552 * 5553 := Nat.mul_le_mul hl (by omega)
  simp only at h1 h2 h3
  omega

theorem adOf_append (l m : List UInt8) : adOf (l ++ m) = adList (adOf l) m := adList_append _ _ _

set_option maxHeartbeats 1000000 in
theorem add_any (g : Nat) (l0 : List UInt8) (A : Option Addr) (n c : Nat) (l : List UInt8) (w : World) (h : Adl w g l0) (hb : Holds w 1 A n (bvals l)) (hl : l.length = n) (hn : n ≤ 5552) :
    Calls Try.prog 18 #[.pointer (some ⟨g, 0, none⟩), .slice A n c] w fun e w' =>
      e = .returned (.tuple #[]) ∧ Adl w' g (l0 ++ l) ∧ Only [g] w w' := by
  subst hl
  obtain ⟨a, ha, ha1, h⟩ := h
  have c0 : w.cell? ⟨g, 0, none⟩ = some (.int .u32 (a : Int)) := h.cell 0
  have c1 : w.cell? ⟨g, 1, none⟩ = some (.int .u32 ((adOf l0).2 : Int)) := h.cell 1
  have f0 : w.frozen? ⟨g, 0, none⟩ = false := h.free 0
  have f1 : w.frozen? ⟨g, 1, none⟩ = false := h.free 1
  have ht := (adOf_lt l0).2
  obtain ⟨t, htt⟩ : ∃ t, t = (adOf l0).2 := ⟨_, rfl⟩
  rw [← htt] at c1 h ht
  have HT := hide (And.intro htt ha1)
  have HH := hide h
  have HB := hide hb
  clear htt ha1 h hb
  go_enter Try.func18, Try.ntmps18
  go_wp2
  go_quiet (fail)
  go_wp2
  go_loop [4, 5, 19] (fun x y i => ∃ j : Nat, j ≤ l.length ∧ i = .int .i64 j ∧ x = .int .u32 ((adFree (a + 1, t) (l.take j)).1 : Int) ∧ y = .int .u32 ((adFree (a + 1, t) (l.take j)).2 : Int)) (fun _ _ i => l.length - (intOf i).toNat)
  case atStart => exact ⟨0, Nat.zero_le _, rfl, rfl, rfl⟩
  case round =>
    obtain ⟨j, hj, rfl, rfl, rfl⟩ := hrel
    have hfit := adFree_fit ha ht (l.take j) (by simp; omega)
    by_cases hlt : j < l.length
    · have hst : adFree (a + 1, t) (l.take (j + 1)) = ((adFree (a + 1, t) (l.take j)).1 + l[j].toNat, (adFree (a + 1, t) (l.take j)).2 + ((adFree (a + 1, t) (l.take j)).1 + l[j].toNat)) := by
        rw [List.take_succ_eq_append_getElem hlt, adFree_append]; rfl
      have hfit2 := adFree_fit ha ht (l.take (j + 1)) (by simp; omega)
      obtain ⟨b, o, rfl, hc2⟩ := HB.out.addr (by simpa using (show 0 < l.length by omega))
      have hcell : w.cell? ⟨b, o + j, none⟩ = some (.int .u8 (l[j].toNat : Int)) := hc2 j _ (bvals_get l j hlt)
      have hx := l[j].toNat_lt
      rw [hst] at hfit2
      have HS := hide hst
      clear hc2 hst
      generalize l[j].toNat = x at *
      generalize adFree (a + 1, t) (l.take j) = p at *
      obtain ⟨p1, p2⟩ := p
      simp only at hfit hfit2 ⊢
      go_wp2
      go_round
      case rel => exact ⟨j + 1, hlt, by go_num, by rw [HS.out]; rfl, by rw [HS.out]; simp⟩
      case measure => simp [intOf]; omega
    · obtain rfl : j = l.length := by omega
      have htk : l.take l.length = l := List.take_length
      rw [htk] at hfit
      rw [htk]
      clear htk
      obtain ⟨p, hp⟩ : ∃ p, p = adFree (a + 1, t) l := ⟨_, rfl⟩
      rw [← hp] at hfit ⊢
      have HP := hide hp
      clear hp hlt
      obtain ⟨p1, p2⟩ := p
      simp only at hfit ⊢
      go_wp2
      have hadl : adOf (l0 ++ l) = (p1 % 65521, p2 % 65521) := by
        rw [adOf_append, show adOf l0 = ((a + 1) % 65521, t % 65521) from Prod.ext HT.out.2.symm (by show (adOf l0).2 = t % 65521; rw [← HT.out.1]; omega), adList_free (a + 1, t) l, ← HP.out]
      have e1 : ((p1 : Int) - 1) % 65521 = (((p1 - 1) % 65521 : Nat) : Int) := by omega
      have e2 : (p2 : Int) % 65521 = ((p2 % 65521 : Nat) : Int) := by omega
      rw [e1, e2]
      have q := ((HH.out.drewN nq).set 0 (.int .u32 (((p1 - 1) % 65521 : Nat) : Int))).set 1 (.int .u32 ((p2 % 65521 : Nat) : Int))
      go_end0
      refine ⟨rfl, ⟨(p1 - 1) % 65521, by omega, ?_, ?_⟩, (((Only.refl _ w).drewN nq).setCell (by simp) _).setCell (by simp) _⟩
      · rw [hadl]; show _ = p1 % 65521; omega
      · rw [hadl]; exact q

theorem Adl.only {w w' : World} {g : Nat} {l : List UInt8} {S : List Nat} (h : Adl w g l) (ho : Only S w w') (hg : g ∉ S) : Adl w' g l := by
  obtain ⟨a, h1, h2, h3⟩ := h
  exact ⟨a, h1, h2, h3.only ho hg⟩
theorem Adl.lt {w : World} {g : Nat} {l : List UInt8} (h : Adl w g l) : g < w.heap.size := by
  obtain ⟨a, h1, h2, h3⟩ := h
  exact h3.lt

set_option maxHeartbeats 1000000 in
theorem adlerWrite_any (g : Nat) (l0 : List UInt8) (A : Option Addr) (n c : Nat) (l : List UInt8) (w : World) (h : Adl w g l0) (hb : Holds w 1 A n (bvals l)) (hl : l.length = n) (hn : n ≤ 140737488355328) (hc : n ≤ c) (hA : 0 < n → ∀ ad, A = some ad → ad.block ≠ g) :
    Calls Try.prog 10 #[.pointer (some ⟨g, 0, none⟩), .slice A n c] w fun e w' =>
      e = .returned (.tuple #[.int .i64 n, .nilIface]) ∧ Adl w' g (l0 ++ l) ∧ Only [g] w w' := by
  subst hl
  have HH := hide h
  have HB := hide hb
  have HA := hide hA
  clear h hb hA
  go_enter Try.func10, Try.ntmps10
  go_wp2
  go_loopw [1] (fun s wr => ∃ (j c' : Nat) (B : Option Addr), j ≤ l.length ∧ s = .slice B (l.length - j) c' ∧ l.length - j ≤ c' ∧ Holds wr 1 B (l.length - j) (bvals (l.drop j)) ∧ (0 < l.length - j → ∀ ad, B = some ad → ad.block ≠ g) ∧ Adl wr g (l0 ++ l.take j) ∧ Only [g] w wr) (fun s _ => match s with | .slice _ n _ => n | _ => 0)
  case atStart => exact ⟨0, c, A, Nat.zero_le _, rfl, hc, by simpa using HB.out, HA.out, by simpa using HH.out, Only.refl _ _⟩
  case round =>
    obtain ⟨j, c', B, hj, rfl, hc', hBj, hne, hAj, hoj⟩ := hrel
    by_cases hlt : j < l.length
    · obtain ⟨r, hr⟩ : ∃ r, r = l.length - j := ⟨_, rfl⟩
      rw [← hr] at hBj hc' hne ⊢
      have hr0 : 0 < r := by omega
      have hrn : r ≤ l.length := by omega
      obtain ⟨b, o, rfl, hcell⟩ := hBj.addr (by simp [bvals]; omega)
      have hne2 := hne hr0 _ rfl
      have HE := hide (And.intro hAj (And.intro hoj hBj))
      have HR := hide (And.intro hr hlt)
      clear hAj hoj hBj hcell hr hne hlt
      by_cases hbig : (5552 : Int) < r
      · have hcut := HE.out.2.2.cut (f := 0) (m := 5552) (by omega)
        have hcut2 := HE.out.2.2.cut (f := 5552) (m := r - 5552) (by omega)
        simp only [List.drop_zero, Nat.mul_one, Option.map_some, add_none, Nat.add_zero] at hcut hcut2
        rw [← bvals_take] at hcut
        have htk : (l.drop (j + 5552)).take (r - 5552) = l.drop (j + 5552) := List.take_of_length_le (by have := HR.out.1; rw [List.length_drop]; omega)
        rw [← bvals_drop, ← bvals_take, List.drop_drop, htk] at hcut2
        have hrj : r - 5552 = l.length - (j + 5552) := by have := HR.out.1; omega
        have HJ := hide hrj
        clear hrj htk
        have HC := hide (And.intro hcut hcut2)
        clear hcut hcut2
        go_wp2_with fail
        refine (add_any g (l0 ++ l.take j) _ 5552 c' ((l.drop j).take 5552) wr HE.out.1 HC.out.1 (by have := HR.out; simp; omega) (by omega)).mono ?_
        rintro e w1 ⟨rfl, hA1, ho1⟩
        have H1 := hide (And.intro hA1 ho1)
        clear hA1 ho1
        go_wp2_with fail
        go_roundw
        case rel =>
          have ⟨q1, q2⟩ := HR.out
          refine ⟨j + 5552, _, _, by omega, by rw [HJ.out], by omega, ?_, fun _ ad ha => ?_, ?_, HE.out.2.1.trans H1.out.2 (by simp)⟩
          · have h3 := (HC.out.2.keep H1.out.2 (by simpa using fun _ => hne2))
            rw [HJ.out] at h3
            exact h3
          · injection ha with ha; subst ha; exact hne2
          · have h3 := H1.out.1
            rw [List.append_assoc, ← List.take_add] at h3
            exact h3
        case measure => show r - 5552 < r; omega
      · go_wp2_with fail
        refine (add_any g (l0 ++ l.take j) _ r c' (l.drop j) wr HE.out.1 HE.out.2.2 (by have := HR.out; simp; omega) (by omega)).mono ?_
        rintro e w1 ⟨rfl, hA1, ho1⟩
        have H1 := hide (And.intro hA1 ho1)
        clear hA1 ho1
        go_wp2_with fail
        go_roundw
        case rel =>
          have ⟨q1, q2⟩ := HR.out
          refine ⟨l.length, _, _, Nat.le_refl _, by rw [Nat.sub_self], by omega, ?_, fun h => by omega, ?_, HE.out.2.1.trans H1.out.2 (by simp)⟩
          · rw [Nat.sub_self, List.drop_length]; exact Holds.empty _ _ _
          · have h3 := H1.out.1
            rw [List.append_assoc, List.take_append_drop] at h3
            rw [List.take_length]
            exact h3
        case measure => show 0 < r; omega
    · obtain rfl : j = l.length := by omega
      have H1 := hide (And.intro hAj hoj)
      clear hBj hAj hoj hne hlt
      rw [Nat.sub_self]
      go_wp2_with fail
      go_ret2
      have h3 := H1.out.1
      rw [List.take_length] at h3
      exact ⟨rfl, h3, H1.out.2⟩
end Go.Proofs.Yteimhpjhmpdmjaa
