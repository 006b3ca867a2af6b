/-
  Adler's add and Write. | The plain sums, byte by byte. | Of: all parts written, one behind the other. | Package zlib: a header is read. | Package zlib: a sum as it stands in a stream.
-/
import Derived.Test.YtlknhiihdejpeaaGreatDoorMZlB
import Derived.OwnWalk
namespace Go.Proofs.YtlknhiihdejpeaaGreatDoor
open Go Go.RowKit

theorem adFree_snd (p : Nat × Nat) (l : List UInt8) : 2 * (adFree p l).2 ≤ 2 * p.2 + 2 * (l.length * p.1) + 255 * (l.length * (l.length + 1)) := by
  induction l generalizing p with
  | nil => simp [adFree]
  | cons b l ih =>
    have hb := b.toNat_lt
    have h := ih (p.1 + b.toNat, p.2 + (p.1 + b.toNat))
    rw [adFree, List.length_cons]
    refine Nat.le_trans h ?_
    show 2 * (p.2 + (p.1 + b.toNat)) + 2 * (l.length * (p.1 + b.toNat)) + 255 * (l.length * (l.length + 1)) ≤ 2 * p.2 + 2 * ((l.length + 1) * p.1) + 255 * ((l.length + 1) * (l.length + 1 + 1))
    have h3 : l.length * b.toNat ≤ l.length * 255 := Nat.mul_le_mul_left _ (by omega)
    have e1 : l.length * (p.1 + b.toNat) = l.length * p.1 + l.length * b.toNat := Nat.mul_add _ _ _
    have e2 : (l.length + 1) * p.1 = l.length * p.1 + p.1 := by rw [Nat.add_mul, Nat.one_mul]
    have e3 : (l.length + 1) * (l.length + 1 + 1) = l.length * (l.length + 1) + 2 * (l.length + 1) := by
      rw [show l.length + 1 + 1 = l.length + 2 from rfl, Nat.mul_add, Nat.mul_comm (l.length + 1) l.length, Nat.mul_comm (l.length + 1) 2]
    omega

theorem adFree_fit {a t : Nat} (ha : a < 65521) (ht : t < 65521) (l : List UInt8) (hl : l.length ≤ 5552) :
    1 ≤ (adFree (a + 1, t) l).1 ∧ (adFree (a + 1, t) l).1 < 4294967296 ∧ (adFree (a + 1, t) l).2 < 4294967296 := by
  have h1 := adFree_fst (a + 1, t) l
  have h2 := (adFree_le (a + 1, t) l).1
  have h3 := adFree_snd (a + 1, t) l
  have e1 : l.length * (a + 1) ≤ 5552 * 65521 := Nat.mul_le_mul hl (by omega)
  have e2 : l.length * (l.length + 1) ≤ 5552 * 5553 := Nat.mul_le_mul hl (by omega)
  simp only at h1 h2 h3
  omega

theorem adOf_append (l m : List UInt8) : adOf (l ++ m) = adList (adOf l) m := adList_append _ _ _

set_option maxHeartbeats 1000000 in
theorem add_any (g : Nat) (l0 : List UInt8) (A : Option Addr) (n c : Nat) (l : List UInt8) (w : World) (h : Adl w g l0) (hb : Holds w 1 A n (bvals l)) (hl : l.length = n) (hn : n ≤ 5552) :
    Calls Tryz.prog 136 #[.pointer (some ⟨g, 0, none⟩), .slice A n c] w fun e w' =>
      e = .returned (.tuple #[]) ∧ Adl w' g (l0 ++ l) ∧ Only [g] w w' := by
  subst hl
  obtain ⟨a, ha, ha1, h⟩ := h
  have c0 : w.cell? ⟨g, 0, none⟩ = some (.int .u32 (a : Int)) := h.cell 0
  have c1 : w.cell? ⟨g, 1, none⟩ = some (.int .u32 ((adOf l0).2 : Int)) := h.cell 1
  have f0 : w.frozen? ⟨g, 0, none⟩ = false := h.free 0
  have f1 : w.frozen? ⟨g, 1, none⟩ = false := h.free 1
  have ht := (adOf_lt l0).2
  obtain ⟨t, htt⟩ : ∃ t, t = (adOf l0).2 := ⟨_, rfl⟩
  rw [← htt] at c1 h ht
  have HT := hide (And.intro htt ha1)
  have HH := hide h
  have HB := hide hb
  clear htt ha1 h hb
  go_enter Tryz.func136, Tryz.ntmps136
  go_wp2
  go_quiet (fail)
  go_wp2
  go_loop [4, 5, 19] (fun x y i => ∃ j : Nat, j ≤ l.length ∧ i = .int .i64 j ∧ x = .int .u32 ((adFree (a + 1, t) (l.take j)).1 : Int) ∧ y = .int .u32 ((adFree (a + 1, t) (l.take j)).2 : Int)) (fun _ _ i => l.length - (intOf i).toNat)
  case atStart => exact ⟨0, Nat.zero_le _, rfl, rfl, rfl⟩
  case round =>
    obtain ⟨j, hj, rfl, rfl, rfl⟩ := hrel
    have hfit := adFree_fit ha ht (l.take j) (by simp; omega)
    by_cases hlt : j < l.length
    · have hst : adFree (a + 1, t) (l.take (j + 1)) = ((adFree (a + 1, t) (l.take j)).1 + l[j].toNat, (adFree (a + 1, t) (l.take j)).2 + ((adFree (a + 1, t) (l.take j)).1 + l[j].toNat)) := by
        rw [List.take_succ_eq_append_getElem hlt, adFree_append]; rfl
      have hfit2 := adFree_fit ha ht (l.take (j + 1)) (by simp; omega)
      obtain ⟨b, o, rfl, hc2⟩ := HB.out.addr (by simpa using (show 0 < l.length by omega))
      have hcell : w.cell? ⟨b, o + j, none⟩ = some (.int .u8 (l[j].toNat : Int)) := hc2 j _ (bvals_get l j hlt)
      have hx := l[j].toNat_lt
      rw [hst] at hfit2
      have HS := hide hst
      clear hc2 hst
      generalize l[j].toNat = x at *
      generalize adFree (a + 1, t) (l.take j) = p at *
      obtain ⟨p1, p2⟩ := p
      simp only at hfit hfit2 ⊢
      go_wp2
      go_round
      case rel => exact ⟨j + 1, hlt, by go_num, by rw [HS.out]; rfl, by rw [HS.out]; simp⟩
      case measure => simp [intOf]; omega
    · obtain rfl : j = l.length := by omega
      have htk : l.take l.length = l := List.take_length
      rw [htk] at hfit
      rw [htk]
      clear htk
      obtain ⟨p, hp⟩ : ∃ p, p = adFree (a + 1, t) l := ⟨_, rfl⟩
      rw [← hp] at hfit ⊢
      have HP := hide hp
      clear hp hlt
      obtain ⟨p1, p2⟩ := p
      simp only at hfit ⊢
      go_wp2
      have hadl : adOf (l0 ++ l) = (p1 % 65521, p2 % 65521) := by
        rw [adOf_append, show adOf l0 = ((a + 1) % 65521, t % 65521) from Prod.ext HT.out.2.symm (by show (adOf l0).2 = t % 65521; rw [← HT.out.1]; omega), adList_free (a + 1, t) l, ← HP.out]
      have e1 : ((p1 : Int) - 1) % 65521 = (((p1 - 1) % 65521 : Nat) : Int) := by omega
      have e2 : (p2 : Int) % 65521 = ((p2 % 65521 : Nat) : Int) := by omega
      rw [e1, e2]
      have q := ((HH.out.drewN nq).set 0 (.int .u32 (((p1 - 1) % 65521 : Nat) : Int))).set 1 (.int .u32 ((p2 % 65521 : Nat) : Int))
      go_end0
      refine ⟨rfl, ⟨(p1 - 1) % 65521, by omega, ?_, ?_⟩, (((Only.refl _ w).drewN nq).setCell (by simp) _).setCell (by simp) _⟩
      · rw [hadl]; show _ = p1 % 65521; omega
      · rw [hadl]; exact q

theorem Adl.only {w w' : World} {g : Nat} {l : List UInt8} {S : List Nat} (h : Adl w g l) (ho : Only S w w') (hg : g ∉ S) : Adl w' g l := by
  obtain ⟨a, h1, h2, h3⟩ := h
  exact ⟨a, h1, h2, h3.only ho hg⟩
theorem Adl.lt {w : World} {g : Nat} {l : List UInt8} (h : Adl w g l) : g < w.heap.size := by
  obtain ⟨a, h1, h2, h3⟩ := h
  exact h3.lt

set_option maxHeartbeats 1000000 in
theorem adlerWrite_any (g : Nat) (l0 : List UInt8) (A : Option Addr) (n c : Nat) (l : List UInt8) (w : World) (h : Adl w g l0) (hb : Holds w 1 A n (bvals l)) (hl : l.length = n) (hn : n ≤ 140737488355328) (hc : n ≤ c) (hA : 0 < n → ∀ ad, A = some ad → ad.block ≠ g) :
    Calls Tryz.prog 135 #[.pointer (some ⟨g, 0, none⟩), .slice A n c] w fun e w' =>
      e = .returned (.tuple #[.int .i64 n, .nilIface]) ∧ Adl w' g (l0 ++ l) ∧ Only [g] w w' := by
  subst hl
  have HH := hide h
  have HB := hide hb
  have HA := hide hA
  clear h hb hA
  go_enter Tryz.func135, Tryz.ntmps135
  go_wp2
  go_loopw [1] (fun s wr => ∃ (j c' : Nat) (B : Option Addr), j ≤ l.length ∧ s = .slice B (l.length - j) c' ∧ l.length - j ≤ c' ∧ Holds wr 1 B (l.length - j) (bvals (l.drop j)) ∧ (0 < l.length - j → ∀ ad, B = some ad → ad.block ≠ g) ∧ Adl wr g (l0 ++ l.take j) ∧ Only [g] w wr) (fun s _ => match s with | .slice _ n _ => n | _ => 0)
  case atStart => exact ⟨0, c, A, Nat.zero_le _, rfl, hc, by simpa using HB.out, HA.out, by simpa using HH.out, Only.refl _ _⟩
  case round =>
    obtain ⟨j, c', B, hj, rfl, hc', hBj, hne, hAj, hoj⟩ := hrel
    by_cases hlt : j < l.length
    · obtain ⟨r, hr⟩ : ∃ r, r = l.length - j := ⟨_, rfl⟩
      rw [← hr] at hBj hc' hne ⊢
      have hr0 : 0 < r := by omega
      have hrn : r ≤ l.length := by omega
      obtain ⟨b, o, rfl, hcell⟩ := hBj.addr (by simp [bvals]; omega)
      have hne2 := hne hr0 _ rfl
      have HE := hide (And.intro hAj (And.intro hoj hBj))
      have HR := hide (And.intro hr hlt)
      clear hAj hoj hBj hcell hr hne hlt
      by_cases hbig : (5552 : Int) < r
      · have hcut := HE.out.2.2.cut (f := 0) (m := 5552) (by omega)
        have hcut2 := HE.out.2.2.cut (f := 5552) (m := r - 5552) (by omega)
        simp only [List.drop_zero, Nat.mul_one, Option.map_some, add_none, Nat.add_zero] at hcut hcut2
        rw [← bvals_take] at hcut
        have htk : (l.drop (j + 5552)).take (r - 5552) = l.drop (j + 5552) := List.take_of_length_le (by have := HR.out.1; rw [List.length_drop]; omega)
        rw [← bvals_drop, ← bvals_take, List.drop_drop, htk] at hcut2
        have hrj : r - 5552 = l.length - (j + 5552) := by have := HR.out.1; omega
        have HJ := hide hrj
        clear hrj htk
        have HC := hide (And.intro hcut hcut2)
        clear hcut hcut2
        go_wp2_with fail
        refine (add_any g (l0 ++ l.take j) _ 5552 c' ((l.drop j).take 5552) wr HE.out.1 HC.out.1 (by have := HR.out; simp; omega) (by omega)).mono ?_
        rintro e w1 ⟨rfl, hA1, ho1⟩
        have H1 := hide (And.intro hA1 ho1)
        clear hA1 ho1
        go_wp2_with fail
        go_roundw
        case rel =>
          have ⟨q1, q2⟩ := HR.out
          refine ⟨j + 5552, _, _, by omega, by rw [HJ.out], by omega, ?_, fun _ ad ha => ?_, ?_, HE.out.2.1.trans H1.out.2 (by simp)⟩
          · have h3 := (HC.out.2.keep H1.out.2 (by simpa using fun _ => hne2))
            rw [HJ.out] at h3
            exact h3
          · injection ha with ha; subst ha; exact hne2
          · have h3 := H1.out.1
            rw [List.append_assoc, ← List.take_add] at h3
            exact h3
        case measure => show r - 5552 < r; omega
      · go_wp2_with fail
        refine (add_any g (l0 ++ l.take j) _ r c' (l.drop j) wr HE.out.1 HE.out.2.2 (by have := HR.out; simp; omega) (by omega)).mono ?_
        rintro e w1 ⟨rfl, hA1, ho1⟩
        have H1 := hide (And.intro hA1 ho1)
        clear hA1 ho1
        go_wp2_with fail
        go_roundw
        case rel =>
          have ⟨q1, q2⟩ := HR.out
          refine ⟨l.length, _, _, Nat.le_refl _, by rw [Nat.sub_self], by omega, ?_, fun h => by omega, ?_, HE.out.2.1.trans H1.out.2 (by simp)⟩
          · rw [Nat.sub_self, List.drop_length]; exact Holds.empty _ _ _
          · have h3 := H1.out.1
            rw [List.append_assoc, List.take_append_drop] at h3
            rw [List.take_length]
            exact h3
        case measure => show 0 < r; omega
    · obtain rfl : j = l.length := by omega
      have H1 := hide (And.intro hAj hoj)
      clear hBj hAj hoj hne hlt
      rw [Nat.sub_self]
      go_wp2_with fail
      go_ret2
      have h3 := H1.out.1
      rw [List.take_length] at h3
      exact ⟨rfl, h3, H1.out.2⟩
end Go.Proofs.YtlknhiihdejpeaaGreatDoor


namespace Go.Proofs.YtlknhiihdejpeaaGreatDoor
open Go Go.RowKit


set_option maxHeartbeats 1000000 in
theorem refAdler_any (A : Option Addr) (n c : Nat) (l : List UInt8) (w : World) (hb : Holds w 1 A n (bvals l)) (hl : l.length = n) (hn : n ≤ 140737488355328) :
    Calls Tryz.prog 24 #[.slice A n c] w fun e w' => e = .returned (.int .u32 ((adWord (adOf l) : Nat) : Int)) ∧ w = w' := by
  subst hl
  have HB := hide hb
  clear hb
  go_enter Tryz.func24, Tryz.ntmps24
  go_wp2
  go_loop [3, 4, 5] (fun x y i => ∃ j : Nat, j ≤ l.length ∧ i = .int .i64 j ∧ x = .int .u32 ((adOf (l.take j)).1 : Int) ∧ y = .int .u32 ((adOf (l.take j)).2 : Int)) (fun _ _ i => l.length - (intOf i).toNat)
  case atStart => exact ⟨0, Nat.zero_le _, rfl, rfl, rfl⟩
  case round =>
    obtain ⟨j, hj, rfl, rfl, rfl⟩ := hrel
    have hlt2 := adOf_lt (l.take j)
    by_cases hlt : j < l.length
    · have hst : adOf (l.take (j + 1)) = (((adOf (l.take j)).1 + l[j].toNat) % 65521, ((adOf (l.take j)).2 + ((adOf (l.take j)).1 + l[j].toNat) % 65521) % 65521) := by
        rw [List.take_succ_eq_append_getElem hlt]
        exact adList_append _ _ _
      obtain ⟨b, o, rfl, hc2⟩ := HB.out.addr (by simpa using (show 0 < l.length by omega))
      have hcell : w.cell? ⟨b, o + j, none⟩ = some (.int .u8 (l[j].toNat : Int)) := hc2 j _ (bvals_get l j hlt)
      have hx := l[j].toNat_lt
      have HS := hide hst
      clear hc2 hst
      generalize l[j].toNat = x at *
      generalize adOf (l.take j) = p at *
      obtain ⟨p1, p2⟩ := p
      simp only at hlt2 ⊢
      go_wp2
      go_round
      case rel => exact ⟨j + 1, hlt, by go_num, by rw [HS.out]; rfl, by rw [HS.out]; rfl⟩
      case measure => simp [intOf]; omega
    · obtain rfl : j = l.length := by omega
      have htk : l.take l.length = l := List.take_length
      rw [htk] at hlt2
      rw [htk]
      clear htk hlt
      obtain ⟨p, hp⟩ : ∃ p, p = adOf l := ⟨_, rfl⟩
      rw [← hp] at hlt2 ⊢
      have HP := hide hp
      clear hp
      obtain ⟨p1, p2⟩ := p
      simp only at hlt2 ⊢
      go_wp2
      go_ret
      refine ⟨ret_int ?_, rfl⟩
      have hw : adWord (adOf l) = p2 * 65536 + p1 := by rw [← HP.out]; rfl
      rw [hw]
      have e := u32_join p1 p2 16 (by omega) (by omega)
      rw [u32_or_nat _ _ (by omega) (by omega)] at e
      have e1 : ((p2 : Int) * 65536) = ((p2 * 2 ^ 16 : Nat) : Int) := by omega
      rw [e1, u32_or_nat _ _ (by omega) (by omega), Nat.or_comm, e]
      omega
end Go.Proofs.YtlknhiihdejpeaaGreatDoor


namespace Go.Proofs.YtlknhiihdejpeaaGreatDoor
open Go Go.RowKit

/-- A part: a slice of bytes. -/
structure Part where
  A : Option Addr
  c : Nat
  l : List UInt8
def Part.val (p : Part) : Value := .slice p.A p.l.length p.c
structure Part.Ok (p : Part) (w : World) (g : Nat) : Prop where
  holds : Holds w 1 p.A p.l.length (bvals p.l)
  cap : p.l.length ≤ p.c
  max : p.l.length ≤ 140737488355328
  ne : 0 < p.l.length → ∀ ad, p.A = some ad → ad.block ≠ g
def Part.all (ps : List Part) : List UInt8 := (ps.map Part.l).flatten

theorem Part.Ok.only {p : Part} {w w' : World} {g : Nat} (h : p.Ok w g) (ho : Only [g] w w') : p.Ok w' g :=
  ⟨h.holds.keepPos ho (fun h0 ad ha _ => by simpa using h.ne h0 ad ha), h.cap, h.max, h.ne⟩

theorem Part.all_take (ps : List Part) (j : Nat) (h : j < ps.length) : Part.all (ps.take (j + 1)) = Part.all (ps.take j) ++ ps[j].l := by
  unfold Part.all
  rw [List.take_succ_eq_append_getElem h, List.map_append, List.flatten_append]
  simp


theorem adlerSum_o (g : Nat) (l : List UInt8) (w : World) (h : Adl w g l) :
    Calls Tryz.prog 134 #[.pointer (some ⟨g, 0, none⟩)] w fun e w' => e = .returned (.int .u32 ((adWord (adOf l) : Nat) : Int)) ∧ Adl w' g l ∧ Only [] w w' :=
  (adlerSum_any g l w h).mono fun _ _ ⟨he, m, hm⟩ => ⟨he, by rw [hm]; exact h.only ((Only.refl [] w).drewN m) (by simp), by rw [hm]; exact (Only.refl [] w).drewN m⟩

theorem adler_write (n : Nat) (a : Addr) (w : World) : (method (n + 1) 62 (.pointer (some a)) "Write").run Tryz.prog w = .ok (135, .pointer (some a)) w := by kernel_rfl
theorem adler_sum (n : Nat) (a : Addr) (w : World) : (method (n + 1) 62 (.pointer (some a)) "Sum").run Tryz.prog w = .ok (134, .pointer (some a)) w := by kernel_rfl


set_option maxHeartbeats 1000000 in
theorem ofAdler_any (g : Nat) (l0 : List UInt8) (P : Option Addr) (k c : Nat) (ps : List Part) (w : World) (h : Adl w g l0) (hP : Holds w 1 P k (ps.map Part.val)) (hk : ps.length = k) (hk2 : k ≤ 140737488355328)
    (hps : ∀ p ∈ ps, p.Ok w g) (hPne : 0 < k → ∀ ad, P = some ad → ad.block ≠ g) :
    Calls Tryz.prog 19 #[.pointer (some ⟨g, 0, none⟩), .slice P k c] w fun e w' =>
      e = .returned (.int .u32 ((adWord (adOf (l0 ++ Part.all ps)) : Nat) : Int)) ∧ Adl w' g (l0 ++ Part.all ps) ∧ Only [g] w w' := by
  subst hk
  have HH := hide h
  have HP := hide hP
  have HO := hide (And.intro hps hPne)
  clear h hP hps hPne
  have m1 := adler_write
  have m2 := adler_sum
  go_enter Tryz.func19, Tryz.ntmps19
  go_wp2
  go_loopw [9] (fun i wr => ∃ j : Nat, j ≤ ps.length ∧ i = .int .i64 j ∧ Adl wr g (l0 ++ Part.all (ps.take j)) ∧ Only [g] w wr) (fun i _ => ps.length - (intOf i).toNat)
  case atStart => exact ⟨0, Nat.zero_le _, rfl, by simpa [Part.all] using HH.out, Only.refl _ _⟩
  case round =>
    obtain ⟨j, hj, rfl, hCj, hoj⟩ := hrel
    by_cases hlt : j < ps.length
    · have hok := (HO.out.1 ps[j] (List.getElem_mem hlt)).only hoj
      have hP2 := HP.out.keepPos hoj (fun h0 ad ha _ => by simpa using HO.out.2 h0 ad ha)
      obtain ⟨b, o, rfl, hc2⟩ := hP2.addr (by simpa using (show 0 < ps.length by omega))
      have hcell : wr.cell? ⟨b, o + j, none⟩ = some (.slice ps[j].A ps[j].l.length ps[j].c) := hc2 j _ (by simp [hlt, Part.val])
      have hst := Part.all_take ps j hlt
      have HE := hide (And.intro hCj (And.intro hoj (And.intro hok hst)))
      clear hCj hoj hok hst hc2 hP2
      generalize ps[j] = p at *
      obtain ⟨A, cp, l⟩ := p
      simp only at hcell HE
      go_wp2_with fail
      refine (adlerWrite_any g _ A l.length cp l wr HE.out.1 HE.out.2.2.1.holds rfl HE.out.2.2.1.max HE.out.2.2.1.cap HE.out.2.2.1.ne).mono ?_
      rintro e w1 ⟨rfl, hC1, ho1⟩
      have H1 := hide (And.intro hC1 ho1)
      clear hC1 ho1 hcell
      go_wp2_with fail
      go_roundw
      case rel => exact ⟨j + 1, hlt, by go_num, by rw [HE.out.2.2.2, ← List.append_assoc]; exact H1.out.1, HE.out.2.1.trans H1.out.2 (by simp)⟩
      case measure => simp [intOf]; omega
    · obtain rfl : j = ps.length := by omega
      have ht : ps.take ps.length = ps := List.take_length
      rw [ht] at hCj
      clear ht hlt
      have HE := hide (And.intro hCj hoj)
      clear hCj hoj
      go_wp2_with fail
      refine (adlerSum_any g _ wr HE.out.1).mono ?_
      rintro e w1 ⟨rfl, m, rfl⟩
      go_wp2_with fail
      go_ret
      exact ⟨rfl, HE.out.1.only ((Only.refl [] _).drewN m) (by simp), HE.out.2.drewN m⟩
theorem Part.all_one (p : Part) : Part.all [p] = p.l := by simp [Part.all]


theorem ofAdler_one (g : Nat) (l0 : List UInt8) (A : Option Addr) (n c : Nat) (l : List UInt8) (w : World) (h : Adl w g l0) (hp : Part.Ok ⟨A, c, l⟩ w g) (hl : l.length = n) (q : Nat) (hq : q = w.heap.size) :
    Calls Tryz.prog 19 #[.pointer (some ⟨g, 0, none⟩), .slice (some ⟨q, 0, none⟩) 1 1] (w.alloc (.cells #[.slice A n c] 22)) fun e w' =>
      e = .returned (.int .u32 ((adWord (adOf (l0 ++ l)) : Nat) : Int)) ∧ Adl w' g (l0 ++ l) ∧ Only [g] w w' := by
  subst hq
  subst hl
  have ho : Only [g] w (w.alloc (.cells #[.slice A l.length c] 22)) := ((Only.refl [] w).alloc _).of_nil
  have glt := h.lt
  refine (ofAdler_any g l0 _ 1 1 [⟨A, c, l⟩] _ (h.only ((Only.refl [] w).alloc _) (by simp)) (Holds.lit w #[.slice A l.length c] 22) rfl (by omega) ?_ ?_).mono ?_
  · intro p hp'
    obtain rfl := List.mem_singleton.1 hp'
    exact hp.only ho
  · intro _ ad ha
    injection ha with ha; subst ha
    show w.heap.size ≠ g
    omega
  · rintro e w' ⟨he, hc, ho2⟩
    rw [Part.all_one] at he hc
    exact ⟨he, hc, ho.trans ho2 (by simp)⟩

end Go.Proofs.YtlknhiihdejpeaaGreatDoor


namespace Go.Proofs.YtlknhiihdejpeaaGreatDoor
open Go Go.RowKit

/-- Four bytes of which some more have come. -/
def waitZ (wb b : List UInt8) (k c : Nat) : List UInt8 := wb.take k ++ b.take c ++ wb.drop (k + c)
theorem waitZ_length {wb b : List UInt8} {k c : Nat} (hw : wb.length = 4) (hc : c ≤ b.length) (hk : k + c ≤ 4) : (waitZ wb b k c).length = 4 := by
  unfold waitZ
  rw [List.length_append, List.length_append, List.length_take, List.length_take, List.length_drop, hw]; omega

theorem gather_all (g : Nat) (f : DF) (sm : Value) (part k n m cb : Nat) (wb b : List UInt8) (A : Option Addr) (w : World) (hd : Dc w g f) (ht : f.tail = tailZ sm part wb k) (hw : wb.length = 4) (hk : k < n) (hn : n ≤ 4)
    (hb : Holds w 1 A m (bvals b)) (hbl : b.length = m) (hcb : m ≤ cb) (hA : 0 < m → ∀ ad, A = some ad → ad.block ≠ g) (hA0 : A = none → cb = 0) (hm : m ≤ 1000000000) (c : Nat) (hc : c = min m (n - k)) :
    Calls Tryz.prog 45 #[.pointer (some ⟨g, 0, none⟩), .slice A m cb, .int .i64 (n : Int)] w fun e w' =>
      ∃ A' c', e = .returned (.slice A' (m - c) c') ∧ Dc w' g { f with tail := tailZ sm part (waitZ wb b k c) (k + c) } ∧ Only [g] w w' ∧ Holds w' 1 A' (m - c) (bvals (b.drop c)) ∧ m - c ≤ c' ∧ (∀ ad', A' = some ad' → ∃ ad, A = some ad ∧ ad'.block = ad.block) ∧ (A' = none → c' = 0) := by
  cases A with
  | some ad =>
    refine (gather_any g f sm part k n m cb wb b ad w hd ht hw hk hn hb hbl hcb (fun h => hA h ad rfl) hm c hc).mono ?_
    rintro e w' ⟨A', c', h1, h2, h3, h4, h5, h6, h7⟩
    exact ⟨A', c', h1, h2, h3, h4, h5, fun ad' ha => ⟨ad, rfl, h6 ad' ha⟩, fun h => absurd h h7⟩
  | none =>
    have hm0 : m = 0 := by
      rcases Nat.eq_zero_or_pos m with h | h
      · exact h
      · obtain ⟨ad, h1, _⟩ := hb.2 h; cases h1
    obtain rfl := hm0
    obtain rfl := hA0 rfl
    obtain rfl : b = [] := List.eq_nil_of_length_eq_zero hbl
    obtain rfl : c = 0 := by omega
    refine (gather_none g f sm part k n wb w hd ht hw hk hn).mono ?_
    rintro e w' ⟨rfl, h1, h2⟩
    refine ⟨none, 0, rfl, ?_, h2, Holds.empty _ _ _, Nat.le_refl _, (fun _ h => absurd h (by simp)), fun _ => rfl⟩
    have e : tailZ sm part (waitZ wb [] k 0) (k + 0) = f.tail := by
      rw [ht]; unfold waitZ; simp
    rw [e]; exact h1

/-- Whether a header of which n bytes have come may be. -/
def mhB (n x y : Nat) : Bool := decide (n = 0) || ((decide (x % 16 = 8) && decide (x / 16 ≤ 7)) && (decide (n = 1) || (decide ((x * 256 + y) % 31 = 0) && decide (y / 32 % 2 = 0))))
def wz (wb : List UInt8) (i : Nat) : Nat := (wb.getD i 0).toNat
theorem tailZ_w (sm : Value) (part : Nat) (wb : List UInt8) (n i : Nat) (h : wb.length = 4) (hi : i < 4) : (tailZ sm part wb n)[2 + i]? = some (.int .u8 (wz wb i : Int)) := by
  unfold tailZ wz
  rw [List.getElem?_append_right (by show 2 ≤ 2 + i; omega), List.getElem?_append_left (by rw [bvals_length, h]; show 2 + i - 2 < 4; omega), show 2 + i - ([sm, Value.int .i64 (part : Int)]).length = i by show 2 + i - 2 = i; omega, bvals_get _ _ (by omega), List.getD_eq_getElem?_getD, List.getElem?_eq_getElem (by omega)]
  rfl
theorem tailZ_p (sm : Value) (part : Nat) (wb : List UInt8) (n : Nat) : (tailZ sm part wb n)[1]? = some (.int .i64 (part : Int)) := rfl
theorem tailZ_s (sm : Value) (part : Nat) (wb : List UInt8) (n : Nat) : (tailZ sm part wb n)[0]? = some sm := rfl
theorem tailZ_set_p (sm : Value) (part p2 : Nat) (wb : List UInt8) (n : Nat) : (tailZ sm part wb n).set 1 (.int .i64 (p2 : Int)) = tailZ sm p2 wb n := rfl
theorem tailZ_set_s (sm s2 : Value) (part : Nat) (wb : List UInt8) (n : Nat) : (tailZ sm part wb n).set 0 s2 = tailZ s2 part wb n := rfl

set_option maxRecDepth 100000 in
set_option maxHeartbeats 8000000 in
theorem readHead_any (g : Nat) (f : DF) (sm : Value) (k m cb : Nat) (wb b : List UInt8) (A : Option Addr) (w : World) (hd : Dc w g f) (ht : f.tail = tailZ sm 0 wb k) (hw : wb.length = 4) (hk : k < 2)
    (hb : Holds w 1 A m (bvals b)) (hbl : b.length = m) (hcb : m ≤ cb) (hA : 0 < m → ∀ ad, A = some ad → ad.block ≠ g) (hA0 : A = none → cb = 0) (hm : m ≤ 1000000000) (c : Nat) (hc : c = min m (2 - k)) (wb2 : List UInt8) (hwb : wb2 = waitZ wb b k c) :
    Calls Tryz.prog 27 #[.pointer (some ⟨g, 0, none⟩), .slice A m cb] w fun e w' => Only [g] w w' ∧
      ((mhB (k + c) (wz wb2 0) (wz wb2 1) = false ∧ e = .returned (.tuple #[.slice none 0 0, .int .i64 3]) ∧ Dc w' g { f with tail := tailZ sm 0 wb2 (k + c) }) ∨
        (mhB (k + c) (wz wb2 0) (wz wb2 1) = true ∧ ∃ A' c', e = .returned (.tuple #[.slice A' (m - c) c', .int .i64 0]) ∧ Holds w' 1 A' (m - c) (bvals (b.drop c)) ∧ m - c ≤ c' ∧ (∀ ad', A' = some ad' → ∃ ad, A = some ad ∧ ad'.block = ad.block) ∧ (A' = none → c' = 0) ∧
          ((k + c < 2 ∧ Dc w' g { f with tail := tailZ sm 0 wb2 (k + c) }) ∨
            (k + c = 2 ∧ ∃ ga, w.heap.size ≤ ga ∧ Adl w' ga [] ∧ Dc w' g { f with tail := tailZ (.iface 62 (.pointer (some ⟨ga, 0, none⟩))) 1 wb2 0 })))) := by
  have hG := gather_all g f sm 0 k 2 m cb wb b A w hd ht hw hk (by decide) hb hbl hcb hA hA0 hm c hc
  rw [← hwb] at hG
  have hwl : wb2.length = 4 := by rw [hwb]; exact waitZ_length hw (by omega) (by omega)
  have HG := hide (And.intro hG hwl)
  have hkc : k + c ≤ 2 := by omega
  have hglt : g < w.heap.size := Has.lt hd
  have HI := hide (And.intro hb (And.intro hA hglt))
  obtain ⟨n, hn⟩ : ∃ n, n = k + c := ⟨_, rfl⟩
  rw [← hn] at hkc HG ⊢
  clear hG hwl hd ht hw hb hbl hcb hA hA0 hm hc hwb hn hk hglt
  have hs1 := run_arr4_h g 359 n (by omega)
  go_enter Tryz.func27, Tryz.ntmps27
  go_wp2_with fail
  refine (HG.out.1).mono ?_
  rintro e w1 ⟨A', c', rfl, hd1, ho1, hh1, hc1, hb1, ha1⟩
  have c359 : w1.drew.cell? ⟨g, 359, none⟩ = some (.int .u8 (wz wb2 0 : Int)) := (hd1.tail 2).trans (tailZ_w sm 0 wb2 n 0 HG.out.2 (by decide))
  have c360 : w1.drew.cell? ⟨g, 360, none⟩ = some (.int .u8 (wz wb2 1 : Int)) := (hd1.tail 3).trans (tailZ_w sm 0 wb2 n 1 HG.out.2 (by decide))
  have c363 : w1.cell? ⟨g, 363, none⟩ = some (.int .i64 (n : Int)) := (hd1.tail 6).trans (tailZ_n sm 0 wb2 n HG.out.2)
  obtain ⟨r, hr⟩ : ∃ r, r = mhB n (wz wb2 0) (wz wb2 1) := ⟨_, rfl⟩
  have HM := hide (mayBegin_any g n (wz wb2 0) (wz wb2 1) w1.drew (by unfold wz; exact UInt8.toNat_lt _) (by unfold wz; exact UInt8.toNat_lt _) hkc c359 c360 r hr)
  have H1 := hide (And.intro hd1 (And.intro ho1 (And.intro hh1 (And.intro hc1 (And.intro hb1 (And.intro ha1 hr))))))
  clear hd1 ho1 hh1 hc1 hb1 ha1 c359 c360 hr
  cases r with
  | false =>
    go_wp2_with fail
    go_region_with (go_at_call 46; refine (HM.out).mono ?_; rintro e w2 ⟨rfl, mm, rfl⟩)
    all_goals
      go_wp2_with fail
      go_ret2
      exact ⟨H1.out.2.1.drewN _, .inl ⟨H1.out.2.2.2.2.2.2.symm, rfl, Has.only H1.out.1 ((Only.refl [] w1).drewN _) (by simp)⟩⟩
  | true =>
    by_cases h2 : n = 2
    · subst h2
      have c363' : w1.cell? ⟨g, 363, none⟩ = some (.int .i64 2) := c363
      go_wp2_with fail
      go_region_with (go_at_call 46; refine (HM.out).mono ?_; rintro e w2 ⟨rfl, mm, rfl⟩)
      all_goals
        have hdD : Dc (w1.drewN (1 + mm)) g { f with tail := tailZ sm 0 wb2 2 } := Has.only H1.out.1 ((Only.refl [] w1).drewN _) (by simp)
        have q363 : (w1.drewN (1 + mm)).frozen? ⟨g, 363, none⟩ = false := Has.free hdD 363
        have hd2 : Dc ((w1.drewN (1 + mm)).setCell ⟨g, 363, none⟩ (.int .i64 0)) g { f with tail := tailZ sm 0 wb2 0 } := by
          have h1 := Dc.set_tail hdD 6 (.int .i64 ((0 : Nat) : Int))
          rw [show ({ f with tail := tailZ sm 0 wb2 2 } : DF).tail = tailZ sm 0 wb2 2 from rfl, tailZ_set_n _ _ _ _ _ HG.out.2] at h1
          exact h1
        have o2 : Only [g] w ((w1.drewN (1 + mm)).setCell ⟨g, 363, none⟩ (.int .i64 0)) := (H1.out.2.1.drewN _).setCell (by simp) _
        have H2 := hide (And.intro hd2 o2)
        clear hdD hd2 o2
        go_wp2_with fail
        refine (newAdler_any _).mono ?_
        rintro e w3 ⟨ga, rfl, hga, hadl, ho3⟩
        have hd3 : Dc w3 g { f with tail := tailZ sm 0 wb2 0 } := Has.only H2.out.1 ho3 (by simp)
        have c357 : w3.cell? ⟨g, 357, none⟩ = some sm := hd3.tail 0
        have f357 : w3.frozen? ⟨g, 357, none⟩ = false := Has.free hd3 357
        have hd4 : Dc (w3.setCell ⟨g, 357, none⟩ (.iface 62 (.pointer (some ⟨ga, 0, none⟩)))) g { f with tail := tailZ (.iface 62 (.pointer (some ⟨ga, 0, none⟩))) 0 wb2 0 } := Dc.set_tail hd3 0 _
        have c358 : (w3.setCell ⟨g, 357, none⟩ (.iface 62 (.pointer (some ⟨ga, 0, none⟩)))).cell? ⟨g, 358, none⟩ = some (.int .i64 0) := hd4.tail 1
        have f358 : (w3.setCell ⟨g, 357, none⟩ (.iface 62 (.pointer (some ⟨ga, 0, none⟩)))).frozen? ⟨g, 358, none⟩ = false := Has.free hd4 358
        have H3 := hide (And.intro hd4 (And.intro ho3 (And.intro hadl hga)))
        clear hd3 hd4 ho3 hadl hga
        go_wp2_with fail
        go_ret2
        have hd5 : Dc ((w3.setCell ⟨g, 357, none⟩ (.iface 62 (.pointer (some ⟨ga, 0, none⟩)))).setCell ⟨g, 358, none⟩ (.int .i64 1)) g { f with tail := tailZ (.iface 62 (.pointer (some ⟨ga, 0, none⟩))) 1 wb2 0 } := Dc.set_tail H3.out.1 1 _
        have o5 : Only [g] w3 ((w3.setCell ⟨g, 357, none⟩ (.iface 62 (.pointer (some ⟨ga, 0, none⟩)))).setCell ⟨g, 358, none⟩ (.int .i64 1)) := ((Only.refl [g] w3).setCell (by simp) _).setCell (by simp) _
        have hsz := H2.out.2.size
        have hgl := HI.out.2.2
        have hga2 : w.heap.size ≤ ga := Nat.le_trans hsz H3.out.2.2.2
        have oAll : Only [g] w1 ((w3.setCell ⟨g, 357, none⟩ (.iface 62 (.pointer (some ⟨ga, 0, none⟩)))).setCell ⟨g, 358, none⟩ (.int .i64 1)) := ((((Only.refl [g] w1).drewN (1 + mm)).setCell (by simp) _).trans H3.out.2.1 (by simp)).trans o5 (by simp)
        have hH : Holds ((w3.setCell ⟨g, 357, none⟩ (.iface 62 (.pointer (some ⟨ga, 0, none⟩)))).setCell ⟨g, 358, none⟩ (.int .i64 1)) 1 A' (m - c) (bvals (b.drop c)) := H1.out.2.2.1.keepPos oAll (fun h0 ad' ha _ hm => by
          obtain ⟨ad, h1, h2⟩ := H1.out.2.2.2.2.1 ad' ha
          exact HI.out.2.1 (by omega) ad h1 (by rw [← h2]; simpa using hm))
        exact ⟨(H2.out.2.trans H3.out.2.1 (by simp)).trans o5 (by simp), .inr ⟨H1.out.2.2.2.2.2.2.symm, A', c', rfl, hH, by have := H1.out.2.2.2.1; omega, H1.out.2.2.2.2.1, H1.out.2.2.2.2.2.1, by first | exact .inr ⟨rfl, ga, hga2, H3.out.2.2.1.only o5 (by simp; omega), hd5⟩ | exact ⟨ga, hga2, H3.out.2.2.1.only o5 (by simp; omega), hd5⟩⟩⟩
    · have hn2 : ¬ (n : Int) = 2 := by omega
      go_wp2_with fail
      go_region_with (go_at_call 46; refine (HM.out).mono ?_; rintro e w2 ⟨rfl, mm, rfl⟩)
      all_goals
        go_wp2_with fail
        go_ret2
        exact ⟨H1.out.2.1.drewN _, .inr ⟨H1.out.2.2.2.2.2.2.symm, A', c', rfl, H1.out.2.2.1.keep ((Only.refl [] w1).drewN _) (by simp), H1.out.2.2.2.1, H1.out.2.2.2.2.1, H1.out.2.2.2.2.2.1, .inl ⟨by omega, Has.only H1.out.1 ((Only.refl [] w1).drewN _) (by simp)⟩⟩⟩
end Go.Proofs.YtlknhiihdejpeaaGreatDoor


namespace Go.Proofs.YtlknhiihdejpeaaGreatDoor
open Go Go.RowKit

/-- A number's four bytes, the highest first. -/
def bigN (s : Nat) : List UInt8 := [UInt8.ofNat (s / 16777216), UInt8.ofNat (s / 65536), UInt8.ofNat (s / 256), UInt8.ofNat s]
theorem u8of_int (z : Nat) : ((UInt8.ofNat z).toNat : Int) = (z : Int) % 256 := by
  rw [UInt8.toNat_ofNat']
  omega

set_option maxRecDepth 100000 in
set_option maxHeartbeats 4000000 in
theorem big_any (s : Nat) (hs : s < 4294967296) (w : World) : Calls Tryz.prog 18 #[.int .u32 (s : Int)] w fun e w' => e = .returned (.agg (bvals (bigN s)).toArray) ∧ Only [] w w' := by
  obtain ⟨a, ha⟩ : ∃ a, a = s / 16777216 := ⟨_, rfl⟩
  obtain ⟨b, hb⟩ : ∃ b, b = s / 65536 := ⟨_, rfl⟩
  obtain ⟨c, hc⟩ : ∃ c, c = s / 256 := ⟨_, rfl⟩
  have e1 : (s : Int) / 16777216 = (a : Int) := by omega
  have e2 : (s : Int) / 65536 = (b : Int) := by omega
  have e3 : (s : Int) / 256 = (c : Int) := by omega
  have HH := hide (And.intro ha (And.intro hb hc))
  clear ha hb hc
  go_enter Tryz.func18, Tryz.ntmps18
  go_wp2_with fail
  have hr : Has (w.alloc (.cells #[.int .u8 (a : Int), .int .u8 ((b : Int) % 256), .int .u8 ((c : Int) % 256), .int .u8 ((s : Int) % 256)] 55)) w.heap.size 55 #[.int .u8 (a : Int), .int .u8 ((b : Int) % 256), .int .u8 ((c : Int) % 256), .int .u8 ((s : Int) % 256)] := Has.new w _ _
  have hv : (bvals (bigN s)).toArray = #[.int .u8 (a : Int), .int .u8 ((b : Int) % 256), .int .u8 ((c : Int) % 256), .int .u8 ((s : Int) % 256)] := by
    unfold bigN bvals
    simp only [List.map_cons, List.map_nil, u8of_int]
    have ha : (a : Int) % 256 = (a : Int) := by have := HH.out.1; omega
    rw [← HH.out.1, ← HH.out.2.1, ← HH.out.2.2, ha]
  rw [hv]
  exact bodyPost_ret (results_cell_row Tryz.results18 _ _ w.heap.size 55 _ (0, 0) _ rfl hr Tryz.underlying55 rfl (by kernel_rfl)) rfl ⟨rfl, (Only.refl [] w).alloc _⟩
end Go.Proofs.YtlknhiihdejpeaaGreatDoor

