/-
  Package zlib: Unpack of what Pack told; what every law asks first. | 'append(append([]byte{}, x...), y...)': a new row of bytes, and more behind it.
-/
import Derived.Test.YtopjkmobnmaaaaaDoorMZlU
import Derived.Test.YtopjkmobnmaaaaaDoorMem
import Derived.Test.YtopjkmobnmaaaaaDoorMHufI
namespace Go.Proofs.YtopjkmobnmaaaaaDoor
open Go Go.RowKit

theorem Packed.six {b s : List UInt8} (h : Packed b s) : 6 ≤ s.length := by
  obtain ⟨bs, hbs, rfl⟩ := h
  simp [bigN]
/-- Packed bytes, with others behind. -/
theorem unpack_whole {b s : List UInt8} (h : Packed b s) (more : List UInt8) (A : Option Addr) (n cb most : Nat) (w : World) (hT : Tab w) (hn : n = s.length + more.length) (hb : Holds w 1 A n (bvals (s ++ more))) (hcb : n ≤ cb) (hA0 : A = none → cb = 0) (hB : n ≤ 90000) (hm : b.length ≤ most) (hmost : most ≤ 1073741824) :
    Calls Tryd.prog 7 #[.slice A n cb, .int .i64 (most : Int)] w fun e w' => Only [] w w' ∧ ∃ v, e = .returned (.tuple #[v, .int .i64 (s.length : Int), .int .i64 0]) ∧ w'.ownsRow 0 5 1 v b.length (bvals b) := by
  have h6 := h.six
  obtain ⟨t, hh, hend, hout, hub, htk, hsum⟩ := packed_end h (s.drop (s.length - 4)) more hm (by rw [List.length_drop]; omega)
  rw [List.take_append_drop] at hh hend htk
  refine (unpack_any most n cb A (s ++ more) w hmost hT hb (by rw [List.length_append]; exact hn.symm) hcb hA0 hB).mono fun e w' hu => ⟨hu.1, ?_⟩
  have key := (unp_whole hu hh hend).1 (by rw [hub, List.length_append]; omega) (by rw [htk, hsum, hout])
  obtain ⟨v, he, how⟩ := key
  rw [hub] at he
  rw [hout] at how
  exact ⟨v, he, how⟩
/-- Packed bytes whose sum is another. -/
theorem unpack_turned {b s : List UInt8} (h : Packed b s) (tail : List UInt8) (htl : tail.length = 4) (hne : tail ≠ s.drop (s.length - 4)) (A : Option Addr) (n cb most : Nat) (w : World) (hT : Tab w) (hn : n = s.length) (hb : Holds w 1 A n (bvals (s.take (s.length - 4) ++ tail))) (hcb : n ≤ cb) (hA0 : A = none → cb = 0) (hB : n ≤ 90000) (hm : b.length ≤ most) (hmost : most ≤ 1073741824) :
    Calls Tryd.prog 7 #[.slice A n cb, .int .i64 (most : Int)] w fun e w' => Only [] w w' ∧ e = .returned (.tuple #[.slice none 0 0, .int .i64 0, .int .i64 4]) := by
  have h6 := h.six
  obtain ⟨t, hh, hend, hout, hub, htk, hsum⟩ := packed_end h tail [] hm htl
  rw [List.append_nil] at hh hend htk
  have hlen : (s.take (s.length - 4) ++ tail).length = s.length := by rw [List.length_append, List.length_take, htl]; omega
  refine (unpack_any most n cb A (s.take (s.length - 4) ++ tail) w hmost hT hb (hlen.trans hn.symm) hcb hA0 hB).mono fun e w' hu => ⟨hu.1, ?_⟩
  refine (unp_whole hu hh hend).2.1 (by rw [hub, hlen]; omega) ?_
  rw [htk, hout, ← hsum]
  exact hne
/-- A front of packed bytes. -/
theorem unpack_front {b s : List UInt8} (h : Packed b s) (cut : Nat) (hc : cut < s.length) (A : Option Addr) (cb most : Nat) (w : World) (hT : Tab w) (hb : Holds w 1 A cut (bvals (s.take cut))) (hcb : cut ≤ cb) (hA0 : A = none → cb = 0) (hB : cut ≤ 90000) (hm : b.length ≤ most) (hmost : most ≤ 1073741824) :
    Calls Tryd.prog 7 #[.slice A cut cb, .int .i64 (most : Int)] w fun e w' => Only [] w w' ∧ e = .returned (.tuple #[.slice none 0 0, .int .i64 0, .int .i64 2]) :=
  (unpack_any most cut cb A (s.take cut) w hmost hT hb (by rw [List.length_take]; omega) hcb hA0 hB).mono fun _ _ hu => ⟨hu.1, packed_front h hc hm hu⟩
/-- A cap below what they say. -/
theorem unpack_long {b s : List UInt8} (h : Packed b s) (A : Option Addr) (n cb most : Nat) (w : World) (hT : Tab w) (hn : s.length = n) (hb : Holds w 1 A n (bvals s)) (hcb : n ≤ cb) (hA0 : A = none → cb = 0) (hB : n ≤ 90000) (hm : most < b.length) (hmost : most ≤ 1073741824) :
    Calls Tryd.prog 7 #[.slice A n cb, .int .i64 (most : Int)] w fun e w' => Only [] w w' ∧ e = .returned (.tuple #[.slice none 0 0, .int .i64 0, .int .i64 5]) :=
  (unpack_any most n cb A s w hmost hT hb hn hcb hA0 hB).mono fun _ _ hu => ⟨hu.1, packed_long h hm hu⟩
/-- A head that may not be. -/
theorem unpack_bad2 (A : Option Addr) (cb most : Nat) (w : World) (hT : Tab w) (hb : Holds w 1 A 2 (bvals [0x78, 2])) (hcb : 2 ≤ cb) (hA0 : A = none → cb = 0) (hmost : most ≤ 1073741824) :
    Calls Tryd.prog 7 #[.slice A 2 cb, .int .i64 (most : Int)] w fun e w' => Only [] w w' ∧ e = .returned (.tuple #[.slice none 0 0, .int .i64 0, .int .i64 3]) := by
  refine (unpack_any most 2 cb A [0x78, 2] w hmost hT hb rfl hcb hA0 (by omega)).mono fun e w' hu => ⟨hu.1, ?_⟩
  have hno : ¬ UHead [0x78, 2] := fun hh => by
    have h2 : mhB 2 120 2 = true := hh.2
    exact absurd h2 (by decide)
  rcases hu.2 with ⟨c, _, hbad, he⟩ | ⟨hsh, _⟩ | ⟨t, v, hg, _, _⟩
  · rcases hbad with ⟨rfl, _⟩ | ⟨hh, _⟩ | ⟨_, hh, _⟩
    · exact he
    · exact absurd hh hno
    · exact absurd hh hno
  · rcases hsh with ⟨h2, _⟩ | ⟨hh, _⟩ | ⟨hh, _⟩
    · exact absurd h2 (by decide)
    · exact absurd hh hno
    · exact absurd hh hno
  · exact absurd hg.1 hno

theorem str_of {w : World} {A : Option Addr} {n : Nat} {l : List UInt8} (h : Holds w 1 A n (bvals l)) (c : Nat) : (convert 22 9 (.slice A n c)).run Tryd.prog w = .ok (.string ⟨l.toArray⟩) w :=
  run_string_of h c 22 5 9 Tryd.underlying22 Tryd.underlying5 Tryd.underlying9

theorem known_abc : [0x78, 0x01] ++ storeB true [97, 98, 99] ++ bigN (adWord (adOf [97, 98, 99])) = [120, 1, 1, 3, 0, 252, 255, 97, 98, 99, 2, 77, 1, 39] := by decide +kernel

set_option maxRecDepth 100000 in
set_option maxHeartbeats 4000000 in
theorem knownZ_any (w : World) (hT : Tab w) : Calls Tryd.prog 5 #[] w fun e w' => e = .returned (.bool true) ∧ Only [] w w' := by
  have hpk : Packed [97, 98, 99] [120, 1, 1, 3, 0, 252, 255, 97, 98, 99, 2, 77, 1, 39] := ⟨storeB true [97, 98, 99], .inl ⟨rfl, by decide⟩, known_abc.symm⟩
  have h1 := Holds.lit_mark w #[.int .u8 97, .int .u8 98, .int .u8 99] 5 (3, 4) w.heap.size rfl
  have hconst := run_bytes_const Tryd.prog 22 5 Tryd.underlying22 Tryd.underlying5 w #[.int .u8 97, .int .u8 98, .int .u8 99] 3 3 w.heap.size rfl
  have hconst : (convert 22 22 (.slice (some ⟨w.heap.size, 0, none⟩) 3 3)).run Tryd.prog (w.alloc (.cells #[.int .u8 97, .int .u8 98, .int .u8 99] 5)) = .ok (.slice (some ⟨w.heap.size, 0, none⟩) 3 3) (w.alloc (.cells #[.int .u8 97, .int .u8 98, .int .u8 99] 5 (3, 4))) := hconst
  have o1 : Only [] w (w.alloc (.cells #[.int .u8 97, .int .u8 98, .int .u8 99] 5 (3, 4))) := (Only.refl [] w).alloc _
  have H1 := hide (And.intro h1 o1)
  have HP : Hid (Calls Tryd.prog 6 #[.slice (some ⟨w.heap.size, 0, none⟩) 3 3, .bool false] (w.alloc (.cells #[.int .u8 97, .int .u8 98, .int .u8 99] 5 (3, 4))) fun e w' => ∃ A c, e = .returned (.slice A 14 c) ∧ 14 ≤ c ∧ (A = none → c = 0) ∧ Holds w' 1 A 14 (bvals [120, 1, 1, 3, 0, 252, 255, 97, 98, 99, 2, 77, 1, 39]) ∧ Only [] w w') := hide (by
    refine (pack_store (some ⟨w.heap.size, 0, none⟩) 3 3 [97, 98, 99] _ H1.out.1 rfl (by omega) (by omega) (fun bs => bs = storeB true [97, 98, 99]) (fun bs h => by rw [h, storeB_length]; decide) fun w1 ho => ?_).mono ?_
    · refine (store_any (some ⟨w.heap.size, 0, none⟩) 3 3 [97, 98, 99] w1 (H1.out.1.keep ho (by simp)) rfl (by omega)).mono ?_
      rintro e w' ⟨v, rfl, h1, h2⟩
      exact ⟨v, _, rfl, rfl, h1, h2⟩
    · rintro e w' ⟨v, bs, rfl, rfl, how, ho⟩
      rw [known_abc] at how
      obtain ⟨A, c, rfl, hc, hA⟩ := own_shape how
      exact ⟨A, c, rfl, hc, hA, Holds.of_own how, H1.out.2.trans ho (S := []) (by simp)⟩)
  have HT := hide hT
  clear hT h1 o1
  go_enter Tryd.func5, Tryd.ntmps5
  go_wp2_with fail
  refine (HP.out).mono ?_
  rintro e w1 ⟨A1, c1, rfl, hc1, hA1, hh1, ho1⟩
  have H2 := hide (And.intro hh1 ho1)
  clear hh1 ho1 hconst
  go_wp2_with fail
  refine (unpack_whole hpk [] A1 14 c1 3 w1 (HT.out.only H2.out.2 (by simp)) rfl H2.out.1 hc1 hA1 (by omega) (by decide) (by omega)).mono ?_
  rintro e w2 ⟨ho2, v, rfl, how2⟩
  obtain ⟨A2, c2, rfl, _, _⟩ := own_shape how2
  have H3 := hide (And.intro (H2.out.1.keep ho2 (by simp)) (And.intro (Holds.of_own how2) (H2.out.2.trans ho2 (S := []) (by simp))))
  clear ho2 how2
  go_wp2_with fail
  have h4 := Holds.lit w2 #[.int .u8 120, .int .u8 2] 5
  have o4 : Only [] w2 (w2.alloc (.cells #[.int .u8 120, .int .u8 2] 5)) := (Only.refl [] w2).alloc _
  refine (unpack_bad2 (some ⟨w2.heap.size, 0, none⟩) 2 3 _ ((HT.out.only H3.out.2.2 (by simp)).only o4 (by simp)) h4 (by omega) (by simp) (by omega)).mono ?_
  rintro e w3 ⟨ho3, rfl⟩
  have o5 := o4.trans ho3 (S := []) (by simp)
  have s1 : (convert 22 9 (.slice A1 14 c1)).run Tryd.prog w3 = .ok (.string ⟨#[120, 1, 1, 3, 0, 252, 255, 97, 98, 99, 2, 77, 1, 39]⟩) w3 := str_of (H3.out.1.keep o5 (by simp)) c1
  have s2 : (convert 22 9 (.slice A2 3 c2)).run Tryd.prog w3 = .ok (.string ⟨#[97, 98, 99]⟩) w3 := str_of (H3.out.2.1.keep o5 (by simp)) c2
  have H5 := hide (H3.out.2.2.trans o5 (S := []) (by simp))
  clear h4 o4 ho3 o5
  go_wp2_with fail
  go_ret
  exact ⟨rfl, H5.out⟩
end Go.Proofs.YtopjkmobnmaaaaaDoor


namespace Go.Proofs.YtopjkmobnmaaaaaDoor
open Go Go.RowKit

/-- Onto the empty row that was made just now. -/
theorem list_fresh {ops : Array Oper} {rest : List Oper} {o : Oper} {a : Act} {Q : Exit → Act → World → Prop} (hgd : o.guard = none) (s x : Operand)
    (ho : o.op = .call { callee := .builtin .append, args := #[s, x], argTypes := #[22, 22] }) (w : World) {A : Option Addr} {n c : Nat} {l : List UInt8} (hl : l.length = n) (hb : Holds w 1 A n (bvals l)) (hn : n ≤ 140737488355328)
    (g : Nat) (hg : g = w.heap.size) (hs : a.eval s = .slice (some ⟨g, 0, none⟩) 0 0) (hx : a.eval x = .slice A n c)
    (h : ∀ A' c' w', w'.ownsRow w.heap.size 5 1 (.slice A' n c') n (bvals l) → Only [] w w' → wpList Tryd.prog ops Q rest (a.put o.dst (.slice A' n c')) w') :
    wpList Tryd.prog ops Q (o :: rest) a (w.alloc (.cells #[] 5)) := by
  subst hg
  obtain ⟨i0, hi0, hz0, hz1, hz2⟩ := info_of u8_info
  have hol : (w.alloc (.cells #[] 5)).ownsRow w.heap.size 5 1 (.slice (some ⟨w.heap.size, 0, none⟩) 0 0) 0 [] :=
    ⟨rfl, .inr ⟨w.heap.size, 0, #[], rfl, Nat.le_refl _, Has.new w _ _, Nat.le_refl _, by unfold maxLen; omega, rfl, rfl⟩⟩
  have oa : Only [] w (w.alloc (.cells #[] 5)) := (Only.refl [] w).alloc _
  refine list_append _ hgd s x 22 ho w.heap.size 1 1 Tryd.underlying22 hi0 hz0 hz1 hz2 rfl (Nat.zero_lt_one) hol hs (hb.keep oa (by simp)) hx (bvals_one l) (by omega) (Nat.zero_lt_one) oa.size fun A' c' w' h1 h2 _ => ?_
  rw [Nat.zero_add] at h1 ⊢
  exact h A' c' w' (by simpa using h1) (oa.grown h2 (fun k hk hlt => by injection hk with hk; subst hk; exact absurd hlt (Nat.lt_irrefl _)))

/-- Onto a row that was made since w0. -/
theorem list_more {ops : Array Oper} {rest : List Oper} {o : Oper} {a : Act} {Q : Exit → Act → World → Prop} (hgd : o.guard = none) (s x : Operand)
    (ho : o.op = .call { callee := .builtin .append, args := #[s, x], argTypes := #[22, 22] }) (w0 w : World) {A A1 : Option Addr} {n c n1 c1 : Nat} {l l1 : List UInt8} (_ : l.length = n) (hb : Holds w 1 A n (bvals l)) (hn : n1 + n ≤ 140737488355328)
    (hown : w.ownsRow w0.heap.size 5 1 (.slice A1 n1 c1) n1 (bvals l1)) (ho0 : Only [] w0 w) (hs : a.eval s = .slice A1 n1 c1) (hx : a.eval x = .slice A n c)
    (h : ∀ A' c' w', w'.ownsRow w0.heap.size 5 1 (.slice A' (n1 + n) c') (n1 + n) (bvals (l1 ++ l)) → Only [] w0 w' → wpList Tryd.prog ops Q rest (a.put o.dst (.slice A' (n1 + n) c')) w') :
    wpList Tryd.prog ops Q (o :: rest) a w := by
  obtain ⟨i0, hi0, hz0, hz1, hz2⟩ := info_of u8_info
  refine list_append _ hgd s x 22 ho w0.heap.size 1 1 Tryd.underlying22 hi0 hz0 hz1 hz2 rfl (Nat.zero_lt_one) hown hs hb hx (bvals_one l) (by omega) (Nat.zero_lt_one) ho0.size fun A' c' w' h1 h2 _ => ?_
  exact h A' c' w' (by rw [bvals_append]; exact h1) (ho0.grown h2 (fun k hk hlt => by have := (hown.lt k hk).1; omega))
end Go.Proofs.YtopjkmobnmaaaaaDoor

