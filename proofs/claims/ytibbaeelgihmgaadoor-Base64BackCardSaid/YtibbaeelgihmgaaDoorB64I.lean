/-
  Contracts of package base64: Decode.
-/
import Derived.Test.YtibbaeelgihmgaaDoorB64F
import Derived.Test.YtibbaeelgihmgaaDoorB64H
namespace Go.Proofs.YtibbaeelgihmgaaDoor
open Go Go.RowKit

theorem write_few {s : St} (hs : s.Ok) (l : List UInt8) : (s.write l).1.length ≤ 3 * l.length := by
  unfold St.write
  split
  · simp
  · rename_i hb
    have hb : s.bad = false := by simpa using hb
    cases h : s.run l with
    | none => simp
    | some x => exact run_few hs hb h
theorem write_err (s : St) (l : List UInt8) : (s.write l).2.1 = 0 ∨ (s.write l).2.1 = 3 ∧ (s.write l).1 = [] := by
  unfold St.write
  split
  · exact .inr ⟨rfl, rfl⟩
  · cases s.run l with
    | none => exact .inr ⟨rfl, rfl⟩
    | some x => exact .inl rfl
theorem fin_err (s : St) : s.fin.2.1 = 0 ∨ s.fin.2.1 = 3 ∧ s.fin.1 = [] := by
  unfold St.fin
  split
  · exact .inr ⟨rfl, rfl⟩
  · exact .inl rfl
theorem fin_few {s : St} (hs : s.Ok) : s.fin.1.length ≤ 3 := by
  have := hs.few
  unfold St.fin
  split
  · simp
  · show (outOf s.cs).length ≤ 3
    rw [outOf, outN_length]; omega
theorem decode_eq (l : List UInt8) : decode l = if (St.new.write l).2.1 = 0 then (if (St.new.write l).2.2.fin.2.1 = 0 then ((St.new.write l).1 ++ (St.new.write l).2.2.fin.1, 0) else ([], (St.new.write l).2.2.fin.2.1)) else ([], (St.new.write l).2.1) := by
  unfold decode
  split
  rename_i h
  rw [h]

/-- Like Makes, with an error's number beside. -/
def Makes2 (x : List UInt8 × Nat) (w : World) (e : Ending) (w' : World) : Prop :=
  ∃ v', e = .returned (.tuple #[v', .int .i64 (x.2 : Nat)]) ∧ w'.ownsRow w.heap.size 5 1 v' x.1.length (bvals x.1) ∧ Only [] w w'

set_option maxHeartbeats 2000000 in
theorem decode_any (A : Option Addr) (n c : Nat) (l : List UInt8) (w : World) (T : Tab w) (hb : Holds w 1 A n (bvals l)) (hl : l.length = n) (hn : n ≤ 100000) :
    Calls Tryd.prog 17 #[.slice A n c] w (Makes2 (decode l) w) := by
  subst hl
  rw [decode_eq]
  have hwf := write_few St.Ok.new l
  have hwo := write_ok St.Ok.new l
  have hwe := write_err St.new l
  have HT := hide (And.intro T hb)
  clear T hb
  have HW := hide (fun g w' (h : De w' g St.new) (T' : Tab w') (hb' : Holds w' 1 A l.length (bvals l)) hA => write_any g St.new A l.length c l w' T' h St.Ok.new hb' rfl (by omega) hA)
  generalize St.new.write l = x at *
  obtain ⟨o, er, t⟩ := x
  simp only at *
  have hff := fin_few hwo
  have hfe := fin_err t
  have HF := hide (fun g w' (h : De w' g t) => end_any g t w' h hwo)
  generalize t.fin = y at *
  obtain ⟨o2, er2, t2⟩ := y
  simp only at *
  have HL := hide (And.intro hwf hff)
  clear hwo hwf hff
  obtain ⟨i0, hi0, hz0, hz1, hz2⟩ := info_of u8_info
  rcases hwe with he0 | ⟨he3, ho⟩
  · subst he0
    rw [if_pos rfl]
    rcases hfe with he0 | ⟨he3, ho2⟩
    · subst he0
      rw [if_pos rfl]
      go_enter Tryd.func17, Tryd.ntmps17
      go_wp2_with fail
      refine (newDecoder_any w).mono ?_
      rintro e w1 ⟨g, rfl, hg, hd1, ho1⟩
      have hbk := HT.out.2.blk
      have HP := HW.out g w1 hd1 (HT.out.1.only ho1 (by simp) (by simp)) (HT.out.2.keep ho1 (by simp)) (fun h0 ad ha => by have := hbk h0 ad ha; omega)
      have H1 := hide (And.intro hg (And.intro hd1 (And.intro ho1 HP)))
      clear hg hd1 ho1 HP hbk
      go_wp2_with fail
      refine (H1.out.2.2.2).mono ?_
      rintro e w2 ⟨v2, rfl, ho2, hd2, hon2⟩
      have H2 := hide (And.intro ho2 (And.intro hd2 hon2))
      clear ho2 hd2 hon2
      go_wp2_with fail
      refine (HF.out g w2 H2.out.2.1).mono ?_
      rintro e w3 ⟨v3', rfl, ho3, hd3, hon3⟩
      obtain ⟨A2, c2, rfl, _, _⟩ := own_shape H2.out.1
      obtain ⟨A3, c3, rfl, _, _⟩ := own_shape ho3
      have hown2 : w3.ownsRow w.heap.size 5 1 (.slice A2 o.length c2) o.length (bvals o) := by
        refine own_keep (own_mono H2.out.1 H1.out.2.2.1.size) hon3 (fun b hb => ?_)
        have := H2.out.1.lt b hb
        have := H1.out.2.1.lt
        simp; omega
      have hsrc := Holds.of_own ho3
      have hon23 : Only [g] w1 w3 := H2.out.2.2.trans hon3 (by simp)
      have hB : w.heap.size ≤ w3.heap.size := Nat.le_trans H1.out.2.2.1.size hon23.size
      have hone := bvals_one o2
      have hrm : (o.length + o2.length) * 1 ≤ 140737488355328 := by have := HL.out; omega
      have H3 := hide (And.intro hown2 (And.intro hsrc (And.intro hon23 (And.intro hB (And.intro hone hrm)))))
      clear ho3 hd3 hon3 hown2 hsrc hon23 hB hone hrm
      go_wp2_with (at_builtin; refine list_append _ rfl (.tmp 26) (.tmp 27) 28 rfl w.heap.size 1 1 Tryd.underlying28 hi0 hz0 hz1 hz2 rfl (Nat.zero_lt_one) H3.out.1 rfl H3.out.2.1 rfl H3.out.2.2.2.2.1 H3.out.2.2.2.2.2 (Nat.zero_lt_one) H3.out.2.2.2.1 ?_; intro A4 c4 w4 hown4 hgrow hat; have H4 := hide (And.intro hown4 (And.intro hgrow hat)); clear hown4 hgrow hat)
      go_ret2
      refine ⟨_, rfl, by rw [List.length_append, bvals_append]; exact H4.out.1, ?_⟩
      have e1 : Only [] w w3 := H1.out.2.2.1.trans H3.out.2.2.1 (by have := H1.out.1; simp; omega)
      refine e1.grown H4.out.2.1 (fun k hk hlt => ?_)
      have := H3.out.1.lt k hk
      omega
    · subst he3
      subst ho2
      rw [if_neg (by decide)]
      go_enter Tryd.func17, Tryd.ntmps17
      go_wp2_with fail
      refine (newDecoder_any w).mono ?_
      rintro e w1 ⟨g, rfl, hg, hd1, ho1⟩
      have hbk := HT.out.2.blk
      have HP := HW.out g w1 hd1 (HT.out.1.only ho1 (by simp) (by simp)) (HT.out.2.keep ho1 (by simp)) (fun h0 ad ha => by have := hbk h0 ad ha; omega)
      have H1 := hide (And.intro hg (And.intro hd1 (And.intro ho1 HP)))
      clear hg hd1 ho1 HP hbk
      go_wp2_with fail
      refine (H1.out.2.2.2).mono ?_
      rintro e w2 ⟨v2, rfl, ho2, hd2, hon2⟩
      have H2 := hide (And.intro ho2 (And.intro hd2 hon2))
      clear ho2 hd2 hon2
      go_wp2_with fail
      refine (HF.out g w2 H2.out.2.1).mono ?_
      rintro e w3 ⟨v3', rfl, ho3, hd3, hon3⟩
      have H3 := hide (And.intro ho3 (And.intro hd3 hon3))
      clear ho3 hd3 hon3
      go_wp2_with fail
      go_ret2
      exact ⟨_, rfl, World.ownsRow_nil _ _ _ _, H1.out.2.2.1.trans (H2.out.2.2.trans H3.out.2.2 (by simp)) (by have := H1.out.1; simp; omega)⟩
  · subst he3
    subst ho
    rw [if_neg (by decide)]
    go_enter Tryd.func17, Tryd.ntmps17
    go_wp2_with fail
    refine (newDecoder_any w).mono ?_
    rintro e w1 ⟨g, rfl, hg, hd1, ho1⟩
    have hbk := HT.out.2.blk
    have HP := HW.out g w1 hd1 (HT.out.1.only ho1 (by simp) (by simp)) (HT.out.2.keep ho1 (by simp)) (fun h0 ad ha => by have := hbk h0 ad ha; omega)
    have H1 := hide (And.intro hg (And.intro hd1 (And.intro ho1 HP)))
    clear hg hd1 ho1 HP hbk
    go_wp2_with fail
    refine (H1.out.2.2.2).mono ?_
    rintro e w2 ⟨v2, rfl, ho2, hd2, hon2⟩
    have H2 := hide (And.intro ho2 (And.intro hd2 hon2))
    clear ho2 hd2 hon2
    go_wp2_with fail
    go_ret2
    exact ⟨_, rfl, World.ownsRow_nil _ _ _ _, H1.out.2.2.1.trans H2.out.2.2 (by have := H1.out.1; simp; omega)⟩
end Go.Proofs.YtibbaeelgihmgaaDoor
