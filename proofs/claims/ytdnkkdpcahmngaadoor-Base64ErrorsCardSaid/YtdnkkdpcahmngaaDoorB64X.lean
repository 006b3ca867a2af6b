/-
  Contracts of the reference: Decode, Encode.
-/
import Derived.Test.YtdnkkdpcahmngaaDoorB64W
import Derived.Test.YtdnkkdpcahmngaaDoorB64I
namespace Go.Proofs.YtdnkkdpcahmngaaDoor
open Go Go.RowKit

set_option maxHeartbeats 2000000 in
theorem tDecode (A : Option Addr) (n c : Nat) (l : List UInt8) (w : World) (hb : Holds w 1 A n (bvals l)) (hl : l.length = n) (hn : n ≤ 100000) :
    Calls Tryd.prog 18 #[.slice A n c] w (Makes2 (decode l) w) := by
  subst hl
  rw [decode_eq]
  have hwf := write_few St.Ok.new l
  have hwo := write_ok St.Ok.new l
  have hwe := write_err St.new l
  have hbk := hb.blk
  have hon1 : Only [] w (w.alloc (.cells #[.slice none 0 0, .bool false, .bool false] 30)) := (Only.refl [] w).alloc _
  have HW := hide (tWrite w.heap.size w.heap.size _ St.new A l.length c l _ (Rf.fresh w.heap.size w _ rfl) St.Ok.new (by simp) (hb.keep hon1 (by simp)) rfl (by omega) (fun h0 ad ha => ⟨by have := hbk h0 ad ha; omega, by simp [Value.ownBlock]⟩))
  have HO := hide hon1
  clear hb hbk hon1
  generalize St.new.write l = x at *
  obtain ⟨o, er, t⟩ := x
  simp only at *
  have hff := fin_few hwo
  have hfe := fin_err t
  have HF := hide (fun v w' (h : Rf w.heap.size w' w.heap.size v t) => tEnd w.heap.size w.heap.size v t w' h hwo)
  generalize t.fin = y at *
  obtain ⟨o2, er2, t2⟩ := y
  simp only at *
  have HL := hide (And.intro hwf hff)
  clear hwo hwf hff
  obtain ⟨i0, hi0, hz0, hz1, hz2⟩ := info_of u8_info
  rcases hwe with he0 | ⟨he3, ho⟩
  · subst he0
    rw [if_pos rfl]
    rcases hfe with he0 | ⟨he3, ho2⟩
    · subst he0
      rw [if_pos rfl]
      go_enter Tryd.func18, Tryd.ntmps18
      go_wp2_with fail
      refine (HW.out).mono ?_
      rintro e w2 ⟨r2, v2, rfl, ho2, hr2, hs2⟩
      have H2 := hide (And.intro ho2 (And.intro hr2 hs2))
      clear ho2 hr2 hs2
      go_wp2_with fail
      refine (HF.out v2 w2 H2.out.2.1).mono ?_
      rintro e w3 ⟨A3, m3, c3, v3', rfl, hh3, hr3, _, ho3⟩
      obtain ⟨A2, c2, rfl, _, _⟩ := own_shape H2.out.1
      have hne := own_ne H2.out.1 H2.out.2.1.has (by decide)
      have hown2 : w3.ownsRow w.heap.size 5 1 (.slice A2 o.length c2) o.length (bvals o) :=
        own_mono (own_keep H2.out.1 ho3 (fun b hb hm => hne (by rw [hb]; simp at hm; rw [hm]))) HO.out.size
      have hB : w.heap.size ≤ w3.heap.size := Nat.le_trans HO.out.size (Nat.le_trans H2.out.2.2.only.size ho3.size)
      have hone := bvals_one o2
      have hml := hh3.1
      rw [bvals_length, Nat.mul_one] at hml
      have hml : o2.length = m3 := hml
      have hrm : (o.length + m3) * 1 ≤ 140737488355328 := by have := HL.out; omega
      have hon3 : Only [] w w3 := by
        refine HO.out.trans (H2.out.2.2.only.trans ho3 (T := [w.heap.size]) (S := [w.heap.size] ++ (Value.slice none 0 0).ownBlock.toList) (by simp)) ?_
        intro i hi hlt
        have : i = w.heap.size := by simpa [Value.ownBlock] using hi
        omega
      have H3 := hide (And.intro hown2 (And.intro hh3 (And.intro hon3 (And.intro hB (And.intro hone (And.intro hrm hml))))))
      clear hh3 hr3 ho3 hown2 hB hone hrm hml hon3 hne
      go_wp2_with (at_builtin; refine list_append _ rfl (.tmp 28) (.tmp 29) 28 rfl w.heap.size 1 1 Tryd.underlying28 hi0 hz0 hz1 hz2 rfl (Nat.zero_lt_one) H3.out.1 rfl H3.out.2.1 rfl H3.out.2.2.2.2.1 H3.out.2.2.2.2.2.1 (Nat.zero_lt_one) H3.out.2.2.2.1 ?_; intro A4 c4 w4 hown4 hgrow hat; have H4 := hide (And.intro hown4 (And.intro hgrow hat)); clear hown4 hgrow hat)
      go_ret2
      refine ⟨_, rfl, by rw [List.length_append, bvals_append, H3.out.2.2.2.2.2.2]; exact H4.out.1, ?_⟩
      refine H3.out.2.2.1.grown H4.out.2.1 (fun k hk hlt => ?_)
      have := H3.out.1.lt k hk
      omega
    · subst he3
      subst ho2
      rw [if_neg (by decide)]
      go_enter Tryd.func18, Tryd.ntmps18
      go_wp2_with fail
      refine (HW.out).mono ?_
      rintro e w2 ⟨r2, v2, rfl, ho2, hr2, hs2⟩
      have H2 := hide (And.intro ho2 (And.intro hr2 hs2))
      clear ho2 hr2 hs2
      go_wp2_with fail
      refine (HF.out v2 w2 H2.out.2.1).mono ?_
      rintro e w3 ⟨A3, m3, c3, v3', rfl, hh3, hr3, _, ho3⟩
      have H3 := hide ho3
      clear hh3 hr3 ho3
      go_wp2_with fail
      go_ret2
      refine ⟨_, rfl, World.ownsRow_nil _ _ _ _, HO.out.trans (H2.out.2.2.only.trans H3.out (T := [w.heap.size]) (S := [w.heap.size] ++ (Value.slice none 0 0).ownBlock.toList) (by simp)) ?_⟩
      intro i hi hlt
      have : i = w.heap.size := by simpa [Value.ownBlock] using hi
      omega
  · subst he3
    subst ho
    rw [if_neg (by decide)]
    go_enter Tryd.func18, Tryd.ntmps18
    go_wp2_with fail
    refine (HW.out).mono ?_
    rintro e w2 ⟨r2, v2, rfl, ho2, hr2, hs2⟩
    have H2 := hide hs2
    clear ho2 hr2 hs2
    go_wp2_with fail
    go_ret2
    refine ⟨_, rfl, World.ownsRow_nil _ _ _ _, HO.out.trans H2.out.only ?_⟩
    intro i hi hlt
    have : i = w.heap.size := by simpa [Value.ownBlock] using hi
    omega
end Go.Proofs.YtdnkkdpcahmngaaDoor
