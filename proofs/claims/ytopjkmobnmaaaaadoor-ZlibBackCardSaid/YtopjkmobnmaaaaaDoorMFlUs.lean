/-
  Streams of stored bytes, and of literals in fixed codes (InfU on the new base): what they say, and where they end. | Package zlib: Pack. | Package zlib: where a new decoder's body stands. | Package zlib: the body is read.
-/
import Derived.Test.YtopjkmobnmaaaaaDoorMFlSt
import Derived.Test.YtopjkmobnmaaaaaDoorMZlP
import Derived.Test.YtopjkmobnmaaaaaDoorMZlL
import Derived.Test.YtopjkmobnmaaaaaDoorMSumE
namespace Go.Proofs.YtopjkmobnmaaaaaDoor

/-- The bytes bs are a stream that says b. -/
def IsStream (b bs : List UInt8) : Prop := (bs = storeB true b ∧ b.length < 65536) ∨ IsFixed b bs

theorem syms_bytes (b : List UInt8) : (symsOf b).reverse.map UInt8.ofNat = b := by
  unfold symsOf
  rw [List.reverse_reverse, List.map_map]
  have : (UInt8.ofNat ∘ UInt8.toNat) = id := by funext x; simp
  rw [this, List.map_id]

theorem IsStream.way {b bs : List UInt8} (h : IsStream b bs) (N j : Nat) (l0 : Bool) (out more : List UInt8) (hN : N / 2 ^ (8 * j) = num (bs ++ more)) :
    ∃ p, 0 < p ∧ (p + 7) / 8 = bs.length ∧ Way fixedL N ⟨0, l0, 0, 8 * j, out⟩ ⟨11, true, 0, 8 * j + p, out ++ b⟩ := by
  rcases h with ⟨rfl, hb⟩ | ⟨h1, h2⟩
  · refine ⟨8 * (5 + b.length), by omega, by rw [storeB_length]; omega, ?_⟩
    refine way_stored l0 true b j (num more) out hb ?_ _ ?_
    · rw [hN, num_append, storeB_length]; rfl
    · rw [show 8 * j + 8 * (5 + b.length) = 8 * (j + 5 + b.length) by omega]
      exact .stop _
  · obtain ⟨L, hL⟩ : ∃ L, L = bitsL fixedL (256 :: symsOf b) := ⟨_, rfl⟩
    refine ⟨3 + L, by omega, by rw [h2, hL], ?_⟩
    refine way_fixed l0 true (8 * j) (2 ^ (8 * bs.length - 3 - L) * num more) (symsOf b) out (fun i hi => ?_) (fixL_pos 256 (by decide)) ?_ _ ?_
    · unfold symsOf at hi
      rw [List.mem_reverse, List.mem_map] at hi
      obtain ⟨x, _, rfl⟩ := hi
      have := x.toNat_lt
      exact ⟨this, fixL_pos _ (by omega)⟩
    · rw [hN, num_append, h1, ← hL, pow_256]
      have e : 8 * bs.length = 3 + L + (8 * bs.length - 3 - L) := by omega
      rw [e, Nat.pow_add, Nat.pow_add, Nat.mul_add, show 3 + L + (8 * bs.length - 3 - L) - 3 - L = 8 * bs.length - 3 - L by omega]
      rw [Nat.mul_assoc, Nat.mul_assoc]
      show 3 + _ + _ = 1 + 2 + _
      omega
    · rw [syms_bytes, ← hL, Nat.add_assoc]
      exact .stop _

theorem IsStream.len_le {b bs : List UInt8} (h : IsStream b bs) : 0 < bs.length ∧ bs.length ≤ 2 * b.length + 5 := by
  rcases h with ⟨rfl, _⟩ | ⟨_, h2⟩
  · rw [storeB_length]; omega
  · have h1 := bitsL_le fixL_far' (256 :: symsOf b)
    rw [List.length_cons, symsOf_length] at h1
    rw [h2]
    omega

/-- A stored block that is not the last one, and a stream. -/
theorem IsStream.two {a b bs : List UInt8} (h : IsStream b bs) (ha : a.length < 65536) : ∃ p, 0 < p ∧ (p + 7) / 8 = 5 + a.length + bs.length ∧ Way fixedL (num (storeB false a ++ bs)) ⟨0, false, 0, 0, []⟩ ⟨11, true, 0, p, a ++ b⟩ := by
  have hlen : (storeB false a).length = 5 + a.length := storeB_length _ _
  obtain ⟨p, hp0, hp, hw⟩ := h.way (num (storeB false a ++ bs)) (5 + a.length) false a [] (by
    rw [List.append_nil, num_append, hlen, ← pow_256, Nat.add_mul_div_left _ _ (Nat.pow_pos (by decide)), Nat.div_eq_of_lt (by rw [← hlen]; exact num_lt _), Nat.zero_add])
  refine ⟨8 * (5 + a.length) + p, by omega, by omega, ?_⟩
  have := way_stored (T := fixedL) (N := num (storeB false a ++ bs)) false false a 0 (num bs) [] ha (by rw [Nat.mul_zero, Nat.pow_zero, Nat.div_one, num_append, hlen]; rfl) _ (by
    rw [List.nil_append, Nat.zero_add]
    exact hw)
  simpa using this

/-- What is read of a stream, with bytes behind. -/
theorem IsStream.alone {b bs : List UInt8} (h : IsStream b bs) (more : List UInt8) : ∃ p, 0 < p ∧ (p + 7) / 8 = bs.length ∧ Way fixedL (num (bs ++ more)) ⟨0, false, 0, 0, []⟩ ⟨11, true, 0, p, b⟩ := by
  obtain ⟨p, h0, h1, h2⟩ := h.way (num (bs ++ more)) 0 false [] more (by simp)
  exact ⟨p, h0, h1, by simpa using h2⟩

theorem known_a : IsStream [97] [75, 4, 0] := .inr (by unfold IsFixed; decide +kernel)
theorem known_hi : storeB true [104, 105] ++ [9] = [1, 2, 0, 253, 255, 104, 105, 9] := by decide +kernel

/-- The codes' lengths, as the steps want them. -/
theorem fixL_sm : Sm (cn fixedL) 16 ≤ 32768 := by decide +kernel
/-- A stream that is all there is whole: it says b, and takes just its bytes. -/
theorem IsStream.ends {b bs : List UInt8} (h : IsStream b bs) (more : List UInt8) {a most : Nat} (D0 : List UInt8) (ha : bs.length ≤ a) (hm : b.length ≤ most) {g : GSt} (hg : AtG fixedL ⟨0, false, 0, 0, []⟩ g) :
    ∃ u, Ends fixedL D0 (num (bs ++ more)) a most g 0 u ∧ u.k = 11 ∧ u.out = b ∧ 0 < u.p ∧ (u.p + 7) / 8 = bs.length := by
  obtain ⟨p, hp0, hp8, hway⟩ := h.alone more
  obtain ⟨u, hs, hu⟩ := hway.steps (D0 := D0) (most := most) fixL_sm fixL_far' (a := a) hg hm (by show p ≤ 8 * a; omega)
  exact ⟨u, hs.done hu.k, hu.k, hu.out, by rw [hu.p]; exact hp0, by rw [hu.p]; exact hp8⟩
end Go.Proofs.YtopjkmobnmaaaaaDoor


namespace Go.Proofs.YtopjkmobnmaaaaaDoor
open Go Go.RowKit

/-- b as a stream of zlib: its head, a stream that says b, its sum. -/
def Packed (b s : List UInt8) : Prop := ∃ bs, IsStream b bs ∧ s = [0x78, 0x01] ++ bs ++ bigN (adWord (adOf b))

theorem pack_any (fixed : Bool) (A : Option Addr) (n c : Nat) (b : List UInt8) (w : World) (hb : Holds w 1 A n (bvals b)) (hl : b.length = n) (hc : n ≤ c) (hn : n ≤ 4096) :
    Calls Tryd.prog 6 #[.slice A n c, .bool fixed] w fun e w' => ∃ v s, e = .returned v ∧ Packed b s ∧ s.length ≤ 9000 ∧ w'.ownsRow w.heap.size 5 1 v s.length (bvals s) ∧ Only [] w w' := by
  have hlen : ∀ bs, IsStream b bs → bs.length ≤ 8197 := fun bs h => by have := h.len_le; omega
  have hL : ∀ bs, IsStream b bs → bs.length ≤ 90000 := fun bs h => by have := hlen bs h; omega
  have hout : ∀ (e : Ending) (w' : World), (∃ v bs, e = .returned v ∧ IsStream b bs ∧ w'.ownsRow w.heap.size 5 1 v ([0x78, 0x01] ++ bs ++ bigN (adWord (adOf b))).length (bvals ([0x78, 0x01] ++ bs ++ bigN (adWord (adOf b)))) ∧ Only [] w w') →
      ∃ v s, e = .returned v ∧ Packed b s ∧ s.length ≤ 9000 ∧ w'.ownsRow w.heap.size 5 1 v s.length (bvals s) ∧ Only [] w w' := fun e w' ⟨v, bs, h1, h2, h3, h4⟩ => by
    refine ⟨v, _, h1, ⟨bs, h2, rfl⟩, ?_, h3, h4⟩
    have := hlen bs h2
    simp [bigN]
    omega
  cases fixed with
  | true =>
    refine (pack_fixed A n c b w hb hl hc (by omega) (IsStream b) hL fun w1 ho => ?_).mono fun e w' h => hout e w' h
    refine (fixedP_any A n c b w1 (hb.keep ho (by simp)) hl (by omega)).mono ?_
    rintro e w' ⟨v, bs, rfl, h1, h2, h3⟩
    exact ⟨v, bs, rfl, .inr h1, h2, h3⟩
  | false =>
    refine (pack_store A n c b w hb hl hc (by omega) (IsStream b) hL fun w1 ho => ?_).mono fun e w' h => hout e w' h
    refine (store_any A n c b w1 (hb.keep ho (by simp)) hl (by omega)).mono ?_
    rintro e w' ⟨v, rfl, h1, h2⟩
    exact ⟨v, _, rfl, .inl ⟨rfl, by omega⟩, h1, h2⟩
end Go.Proofs.YtopjkmobnmaaaaaDoor


namespace Go.Proofs.YtopjkmobnmaaaaaDoor
open Go Go.RowKit

/-- Nothing came yet. -/
def st0 : GSt := ⟨0, false, 0, 0, [], [], [], 0, 0, 0, [], 0, 0, [], 0⟩
theorem st0_at : AtG fixedL ⟨0, false, 0, 0, []⟩ st0 := ⟨rfl, rfl, fun h => absurd h (by decide), rfl, rfl, fun h => absurd h (by decide)⟩
theorem st0_wf : st0.Wf := by
  constructor
  all_goals simp [st0]

theorem rest_new {most g gw gt : Nat} {tl : List Value} {B : List UInt8} {w : World} (hd : Dc w g { DF.newZ most gw gt with tail := tl }) (hr : Rg w gw []) (ht : w.ownsRow 0 5 1 (.slice (some ⟨gt, 0, none⟩) 0 4) 0 [])
    (hne : gw ≠ gt) (hT : Tab w) (hg : g ∉ Gs ∧ gw ∉ Gs ∧ gt ∉ Gs) : Rest w g gw gt { DF.newZ most gw gt with tail := tl } B 0 0 st0 where
  dec := hd
  ring := hr
  wb := rfl
  wn := rfl
  wt := rfl
  wts := ht
  gwt := hne
  md := ⟨rfl, fun _ => rfl, fun h => absurd h (by decide), fun h => absurd h (by decide), fun h => absurd h (by decide), fun h => absurd h (by decide), hT⟩
  k := rfl
  wf := st0_wf
  pt := Pt.of rfl (by decide)
  ps := by show (0 : Nat) < 8; decide
  oa := Nat.le_refl _
  aB := Nat.zero_le _
  pa := Nat.le_refl _
  fx := .inl rfl
  gg := hg
  k11 := by decide
  far := by
    show 8 * 0 < (st0.nx fixedL fixedD2 (num B) most).1
    rw [GSt.nx_0 rfl]
    exact (by decide : 8 * 0 < st0.p + 3)
  fault := rfl
end Go.Proofs.YtopjkmobnmaaaaaDoor


namespace Go.Proofs.YtopjkmobnmaaaaaDoor
open Go Go.RowKit

theorem Rest.still {w w' : World} {g gw gt : Nat} {f : DF} {B : List UInt8} {a o : Nat} {s : GSt} {S : List Nat} (h : Rest w g gw gt f B a o s) (ho : Only S w w') (h1 : g ∉ S) (h2 : gw ∉ S) (h3 : gt ∉ S) (hO : Other w S) : Rest w' g gw gt f B a o s := by
  have hM := h.md.keep ho hO
  exact ⟨Has.only h.dec ho h1, h.ring.only ho h2, h.wb, h.wn, h.wt, own_keep h.wts ho (fun b hb hm => by
    injection hb with hb
    exact h3 (by rw [show gt = b from hb]; exact hm)), h.gwt, hM, h.k, h.wf, h.pt, h.ps, h.oa, h.aB, h.pa, h.fx.imp id (fun hx => hx.keep ho hO), h.gg, h.k11, h.far, h.fault⟩

/-- What comes of n bytes for the body. -/
def Bodied (B : List UInt8) (a n : Nat) (g gw gt ga : Nat) (f : DF) (s : GSt) (sm : Value) (wb : List UInt8) (w : World) (e : Ending) (w' : World) : Prop :=
  Only [g, gw, gt, ga] w w' ∧
    ((∃ (y : List UInt8) (v : Value) (f' : DF) (u : Nat), e = .returned (.tuple #[v, .int .i64 (u : Int), .int .i64 0]) ∧ f'.used = f.used + u ∧ (∀ b, v.ownBlock = some b → w.heap.size ≤ b) ∧ f'.most = f.most ∧ f'.z = f.z ∧ f'.tail = tailZ sm 1 wb 0 ∧ Dc w' g f' ∧ f'.fault = 0 ∧ f'.wb = .slice (some ⟨gw, 0, none⟩) 32768 32768 ∧
        w'.ownsRow 0 5 1 v y.length (bvals y) ∧ f'.total = f.total + y.length ∧ s.out.length + y.length ≤ f.most ∧ Adl w' ga (s.out ++ y) ∧
        ((f'.k = 11 ∧ ∃ t, End B (a + n) f.most s 0 t ∧ u = (t.p + 7) / 8 - a ∧ t.p ≤ 8 * (a + n) ∧ t.out = s.out ++ y) ∨
          (u = n ∧ ∃ o' t, End B (a + n) f.most s 2 t ∧ t.out = s.out ++ y ∧ Rest w' g gw gt f' B (a + n) o' t))) ∨
      (∃ (c : Nat) (f' : DF), (c = 3 ∨ c = 5) ∧ e = .returned (.tuple #[.slice none 0 0, .int .i64 0, .int .i64 (c : Int)]) ∧ f'.fault = c ∧ f'.most = f.most ∧ f'.z = f.z ∧ f'.tail = tailZ sm 1 wb 0 ∧ f'.used = f.used ∧ f'.wb = .slice (some ⟨gw, 0, none⟩) 32768 32768 ∧ Dc w' g f' ∧ ∃ t, End B (a + n) f.most s c t))

set_option maxRecDepth 100000 in
set_option maxHeartbeats 8000000 in
theorem bodyRead_any (B : List UInt8) (a o n cb : Nat) (A : Option Addr) (g gw gt ga : Nat) (f : DF) (s : GSt) (wb : List UInt8) (w : World) (h : Rest w g gw gt f B a o s) (hz : f.z = true)
    (ht : f.tail = tailZ (.iface 36 (.pointer (some ⟨ga, 0, none⟩))) 1 wb 0) (ha : Adl w ga s.out) (hgG : ga ∉ Gs)
    (hb : Holds w 1 A n (bvals ((B.drop a).take n))) (hcb : n ≤ cb) (han : a + n ≤ B.length) (hB : B.length ≤ 90000) (hl : s.out.length ≤ f.most) (hmost : f.most ≤ 1073741824) (hu : f.used + n ≤ 1000000000) (htt : f.total ≤ 1000000000)
    (hA : 0 < n → ∀ ad, A = some ad → ad.block ∉ [g, gw, gt]) :
    Calls Tryd.prog 38 #[.pointer (some ⟨g, 0, none⟩), .slice A n cb] w (Bodied B a n g gw gt ga f s (.iface 36 (.pointer (some ⟨ga, 0, none⟩))) wb w) := by
  have hW := write_all B a o n cb A g gw gt f s w h hb hcb han hB hl hmost hu htt hA
  have hU := used_any g f w h.dec
  have hne : ga ∉ [g, gw, gt] := by
    obtain ⟨x, _, _, hA⟩ := ha
    obtain ⟨ws, hws, _⟩ := h.ring
    intro hm
    simp only [List.mem_cons, List.not_mem_nil, or_false] at hm
    rcases hm with e | e | e
    · exact Has.ne h.dec hA (f.ne_ty (by decide) (by decide)) e.symm
    · exact Has.ne hws hA (by decide) e.symm
    · exact own_ne h.wts hA (by decide) (by rw [e]; rfl)
  have HI := hide (And.intro h (And.intro hz (And.intro ht (And.intro ha (And.intro hne (And.intro hl (And.intro hmost (And.intro hgG hu))))))))
  have HW := hide hW
  have HU := hide hU
  have hub : f.used ≤ 1000000000 := by omega
  have m1 := adler_write
  clear hW hU h hz ht ha hb hcb han hB hl hmost hu htt hA hne hgG
  go_enter Tryd.func38, Tryd.ntmps38
  go_wp2_with fail
  refine (HU.out).mono ?_
  rintro e w0 ⟨rfl, rfl⟩
  go_wp2_with fail
  refine (HW.out).mono ?_
  rintro e w1 ⟨c, y, v, f', rfl, hfr, hv, hmo, hz', htl, hd1, hfa, hwb, hcase⟩
  rcases hcase with ⟨rfl, hown, hto, hle, hfin⟩ | ⟨hc, rfl, hus, t, hE⟩
  · obtain ⟨A1, c1, rfl, hc1, _⟩ := own_shape hown
    have c357 : w1.cell? ⟨g, 357, none⟩ = some (.iface 36 (.pointer (some ⟨ga, 0, none⟩))) := by
      have := hd1.tail 0
      rw [htl, HI.out.2.2.1, tailZ_s] at this
      exact this
    have ha1 : Adl w1 ga s.out := HI.out.2.2.2.1.only hfr HI.out.2.2.2.2.1
    have hgalt := HI.out.2.2.2.1.lt
    have hAW := adlerWrite_any ga s.out A1 y.length c1 y w1 ha1 (Holds.of_own hown) rfl (by have := HI.out.2.2.2.2.2.2.1; omega) hc1 (fun _ ad had => by
      have := hv ad.block (by rw [had]; rfl)
      omega)
    have HAW := hide hAW
    have H1 := hide (And.intro hfr (And.intro hv (And.intro hmo (And.intro hz' (And.intro htl (And.intro hd1 (And.intro hfa (And.intro hwb (And.intro hown (And.intro hto (And.intro hle (And.intro hfin hgalt))))))))))))
    clear hfr hv hmo hz' htl hd1 hfa hwb hown hto hle hfin ha1 hAW hgalt
    go_wp2_with fail
    refine (HAW.out).mono ?_
    rintro e w2 ⟨rfl, ha2, ho2⟩
    have hnm := HI.out.2.2.2.2.1
    simp only [List.mem_cons, List.not_mem_nil, or_false, not_or] at hnm
    have hd2 : Dc w2 g f' := Has.only H1.out.2.2.2.2.2.1 ho2 (by simpa using fun e => hnm.1 e.symm)
    have HU2 := hide (used_any g f' w2 hd2)
    have hO : Other w1 [ga] := fun k hk _ => by
      obtain rfl : k = ga := by simpa using hk
      obtain ⟨x, _, _, hA⟩ := HI.out.2.2.2.1
      have hA1 : Has w1 k 80 _ := hA.only H1.out.1 HI.out.2.2.2.2.1
      exact ⟨⟨_, _, _, hA1, by decide, by decide⟩, HI.out.2.2.2.2.2.2.2.1⟩
    have o12 : Only [g, gw, gt, ga] w w2 := (H1.out.1.weak (T := [g, gw, gt, ga]) (by intro k hk _; simp only [List.mem_cons, List.not_mem_nil, or_false] at hk ⊢; omega)).trans (ho2.weak (T := [g, gw, gt, ga]) (by simp)) (by simp)
    have hown2 : w2.ownsRow 0 5 1 (.slice A1 y.length c1) y.length (bvals y) := own_keep H1.out.2.2.2.2.2.2.2.2.1 ho2 (fun b hb hm => by
      have h1 := H1.out.2.1 b hb
      have h2 := H1.out.2.2.2.2.2.2.2.2.2.2.2.2
      obtain h3 : b = ga := by simpa using hm
      omega)
    obtain ⟨u, hu, hfin2⟩ : ∃ u, f'.used = f.used + u ∧ u ≤ n ∧ ((f'.k = 11 ∧ ∃ t, End B (a + n) f.most s 0 t ∧ u = (t.p + 7) / 8 - a ∧ t.p ≤ 8 * (a + n) ∧ t.out = s.out ++ y) ∨
          (u = n ∧ ∃ o' t, End B (a + n) f.most s 2 t ∧ t.out = s.out ++ y ∧ Rest w2 g gw gt f' B (a + n) o' t)) := by
      rcases H1.out.2.2.2.2.2.2.2.2.2.2.2.1 with ⟨h11, t, h1, h2, h3, h4⟩ | ⟨h1, o', t, h2, h3, h4⟩
      · exact ⟨(t.p + 7) / 8 - a, h2, by omega, .inl ⟨h11, t, h1, rfl, h3, h4⟩⟩
      · exact ⟨n, h1, Nat.le_refl _, .inr ⟨rfl, o', t, h2, h3, h4.still ho2 (by simpa using fun e => hnm.1 e.symm) (by simpa using fun e => hnm.2.1 e.symm) (by simpa using fun e => hnm.2.2 e.symm) hO⟩⟩
    have hub2 : f'.used ≤ 1000000000 := by have := HI.out.2.2.2.2.2.2.2.2; omega
    have e1 : (f'.used : Int) - (f.used : Int) = (u : Int) := by omega
    have H2 := hide (And.intro o12 (And.intro hown2 (And.intro hd2 (And.intro ha2 (And.intro hu hfin2)))))
    clear o12 hown2 hd2 ha2 hu hfin2 ho2 hO hnm
    go_wp2_with fail
    refine (HU2.out).mono ?_
    rintro e w3 ⟨rfl, rfl⟩
    go_wp2_with fail
    go_ret3
    exact ⟨H2.out.1, .inl ⟨y, _, f', u, rfl, H2.out.2.2.2.2.1, H1.out.2.1, H1.out.2.2.1, H1.out.2.2.2.1, by rw [H1.out.2.2.2.2.1, HI.out.2.2.1], H2.out.2.2.1, H1.out.2.2.2.2.2.2.1, H1.out.2.2.2.2.2.2.2.1, H2.out.2.1, H1.out.2.2.2.2.2.2.2.2.2.1, H1.out.2.2.2.2.2.2.2.2.2.2.1, H2.out.2.2.2.1, H2.out.2.2.2.2.2.2⟩⟩
  · have H1 := hide (And.intro hfr (And.intro hmo (And.intro hz' (And.intro htl (And.intro hd1 (And.intro hfa (And.intro hwb (And.intro hus hE))))))))
    clear hfr hv hmo hz' htl hd1 hfa hwb hus hE
    rcases hc with rfl | rfl
    all_goals
      go_wp2_with fail
      go_ret3
      have h1 := H1.out
      exact ⟨h1.1.weak (by intro k hk _; simp only [List.mem_cons, List.not_mem_nil, or_false] at hk ⊢; omega), .inr ⟨_, f', by first | exact .inl rfl | exact .inr rfl, rfl, h1.2.2.2.2.2.1, h1.2.1, h1.2.2.1, by rw [h1.2.2.2.1, HI.out.2.2.1], h1.2.2.2.2.2.2.2.1, h1.2.2.2.2.2.2.1, h1.2.2.2.2.1, t, h1.2.2.2.2.2.2.2.2⟩⟩
end Go.Proofs.YtopjkmobnmaaaaaDoor

