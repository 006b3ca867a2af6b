/-
  Plain: what Unpack tells of packed bytes. | Plain: fronts of packed bytes, and caps below what they say. | string(b) of bytes. | Package zlib: Unpack of what Pack told; what every law asks first.
-/
import Derived.Test.YtlknhiihdejpeaaGreatDoorMZlT
import Derived.Test.YtlknhiihdejpeaaGreatDoorMMem
import Derived.Laws.BytesArg
namespace Go.Proofs.YtlknhiihdejpeaaGreatDoor
open Go Go.RowKit

theorem UHead.of {b : List UInt8} (rest : List UInt8) (h : b = 0x78 :: 0x01 :: rest) : UHead b := by subst h; exact ⟨by simp, by show mhB 2 120 1 = true; decide⟩
theorem UHead.no {b : List UInt8} (h : UHead b) : ¬ (b.length < 2) ∧ ¬ mhB (min b.length 2) (wz b 0) (wz b 1) = false := by
  have h1 := h.1
  refine ⟨by omega, ?_⟩
  rw [show min b.length 2 = 2 by omega, h.2]
  decide
/-- A body that is whole: all hangs on the sum. -/
theorem unp_whole {b : List UInt8} {most : Nat} {w w' : World} {e : Ending} {t : GSt} (h : Unp b most w e w') (hh : UHead b) (ht : UEnd b most 0 t) :
    (2 + ub t + 4 ≤ b.length → (b.drop (2 + ub t)).take 4 = bigN (adWord (adOf t.out)) → ∃ v, e = .returned (.tuple #[v, .int .i64 ((2 + ub t + 4 : Nat) : Int), .int .i64 0]) ∧ w'.ownsRow 0 5 1 v t.out.length (bvals t.out)) ∧
      (2 + ub t + 4 ≤ b.length → (b.drop (2 + ub t)).take 4 ≠ bigN (adWord (adOf t.out)) → e = .returned (.tuple #[.slice none 0 0, .int .i64 0, .int .i64 4])) ∧
      (b.length < 2 + ub t + 4 → e = .returned (.tuple #[.slice none 0 0, .int .i64 0, .int .i64 2])) := by
  have hno := hh.no
  rcases h.2 with ⟨c, hc, hbad, he⟩ | ⟨hsh, he⟩ | ⟨t', v, hg, he, how⟩
  · rcases hbad with ⟨_, hm⟩ | ⟨_, _, t', ht'⟩ | ⟨h4, _, t', ht', hle, hne⟩
    · exact absurd hm hno.2
    · exact absurd (Ends.det ht ht').1.symm hc
    · obtain rfl := (Ends.det ht ht').2
      subst h4
      exact ⟨fun _ h => absurd h hne, fun _ _ => he, fun h => by omega⟩
  · rcases hsh with ⟨h2, _⟩ | ⟨_, t', ht'⟩ | ⟨_, t', ht', hlt⟩
    · exact absurd h2 hno.1
    · exact absurd (Ends.det ht ht').1 (by decide)
    · obtain rfl := (Ends.det ht ht').2
      exact ⟨fun h => by omega, fun h => by omega, fun _ => he⟩
  · obtain rfl := (Ends.det ht hg.2.1).2
    exact ⟨fun _ _ => ⟨v, he, how⟩, fun _ h => absurd hg.2.2.2 h, fun h => by have := hg.2.2.1; omega⟩
/-- A body that is not whole: the error it has. -/
theorem unp_error {b : List UInt8} {most c : Nat} {w w' : World} {e : Ending} {t : GSt} (h : Unp b most w e w') (hh : UHead b) (hc : c ≠ 0) (ht : UEnd b most c t) : e = .returned (.tuple #[.slice none 0 0, .int .i64 0, .int .i64 (c : Int)]) := by
  have hno := hh.no
  rcases h.2 with ⟨c', hc', hbad, he⟩ | ⟨hsh, he⟩ | ⟨t', v, hg, he, how⟩
  · rcases hbad with ⟨_, hm⟩ | ⟨_, _, t', ht'⟩ | ⟨h4, _, t', ht', _⟩
    · exact absurd hm hno.2
    · rw [(Ends.det ht ht').1]; exact he
    · exact absurd (Ends.det ht ht').1 hc
  · rcases hsh with ⟨h2, _⟩ | ⟨_, t', ht'⟩ | ⟨_, t', ht', _⟩
    · exact absurd h2 hno.1
    · rw [(Ends.det ht ht').1]; exact he
    · exact absurd (Ends.det ht ht').1 hc
  · exact absurd (Ends.det ht hg.2.1).1 hc

/-- The body of packed bytes, whatever stands behind it. -/
theorem packed_end {b s : List UInt8} (h : Packed b s) (tail more : List UInt8) {most : Nat} (hm : b.length ≤ most) (htl : tail.length = 4) :
    ∃ t, UHead (s.take (s.length - 4) ++ tail ++ more) ∧ UEnd (s.take (s.length - 4) ++ tail ++ more) most 0 t ∧ t.out = b ∧ 2 + ub t + 4 = s.length ∧ ((s.take (s.length - 4) ++ tail ++ more).drop (2 + ub t)).take 4 = tail ∧ s.drop (s.length - 4) = bigN (adWord (adOf b)) := by
  obtain ⟨bs, hbs, rfl⟩ := h
  have hlen : ([0x78, 0x01] ++ bs ++ bigN (adWord (adOf b)) : List UInt8).length - 4 = ([0x78, 0x01] ++ bs : List UInt8).length := by simp [bigN]
  have htk : ([0x78, 0x01] ++ bs ++ bigN (adWord (adOf b)) : List UInt8).take (([0x78, 0x01] ++ bs ++ bigN (adWord (adOf b)) : List UInt8).length - 4) = [0x78, 0x01] ++ bs := by
    rw [hlen, List.take_left]
  have hdr : ([0x78, 0x01] ++ bs ++ bigN (adWord (adOf b)) : List UInt8).drop (([0x78, 0x01] ++ bs ++ bigN (adWord (adOf b)) : List UInt8).length - 4) = bigN (adWord (adOf b)) := by
    rw [hlen, List.drop_left]
  rw [htk, hdr]
  obtain ⟨t, hend, hk, hout, hp, hu⟩ := hbs.ends (tail ++ more) fixedD2 (a := ([0x78, 0x01] ++ bs ++ tail ++ more : List UInt8).length - 2) (most := most) (by simp) hm st0_at
  have hub : ub t = bs.length := hu
  refine ⟨t, UHead.of (bs ++ tail ++ more) (by simp), ?_, hout, ?_, ?_, rfl⟩
  · have e : ([0x78, 0x01] ++ bs ++ tail ++ more : List UInt8).drop 2 = bs ++ (tail ++ more) := by simp
    show End (([0x78, 0x01] ++ bs ++ tail ++ more : List UInt8).drop 2) _ most st0 0 t
    rw [e]
    exact hend
  · rw [hub]; simp [bigN]; omega
  · rw [hub]
    have e : ([0x78, 0x01] ++ bs ++ tail ++ more : List UInt8).drop (2 + bs.length) = tail ++ more := by
      rw [show ([0x78, 0x01] ++ bs ++ tail ++ more : List UInt8) = ([0x78, 0x01] ++ bs) ++ (tail ++ more) by simp, show 2 + bs.length = ([0x78, 0x01] ++ bs : List UInt8).length by simp; omega, List.drop_left]
    rw [e, List.take_append_of_le_length (by omega), List.take_of_length_le (by omega)]
end Go.Proofs.YtlknhiihdejpeaaGreatDoor


namespace Go.Proofs.YtlknhiihdejpeaaGreatDoor
open Go Go.RowKit

section
variable {T D0 : List UInt8} {N N' a most : Nat}

/-- A step, in other bits that are the same up to where it goes. -/
theorem Mv.same (hN : ∀ p n, p + n ≤ 8 * a → N / 2 ^ p % 2 ^ n = N' / 2 ^ p % 2 ^ n) {s t : St} (h : Mv T N s t) (hp : t.p ≤ 8 * a) : Mv T N' s t := by
  cases h with
  | stored l0 last p p' out h hp' =>
    have hp2 : p' ≤ 8 * a := hp
    exact .stored _ _ _ _ _ ((hN p 3 (by omega)).symm.trans h) hp'
  | fixed l0 last p out h =>
    have hp2 : p + 3 ≤ 8 * a := hp
    exact .fixed _ _ _ _ ((hN p 3 (by omega)).symm.trans h)
  | size last n p out hn h8 h =>
    have hp2 : p + 32 ≤ 8 * a := hp
    exact .size _ _ _ _ hn h8 ((hN p 32 (by omega)).symm.trans h)
  | byte last n p out h8 =>
    have hp2 : p + 8 ≤ 8 * a := hp
    have e : UInt8.ofNat (N / 2 ^ p) = UInt8.ofNat (N' / 2 ^ p) := by
      apply UInt8.toNat_inj.1
      rw [UInt8.toNat_ofNat', UInt8.toNat_ofNat']
      exact hN p 8 (by omega)
    rw [e]
    exact .byte _ _ _ _ h8
  | lit last i p out hi h0 h =>
    have hp2 : p + ln T i ≤ 8 * a := hp
    exact .lit _ _ _ _ hi h0 ((hN p _ hp2).symm.trans h)
  | eob last p out h0 h =>
    have hp2 : p + ln T 256 ≤ 8 * a := hp
    exact .eob _ _ _ h0 ((hN p _ hp2).symm.trans h)

/-- A code whose end is not there: more bits are looked at. -/
theorem need_more (hN : ∀ p n, p + n ≤ 8 * a → N / 2 ^ p % 2 ^ n = N' / 2 ^ p % 2 ^ n) (hS : Sm (cn T) 16 ≤ 32768) (h15 : ∀ i, ln T i ≤ 15) {i p : Nat} (hp : p ≤ 8 * a) (h0 : ln T i ≠ 0) (h : N / 2 ^ p % 2 ^ ln T i = rev (cd T i) (ln T i)) (hl : 8 * a < p + ln T i) :
    8 * a < p + needN T N' p := by
  have h1 := read_short hS h15 (left := 8 * a - p) h0 (by omega) h (cd_lt hS h0 (h15 _))
  rw [readM_congr T N N' p p (8 * a - p) (fun n hn => hN p n (by omega)), readM_left] at h1
  by_cases hlt : 8 * a - p < needN T N' p
  · omega
  · rw [if_neg hlt] at h1
    rcases huffN_err T N' p with h2 | h2
    · rw [h1] at h2; simp at h2
    · rw [h1] at h2; simp at h2

/-- A step that goes beyond what is there. -/
theorem Mv.beyond (hN : ∀ p n, p + n ≤ 8 * a → N / 2 ^ p % 2 ^ n = N' / 2 ^ p % 2 ^ n) (hS : Sm (cn T) 16 ≤ 32768) (h15 : ∀ i, ln T i ≤ 15) {s t : St} (h : Mv T N s t) {g : GSt} (hg : AtG T s g) (hs : s.p ≤ 8 * a) (hp : 8 * a < t.p) :
    g.k ≠ 11 ∧ 8 * a < (g.nx T D0 N' most).1 := by
  obtain ⟨hk, hl, hle, hgp, ho, ht⟩ := hg
  cases h with
  | stored l0 last p p' out h hp' =>
    replace hk : g.k = 0 := hk
    replace hgp : g.p = p := hgp
    have hp2 : 8 * a < p' := hp
    exact ⟨by omega, by rw [GSt.nx_0 hk]; show 8 * a < g.p + 3; omega⟩
  | fixed l0 last p out h =>
    replace hk : g.k = 0 := hk
    replace hgp : g.p = p := hgp
    have hp2 : 8 * a < p + 3 := hp
    exact ⟨by omega, by rw [GSt.nx_0 hk]; show 8 * a < g.p + 3; omega⟩
  | size last n p out hn h8 h =>
    replace hk : g.k = 1 := hk
    replace hgp : g.p = p := hgp
    have hp2 : 8 * a < p + 32 := hp
    exact ⟨by omega, by rw [GSt.nx_1 hk]; show 8 * a < g.p + 32; omega⟩
  | byte last n p out h8 =>
    replace hk : g.k = 2 := hk
    replace hgp : g.p = p := hgp
    have hp2 : 8 * a < p + 8 := hp
    exact ⟨by omega, by rw [GSt.nx_2 hk]; show 8 * a < g.p + 8; omega⟩
  | lit last i p out hi h0 h =>
    replace hk : g.k = 7 := hk
    replace hgp : g.p = p := hgp
    have hT : g.T = T := ht rfl
    have := need_more hN hS h15 hs h0 h hp
    exact ⟨by omega, by rw [GSt.nx_7 hk, hT, hgp]; exact this⟩
  | eob last p out h0 h =>
    replace hk : g.k = 7 := hk
    replace hgp : g.p = p := hgp
    have hT : g.T = T := ht rfl
    have := need_more hN hS h15 hs h0 h hp
    exact ⟨by omega, by rw [GSt.nx_7 hk, hT, hgp]; exact this⟩

/-- Of a way only a front is there. -/
theorem Way.short (hN : ∀ p n, p + n ≤ 8 * a → N / 2 ^ p % 2 ^ n = N' / 2 ^ p % 2 ^ n) (hS : Sm (cn T) 16 ≤ 32768) (h15 : ∀ i, ln T i ≤ 15) {s e : St} (h : Way T N s e) : ∀ {g : GSt}, AtG T s g → e.out.length ≤ most → s.p ≤ 8 * a → 8 * a < e.p →
    ∃ u, Ends T D0 N' a most g 2 u := by
  have hread : ∀ i p, ln T i ≠ 0 → N' / 2 ^ p % 2 ^ ln T i = rev (cd T i) (ln T i) → huffN T N' p = (i, 0, ln T i) := fun i p hi hb => read_back hS h15 hi (by have := h15 i; omega) hb
  induction h with
  | stop s => intro g _ _ h1 h2; omega
  | go h r ih =>
    intro g hg hm hs hp
    rename_i s t e
    by_cases htp : t.p ≤ 8 * a
    · have h1 := r.out_le
      obtain ⟨q, g1, hk, hn, hq, hg1⟩ := (h.same hN htp).nx (D0 := D0) (most := most) hread hg (by omega)
      obtain ⟨u, hu⟩ := ih hg1 hm htp hp
      exact ⟨u, .go _ _ _ _ (by rw [hg.k]; exact hk) (by rw [hn]; show q ≤ 8 * a; omega) (by rw [hn]) hu⟩
    · obtain ⟨h1, h2⟩ := h.beyond (D0 := D0) (most := most) hN hS h15 hg hs (by omega)
      exact ⟨_, .short _ h1 h2⟩

/-- A way that says more than there may be. -/
theorem Way.long (hS : Sm (cn T) 16 ≤ 32768) (h15 : ∀ i, ln T i ≤ 15) {s e : St} (h : Way T N s e) : ∀ {g : GSt}, AtG T s g → s.out.length ≤ most → most < e.out.length → e.p ≤ 8 * a → ∃ u, Ends T D0 N a most g 5 u := by
  have hread : ∀ i p, ln T i ≠ 0 → N / 2 ^ p % 2 ^ ln T i = rev (cd T i) (ln T i) → huffN T N p = (i, 0, ln T i) := fun i p hi hb => read_back hS h15 hi (by have := h15 i; omega) hb
  induction h with
  | stop s => intro g _ h1 h2 _; omega
  | go h r ih =>
    intro g hg hs hm hp
    rename_i s t e
    have hr := r.grow.1
    by_cases ht : t.out.length ≤ most
    · obtain ⟨q, g1, hk, hn, hq, hg1⟩ := h.nx (D0 := D0) (most := most) hread hg ht
      obtain ⟨u, hu⟩ := ih hg1 ht hm hp
      exact ⟨u, .go _ _ _ _ (by rw [hg.k]; exact hk) (by rw [hn]; show q ≤ 8 * a; omega) (by rw [hn]) hu⟩
    · obtain ⟨hk, hl, hle, hgp, ho, htt⟩ := hg
      cases h with
      | stored l0 last p p' out h hp' => exact absurd hs ht
      | fixed l0 last p out h => exact absurd hs ht
      | size last n p out hn h8 h => exact absurd hs ht
      | eob last p out h0 h => exact absurd hs ht
      | byte last n p out h8 =>
        replace hk : g.k = 2 := hk
        replace hgp : g.p = p := hgp
        replace ho : g.out = out := ho
        have hlen : ¬ g.out.length < most := by
          rw [ho]
          have : ¬ (out ++ [UInt8.ofNat (N / 2 ^ p)]).length ≤ most := ht
          simp at this; omega
        have hr : p + 8 ≤ e.p := hr
        refine ⟨g, .bad _ 5 (by omega) ?_ ?_⟩
        · rw [GSt.nx_2 hk]; show g.p + 8 ≤ 8 * a; omega
        · rw [GSt.nx_2 hk]; simp only [hlen, if_false]
      | lit last i p out hi h0 h =>
        replace hk : g.k = 7 := hk
        replace hgp : g.p = p := hgp
        replace ho : g.out = out := ho
        have hT : g.T = T := htt rfl
        have hlen : ¬ g.out.length < most := by
          rw [ho]
          have : ¬ (out ++ [UInt8.ofNat i]).length ≤ most := ht
          simp at this; omega
        have hr : p + ln T i ≤ e.p := hr
        have hrd := hread i p h0 h
        have hneed : needN T N p = ln T i := by unfold needN; rw [hrd]; rfl
        refine ⟨g, .bad _ 5 (by omega) ?_ ?_⟩
        · rw [GSt.nx_7 hk, hT, hgp]; show p + needN T N p ≤ 8 * a; rw [hneed]; omega
        · rw [GSt.nx_7 hk]
          simp only [hT, hgp, hrd]
          rw [if_neg (by omega), if_pos hi, if_neg hlen]
end

/-- What stands ahead of a place, in a front of the bytes. -/
theorem num_front (B : List UInt8) (a : Nat) : ∀ p n, p + n ≤ 8 * a → num B / 2 ^ p % 2 ^ n = num (B.take a) / 2 ^ p % 2 ^ n := fun p n h => by
  have := part_bits B a 0 p n (by omega)
  rw [List.drop_zero, Nat.mul_zero, Nat.zero_add] at this
  exact this.symm

/-- A front of packed bytes. -/
theorem packed_front {b s : List UInt8} (h : Packed b s) {cut most : Nat} (hc : cut < s.length) (hm : b.length ≤ most) {w w' : World} {e : Ending} (hu : Unp (s.take cut) most w e w') : e = .returned (.tuple #[.slice none 0 0, .int .i64 0, .int .i64 2]) := by
  obtain ⟨bs, hbs, rfl⟩ := h
  generalize hsm : bigN (adWord (adOf b)) = sm at *
  have hs4 : sm.length = 4 := by rw [← hsm]; simp [bigN]
  have hlen : ([0x78, 0x01] ++ bs ++ sm : List UInt8).length = bs.length + 6 := by simp; omega
  rw [hlen] at hc
  by_cases h2 : cut < 2
  · have hl : (([0x78, 0x01] ++ bs ++ sm : List UInt8).take cut).length = cut := by rw [List.length_take]; omega
    have hno : ¬ UHead (([0x78, 0x01] ++ bs ++ sm : List UInt8).take cut) := fun hh => by have := hh.1; omega
    have hmh : ¬ mhB (min (([0x78, 0x01] ++ bs ++ sm : List UInt8).take cut).length 2) (wz (([0x78, 0x01] ++ bs ++ sm : List UInt8).take cut) 0) (wz (([0x78, 0x01] ++ bs ++ sm : List UInt8).take cut) 1) = false := by
      rcases (show cut = 0 ∨ cut = 1 by omega) with rfl | rfl
      · show ¬ mhB (min 0 2) (wz [] 0) (wz [] 1) = false
        decide
      · show ¬ mhB (min 1 2) (wz [0x78] 0) (wz [0x78] 1) = false
        decide
    rcases hu.2 with ⟨c, _, hbad, _⟩ | ⟨_, he⟩ | ⟨t, v, hg, _, _⟩
    · rcases hbad with ⟨_, hx⟩ | ⟨hx, _⟩ | ⟨_, hx, _⟩
      · exact absurd hx hmh
      · exact absurd hx hno
      · exact absurd hx hno
    · exact he
    · exact absurd hg.1 hno
  · obtain ⟨d, rfl⟩ : ∃ d, cut = d + 2 := ⟨cut - 2, by omega⟩
    have hfr : ([0x78, 0x01] ++ bs ++ sm : List UInt8).take (d + 2) = 0x78 :: 0x01 :: (bs ++ sm).take d := by
      show (0x78 :: 0x01 :: (bs ++ sm) : List UInt8).take (d + 2) = _
      rfl
    rw [hfr] at hu
    have hh : UHead (0x78 :: 0x01 :: (bs ++ sm).take d) := UHead.of _ rfl
    have hdl : ((bs ++ sm).take d).length = d := by rw [List.length_take, List.length_append]; omega
    have ha : (0x78 :: 0x01 :: (bs ++ sm).take d : List UInt8).length - 2 = d := by simp only [List.length_cons, hdl]; omega
    by_cases hd : d < bs.length
    · obtain ⟨p, hp0, hp8, hway⟩ := hbs.alone sm
      obtain ⟨u, hend⟩ := hway.short (N' := num ((bs ++ sm).take d)) (D0 := fixedD2) (most := most) (num_front (bs ++ sm) d) fixL_sm fixL_far' st0_at hm (Nat.zero_le _) (by show 8 * d < p; omega)
      refine unp_error hu hh (by decide) (t := u) ?_
      show End ((bs ++ sm).take d) _ most st0 2 u
      rw [ha]
      exact hend
    · obtain ⟨k, rfl⟩ : ∃ k, d = bs.length + k := ⟨d - bs.length, by omega⟩
      have htk : (bs ++ sm).take (bs.length + k) = bs ++ sm.take k := by
        rw [List.take_append, List.take_of_length_le (by omega), show bs.length + k - bs.length = k by omega]
      obtain ⟨t, hend, hk, hout, hp, hub⟩ := hbs.ends (sm.take k) fixedD2 (a := bs.length + k) (most := most) (by omega) hm st0_at
      refine (unp_whole hu hh (t := t) ?_).2.2 ?_
      · show End ((bs ++ sm).take (bs.length + k)) _ most st0 0 t
        rw [ha, htk]
        exact hend
      · have : ub t = bs.length := hub
        rw [this]
        simp only [List.length_cons, hdl]
        omega

/-- Packed bytes, where there may not be so many. -/
theorem packed_long {b s : List UInt8} (h : Packed b s) {most : Nat} (hm : most < b.length) {w w' : World} {e : Ending} (hu : Unp s most w e w') : e = .returned (.tuple #[.slice none 0 0, .int .i64 0, .int .i64 5]) := by
  obtain ⟨bs, hbs, rfl⟩ := h
  generalize bigN (adWord (adOf b)) = sm at *
  have hh : UHead ([0x78, 0x01] ++ bs ++ sm) := UHead.of (bs ++ sm) rfl
  obtain ⟨p, hp0, hp8, hway⟩ := hbs.alone sm
  have ha : ([0x78, 0x01] ++ bs ++ sm : List UInt8).length - 2 = bs.length + sm.length := by simp
  obtain ⟨u, hend⟩ := hway.long (D0 := fixedD2) (most := most) (a := bs.length + sm.length) fixL_sm fixL_far' st0_at (Nat.zero_le _) hm (by show p ≤ 8 * (bs.length + sm.length); omega)
  refine unp_error hu hh (by decide) (t := u) ?_
  show End (bs ++ sm) _ most st0 5 u
  rw [ha]
  exact hend
end Go.Proofs.YtlknhiihdejpeaaGreatDoor


namespace Go.Proofs.YtlknhiihdejpeaaGreatDoor
open Go Go.RowKit

theorem str_of_list (l : List UInt8) : strOfNums (l.map fun b => (b.toNat : Int)) = ⟨l.toArray⟩ := by
  unfold strOfNums
  have e : (l.map fun b => (b.toNat : Int)).map (fun n => UInt8.ofNat n.toNat) = l := by
    rw [List.map_map]
    conv => rhs; rw [← List.map_id l]
    refine List.map_congr_left fun b _ => ?_
    simp
  rw [e]

theorem run_string_of {P : Program} {w : World} {A : Option Addr} {n : Nat} {l : List UInt8} (h : Holds w 1 A n (bvals l)) (c : Nat) (src e dst : TypeId)
    (hs : P.underlying src = some (.slice e)) (he : P.underlying e = some (.int .u8)) (hd : P.underlying dst = some .string) :
    (convert src dst (.slice A n c)).run P w = .ok (.string ⟨l.toArray⟩) w := by
  have hl : l.length = n := by have := h.1; rw [bvals_length] at this; omega
  rcases Nat.eq_zero_or_pos l.length with h0 | h0
  · have hn : n = 0 := by omega
    subst hn
    obtain rfl : l = [] := List.eq_nil_of_length_eq_zero h0
    cases A with
    | none =>
      rw [run_convert_bytes_nil (P := P) (w := w) src e hs he 0 c dst hd]
      rfl
    | some ad =>
      rw [run_convert_bytes_string w src dst e _ 0 c hs he hd]
      have hl : (loadCells ad 0).run P w = .ok (([] : List Int).map (Value.int .u8)).toArray w := by
        have := run_loadCells_list (P := P) w ad [] (by simp)
        simpa using this
      rw [run_bytesToString w ad 0 c [] hl]
      rfl
  · obtain ⟨b, o, rfl, hc⟩ := h.addr (by simpa using h0)
    rw [run_convert_bytes_arg (P := P) (w := w) src e hs he b o n c (l.map fun x => (x.toNat : Int)) (by simpa using hl) (fun i hi => by
      rw [hc i _ (bvals_get l i (by omega))]
      simp [show i < l.length by omega]) dst hd, str_of_list]
end Go.Proofs.YtlknhiihdejpeaaGreatDoor


namespace Go.Proofs.YtlknhiihdejpeaaGreatDoor
open Go Go.RowKit

theorem Packed.six {b s : List UInt8} (h : Packed b s) : 6 ≤ s.length := by
  obtain ⟨bs, hbs, rfl⟩ := h
  simp [bigN]
/-- Packed bytes, with others behind. -/
theorem unpack_whole {b s : List UInt8} (h : Packed b s) (more : List UInt8) (A : Option Addr) (n cb most : Nat) (w : World) (hT : Tab w) (hn : n = s.length + more.length) (hb : Holds w 1 A n (bvals (s ++ more))) (hcb : n ≤ cb) (hA0 : A = none → cb = 0) (hB : n ≤ 90000) (hm : b.length ≤ most) (hmost : most ≤ 1073741824) :
    Calls Tryz.prog 6 #[.slice A n cb, .int .i64 (most : Int)] w fun e w' => Only [] w w' ∧ ∃ v, e = .returned (.tuple #[v, .int .i64 (s.length : Int), .int .i64 0]) ∧ w'.ownsRow 0 5 1 v b.length (bvals b) := by
  have h6 := h.six
  obtain ⟨t, hh, hend, hout, hub, htk, hsum⟩ := packed_end h (s.drop (s.length - 4)) more hm (by rw [List.length_drop]; omega)
  rw [List.take_append_drop] at hh hend htk
  refine (unpack_any most n cb A (s ++ more) w hmost hT hb (by rw [List.length_append]; exact hn.symm) hcb hA0 hB).mono fun e w' hu => ⟨hu.1, ?_⟩
  have key := (unp_whole hu hh hend).1 (by rw [hub, List.length_append]; omega) (by rw [htk, hsum, hout])
  obtain ⟨v, he, how⟩ := key
  rw [hub] at he
  rw [hout] at how
  exact ⟨v, he, how⟩
/-- Packed bytes whose sum is another. -/
theorem unpack_turned {b s : List UInt8} (h : Packed b s) (tail : List UInt8) (htl : tail.length = 4) (hne : tail ≠ s.drop (s.length - 4)) (A : Option Addr) (n cb most : Nat) (w : World) (hT : Tab w) (hn : n = s.length) (hb : Holds w 1 A n (bvals (s.take (s.length - 4) ++ tail))) (hcb : n ≤ cb) (hA0 : A = none → cb = 0) (hB : n ≤ 90000) (hm : b.length ≤ most) (hmost : most ≤ 1073741824) :
    Calls Tryz.prog 6 #[.slice A n cb, .int .i64 (most : Int)] w fun e w' => Only [] w w' ∧ e = .returned (.tuple #[.slice none 0 0, .int .i64 0, .int .i64 4]) := by
  have h6 := h.six
  obtain ⟨t, hh, hend, hout, hub, htk, hsum⟩ := packed_end h tail [] hm htl
  rw [List.append_nil] at hh hend htk
  have hlen : (s.take (s.length - 4) ++ tail).length = s.length := by rw [List.length_append, List.length_take, htl]; omega
  refine (unpack_any most n cb A (s.take (s.length - 4) ++ tail) w hmost hT hb (hlen.trans hn.symm) hcb hA0 hB).mono fun e w' hu => ⟨hu.1, ?_⟩
  refine (unp_whole hu hh hend).2.1 (by rw [hub, hlen]; omega) ?_
  rw [htk, hout, ← hsum]
  exact hne
/-- A front of packed bytes. -/
theorem unpack_front {b s : List UInt8} (h : Packed b s) (cut : Nat) (hc : cut < s.length) (A : Option Addr) (cb most : Nat) (w : World) (hT : Tab w) (hb : Holds w 1 A cut (bvals (s.take cut))) (hcb : cut ≤ cb) (hA0 : A = none → cb = 0) (hB : cut ≤ 90000) (hm : b.length ≤ most) (hmost : most ≤ 1073741824) :
    Calls Tryz.prog 6 #[.slice A cut cb, .int .i64 (most : Int)] w fun e w' => Only [] w w' ∧ e = .returned (.tuple #[.slice none 0 0, .int .i64 0, .int .i64 2]) :=
  (unpack_any most cut cb A (s.take cut) w hmost hT hb (by rw [List.length_take]; omega) hcb hA0 hB).mono fun _ _ hu => ⟨hu.1, packed_front h hc hm hu⟩
/-- A cap below what they say. -/
theorem unpack_long {b s : List UInt8} (h : Packed b s) (A : Option Addr) (n cb most : Nat) (w : World) (hT : Tab w) (hn : s.length = n) (hb : Holds w 1 A n (bvals s)) (hcb : n ≤ cb) (hA0 : A = none → cb = 0) (hB : n ≤ 90000) (hm : most < b.length) (hmost : most ≤ 1073741824) :
    Calls Tryz.prog 6 #[.slice A n cb, .int .i64 (most : Int)] w fun e w' => Only [] w w' ∧ e = .returned (.tuple #[.slice none 0 0, .int .i64 0, .int .i64 5]) :=
  (unpack_any most n cb A s w hmost hT hb hn hcb hA0 hB).mono fun _ _ hu => ⟨hu.1, packed_long h hm hu⟩
/-- A head that may not be. -/
theorem unpack_bad2 (A : Option Addr) (cb most : Nat) (w : World) (hT : Tab w) (hb : Holds w 1 A 2 (bvals [0x78, 2])) (hcb : 2 ≤ cb) (hA0 : A = none → cb = 0) (hmost : most ≤ 1073741824) :
    Calls Tryz.prog 6 #[.slice A 2 cb, .int .i64 (most : Int)] w fun e w' => Only [] w w' ∧ e = .returned (.tuple #[.slice none 0 0, .int .i64 0, .int .i64 3]) := by
  refine (unpack_any most 2 cb A [0x78, 2] w hmost hT hb rfl hcb hA0 (by omega)).mono fun e w' hu => ⟨hu.1, ?_⟩
  have hno : ¬ UHead [0x78, 2] := fun hh => by
    have h2 : mhB 2 120 2 = true := hh.2
    exact absurd h2 (by decide)
  rcases hu.2 with ⟨c, _, hbad, he⟩ | ⟨hsh, _⟩ | ⟨t, v, hg, _, _⟩
  · rcases hbad with ⟨rfl, _⟩ | ⟨hh, _⟩ | ⟨_, hh, _⟩
    · exact he
    · exact absurd hh hno
    · exact absurd hh hno
  · rcases hsh with ⟨h2, _⟩ | ⟨hh, _⟩ | ⟨hh, _⟩
    · exact absurd h2 (by decide)
    · exact absurd hh hno
    · exact absurd hh hno
  · exact absurd hg.1 hno

theorem str_of {w : World} {A : Option Addr} {n : Nat} {l : List UInt8} (h : Holds w 1 A n (bvals l)) (c : Nat) : (convert 22 9 (.slice A n c)).run Tryz.prog w = .ok (.string ⟨l.toArray⟩) w :=
  run_string_of h c 22 5 9 Tryz.underlying22 Tryz.underlying5 Tryz.underlying9

theorem known_abc : [0x78, 0x01] ++ storeB true [97, 98, 99] ++ bigN (adWord (adOf [97, 98, 99])) = [120, 1, 1, 3, 0, 252, 255, 97, 98, 99, 2, 77, 1, 39] := by decide +kernel

set_option maxRecDepth 100000 in
set_option maxHeartbeats 4000000 in
theorem knownZ_any (w : World) (hT : Tab w) : Calls Tryz.prog 5 #[] w fun e w' => e = .returned (.bool true) ∧ Only [] w w' := by
  have hpk : Packed [97, 98, 99] [120, 1, 1, 3, 0, 252, 255, 97, 98, 99, 2, 77, 1, 39] := ⟨storeB true [97, 98, 99], .inl ⟨rfl, by decide⟩, known_abc.symm⟩
  have h1 := Holds.lit_mark w #[.int .u8 97, .int .u8 98, .int .u8 99] 5 (3, 4) w.heap.size rfl
  have hconst := run_bytes_const Tryz.prog 22 5 Tryz.underlying22 Tryz.underlying5 w #[.int .u8 97, .int .u8 98, .int .u8 99] 3 3 w.heap.size rfl
  have hconst : (convert 22 22 (.slice (some ⟨w.heap.size, 0, none⟩) 3 3)).run Tryz.prog (w.alloc (.cells #[.int .u8 97, .int .u8 98, .int .u8 99] 5)) = .ok (.slice (some ⟨w.heap.size, 0, none⟩) 3 3) (w.alloc (.cells #[.int .u8 97, .int .u8 98, .int .u8 99] 5 (3, 4))) := hconst
  have o1 : Only [] w (w.alloc (.cells #[.int .u8 97, .int .u8 98, .int .u8 99] 5 (3, 4))) := (Only.refl [] w).alloc _
  have H1 := hide (And.intro h1 o1)
  have HP : Hid (Calls Tryz.prog 8 #[.slice (some ⟨w.heap.size, 0, none⟩) 3 3, .bool false] (w.alloc (.cells #[.int .u8 97, .int .u8 98, .int .u8 99] 5 (3, 4))) fun e w' => ∃ A c, e = .returned (.slice A 14 c) ∧ 14 ≤ c ∧ (A = none → c = 0) ∧ Holds w' 1 A 14 (bvals [120, 1, 1, 3, 0, 252, 255, 97, 98, 99, 2, 77, 1, 39]) ∧ Only [] w w') := hide (by
    refine (pack_store (some ⟨w.heap.size, 0, none⟩) 3 3 [97, 98, 99] _ H1.out.1 rfl (by omega) (by omega) (fun bs => bs = storeB true [97, 98, 99]) (fun bs h => by rw [h, storeB_length]; decide) fun w1 ho => ?_).mono ?_
    · refine (store_any (some ⟨w.heap.size, 0, none⟩) 3 3 [97, 98, 99] w1 (H1.out.1.keep ho (by simp)) rfl (by omega)).mono ?_
      rintro e w' ⟨v, rfl, h1, h2⟩
      exact ⟨v, _, rfl, rfl, h1, h2⟩
    · rintro e w' ⟨v, bs, rfl, rfl, how, ho⟩
      rw [known_abc] at how
      obtain ⟨A, c, rfl, hc, hA⟩ := own_shape how
      exact ⟨A, c, rfl, hc, hA, Holds.of_own how, H1.out.2.trans ho (S := []) (by simp)⟩)
  have HT := hide hT
  clear hT h1 o1
  go_enter Tryz.func5, Tryz.ntmps5
  go_wp2_with fail
  refine (HP.out).mono ?_
  rintro e w1 ⟨A1, c1, rfl, hc1, hA1, hh1, ho1⟩
  have H2 := hide (And.intro hh1 ho1)
  clear hh1 ho1 hconst
  go_wp2_with fail
  refine (unpack_whole hpk [] A1 14 c1 3 w1 (HT.out.only H2.out.2 (by simp)) rfl H2.out.1 hc1 hA1 (by omega) (by decide) (by omega)).mono ?_
  rintro e w2 ⟨ho2, v, rfl, how2⟩
  obtain ⟨A2, c2, rfl, _, _⟩ := own_shape how2
  have H3 := hide (And.intro (H2.out.1.keep ho2 (by simp)) (And.intro (Holds.of_own how2) (H2.out.2.trans ho2 (S := []) (by simp))))
  clear ho2 how2
  go_wp2_with fail
  have h4 := Holds.lit w2 #[.int .u8 120, .int .u8 2] 5
  have o4 : Only [] w2 (w2.alloc (.cells #[.int .u8 120, .int .u8 2] 5)) := (Only.refl [] w2).alloc _
  refine (unpack_bad2 (some ⟨w2.heap.size, 0, none⟩) 2 3 _ ((HT.out.only H3.out.2.2 (by simp)).only o4 (by simp)) h4 (by omega) (by simp) (by omega)).mono ?_
  rintro e w3 ⟨ho3, rfl⟩
  have o5 := o4.trans ho3 (S := []) (by simp)
  have s1 : (convert 22 9 (.slice A1 14 c1)).run Tryz.prog w3 = .ok (.string ⟨#[120, 1, 1, 3, 0, 252, 255, 97, 98, 99, 2, 77, 1, 39]⟩) w3 := str_of (H3.out.1.keep o5 (by simp)) c1
  have s2 : (convert 22 9 (.slice A2 3 c2)).run Tryz.prog w3 = .ok (.string ⟨#[97, 98, 99]⟩) w3 := str_of (H3.out.2.1.keep o5 (by simp)) c2
  have H5 := hide (H3.out.2.2.trans o5 (S := []) (by simp))
  clear h4 o4 ho3 o5
  go_wp2_with fail
  go_ret
  exact ⟨rfl, H5.out⟩
end Go.Proofs.YtlknhiihdejpeaaGreatDoor

