/-
  Package zlib, in pieces: a part of the head, of the body, of the sum. | Package zlib, in pieces: a Write.
-/
import Derived.Test.YtlknhiihdejpeaaGreatDoorMRzA
import Derived.Test.YtlknhiihdejpeaaGreatDoorMRzB
import Derived.Test.YtlknhiihdejpeaaGreatDoorMZlT
import Derived.Test.YtlknhiihdejpeaaGreatDoorMZlH
namespace Go.Proofs.YtlknhiihdejpeaaGreatDoor
open Go Go.RowKit

theorem waitZ_take {wb l : List UInt8} {k c : Nat} (hk : k ≤ wb.length) (hc : c ≤ l.length) : (waitZ wb l k c).take (k + c) = wb.take k ++ l.take c := by
  unfold waitZ
  rw [List.take_append_of_le_length (by rw [List.length_append, List.length_take, List.length_take]; omega), List.take_of_length_le (by rw [List.length_append, List.length_take, List.length_take]; omega)]
theorem wait_of {wb b : List UInt8} {q k c m : Nat} (hk : k ≤ wb.length) (h : wb.take k = (b.drop q).take k) (hcm : c ≤ m) (hle : q + k + m ≤ b.length) : (waitZ wb ((b.drop (q + k)).take m) k c).take (k + c) = (b.drop q).take (k + c) := by
  rw [waitZ_take hk (by rw [List.length_take, List.length_drop]; omega), h, List.take_take, Nat.min_eq_left hcm, List.take_add, List.drop_drop]
theorem wz_take {l : List UInt8} {n i : Nat} (h : i < n) : wz (l.take n) i = wz l i := by
  unfold wz
  rw [List.getD_eq_getElem?_getD, List.getD_eq_getElem?_getD, List.getElem?_take, if_pos h]
theorem mhB_same {n x y x' y' : Nat} (h0 : 0 < n → x = x') (h1 : n ≠ 0 → n ≠ 1 → y = y') : mhB n x y = mhB n x' y' := by
  rcases Nat.eq_zero_or_pos n with rfl | h
  · rfl
  · rw [h0 h]
    by_cases h2 : n = 1
    · subst h2; unfold mhB; simp
    · rw [h1 (by omega) h2]
theorem Fx.nG {W0 g gw gt k : Nat} (h : Fx W0 g gw gt) (hk : W0 ≤ k) : k ∉ Gs := fun hm => by have := h.lG k hm; omega

def H0 (b : List UInt8) (most W0 g gw gt a m : Nat) (w : World) (e : Ending) (w' : World) : Prop := Only [g] w w' ∧
  ((e = .returned (.tuple #[.slice none 0 0, .int .i64 3]) ∧ ZE W0 g gw gt w' 3 ∧ w'.cell? ⟨g, 358, none⟩ = some (.int .i64 0) ∧ Bad b most 3) ∨
    (∃ A' n' c' wb, e = .returned (.tuple #[.slice A' n' c', .int .i64 0]) ∧ ZHead b most g gw gt w' (a + m) wb) ∨
    (∃ A' n' c' ga wb, e = .returned (.tuple #[.slice A' n' c', .int .i64 0]) ∧ ZBody b most W0 g gw gt w' 2 (fz most gw gt (tailZ (ifA ga) 1 wb 0)) st0 ga wb 0 ∧ SL b W0 w' A' n' c' 2 ∧ 2 + n' = a + m ∧ w.heap.size ≤ ga))

theorem head_step {b : List UInt8} {most W0 g gw gt a m cb : Nat} {A : Option Addr} {w : World} {wb : List UInt8} (hF : Fx W0 g gw gt) (h : ZHead b most g gw gt w a wb) (hs : SL b W0 w A m cb a) (hW : W0 ≤ w.heap.size) (hn : b.length ≤ 90000) :
    Calls Tryz.prog 27 #[.pointer (some ⟨g, 0, none⟩), .slice A m cb] w (H0 b most W0 g gw gt a m w) := by
  have hlt := h.lt
  have hle := hs.le
  have hlen := hs.len
  obtain ⟨c, hc⟩ : ∃ c, c = min m (2 - a) := ⟨_, rfl⟩
  obtain ⟨wb2, hwb⟩ : ∃ x, x = waitZ wb ((b.drop a).take m) a c := ⟨_, rfl⟩
  have hwl2 : wb2.length = 4 := by rw [hwb]; exact waitZ_length h.wl (by rw [hlen]; omega) (by omega)
  have htk : wb2.take (a + c) = b.take (a + c) := by
    have := wait_of (b := b) (q := 0) (k := a) (c := c) (m := m) (wb := wb) (by rw [h.wl]; omega) (by rw [List.drop_zero]; exact h.wt) (by omega) (by omega)
    rw [Nat.zero_add, List.drop_zero, ← hwb] at this
    exact this
  have hw0 : ∀ i, i < a + c → wz wb2 i = wz b i := fun i hi => by rw [← wz_take hi, htk, wz_take hi]
  have hmh : mhB (a + c) (wz wb2 0) (wz wb2 1) = mhB (a + c) (wz b 0) (wz b 1) := mhB_same (fun h => hw0 0 h) (fun h h' => hw0 1 (by omega))
  have hg := hF.lg
  refine (readHead_any g (fz most gw gt (tailZ .nilIface 0 wb a)) .nilIface a m cb wb _ A w h.dec rfl h.wl hlt hs.holds hlen hs.cap (fun h0 ad ha => by have := hs.blk h0 ad ha; omega) hs.nil (by omega) c hc wb2 hwb).mono ?_
  rintro e w' ⟨ho, ⟨hf, rfl, hd⟩ | ⟨ht, A', c', rfl, hh, hc', hblk, hnil, ⟨hlt2, hd⟩ | ⟨h2, ga, hga, had, hd⟩⟩⟩
  · have hpos : 0 < a + c := by
      rcases Nat.eq_zero_or_pos (a + c) with h0 | h0
      · rw [h0] at hf; cases hf
      · exact h0
    refine ⟨ho, .inl ⟨rfl, .inl ⟨rfl, _, wb2, a + c, hd, rfl, hwl2, hpos, by omega, hf, rfl, 0, rfl⟩, part_of hd rfl, ?_⟩⟩
    rw [hmh] at hf
    exact bad_head hpos (by omega) (by omega) hf
  · have hcm : c = m := by omega
    rw [hmh] at ht
    rw [hcm] at ht htk hd
    exact ⟨ho, .inr (.inl ⟨A', _, c', wb2, rfl, ⟨by omega, hle, hwl2, htk, ht, hd, h.ring.only ho (by simpa using fun e => hF.ne1 e.symm), own_keep h.wts ho (by intro k hk; injection hk with hk; subst hk; simpa using fun e => hF.ne2 e.symm), h.tab.only ho (by intro k hk _; simp at hk; subst hk; exact hF.nG hg)⟩⟩)⟩
  · have hring : Rg w' gw [] := h.ring.only ho (by simpa using fun e => hF.ne1 e.symm)
    have hwts : w'.ownsRow 0 5 1 (.slice (some ⟨gt, 0, none⟩) 0 4) 0 [] := own_keep h.wts ho (by intro k hk; injection hk with hk; subst hk; simpa using fun e => hF.ne2 e.symm)
    have htab : Tab w' := h.tab.only ho (by intro k hk _; simp at hk; subst hk; exact hF.nG hg)
    rw [hmh, h2] at ht
    have hrest := rest_new (B := b.drop 2) hd hring hwts hF.ne3 htab ⟨hF.nG hg, hF.nG hF.lw, hF.nG hF.lt⟩
    refine ⟨ho, .inr (.inr ⟨A', m - c, c', ga, wb2, rfl, ⟨Nat.le_refl 2, by omega, ⟨by omega, ht⟩, hrest, rfl, rfl, rfl, hwl2, had, by omega, .short st0 hrest.k11 hrest.far, rfl, rfl⟩, ⟨?_, hc', by omega, hnil, ?_⟩, by omega, hga⟩)⟩
    · rw [List.drop_take, List.drop_drop, h2] at hh
      exact hh
    · intro h0 ad had
      obtain ⟨ad0, e1, e2⟩ := hblk ad had
      rw [e2]
      exact hs.blk (by omega) ad0 e1

/-- Cells that are the same. -/
theorem dc_swap {w w' : World} {g : Nat} {f1 f2 : DF} (h1 : Dc w g f1) (h2 : Dc w g f2) (h : Dc w' g f1) : Dc w' g f2 := by
  unfold Dc Has at *
  rw [h1] at h2
  injection h2 with h2
  rw [h, h2]
theorem dc_swap_tail {w w' : World} {g : Nat} {f1 f2 : DF} {T : List Value} (h1 : Dc w g f1) (h2 : Dc w g f2) (h : Dc w' g { f1 with tail := T }) : Dc w' g { f2 with tail := T } := by
  obtain ⟨hat, _⟩ := dc_same h1 h2
  have hty : f1.ty = f2.ty := has_ty h1 h2
  have hc : ({ f1 with tail := T } : DF).cells = ({ f2 with tail := T } : DF).cells := by
    unfold DF.cells
    congr 1
    show (List.range 357).map f1.at ++ T = (List.range 357).map f2.at ++ T
    congr 1
    exact List.map_congr_left fun i hi => hat i (List.mem_range.1 hi)
  unfold Dc Has at *
  rw [← hc]
  show w'.heap[g]? = some (.cells _ f2.ty (0, 0))
  rw [← hty]
  exact h
theorem Rest.again {w w' : World} {g gw gt : Nat} {f : DF} {B : List UInt8} {a o : Nat} {s : GSt} (h : Rest w g gw gt f B a o s) (ho : Only [g] w w') (hd : Dc w' g f) (hne : g ≠ gw ∧ g ≠ gt) : Rest w' g gw gt f B a o s := by
  have hO : Other w [g] := fun k hk _ => by
    obtain rfl : k = g := by simpa using hk
    exact ⟨⟨_, _, _, h.dec, f.ne_ty (by decide) (by decide), f.ne_ty (by decide) (by decide)⟩, h.gg.1⟩
  exact ⟨hd, h.ring.only ho (by simpa using fun e => hne.1 e.symm), h.wb, h.wn, h.wt, own_keep h.wts ho (fun b hb hm => by
    injection hb with hb
    exact hne.2 (by rw [show gt = b from hb]; exact (by simpa using hm : b = g).symm)), h.gwt, h.md.keep ho hO, h.k, h.wf, h.pt, h.ps, h.oa, h.aB, h.pa, h.fx.imp id (fun hx => hx.keep ho hO), h.gg, h.k11, h.far, h.fault⟩

def H1 (b : List UInt8) (most W0 g gw gt ga a m : Nat) (s : GSt) (w : World) (e : Ending) (w' : World) : Prop := Only [g, gw, gt, ga] w w' ∧
  ((∃ (c : Nat) (A' : Option Addr) (n' c' : Nat), (c = 3 ∨ c = 5) ∧ e = .returned (.tuple #[.slice none 0 0, .slice A' n' c', .int .i64 (c : Int)]) ∧ ZE W0 g gw gt w' c ∧ w'.cell? ⟨g, 358, none⟩ = some (.int .i64 1) ∧ Bad b most c) ∨
    (∃ v y A' n' c', e = .returned (.tuple #[v, .slice A' n' c', .int .i64 0]) ∧ w'.ownsRow 0 5 1 v y.length (bvals y) ∧ (∀ k, v.ownBlock = some k → w.heap.size ≤ k) ∧
      ((∃ f' s' wb oo, ZBody b most W0 g gw gt w' (a + m) f' s' ga wb oo ∧ s'.out = s.out ++ y) ∨
        (∃ f' t wb, ZSum b most W0 g gw gt w' (2 + ub t) f' t ga wb 0 ∧ t.out = s.out ++ y ∧ SL b W0 w' A' n' c' (2 + ub t) ∧ 2 + ub t + n' = a + m))))

/-- Where bits were wanted it goes beyond. -/
theorem Ends.beyond {L0 D0 : List UInt8} {N a a' most : Nat} {s0 s t : GSt} (h : Ends L0 D0 N a most s0 2 s) (_ : a ≤ a') (h' : Ends L0 D0 N a' most s 0 t) : 8 * a < t.p := by
  rcases h.steps.2 with ⟨h0, _⟩ | ⟨hk, ⟨_, hp⟩ | ⟨h3, _⟩⟩
  · omega
  · cases h' with
    | done _ hk' => exact absurd hk' hk
    | bad _ _ _ _ he => have := GSt.nx_err he; omega
    | go _ t1 _ _ _ hp1 ht r =>
      have h1 := GSt.nx_le ht
      have h2 := (r.on (GSt.nx_on hk hp1 ht).1).1
      omega
  · omega
theorem body_step {b : List UInt8} {most W0 g gw gt a m cb ga oo : Nat} {A : Option Addr} {w : World} {wb : List UInt8} {f : DF} {s : GSt} (hF : Fx W0 g gw gt) (h : ZBody b most W0 g gw gt w a f s ga wb oo) (hs : SL b W0 w A m cb a) (hn : b.length ≤ 90000) (hm : most ≤ 65536) :
    Calls Tryz.prog 28 #[.pointer (some ⟨g, 0, none⟩), .slice A m cb] w (H1 b most W0 g gw gt ga a m s w) := by
  have hge := h.ge
  have hle := hs.le
  have hlen := hs.len
  have hg := hF.lg
  have hlw := hF.lw
  have hlt := hF.lt
  have hga := h.gge
  have hsl : s.out.length ≤ most := h.ends.steps.1.most (Nat.zero_le _)
  have hB2 : (b.drop 2).length = b.length - 2 := List.length_drop
  have hb' : Holds w 1 A m (bvals (((b.drop 2).drop (a - 2)).take m)) := by
    rw [List.drop_drop, show 2 + (a - 2) = a by omega]; exact hs.holds
  have hread := bodyRead_any (b.drop 2) (a - 2) oo m cb A g gw gt ga f s wb w h.rest h.z h.tail h.ad (hF.nG hga) hb' hs.cap (by omega) (by omega) (by rw [h.mo]; exact hsl) (by rw [h.mo]; omega) (by rw [h.used]; omega) (by rw [h.total]; omega) (fun h0 ad had => by
    have := hs.blk h0 ad had
    simp only [List.mem_cons, List.not_mem_nil, or_false]
    omega)
  refine (readBody_gen g m cb A ((b.drop a).take m) w _ hs.holds hlen hs.cap hread (fun e w1 hx => ?_)).mono ?_
  · rcases hx.2 with ⟨y, v, f', u, he, hu, _, _, _, ht, hd, _, _, _, _, _, _, hx⟩ | ⟨c, f', hc, he, _, _, _, ht, _, _, hd, _⟩
    · refine ⟨f', ifA ga, v, wb, u, 0, he, ?_, hd, ht⟩
      rcases hx with ⟨_, t, _, h1, h2, _⟩ | ⟨h1, _⟩
      · omega
      · omega
    · exact ⟨f', ifA ga, _, wb, 0, c, he, Nat.zero_le _, hd, ht⟩
  · rintro e w' ⟨f1, sm, v, wb1, u, c, e1, w1, A', c', ⟨hox, hx⟩, ⟨he1, hu, hd1, ht1⟩, rfl, ho, hd, hh, hc', hblk, hnil⟩
    have hall : Only [g, gw, gt, ga] w w' := hox.trans ho (by intro i hi _; simp at hi; simp [hi])
    refine ⟨hall, ?_⟩
    have hg1 : g < w1.heap.size := Has.lt hd1
    rcases hx with ⟨y, v2, f2, u2, he2, hus, hnew, hmo, hz2, ht2, hd2, hfa, hwb2, how, htot, hley, had, hx⟩ | ⟨c2, f2, hcc, he2, hfa, hmo, hz2, ht2, hus, hwb2, hd2, t, hend, h11, hwt⟩
    · rw [he1] at he2
      injection he2 with he2
      injection he2 with he2
      simp only [Array.mk.injEq, List.cons.injEq, and_true] at he2
      obtain ⟨rfl, hu2, hc0⟩ := he2
      have hu2 : u = u2 := by injection hu2 with _ h; omega
      have hc0 : c = 0 := by injection hc0 with _ h; omega
      subst hu2
      subst hc0
      obtain ⟨hat, htl⟩ := dc_same hd1 hd2
      have hk : f1.k = f2.k := by
        have := hat 1 (by decide)
        unfold DF.at at this
        simp at this
        omega
      rw [ht1, ht2] at htl
      have how' : w'.ownsRow 0 5 1 v y.length (bvals y) := own_keep how ho (fun k hk => by
        have := hnew k hk
        have := Has.lt h.rest.dec
        simp only [List.mem_cons, List.not_mem_nil, or_false]; omega)
      have hgaN : ga ≠ g := by
        obtain ⟨x, _, _, hA⟩ := h.ad
        exact fun e => Has.ne h.rest.dec hA (f.ne_ty (by decide) (by decide)) e.symm
      have had' : Adl w' ga (s.out ++ y) := had.only ho (by simpa using hgaN)
      refine .inr ⟨v, y, A', m - u, c', rfl, how', hnew, ?_⟩
      rcases hx with ⟨h11, t, hend, hut, htp, hto, hwt⟩ | ⟨hun, o', t, hend, hto, hrest⟩
      · rw [if_pos (hk.trans h11), tail_same (q := 2) htl] at hd
        have hd' := dc_swap_tail hd1 hd2 hd
        have hub : 2 + ub t = a + u := by
          have h1 := Ends.beyond (show End (b.drop 2) (a - 2) f.most st0 2 s by rw [h.mo]; exact h.ends) (by omega) hend
          unfold ub
          omega
        have hfull : UEnd b most 0 t := by
          have h1 : End (b.drop 2) (a - 2 + m) most st0 0 t := by
            rw [← h.mo]
            exact (show End (b.drop 2) (a - 2) f.most st0 2 s by rw [h.mo]; exact h.ends).more (by omega) hend
          exact h1.wide (by decide) (by omega)
        refine .inr ⟨_, t, wb, ⟨h.head, hfull, by decide, rfl, by omega, h.wl, by simp, hd', rfl, by rw [hto]; exact had', hga, hwb2, hwt⟩, hto, ⟨?_, hc', by omega, hnil hs.nil, ?_⟩, by omega⟩
        · rw [List.drop_take, List.drop_drop, ← hub] at hh
          exact hh.keepPos hall (fun h0 ad had _ => by
            obtain ⟨ad0, q1, q2⟩ := hblk ad had
            have := hs.blk (by omega) ad0 q1
            simp only [List.mem_cons, List.not_mem_nil, or_false]
            omega)
        · intro h0 ad had
          obtain ⟨ad0, q1, q2⟩ := hblk ad had
          rw [q2]
          exact hs.blk (by omega) ad0 q1
      · have hne : f2.k ≠ 11 := by rw [hrest.k]; exact hrest.k11
        rw [if_neg (by rw [hk]; exact hne)] at hd
        have hd' := dc_swap hd1 hd2 hd
        subst hun
        have ha2 : a - 2 + u = a + u - 2 := by omega
        rw [ha2] at hend hrest
        refine .inl ⟨f2, t, wb, o', ⟨by omega, by omega, h.head, hrest.again ho hd' ⟨hF.ne1, hF.ne2⟩, hz2.trans h.z, hmo.trans h.mo, ht2, h.wl, by rw [hto]; exact had', hga, ?_, by rw [hus, h.used]; omega, by rw [htot, h.total, hto, List.length_append]⟩, hto⟩
        rw [← h.mo]
        exact (show End (b.drop 2) (a - 2) f.most st0 2 s by rw [h.mo]; exact h.ends).more (by omega) hend
    · rw [he1] at he2
      injection he2 with he2
      injection he2 with he2
      simp only [Array.mk.injEq, List.cons.injEq, and_true] at he2
      obtain ⟨rfl, hu2, hc0⟩ := he2
      have hc0 : c = c2 := by injection hc0 with _ h; omega
      subst hc0
      obtain ⟨hat, htl⟩ := dc_same hd1 hd2
      have hk : f1.k = f2.k := by
        have := hat 1 (by decide)
        unfold DF.at at this
        simp at this
        omega
      have hne : f2.k ≠ 11 := h11 
      rw [if_neg (by rw [hk]; exact hne)] at hd
      have hd' := dc_swap hd1 hd2 hd
      refine .inl ⟨c, A', m - u, c', hcc, rfl, .inr (.inl ⟨hcc, f2, _, wb, hd', ht2, h.wl, hfa, hne, hwb2, hwt⟩), part_of hd' ht2, ?_⟩
      have h1 : End (b.drop 2) (a - 2 + m) most st0 c t := by
        rw [← h.mo]
        exact (show End (b.drop 2) (a - 2) f.most st0 2 s by rw [h.mo]; exact h.ends).more (by omega) hend
      exact bad_body h.head hcc (h1.wide (by omega) (by omega))

def H2 (b : List UInt8) (most W0 g gw gt ga a m : Nat) (t : GSt) (w : World) (e : Ending) (w' : World) : Prop := Only [g] w w' ∧
  ((e = .returned (.int .i64 0) ∧ ((∃ f' wb k, ZSum b most W0 g gw gt w' (a + m) f' t ga wb k) ∨ (∃ f' sm wb k, ZDone b most g gw gt w' (a + m) f' t sm wb k))) ∨
    (e = .returned (.int .i64 4) ∧ ZE W0 g gw gt w' 4 ∧ Bad b most 4))
theorem sum_step {b : List UInt8} {most W0 g gw gt a m cb ga k : Nat} {A : Option Addr} {w : World} {wb : List UInt8} {f : DF} {t : GSt} (hF : Fx W0 g gw gt) (h : ZSum b most W0 g gw gt w a f t ga wb k) (hs : SL b W0 w A m cb a) (hn : b.length ≤ 90000) :
    Calls Tryz.prog 29 #[.pointer (some ⟨g, 0, none⟩), .slice A m cb] w (H2 b most W0 g gw gt ga a m t w) := by
  have hk4 := h.k4
  have hat := h.at_
  have hle := hs.le
  have hlen := hs.len
  have hg := hF.lg
  obtain ⟨c, hc⟩ : ∃ c, c = min m (4 - k) := ⟨_, rfl⟩
  obtain ⟨wb2, hwb⟩ : ∃ x, x = waitZ wb ((b.drop a).take m) k c := ⟨_, rfl⟩
  have hwl2 : wb2.length = 4 := by rw [hwb]; exact waitZ_length h.wl (by rw [hlen]; omega) (by omega)
  have htk : wb2.take (k + c) = (b.drop (2 + ub t)).take (k + c) := by
    have := wait_of (b := b) (q := 2 + ub t) (k := k) (c := c) (m := m) (wb := wb) (by rw [h.wl]; omega) h.wt (by omega) (by omega)
    rw [← hat, ← hwb] at this
    exact this
  have hgA : 0 < m → ∀ ad, A = some ad → ad.block ≠ g := fun h0 ad ha => by have := hs.blk h0 ad ha; omega
  by_cases h4 : k + c < 4
  · have hcm : c = m := by omega
    refine (readSum_few g ga f k m cb wb _ A t.out w h.dec h.tail h.wl hk4 h.ad hs.holds hlen hs.cap hgA hs.nil (by omega) c hc wb2 hwb h4).mono ?_
    rintro e w' ⟨ho, had, rfl, hd⟩
    rw [hcm] at htk hd
    exact ⟨ho, .inl ⟨rfl, .inl ⟨_, wb2, k + m, ⟨h.head, h.ends, by omega, by omega, hle, hwl2, htk, hd, rfl, had, h.gge, h.room⟩⟩⟩⟩
  · have h4' : k + c = 4 := by omega
    have hw4 : wb2 = (b.drop (2 + ub t)).take 4 := by rw [h4', List.take_of_length_le (by omega)] at htk; exact htk
    refine (readSum_all g ga f k m cb wb _ A t.out w h.dec h.tail h.wl hk4 h.ad hs.holds hlen hs.cap hgA hs.nil (by omega) c hc wb2 hwb h4').mono ?_
    rintro e w' ⟨ho, had, ⟨heq, rfl, hd⟩ | ⟨hne, rfl, hd⟩⟩
    · exact ⟨ho, .inl ⟨rfl, .inr ⟨_, _, wb2, 4, ⟨h.head, h.ends, by omega, hle, by rw [← hw4]; exact heq, hwl2, hd, rfl, h.room⟩⟩⟩⟩
    · exact ⟨ho, .inr ⟨rfl, .inr (.inr ⟨rfl, _, ga, wb2, t.out, hd, rfl, hwl2, had, h.gge, hne, h.room⟩), bad_sum h.head h.ends (by omega) (by rw [← hw4]; exact hne)⟩⟩
end Go.Proofs.YtlknhiihdejpeaaGreatDoor


namespace Go.Proofs.YtlknhiihdejpeaaGreatDoor
open Go Go.RowKit

def FrA (W0 g gw gt ga : Nat) (w w' : World) : Prop := W0 ≤ ga ∧ Only [g, gw, gt, ga] w w' ∧ (w.heap.size ≤ ga ∨ ∃ cs, Has w ga 90 cs)
theorem FrA.step {W0 g gw gt ga : Nat} {w w1 w2 : World} {S : List Nat} (h : FrA W0 g gw gt ga w w1) (ho : Only S w1 w2) (hS : ∀ k ∈ S, k ∈ [g, gw, gt, ga]) : FrA W0 g gw gt ga w w2 := ⟨h.1, h.2.1.trans ho (fun i hi _ => hS i hi), h.2.2⟩
theorem FrA.frm {W0 g gw gt ga : Nat} {w w' : World} (h : FrA W0 g gw gt ga w w') : Frm W0 g gw gt w w' := ⟨ga, h⟩
theorem adl_has {w : World} {ga : Nat} {l : List UInt8} (h : Adl w ga l) : ∃ cs, Has w ga 90 cs := by obtain ⟨x, _, _, hA⟩ := h; exact ⟨_, hA⟩

/-- What comes of a Write. -/
def ZW (b : List UInt8) (most W0 g gw gt a m : Nat) (o : List UInt8) (w : World) (e : Ending) (w' : World) : Prop :=
  ∃ (v : Value) (y : List UInt8) (c : Nat), e = .returned (.tuple #[v, .int .i64 (c : Int)]) ∧ Frm W0 g gw gt w w' ∧
    ((c = 0 ∧ w'.ownsRow 0 5 1 v y.length (bvals y) ∧ (∀ k, v.ownBlock = some k → w.heap.size ≤ k) ∧ ZS b most W0 g gw gt w' (a + m) (o ++ y)) ∨
      (c ≠ 0 ∧ v = .slice none 0 0 ∧ ZE W0 g gw gt w' c ∧ Bad b most c))

/-- The body is asked so. -/
def At1 (b : List UInt8) (most W0 g gw gt p : Nat) (o : List UInt8) (w : World) (b1 : Value) (w1 : World) (A' : Option Addr) (n' c' a1 : Nat) (f : DF) (s : GSt) (ga : Nat) (wb : List UInt8) (oo : Nat) : Prop :=
  b1 = .slice A' n' c' ∧ ZBody b most W0 g gw gt w1 a1 f s ga wb oo ∧ SL b W0 w1 A' n' c' a1 ∧ a1 + n' = p ∧ s.out = o ∧ FrA W0 g gw gt ga w w1
/-- The sum is asked so. -/
def At2 (b : List UInt8) (most W0 g gw gt p : Nat) (o : List UInt8) (w : World) (v b2 : Value) (w2 : World) (A' : Option Addr) (n' c' a1 : Nat) (f : DF) (t : GSt) (ga : Nat) (wb : List UInt8) (k : Nat) (y : List UInt8) : Prop :=
  b2 = .slice A' n' c' ∧ ZSum b most W0 g gw gt w2 a1 f t ga wb k ∧ SL b W0 w2 A' n' c' a1 ∧ a1 + n' = p ∧ w2.ownsRow 0 5 1 v y.length (bvals y) ∧ (∀ k, v.ownBlock = some k → w.heap.size ≤ k) ∧ t.out = o ++ y ∧ FrA W0 g gw gt ga w w2
def R1 (b : List UInt8) (most W0 g gw gt p : Nat) (o : List UInt8) (w : World) (b1 : Value) (w1 : World) (e : Ending) (w' : World) : Prop :=
  ∃ A' n' c' a1 f s ga wb oo, At1 b most W0 g gw gt p o w b1 w1 A' n' c' a1 f s ga wb oo ∧ H1 b most W0 g gw gt ga a1 n' s w1 e w'
def R2 (b : List UInt8) (most W0 g gw gt p : Nat) (w : World) (b2 : Value) (w2 : World) (e : Ending) (w' : World) : Prop :=
  ∃ A' n' c' a1 f t ga wb k, b2 = .slice A' n' c' ∧ ZSum b most W0 g gw gt w2 a1 f t ga wb k ∧ SL b W0 w2 A' n' c' a1 ∧ a1 + n' = p ∧ FrA W0 g gw gt ga w w2 ∧ H2 b most W0 g gw gt ga a1 n' t w2 e w'

theorem tup2 {v v' u u' : Value} (h : Ending.returned (.tuple #[v, u]) = .returned (.tuple #[v', u'])) : v = v' ∧ u = u' := by
  injection h with h; injection h with h
  simpa using h
theorem tup3 {v v' x x' u u' : Value} (h : Ending.returned (.tuple #[v, x, u]) = .returned (.tuple #[v', x', u'])) : v = v' ∧ x = x' ∧ u = u' := by
  injection h with h; injection h with h
  simpa using h
theorem int_one {x y : Int} (h : Value.int .i64 x = .int .i64 y) : x = y := by injection h
theorem ZHead.part {b : List UInt8} {most g gw gt a : Nat} {w : World} {wb : List UInt8} (h : ZHead b most g gw gt w a wb) : w.cell? ⟨g, 358, none⟩ = some (.int .i64 0) := part_of h.dec rfl
theorem ZBody.part {b : List UInt8} {most W0 g gw gt a ga oo : Nat} {w : World} {f : DF} {s : GSt} {wb : List UInt8} (h : ZBody b most W0 g gw gt w a f s ga wb oo) : w.cell? ⟨g, 358, none⟩ = some (.int .i64 1) := part_of h.rest.dec h.tail
theorem ZSum.part {b : List UInt8} {most W0 g gw gt a ga k : Nat} {w : World} {f : DF} {t : GSt} {wb : List UInt8} (h : ZSum b most W0 g gw gt w a f t ga wb k) : w.cell? ⟨g, 358, none⟩ = some (.int .i64 2) := part_of h.dec h.tail
theorem cell_ne {w : World} {g x y : Nat} (h : w.cell? ⟨g, 358, none⟩ = some (.int .i64 (x : Int))) (h' : w.cell? ⟨g, 358, none⟩ = some (.int .i64 (y : Int))) : x = y := by
  rw [h] at h'
  injection h' with h'
  have := int_one h'
  omega

section
variable {b : List UInt8} {most W0 g gw gt a m cb : Nat} {A : Option Addr} {w : World} {o : List UInt8}

theorem reach1_of {p : Nat} (hp : w.cell? ⟨g, 358, none⟩ = some (.int .i64 (p : Int))) (h : ZS b most W0 g gw gt w a o) (hs : SL b W0 w A m cb a) (hW : W0 ≤ w.heap.size) {b1 : Value} {w1 : World} (hr : Reach1 g p (.slice A m cb) w (H0 b most W0 g gw gt a m w) b1 w1) :
    ∃ A' n' c' a1 f s ga wb oo, At1 b most W0 g gw gt (a + m) o w b1 w1 A' n' c' a1 f s ga wb oo := by
  rcases hr with ⟨rfl, rfl, rfl⟩ | ⟨rfl, ⟨ho, hx⟩, hc⟩
  · rcases h with ⟨wb, h, _⟩ | ⟨f, s, ga, wb, oo, h, rfl⟩ | ⟨f, t, ga, wb, k, h, _⟩ | ⟨f, t, sm, wb, k, h, _⟩
    · exact absurd (cell_ne hp h.part) (by decide)
    · exact ⟨A, m, cb, a, f, s, ga, wb, oo, rfl, h, hs, rfl, rfl, h.gge, Only.refl _ _, .inr (adl_has h.ad)⟩
    · exact absurd (cell_ne hp h.part) (by decide)
    · exact absurd (cell_ne hp (part_of h.dec h.tail)) (by decide)
  · rcases h with ⟨wb, h, rfl⟩ | ⟨f, s, ga, wb, oo, h, _⟩ | ⟨f, t, ga, wb, k, h, _⟩ | ⟨f, t, sm, wb, k, h, _⟩
    · rcases hx with ⟨he, _⟩ | ⟨A', n', c', wb2, he, h2⟩ | ⟨A', n', c', ga, wb2, he, h2, hs2, hn2, hga⟩
      · exact absurd (int_one (tup2 he).2) (by decide)
      · exact absurd (cell_ne hc h2.part) (by decide)
      · exact ⟨A', n', c', 2, _, st0, ga, wb2, 0, (tup2 he).1, h2, hs2, hn2, rfl, by omega, ho.weak (by intro k hk _; simp at hk; simp [hk]), .inl hga⟩
    · exact absurd (cell_ne hp h.part) (by decide)
    · exact absurd (cell_ne hp h.part) (by decide)
    · exact absurd (cell_ne hp (part_of h.dec h.tail)) (by decide)

theorem reach2_of {p : Nat} (hp : w.cell? ⟨g, 358, none⟩ = some (.int .i64 (p : Int))) (h : ZS b most W0 g gw gt w a o) (hs : SL b W0 w A m cb a) (hW : W0 ≤ w.heap.size) {v b2 : Value} {w2 : World} (hr : Reach2 g p (.slice A m cb) w (H0 b most W0 g gw gt a m w) (R1 b most W0 g gw gt (a + m) o w) v b2 w2) :
    ∃ A' n' c' a1 f t ga wb k y, At2 b most W0 g gw gt (a + m) o w v b2 w2 A' n' c' a1 f t ga wb k y := by
  rcases hr with ⟨rfl, rfl, rfl, rfl⟩ | ⟨b1, w1, hr1, ⟨A', n', c', a1, f, s, ga, wb, oo, ⟨hb1, hB, hsl, hpp, hso, hfr⟩, hox, hx⟩, hc⟩
  · rcases h with ⟨wb, h, _⟩ | ⟨f, s, ga, wb, oo, h, _⟩ | ⟨f, t, ga, wb, k, h, rfl⟩ | ⟨f, t, sm, wb, k, h, _⟩
    · exact absurd (cell_ne hp h.part) (by decide)
    · exact absurd (cell_ne hp h.part) (by decide)
    · exact ⟨A, m, cb, a, f, t, ga, wb, k, [], rfl, h, hs, rfl, ⟨rfl, .inl ⟨rfl, rfl⟩⟩, by simp [Value.ownBlock], by simp, h.gge, Only.refl _ _, .inr (adl_has h.ad)⟩
    · exact absurd (cell_ne hp (part_of h.dec h.tail)) (by decide)
  · rcases hx with ⟨c, A2, n2, c2, hc35, he, _⟩ | ⟨v', y, A2, n2, c2, he, how, hnew, ⟨f', s', wb2, oo2, h2, _⟩ | ⟨f', t, wb2, h2, hto, hs2, hn2⟩⟩
    · have := int_one (tup3 he).2.2; omega
    · exact absurd (cell_ne hc h2.part) (by decide)
    · obtain ⟨rfl, rfl, _⟩ := tup3 he
      exact ⟨A2, n2, c2, 2 + ub t, f', t, ga, wb2, 0, y, rfl, h2, hs2, by omega, how, (fun k hk => by have := hnew k hk; have := hfr.2.1.size; omega), by rw [hto, hso], hfr.step hox (fun k hk => hk)⟩

theorem write_step (hF : Fx W0 g gw gt) (h : ZS b most W0 g gw gt w a o) (hs : SL b W0 w A m cb a) (hW : W0 ≤ w.heap.size) (hn : b.length ≤ 90000) (hm : most ≤ 65536) :
    Calls Tryz.prog 12 #[.pointer (some ⟨g, 0, none⟩), .slice A m cb] w (ZW b most W0 g gw gt a m o w) := by
  obtain ⟨p, hp3, hp⟩ : ∃ p : Nat, p ≤ 3 ∧ w.cell? ⟨g, 358, none⟩ = some (.int .i64 (p : Int)) := by
    rcases h with ⟨wb, h, _⟩ | ⟨f, s, ga, wb, oo, h, _⟩ | ⟨f, t, ga, wb, k, h, _⟩ | ⟨f, t, sm, wb, k, h, _⟩
    · exact ⟨0, by decide, h.part⟩
    · exact ⟨1, by decide, h.part⟩
    · exact ⟨2, by decide, h.part⟩
    · exact ⟨3, by decide, part_of h.dec h.tail⟩
  refine (zwrite_gen g p A m cb w hp hp3 (H0 b most W0 g gw gt a m w) (R1 b most W0 g gw gt (a + m) o w) (R2 b most W0 g gw gt (a + m) w) (fun hp0 => ?_) (fun e w2 h2 => ?_) (fun b1 w1 hr => ?_) (fun b1 w1 e w2 h2 => ?_) (fun v b2 w2 hr => ?_) (fun b2 w2 e w3 h2 => ?_)).mono ?_
  · subst hp0
    rcases h with ⟨wb, h, _⟩ | ⟨f, s, ga, wb, oo, h, _⟩ | ⟨f, t, ga, wb, k, h, _⟩ | ⟨f, t, sm, wb, k, h, _⟩
    · exact head_step hF h hs hW hn
    · exact absurd (cell_ne hp h.part) (by decide)
    · exact absurd (cell_ne hp h.part) (by decide)
    · exact absurd (cell_ne hp (part_of h.dec h.tail)) (by decide)
  · obtain ⟨_, ⟨rfl, _, hc, _⟩ | ⟨A', n', c', wb2, rfl, h2⟩ | ⟨A', n', c', ga, wb2, rfl, h2, _⟩⟩ := h2
    · exact ⟨_, 3, 0, rfl, hc, .inl rfl⟩
    · exact ⟨_, 0, 0, rfl, h2.part, .inl rfl⟩
    · exact ⟨_, 0, 1, rfl, h2.part, .inr rfl⟩
  · obtain ⟨A', n', c', a1, f, s, ga, wb, oo, hA⟩ := reach1_of hp h hs hW hr
    have hA' := hA
    obtain ⟨rfl, hB, hsl, _⟩ := hA
    exact (body_step hF hB hsl hn hm).mono fun e w' hx => ⟨A', n', c', a1, f, s, ga, wb, oo, hA', hx⟩
  · obtain ⟨A', n', c', a1, f, s, ga, wb, oo, hA, _, ⟨c, A2, n2, c2, hc35, rfl, _, hc, _⟩ | ⟨v', y, A2, n2, c2, rfl, _, _, ⟨f', s', wb2, oo2, h2, _⟩ | ⟨f', t, wb2, h2, _⟩⟩⟩ := h2
    · exact ⟨_, _, c, 1, rfl, hc, .inl rfl⟩
    · exact ⟨_, _, 0, 1, rfl, h2.part, .inl rfl⟩
    · exact ⟨_, _, 0, 2, rfl, h2.part, .inr rfl⟩
  · obtain ⟨A', n', c', a1, f, t, ga, wb, k, y, rfl, h2, hs2, hn2, _, _, _, hfr⟩ := reach2_of hp h hs hW hr
    exact (sum_step hF h2 hs2 hn).mono fun e w' hx => ⟨A', n', c', a1, f, t, ga, wb, k, rfl, h2, hs2, hn2, hfr, hx⟩
  · obtain ⟨A', n', c', a1, f, t, ga, wb, k, _, _, _, _, _, _, ⟨rfl, _⟩ | ⟨rfl, _⟩⟩ := h2
    · exact ⟨0, rfl⟩
    · exact ⟨4, rfl⟩
  · rintro e w' (⟨hp0, b1, c, ⟨ho, hx⟩, hc, rfl⟩ | ⟨hp0, b1, ⟨ho, hx⟩, hc, rfl⟩ | ⟨b1, w1, _, v, b2, c, ⟨A', n', c', a1, f, s, ga, wb, oo, ⟨hb1, hB, hsl, hpp, hso, hfr⟩, hox, hx⟩, hc, rfl⟩ | ⟨b1, w1, _, v, b2, ⟨A', n', c', a1, f, s, ga, wb, oo, ⟨hb1, hB, hsl, hpp, hso, hfr⟩, hox, hx⟩, hc, rfl⟩ | ⟨v, b2, w2, hr, c, ⟨A', n', c', a1, f, t, ga, wb, k, hb2, h2, hs2, hn2, hfr, hox, hx⟩, he⟩ | ⟨h3, rfl, rfl⟩)
    · rcases hx with ⟨he, hz, _, hbad⟩ | ⟨A', n', c', wb2, he, _⟩ | ⟨A', n', c', ga, wb2, he, _⟩
      · have := int_one (tup2 he).2
        obtain rfl : c = 3 := by omega
        exact ⟨_, [], 3, rfl, ⟨w.heap.size, hW, ho.weak (by intro k hk _; simp at hk; simp [hk]), .inl (Nat.le_refl _)⟩, .inr ⟨hc, rfl, hz, hbad⟩⟩
      · have := int_one (tup2 he).2; omega
      · have := int_one (tup2 he).2; omega
    · rcases hx with ⟨he, _⟩ | ⟨A', n', c', wb2, he, h2⟩ | ⟨A', n', c', ga, wb2, he, h2, _⟩
      · exact absurd (int_one (tup2 he).2) (by decide)
      · obtain rfl : o = [] := by
          rcases h with ⟨wb, h, ho⟩ | ⟨f, s, ga, wb, oo, h, _⟩ | ⟨f, t, ga, wb, k, h, _⟩ | ⟨f, t, sm, wb, k, h, _⟩
          · exact ho
          · exact absurd (cell_ne (y := 1) hp h.part) (by omega)
          · exact absurd (cell_ne (y := 2) hp h.part) (by omega)
          · exact absurd (cell_ne (y := 3) hp (part_of h.dec h.tail)) (by omega)
        exact ⟨_, [], 0, rfl, ⟨w.heap.size, hW, ho.weak (by intro k hk _; simp at hk; simp [hk]), .inl (Nat.le_refl _)⟩, .inl ⟨rfl, ⟨rfl, .inl ⟨rfl, rfl⟩⟩, by simp [Value.ownBlock], .inl ⟨wb2, h2, rfl⟩⟩⟩
      · exact absurd (cell_ne (x := 0) hc h2.part) (by decide)
    · rcases hx with ⟨c2, A2, n2, c3, hc35, he, hz, _, hbad⟩ | ⟨v', y, A2, n2, c3, he, _⟩
      · have h1 := int_one (tup3 he).2.2
        obtain rfl : c = c2 := by omega
        exact ⟨_, [], c, rfl, (hfr.step hox (fun k hk => hk)).frm, .inr ⟨hc, rfl, hz, hbad⟩⟩
      · have := int_one (tup3 he).2.2; omega
    · rcases hx with ⟨c2, A2, n2, c3, hc35, he, _⟩ | ⟨v', y, A2, n2, c3, he, how, hnew, ⟨f', s', wb2, oo2, h2, hso2⟩ | ⟨f', t, wb2, h2, _⟩⟩
      · have := int_one (tup3 he).2.2; omega
      · obtain ⟨rfl, _, _⟩ := tup3 he
        exact ⟨_, y, 0, rfl, (hfr.step hox (fun k hk => hk)).frm, .inl ⟨rfl, how, (fun k hk => by have := hnew k hk; have := hfr.2.1.size; omega), .inr (.inl ⟨f', s', ga, wb2, oo2, by rw [← hpp]; exact h2, by rw [hso2, hso]⟩)⟩⟩
      · exact absurd (cell_ne (x := 1) hc h2.part) (by decide)
    · obtain ⟨A3, n3, c3, a3, f3, t3, ga3, wb3, k3, y, hb3, hS3, hs3, hn3, how, hnew, hto, hfr3⟩ := reach2_of hp h hs hW hr
      obtain rfl : t3 = t := (Ends.det hS3.ends h2.ends).2
      have hfrm : Frm W0 g gw gt w w' := (hfr.step hox (fun k hk => by simp at hk; simp [hk])).frm
      have how' : w'.ownsRow 0 5 1 v y.length (bvals y) := own_keep how hox (fun k hk hm => by
        have h1 := hnew k hk
        have h4 := Has.lt h2.dec
        have h5 : some g ≠ v.ownBlock := own_ne how h2.dec (DF.ty_ne _ (by decide) (by decide))
        obtain rfl : k = g := by simpa using hm
        exact h5 hk.symm)
      rcases hx with ⟨hei, hx⟩ | ⟨hei, hz, hbad⟩
      · have hc0 : c = 0 := by injection hei with hei; have := int_one hei; omega
        subst hc0
        rcases he with ⟨h0, _⟩ | ⟨_, rfl⟩
        · omega
        · refine ⟨v, y, 0, rfl, hfrm, .inl ⟨rfl, how', hnew, ?_⟩⟩
          rw [← hn2]
          rcases hx with ⟨f', wb2, k2, h3⟩ | ⟨f', sm, wb2, k2, h3⟩
          · exact .inr (.inr (.inl ⟨f', t3, ga, wb2, k2, h3, hto.symm⟩))
          · exact .inr (.inr (.inr ⟨f', t3, sm, wb2, k2, h3, hto.symm⟩))
      · have hc4 : c = 4 := by injection hei with hei; have := int_one hei; omega
        subst hc4
        rcases he with ⟨_, rfl⟩ | ⟨h0, _⟩
        · exact ⟨_, [], 4, rfl, hfrm, .inr ⟨by decide, rfl, hz, hbad⟩⟩
        · omega
    · rcases h with ⟨wb, h, _⟩ | ⟨f, s, ga, wb, oo, h, _⟩ | ⟨f, t, ga, wb, k, h, _⟩ | ⟨f, t, sm, wb, k, h, rfl⟩
      · exact absurd (cell_ne (y := 0) hp h.part) (by omega)
      · exact absurd (cell_ne (y := 1) hp h.part) (by omega)
      · exact absurd (cell_ne (y := 2) hp h.part) (by omega)
      · exact ⟨_, [], 0, rfl, ⟨w'.heap.size, hW, Only.refl _ _, .inl (Nat.le_refl _)⟩, .inl ⟨rfl, ⟨rfl, .inl ⟨rfl, rfl⟩⟩, by simp [Value.ownBlock], .inr (.inr (.inr ⟨f, t, sm, wb, k, ⟨h.head, h.ends, by have := h.ge; omega, hs.le, h.sum, h.wl, h.dec, h.tail, h.room⟩, by simp⟩))⟩⟩
end
end Go.Proofs.YtlknhiihdejpeaaGreatDoor

