/-
  The document's Mend.
-/
import Derived.Test.YtilpegmjkbmldaaDoorLnI
namespace Go.Proofs.YtilpegmjkbmldaaDoor
open Go Go.RowKit

theorem set_same {L : List Ce} {i : Nat} {c : Ce} (h : L[i]? = some c) : L.set i c = L := by
  obtain ⟨hi, rfl⟩ := List.getElem?_eq_some_iff.1 h
  exact List.set_getElem_self hi
theorem cvals_put1 (L : List Ce) (i : Nat) (c : Ce) (hc : L[i]? = some c) (r z : Int) :
    (cvals L).set (i * 5) (.int .i32 r) = cvals (L.set i ⟨r, c.k, c.a⟩) ∧ (cvals L).set (i * 5 + 1) (.int .i64 z) = cvals (L.set i ⟨c.r, z, c.a⟩) := by
  obtain ⟨hi, he⟩ := List.getElem?_eq_some_iff.1 hc
  induction L generalizing i with
  | nil => simp at hi
  | cons d L ih =>
    cases i with
    | zero =>
      obtain rfl : d = c := he
      exact ⟨rfl, rfl⟩
    | succ i =>
      have := ih i (by simpa using hc) (by simpa using hi) (by simpa using he)
      rw [List.set_cons_succ, List.set_cons_succ, cvals_cons, cvals_cons, cvals_cons, ← this.1, ← this.2]
      have l5 : d.cells.length = 5 := rfl
      constructor
      · rw [List.set_append_right _ _ (by omega), l5, show (i + 1) * 5 - 5 = i * 5 by omega]
      · rw [List.set_append_right _ _ (by omega), l5, show (i + 1) * 5 + 1 - 5 = i * 5 + 1 by omega]

section
variable {w : World} {base e n c g : Nat} {L : List Ce}
theorem rowS_set {xs : List Value} (h : w.ownsRow base e 5 (.slice (some ⟨g, 0, none⟩) n c) n xs) (i : Nat) (u : Value) :
    (w.setCell ⟨g, i, none⟩ u).ownsRow base e 5 (.slice (some ⟨g, 0, none⟩) n c) n (xs.set i u) := by
  refine ⟨by rw [List.length_set]; exact h.1, ?_⟩
  rcases h.2 with ⟨hv, _⟩ | ⟨gb, cap, cur, hv, hb, hg, h1, h2, h3, h4⟩
  · cases hv
  · injection hv with hA _ hc
    injection hA with hA
    injection hA with hA
    subst hA
    refine .inr ⟨g, cap, cur.setIfInBounds i u, by rw [hc], hb, Has.set (cs := cur) hg i u, h1, h2, by rw [Array.size_setIfInBounds]; exact h3, ?_⟩
    rw [Array.toList_setIfInBounds, ← h4, List.take_set]
theorem rowS_open {A : Option Addr} {xs : List Value} (h : w.ownsRow base e 5 (.slice A n c) n xs) (hn : 0 < n) :
    ∃ g, A = some ⟨g, 0, none⟩ ∧ base ≤ g ∧ g < w.heap.size ∧ (∀ j, w.frozen? ⟨g, j, none⟩ = false) ∧ ∀ j u, xs[j]? = some u → w.cell? ⟨g, j, none⟩ = some u := by
  rcases h.2 with ⟨_, h0⟩ | ⟨g, cap, cur, hv, hb, hg, _⟩
  · omega
  · injection hv with hA
    subst hA
    exact ⟨g, rfl, hb, Has.lt (cs := cur) hg, fun j => Has.free (cs := cur) hg j, fun j u hu => by rw [← add_zero_of]; exact h.cells (g := g) rfl j u hu⟩
theorem rowS_ce (h : w.ownsRow base e 5 (.slice (some ⟨g, 0, none⟩) n c) n (cvals L)) (hn : 0 < n) (i : Nat) (C : Ce) (hc : L[i]? = some C) :
    (w.cell? ⟨g, i * 5, none⟩ = some (.int .i32 C.r) ∧ w.cell? ⟨g, i * 5 + 1, none⟩ = some (.int .i64 C.k) ∧ w.cell? ⟨g, i * 5 + 2, none⟩ = some (.int .i64 C.a.fg) ∧ w.cell? ⟨g, i * 5 + 3, none⟩ = some (.int .i64 C.a.bg) ∧ w.cell? ⟨g, i * 5 + 4, none⟩ = some (.int .i64 C.a.fl)) ∧
    (w.frozen? ⟨g, i * 5, none⟩ = false ∧ w.frozen? ⟨g, i * 5 + 1, none⟩ = false ∧ w.frozen? ⟨g, i * 5 + 2, none⟩ = false ∧ w.frozen? ⟨g, i * 5 + 3, none⟩ = false ∧ w.frozen? ⟨g, i * 5 + 4, none⟩ = false) := by
  obtain ⟨hi, rfl⟩ := List.getElem?_eq_some_iff.1 hc
  obtain ⟨g', hg, _, _, hf, hx⟩ := rowS_open h hn
  injection hg with hg
  injection hg with hg
  subst hg
  exact ⟨⟨hx _ _ (cvals_at L i hi 0 (by omega)), hx _ _ (cvals_at L i hi 1 (by omega)), hx _ _ (cvals_at L i hi 2 (by omega)), hx _ _ (cvals_at L i hi 3 (by omega)), hx _ _ (cvals_at L i hi 4 (by omega))⟩, hf _, hf _, hf _, hf _, hf _⟩
theorem rowS_setCe (h : w.ownsRow base e 5 (.slice (some ⟨g, 0, none⟩) n c) n (cvals L)) (i : Nat) (hi : i < L.length) (C : Ce) :
    (((((w.setCell ⟨g, i * 5, none⟩ (.int .i32 C.r)).setCell ⟨g, i * 5 + 1, none⟩ (.int .i64 C.k)).setCell ⟨g, i * 5 + 2, none⟩ (.int .i64 C.a.fg)).setCell ⟨g, i * 5 + 3, none⟩ (.int .i64 C.a.bg)).setCell ⟨g, i * 5 + 4, none⟩ (.int .i64 C.a.fl)).ownsRow base e 5 (.slice (some ⟨g, 0, none⟩) n c) n (cvals (L.set i C)) := by
  have := rowS_set (rowS_set (rowS_set (rowS_set (rowS_set h (i * 5) (.int .i32 C.r)) (i * 5 + 1) (.int .i64 C.k)) (i * 5 + 2) (.int .i64 C.a.fg)) (i * 5 + 3) (.int .i64 C.a.bg)) (i * 5 + 4) (.int .i64 C.a.fl)
  rw [cvals_set L i hi C] at this
  exact this
end

/-- append([]api.Cell{}, l...). -/
theorem list_freshC {ops : Array Oper} {rest : List Oper} {o : Oper} {a : Act} {Q : Exit → Act → World → Prop} (hgd : o.guard = none) (s x : Operand)
    (ho : o.op = .call { callee := .builtin .append, args := #[s, x], argTypes := #[24, 24] }) (w : World) {A : Option Addr} {n c : Nat} {L : List Ce} (hb : Holds w 5 A n (cvals L)) (hn : n ≤ 1000000000)
    (hs : a.eval s = .slice (some ⟨w.heap.size, 0, none⟩) 0 0) (hx : a.eval x = .slice A n c)
    (h : ∀ A' c' w', w'.ownsRow w.heap.size 37 5 (.slice A' n c') n (cvals L) → Only [] w w' → wpList Tryd.prog ops Q rest (a.put o.dst (.slice A' n c')) w') :
    wpList Tryd.prog ops Q (o :: rest) a (w.alloc (.cells #[] 37)) := by
  obtain ⟨i0, hi0, hz0, hz1, hz2⟩ := info_of cell_info
  have hol : (w.alloc (.cells #[] 37)).ownsRow w.heap.size 37 5 (.slice (some ⟨w.heap.size, 0, none⟩) 0 0) 0 [] :=
    ⟨rfl, .inr ⟨w.heap.size, 0, #[], rfl, Nat.le_refl _, Has.new w _ _, Nat.le_refl _, by unfold maxLen; omega, rfl, rfl⟩⟩
  have oa : Only [] w (w.alloc (.cells #[] 37)) := (Only.refl [] w).alloc _
  refine list_append _ hgd s x 24 ho w.heap.size 5 40 Tryd.underlying24 hi0 hz0 hz1 hz2 rfl (by omega) hol hs (hb.keep oa (by simp)) hx (cvals_one L) (by omega) (by omega) oa.size fun A' c' w' h1 h2 _ => ?_
  rw [Nat.zero_add] at h1 ⊢
  exact h A' c' w' (by simpa using h1) (oa.grown h2 (fun k hk hlt => by injection hk with hk; subst hk; exact absurd hlt (Nat.lt_irrefl _)))

set_option maxRecDepth 100000 in
set_option maxHeartbeats 8000000 in
theorem rmend_any (A : Option Addr) (n c : Nat) (L : List Ce) (w : World) (h : LineAt w A n c L) (hn : n ≤ 1000000000) :
    Calls Tryd.prog 14 #[.slice A n c] w fun e w' => ∃ A' c', e = .returned (.slice A' n c') ∧ LineAt w' A' n c' (mendL L) ∧ Only [] w w' := by
  have hl := h.len
  have hrow := h.row
  have H0 := hide (And.intro h (And.intro hn hl))
  clear h hl
  go_enter Tryd.func14, Tryd.ntmps14
  go_wp2_with (at_builtin; refine list_freshC rfl (.tmp 6) (.tmp 7) rfl w hrow hn rfl rfl ?_; intro A2 c2 w1 hown1 ho1; have H1 := hide (And.intro hown1 ho1); clear hown1 ho1)
  rcases Nat.eq_zero_or_pos n with h0 | h0
  · subst h0
    go_loopw [4] (fun i wr => i = .int .i64 0 ∧ wr = w1) (fun _ _ => 0)
    case atStart => exact ⟨rfl, rfl⟩
    case round =>
      obtain ⟨rfl, rfl⟩ := hrel
      go_wp2_with fail
      go_ret
      have e : L = [] := List.eq_nil_of_length_eq_zero H0.out.2.2
      have e2 : mendL L = L := by rw [e]; rfl
      rw [e2]
      exact ⟨A2, c2, rfl, LineAt.of_own H1.out.1, H1.out.2⟩
  · obtain ⟨g, rfl, hgb, _⟩ := rowS_open H1.out.1 h0
    obtain ⟨b, o, rfl⟩ := H0.out.1.addr h0
    have HP := hide (And.intro h0 hgb)
    clear h0 hgb hrow
    go_loopw [4] (fun i wr => ∃ k : Nat, k ≤ n ∧ i = .int .i64 k ∧ wr.ownsRow w.heap.size 37 5 (.slice (some ⟨g, 0, none⟩) n c2) n (cvals (partM L k)) ∧ Only [] w wr) (fun i _ => n - (intOf i).toNat)
    case atStart => exact ⟨0, Nat.zero_le _, rfl, by rw [partM_zero]; exact H1.out.1, H1.out.2⟩
    case round =>
      obtain ⟨k, hk, rfl, hown, ho⟩ := hrel
      obtain ⟨h, _, hl⟩ := H0.out
      by_cases hlt : k < n
      · have hL : k < L.length := by omega
        obtain ⟨C, hC⟩ := List.get_some hL
        obtain ⟨c0, c1, c2', c3, c4⟩ := (h.keep ho).ce k C hC
        have hkk : (k : Int) < (n : Int) := by omega
        have hw1 : IntKind.i64.wrap ((k : Int) + 1) = (k : Int) + 1 := IntWalk.i64_in _ ⟨by omega, by omega⟩
        have hB : Has (wr.alloc (.cells #[.int .i32 C.r, .int .i64 C.k, .int .i64 C.a.fg, .int .i64 C.a.bg, .int .i64 C.a.fl] 37)) wr.heap.size 37 (cvals [C]).toArray := Has.new wr _ _
        have hown1 := hown.alloc (.cells #[.int .i32 C.r, .int .i64 C.k, .int .i64 C.a.fg, .int .i64 C.a.bg, .int .i64 C.a.fl] 37)
        have ho1 := ho.alloc (.cells #[.int .i32 C.r, .int .i64 C.k, .int .i64 C.a.fg, .int .i64 C.a.bg, .int .i64 C.a.fl] 37)
        have hgl : g ≠ wr.heap.size := by obtain ⟨g', he, _, hlt, _⟩ := rowS_open hown (by omega); injection he with he; injection he with he; omega
        have HH := hide (And.intro hB (And.intro hown1 (And.intro ho1 (And.intro hC hgl))))
        clear hown ho hB hown1 ho1 h hl hC hgl hL
        go_upto_region 6 with fail
        obtain ⟨hB, hown1, ho1, hC, hgl⟩ := HH.out
        clear c0 c1 c2' c3 c4 HH
        generalize wr.alloc (.cells #[.int .i32 C.r, .int .i64 C.k, .int .i64 C.a.fg, .int .i64 C.a.bg, .int .i64 C.a.fl] 37) = W1 at *
        obtain ⟨⟨b0, b1, b2, b3, b4⟩, _⟩ := hB.ce 0 C rfl
        simp only [Nat.zero_mul, Nat.zero_add] at b0 b1 b2 b3 b4
        have hl := H0.out.2.2
        have hr := H0.out.1.keep ho1
        have hPk : (partM L k)[k]? = some C := by rw [partM_get L k k (Nat.le_refl _)]; exact hC
        obtain ⟨⟨r0, r1, r2, r3, r4⟩, ⟨f0, f1, f2, f3, f4⟩⟩ := rowS_ce hown1 (by omega) k C hPk
        have hm : mendAt L k = mendC (aheadN L k) C (kindN L (k + 1)) := by unfold mendAt; rw [getD_of hC]
        have hst := partM_set L k (by omega)
        have hnx : k + 1 < n → ∃ D, L[k + 1]? = some D ∧ kindN L (k + 1) = D.k ∧ W1.cell? ⟨b, o + (k + 1) * 5 + 1, none⟩ = some (.int .i64 D.k) := fun h1 => by
          obtain ⟨D, hD⟩ := List.get_some (L := L) (k := k + 1) (by omega)
          exact ⟨D, hD, kindN_of hD, (hr.ce (k + 1) D hD).2.1⟩
        have hpr : ∀ j, k = j + 1 → ∃ D : Ce, aheadN L k = D.k ∧ W1.cell? ⟨b, o + j * 5 + 1, none⟩ = some (.int .i64 D.k) ∧ IntKind.i64.wrap ((k : Int) - 1) = (j : Int) := fun j hj => by
          obtain ⟨D, hD⟩ := List.get_some (L := L) (k := j) (by omega)
          refine ⟨D, ?_, (hr.ce j D hD).2.1, by rw [IntWalk.i64_in _ ⟨by omega, by omega⟩]; omega⟩
          unfold aheadN
          rw [if_neg (by omega), show k - 1 = j by omega, kindN_of hD]
        have hout : k + 1 = n → kindN L (k + 1) = 0 := fun h1 => kindN_out (by omega)
        have h00 : k = 0 → aheadN L k = 0 := fun h1 => by unfold aheadN; rw [if_pos h1]
        generalize aheadN L k = p at *
        generalize kindN L (k + 1) = q at *
        rw [hm] at hst
        have hpl : (partM L k).length = n := by rw [partM_len L k (by omega)]; exact hl
        have HE := hide (And.intro hown1 (And.intro ho1 (And.intro hst (And.intro hPk (And.intro hpl (And.intro hgl HP.out.2))))))
        clear hown1 ho1 hst hPk hpl hgl hm hB hr hl hC
        obtain ⟨r, K, a⟩ := C
        simp only at b0 b1 b2 b3 b4 r0 r1 r2 r3 r4
        have HB := hide (rblank_any a)
        unfold Lk.val Lk.cells at HB
        by_cases K0 : K = 0
        · subst K0
          clear hnx hpr hout h00 HB
          go_wp2_with fail
          go_roundw
          case rel =>
            refine ⟨k + 1, by omega, by go_num, ?_, HE.out.2.1⟩
            have h1 := HE.out.2.2.1
            rw [show mendC p ⟨r, 0, a⟩ q = ⟨r, 0, a⟩ from (mendC_eq _ _ _).2 (.inl rfl), set_same HE.out.2.2.2.1] at h1
            rw [← h1]
            exact HE.out.1
          case measure => simp [intOf]; omega
        by_cases K1 : K = 1
        · subst K1
          clear hpr h00
          by_cases hk1 : k + 1 = n
          · have hk2 : (n : Int) ≤ (k : Int) + 1 := by omega
            have hq := hout hk1
            clear hnx hout r0 r1 r2 r3 r4 f0 f1 f2 f3 f4
            go_wp2_with fail
            refine (HB.out _).mono ?_
            rintro e w2 ⟨rfl, ho2⟩
            obtain ⟨hown1, ho1, hst, hPk, hpl, hgl, hgw⟩ := HE.out
            have hown2 := own_keep hown1 ho2 (by simp)
            obtain ⟨⟨r0, r1, r2, r3, r4⟩, ⟨f0, f1, f2, f3, f4⟩⟩ := rowS_ce hown2 (by omega) k _ hPk
            have h2 := rowS_setCe hown2 k (by omega) (blankC a)
            have ho3 := (ho1.trans ho2 (S := []) (by simp)).set5 (g := g) (by omega) (i0 := k * 5) (i1 := k * 5 + 1) (i2 := k * 5 + 2) (i3 := k * 5 + 3) (i4 := k * 5 + 4) (.int .i32 (blankC a).r) (.int .i64 (blankC a).k) (.int .i64 (blankC a).a.fg) (.int .i64 (blankC a).a.bg) (.int .i64 (blankC a).a.fl)
            rw [show mendC p ⟨r, 1, a⟩ q = blankC a by unfold mendC blankC; rw [if_neg (fun h => by have := h.2; omega), if_neg (fun h => by have := h.1; simp at this), if_pos (.inl rfl)]] at hst
            rw [hst] at h2
            have HF := hide (And.intro h2 ho3)
            clear hown1 ho1 hst hPk hpl hgl hgw hown2 h2 ho3 ho2 HE HB b0 b1 b2 b3 b4
            unfold blankC Ce.val
            simp only
            go_wp2_with fail
            go_roundw
            case rel => exact ⟨k + 1, by omega, by go_num, HF.out.1, HF.out.2⟩
            case measure => simp [intOf]; omega
          · obtain ⟨D, _, hD2, hD3⟩ := hnx (by omega)
            have hk2 : ¬ (n : Int) ≤ (k : Int) + 1 := by omega
            have hk3 : (k : Int) + 1 < (n : Int) := by omega
            clear hout hnx
            rw [← hD2] at hD3
            clear hD2
            by_cases hq : q = 2
            · subst hq
              clear HB
              go_wp2_with fail
              go_roundw
              case rel =>
                refine ⟨k + 1, by omega, by go_num, ?_, HE.out.2.1⟩
                have h1 := HE.out.2.2.1
                rw [show mendC p ⟨r, 1, a⟩ 2 = ⟨r, 1, a⟩ from (mendC_eq _ _ _).2 (.inr (.inl ⟨rfl, rfl⟩)), set_same HE.out.2.2.2.1] at h1
                rw [← h1]
                exact HE.out.1
              case measure => simp [intOf]; omega
            · have hq2 : (q != 2) = true := by simpa using hq
              clear r0 r1 r2 r3 r4 f0 f1 f2 f3 f4
              go_wp2_with fail
              refine (HB.out _).mono ?_
              rintro e w2 ⟨rfl, ho2⟩
              obtain ⟨hown1, ho1, hst, hPk, hpl, hgl, hgw⟩ := HE.out
              have hown2 := own_keep hown1 ho2 (by simp)
              obtain ⟨⟨r0, r1, r2, r3, r4⟩, ⟨f0, f1, f2, f3, f4⟩⟩ := rowS_ce hown2 (by omega) k _ hPk
              have h2 := rowS_setCe hown2 k (by omega) (blankC a)
              have ho3 := (ho1.trans ho2 (S := []) (by simp)).set5 (g := g) (by omega) (i0 := k * 5) (i1 := k * 5 + 1) (i2 := k * 5 + 2) (i3 := k * 5 + 3) (i4 := k * 5 + 4) (.int .i32 (blankC a).r) (.int .i64 (blankC a).k) (.int .i64 (blankC a).a.fg) (.int .i64 (blankC a).a.bg) (.int .i64 (blankC a).a.fl)
              rw [show mendC p ⟨r, 1, a⟩ q = blankC a by unfold mendC blankC; rw [if_neg (fun h => by have := h.2; omega), if_neg (fun h => by have := h.1; simp at this), if_pos (.inl rfl)]] at hst
              rw [hst] at h2
              have HF := hide (And.intro h2 ho3)
              clear hown1 ho1 hst hPk hpl hgl hgw hown2 h2 ho3 ho2 HE HB b0 b1 b2 b3 b4
              unfold blankC Ce.val
              simp only
              go_wp2_with fail
              go_roundw
              case rel => exact ⟨k + 1, by omega, by go_num, HF.out.1, HF.out.2⟩
              case measure => simp [intOf]; omega
        by_cases K2 : K = 2
        · subst K2
          clear hnx hout
          by_cases hk0 : k = 0
          · have hp := h00 hk0
            have hk2 : ((k : Int) == 0) = true := by rw [hk0]; rfl
            clear hpr h00 r0 r1 r2 r3 r4 f0 f1 f2 f3 f4
            have HK0 := hide hk0
            clear hk0
            go_wp2_with fail
            refine (HB.out _).mono ?_
            rintro e w2 ⟨rfl, ho2⟩
            obtain ⟨hown1, ho1, hst, hPk, hpl, hgl, hgw⟩ := HE.out
            have hown2 := own_keep hown1 ho2 (by simp)
            obtain ⟨⟨r0, r1, r2, r3, r4⟩, ⟨f0, f1, f2, f3, f4⟩⟩ := rowS_ce hown2 (by omega) k _ hPk
            have h2 := rowS_setCe hown2 k (by omega) (blankC a)
            have ho3 := (ho1.trans ho2 (S := []) (by simp)).set5 (g := g) (by omega) (i0 := k * 5) (i1 := k * 5 + 1) (i2 := k * 5 + 2) (i3 := k * 5 + 3) (i4 := k * 5 + 4) (.int .i32 (blankC a).r) (.int .i64 (blankC a).k) (.int .i64 (blankC a).a.fg) (.int .i64 (blankC a).a.bg) (.int .i64 (blankC a).a.fl)
            rw [show mendC p ⟨r, 2, a⟩ q = blankC a by unfold mendC blankC; rw [if_neg (fun h => by have := h.1; simp at this), if_neg (fun h => by have := h.2; omega), if_pos (.inr rfl)]] at hst
            rw [hst] at h2
            have HF := hide (And.intro h2 ho3)
            clear hown1 ho1 hst hPk hpl hgl hgw hown2 h2 ho3 ho2 HE HB b0 b1 b2 b3 b4
            unfold blankC Ce.val
            simp only
            go_wp2_with fail
            go_roundw
            case rel => exact ⟨k + 1, by omega, by go_num, HF.out.1, HF.out.2⟩
            case measure => simp [intOf]; omega
          · obtain ⟨j, hj⟩ : ∃ j, k = j + 1 := ⟨k - 1, by omega⟩
            obtain ⟨D, hD2, hD3, hw2⟩ := hpr j hj
            have hk2 : ¬ (k : Int) = 0 := by omega
            have hk3 : (j : Int) < (n : Int) := by omega
            clear hpr h00
            rw [← hD2] at hD3
            clear hD2
            have HJ := hide hj
            clear hj
            by_cases hp : p = 1
            · subst hp
              clear HB
              go_wp2_with fail
              go_roundw
              case rel =>
                refine ⟨k + 1, by omega, by go_num, ?_, HE.out.2.1.setCell (p := ⟨g, k * 5, none⟩) (fun (hlt : g < w.heap.size) => by have := HE.out.2.2.2.2.2.2; omega) _⟩
                have h2 := rowS_set HE.out.1 (k * 5) (.int .i32 0)
                rw [(cvals_put1 _ k _ HE.out.2.2.2.1 0 0).1] at h2
                rw [← HE.out.2.2.1, show mendC 1 ⟨r, 2, a⟩ q = ⟨0, 2, a⟩ by unfold mendC; rw [if_neg (fun h => by have := h.1; simp at this), if_pos ⟨rfl, rfl⟩]]
                exact h2
              case measure => simp [intOf]; omega
            · have hp2 : (p != 1) = true := by simpa using hp
              clear r0 r1 r2 r3 r4 f0 f1 f2 f3 f4
              go_wp2_with fail
              refine (HB.out _).mono ?_
              rintro e w2 ⟨rfl, ho2⟩
              obtain ⟨hown1, ho1, hst, hPk, hpl, hgl, hgw⟩ := HE.out
              have hown2 := own_keep hown1 ho2 (by simp)
              obtain ⟨⟨r0, r1, r2, r3, r4⟩, ⟨f0, f1, f2, f3, f4⟩⟩ := rowS_ce hown2 (by omega) k _ hPk
              have h2 := rowS_setCe hown2 k (by omega) (blankC a)
              have ho3 := (ho1.trans ho2 (S := []) (by simp)).set5 (g := g) (by omega) (i0 := k * 5) (i1 := k * 5 + 1) (i2 := k * 5 + 2) (i3 := k * 5 + 3) (i4 := k * 5 + 4) (.int .i32 (blankC a).r) (.int .i64 (blankC a).k) (.int .i64 (blankC a).a.fg) (.int .i64 (blankC a).a.bg) (.int .i64 (blankC a).a.fl)
              rw [show mendC p ⟨r, 2, a⟩ q = blankC a by unfold mendC blankC; rw [if_neg (fun h => by have := h.1; simp at this), if_neg (fun h => by have := h.2; omega), if_pos (.inr rfl)]] at hst
              rw [hst] at h2
              have HF := hide (And.intro h2 ho3)
              clear hown1 ho1 hst hPk hpl hgl hgw hown2 h2 ho3 ho2 HE HB b0 b1 b2 b3 b4
              unfold blankC Ce.val
              simp only
              go_wp2_with fail
              go_roundw
              case rel => exact ⟨k + 1, by omega, by go_num, HF.out.1, HF.out.2⟩
              case measure => simp [intOf]; omega
        · clear hnx hpr hout h00 HB
          rcases Classical.em (K < 0) with k3 | k3
          · go_wp2_with fail
            go_roundw
            case rel =>
              refine ⟨k + 1, by omega, by go_num, ?_, HE.out.2.1.setCell (p := ⟨g, k * 5 + 1, none⟩) (fun (hlt : g < w.heap.size) => by have := HE.out.2.2.2.2.2.2; omega) _⟩
              have h2 := rowS_set HE.out.1 (k * 5 + 1) (.int .i64 0)
              rw [(cvals_put1 _ k _ HE.out.2.2.2.1 0 0).2] at h2
              rw [← HE.out.2.2.1, show mendC p ⟨r, K, a⟩ q = ⟨r, 0, a⟩ by unfold mendC; rw [if_neg (fun h => K1 h.1), if_neg (fun h => K2 h.1), if_neg (fun h => h.elim K1 K2)]]
              exact h2
            case measure => simp [intOf]; omega
          · have k4 : (2 : Int) < K := by omega
            go_wp2_with fail
            go_roundw
            case rel =>
              refine ⟨k + 1, by omega, by go_num, ?_, HE.out.2.1.setCell (p := ⟨g, k * 5 + 1, none⟩) (fun (hlt : g < w.heap.size) => by have := HE.out.2.2.2.2.2.2; omega) _⟩
              have h2 := rowS_set HE.out.1 (k * 5 + 1) (.int .i64 0)
              rw [(cvals_put1 _ k _ HE.out.2.2.2.1 0 0).2] at h2
              rw [← HE.out.2.2.1, show mendC p ⟨r, K, a⟩ q = ⟨r, 0, a⟩ by unfold mendC; rw [if_neg (fun h => K1 h.1), if_neg (fun h => K2 h.1), if_neg (fun h => h.elim K1 K2)]]
              exact h2
            case measure => simp [intOf]; omega
      · obtain rfl : k = n := by omega
        have HF := hide (And.intro hown ho)
        have e : partM L k = mendL L := by rw [← hl, partM_all]
        clear h hown ho
        go_wp2_with fail
        go_ret
        exact ⟨some ⟨g, 0, none⟩, c2, rfl, by rw [← e]; exact LineAt.of_own HF.out.1, HF.out.2⟩
end Go.Proofs.YtilpegmjkbmldaaDoor
