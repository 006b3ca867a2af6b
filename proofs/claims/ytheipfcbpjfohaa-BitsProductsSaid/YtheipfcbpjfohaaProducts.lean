/-
  Proves: for all three numbers BitsProducts tells true, and leaves all that was there as it was. No condition.
-/
import Derived.Test.YtheipfcbpjfohaaLaw
namespace Go.Proofs.Ytheipfcbpjfohaa.products
open Go Go.RowKit Go.ChangeShapes Go.WideShapes Go.ChangeAt

theorem two (a b : Int) : (mulGo 1 [a, b] = (a * b, true) ∧ 0 ≤ a ∧ a ≤ 1099511627776 ∧ 0 ≤ b ∧ ¬ (0 < a ∧ 1099511627776 / a < b)) ∨ (mulGo 1 [a, b] = (0, false) ∧ ¬ (0 ≤ a ∧ a ≤ 1099511627776 ∧ 0 ≤ b ∧ ¬ (0 < a ∧ 1099511627776 / a < b))) := by
  by_cases h : 0 ≤ a ∧ a ≤ 1099511627776
  · have h1 : mulGo 1 [a, b] = mulGo a [b] := by rw [mulGo_yes (by omega), Int.one_mul]
    by_cases h2 : b < 0 ∨ (0 < a ∧ 1099511627776 / a < b)
    · right
      rw [h1, mulGo_no h2]
      exact ⟨rfl, fun hc => by rcases h2 with h2 | h2 <;> omega⟩
    · left
      rw [h1, mulGo_yes h2]
      exact ⟨rfl, h.1, h.2, by omega, fun hc => h2 (.inr hc)⟩
  · right
    exact ⟨mulGo_no (by omega), fun hc => h ⟨hc.1, hc.2.1⟩⟩

theorem three (a b c : Int) : (mulGo 1 [a, b, c]).2 = true → (mulGo 1 [a, b]).2 = true ∧ mulGo 1 [a, b, c] = mulGo (a * b) [c] := by
  intro hg
  by_cases h : a < 0 ∨ (0 < (1 : Int) ∧ 1099511627776 / 1 < a)
  · rw [mulGo_no h] at hg; cases hg
  · rw [mulGo_yes h, Int.one_mul] at hg ⊢
    rw [mulGo_yes h, Int.one_mul]
    by_cases h2 : b < 0 ∨ (0 < a ∧ 1099511627776 / a < b)
    · rw [mulGo_no h2] at hg; cases hg
    · rw [mulGo_yes h2, mulGo_yes h2]
      exact ⟨rfl, rfl⟩

theorem no_zero (zs : List Int) : ∀ p : Int, (mulGo p zs).2 = false → (mulGo p zs).1 = 0 := by
  induction zs with
  | nil => intro p h; simp [mulGo] at h
  | cons z r ih =>
    intro p h
    by_cases hc : z < 0 ∨ (0 < p ∧ 1099511627776 / p < z)
    · rw [mulGo_no hc]
    · rw [mulGo_yes hc] at h ⊢; exact ih _ h

theorem turned {a b : Int} (ha : 0 < a) (hb : 0 < b) (h1 : a ≤ 1099511627776) (h2 : ¬ 1099511627776 / a < b) : (mulGo 1 [b, a]).2 = true := by
  have hle : b * a ≤ 1099511627776 := by
    have h3 : b ≤ 1099511627776 / a := by omega
    calc b * a ≤ (1099511627776 / a) * a := Int.mul_le_mul_of_nonneg_right h3 (by omega)
      _ ≤ 1099511627776 := Int.ediv_mul_le _ (by omega)
  have hb1 : b ≤ 1099511627776 := by
    have : b * 1 ≤ b * a := Int.mul_le_mul_of_nonneg_left (by omega) (by omega)
    omega
  have hda : a ≤ 1099511627776 / b := Int.le_ediv_of_mul_le hb (by rw [Int.mul_comm]; exact hle)
  rw [mulGo_yes (by omega), Int.one_mul, mulGo_yes (by omega)]
  rfl

theorem facts (a b c : Int) :
    ((mulGo 1 [a, b]).2 = true → (mulGo 1 [b, a]).2 = true → (mulGo 1 [a, b]).1 = (mulGo 1 [b, a]).1) ∧
    ((mulGo 1 [a, b]).2 ≠ (mulGo 1 [b, a]).2 → a = 0 ∨ b = 0) ∧
    ((mulGo 1 [a, b, c]).2 = true → (mulGo 1 [a, b]).2 = true ∧ (mulGo 1 [a, b, c]).1 = (mulGo 1 [(mulGo 1 [a, b]).1, c]).1 ∧ (mulGo 1 [(mulGo 1 [a, b]).1, c]).2 = true) ∧
    ((mulGo 1 [a, b]).2 = false → (mulGo 1 [a, b]).1 = 0) ∧ ((mulGo 1 [a, b, c]).2 = false → (mulGo 1 [a, b, c]).1 = 0) := by
  refine ⟨?_, ?_, ?_, no_zero _ _, no_zero _ _⟩
  · intro h1 h2
    rcases two a b with ⟨e, _⟩ | ⟨e, _⟩
    · rcases two b a with ⟨e', _⟩ | ⟨e', _⟩
      · rw [e, e']; exact Int.mul_comm _ _
      · rw [e'] at h2; cases h2
    · rw [e] at h1; cases h1
  · intro h
    by_cases ha : a = 0
    · exact .inl ha
    · by_cases hb : b = 0
      · exact .inr hb
      · exfalso
        apply h
        rcases two a b with ⟨e, h0, h1, h2, h3⟩ | ⟨e, hn⟩
        · rw [e, turned (a := a) (b := b) (by omega) (by omega) h1 (fun hc => h3 ⟨by omega, hc⟩)]
        · rcases two b a with ⟨e', h0, h1, h2, h3⟩ | ⟨e', hn'⟩
          · have := turned (a := b) (b := a) (by omega) (by omega) h1 (fun hc => h3 ⟨by omega, hc⟩)
            rw [e] at this; cases this
          · rw [e, e']
  · intro h
    obtain ⟨h1, h2⟩ := three a b c h
    refine ⟨h1, ?_⟩
    rcases two a b with ⟨e, h0, hm, hb, hn⟩ | ⟨e, _⟩
    · have hf := mul_fits h0 hm hb hn
      have e3 : mulGo 1 [(mulGo 1 [a, b]).1, c] = mulGo (a * b) [c] := by
        rw [e]
        show mulGo 1 [a * b, c] = _
        rw [mulGo_yes (by omega), Int.one_mul]
      rw [e3, ← h2]
      exact ⟨rfl, h⟩
    · rw [e] at h1; cases h1

/-- mulGo's parts are ints. -/
theorem in_range (zs : List Int) : ∀ p : Int, 0 ≤ p → p ≤ 1099511627776 → 0 ≤ (mulGo p zs).1 ∧ (mulGo p zs).1 ≤ 1099511627776 := by
  induction zs with
  | nil => intro p h0 h1; exact ⟨h0, h1⟩
  | cons z r ih =>
    intro p h0 h1
    by_cases hc : z < 0 ∨ (0 < p ∧ 1099511627776 / p < z)
    · rw [mulGo_no hc]; exact ⟨by decide, by decide⟩
    · rw [mulGo_yes hc]
      have hf := mul_fits (n := z) h0 h1 (by omega) (fun h => hc (.inr h))
      exact ih _ hf.1 hf.2

theorem call2 (w : World) (x y : Int) (hx : -9223372036854775808 ≤ x ∧ x ≤ 9223372036854775807) (hy : -9223372036854775808 ≤ y ∧ y ≤ 9223372036854775807) :
    Calls Try.prog 32 #[.slice (some ⟨w.heap.size, 0, none⟩) 2 2] (w.alloc (.cells #[.int .i64 x, .int .i64 y] 3)) fun e w' =>
      e = .returned (.tuple #[.int .i64 (mulGo 1 [x, y]).1, .bool (mulGo 1 [x, y]).2]) ∧ w.alloc (.cells #[.int .i64 x, .int .i64 y] 3) = w' :=
  mul_any _ 2 2 [x, y] _ (Holds.lit w #[.int .i64 x, .int .i64 y] 3) rfl (by decide) (by simpa using ⟨hx, hy⟩)
theorem call3 (w : World) (x y z : Int) (hx : -9223372036854775808 ≤ x ∧ x ≤ 9223372036854775807) (hy : -9223372036854775808 ≤ y ∧ y ≤ 9223372036854775807) (hz : -9223372036854775808 ≤ z ∧ z ≤ 9223372036854775807) :
    Calls Try.prog 32 #[.slice (some ⟨w.heap.size, 0, none⟩) 3 3] (w.alloc (.cells #[.int .i64 x, .int .i64 y, .int .i64 z] 3)) fun e w' =>
      e = .returned (.tuple #[.int .i64 (mulGo 1 [x, y, z]).1, .bool (mulGo 1 [x, y, z]).2]) ∧ w.alloc (.cells #[.int .i64 x, .int .i64 y, .int .i64 z] 3) = w' :=
  mul_any _ 3 3 [x, y, z] _ (Holds.lit w #[.int .i64 x, .int .i64 y, .int .i64 z] 3) rfl (by decide) (by simpa using ⟨hx, hy, hz⟩)

/-- What a call of Mul with new cells tells. -/
def Tells (cs : Array Value) (n : Nat) (x : Int) (ok : Bool) : Prop :=
  ∀ (w : World) (g : Nat), g = w.heap.size → Calls Try.prog 32 #[.slice (some ⟨g, 0, none⟩) n n] (w.alloc (.cells cs 3)) fun e w' =>
      e = .returned (.tuple #[.int .i64 x, .bool ok]) ∧ w.alloc (.cells cs 3) = w'

set_option maxHeartbeats 1000000 in
theorem core (a b c x y z u : Int) (ok is good fine : Bool) (w : World) (h1 : Tells #[.int .i64 a, .int .i64 b] 2 x ok) (h2 : Tells #[.int .i64 b, .int .i64 a] 2 y is)
    (h3 : Tells #[.int .i64 a, .int .i64 b, .int .i64 c] 3 z good) (h4 : Tells #[.int .i64 x, .int .i64 c] 2 u fine)
    (hf : Hid ((ok = true → is = true → x = y) ∧ (ok ≠ is → a = 0 ∨ b = 0) ∧ (good = true → ok = true ∧ z = u ∧ fine = true) ∧ (ok = false → x = 0) ∧ (good = false → z = 0))) :
    Calls Try.prog 8 #[.int .i64 a, .int .i64 b, .int .i64 c] w fun e w' => e = .returned (.bool true) ∧ Only [] w w' := by
  go_enter Try.func8, Try.ntmps8
  go_wp2_with fail
  refine (known_any w).mono ?_
  rintro e w1 ⟨rfl, ho⟩
  go_wp2_with fail
  refine (h1 w1 _ rfl).mono ?_
  rintro e w2 ⟨rfl, rfl⟩
  go_wp2_with fail
  refine (h2 _ _ (by simp)).mono ?_
  rintro e w2 ⟨rfl, rfl⟩
  go_wp2_with fail
  refine (h3 _ _ (by simp)).mono ?_
  rintro e w2 ⟨rfl, rfl⟩
  go_wp2_with fail
  refine (h4 _ _ (by simp)).mono ?_
  rintro e w2 ⟨rfl, rfl⟩
  have hend : Only [] w ((((w1.alloc (.cells #[.int .i64 a, .int .i64 b] 3)).alloc (.cells #[.int .i64 b, .int .i64 a] 3)).alloc (.cells #[.int .i64 a, .int .i64 b, .int .i64 c] 3)).alloc (.cells #[.int .i64 x, .int .i64 c] 3)) :=
    (((ho.alloc _).alloc _).alloc _).alloc _
  obtain ⟨f1, f2, f3, f4, f5⟩ := hf.out
  clear h1 h2 h3 h4 hf ho
  cases good with
  | true =>
    obtain ⟨rfl, rfl, rfl⟩ := f3 rfl
    cases is with
    | true =>
      obtain rfl := f1 rfl rfl
      clear f1 f2 f3 f4 f5
      go_wp2_with fail
      go_ret
      exact ⟨rfl, hend⟩
    | false =>
      rcases f2 (by simp) with rfl | rfl
      · clear f1 f2 f3 f4 f5
        go_wp2_with fail
        go_ret
        exact ⟨rfl, hend⟩
      · by_cases ha : a = 0
        · subst ha
          clear f1 f2 f3 f4 f5
          go_wp2_with fail
          go_ret
          exact ⟨rfl, hend⟩
        · clear f1 f2 f3 f4 f5
          go_wp2_with fail
          go_ret
          exact ⟨rfl, hend⟩
  | false =>
    obtain rfl := f5 rfl
    cases ok with
    | true =>
      cases is with
      | true =>
        obtain rfl := f1 rfl rfl
        clear f1 f2 f3 f4 f5
        go_wp2_with fail
        go_ret
        exact ⟨rfl, hend⟩
      | false =>
        rcases f2 (by simp) with rfl | rfl
        · clear f1 f2 f3 f4 f5
          go_wp2_with fail
          go_ret
          exact ⟨rfl, hend⟩
        · by_cases ha : a = 0
          · subst ha
            clear f1 f2 f3 f4 f5
            go_wp2_with fail
            go_ret
            exact ⟨rfl, hend⟩
          · clear f1 f2 f3 f4 f5
            go_wp2_with fail
            go_ret
            exact ⟨rfl, hend⟩
    | false =>
      obtain rfl := f4 rfl
      cases is with
      | true =>
        rcases f2 (by simp) with rfl | rfl
        · clear f1 f2 f3 f4 f5
          go_wp2_with fail
          go_ret
          exact ⟨rfl, hend⟩
        · by_cases ha : a = 0
          · subst ha
            clear f1 f2 f3 f4 f5
            go_wp2_with fail
            go_ret
            exact ⟨rfl, hend⟩
          · clear f1 f2 f3 f4 f5
            go_wp2_with fail
            go_ret
            exact ⟨rfl, hend⟩
      | false =>
        clear f1 f2 f3 f4 f5
        go_wp2_with fail
        go_ret
        exact ⟨rfl, hend⟩

theorem walk (a b c : Int) (w : World) (ha : -9223372036854775808 ≤ a ∧ a ≤ 9223372036854775807) (hb : -9223372036854775808 ≤ b ∧ b ≤ 9223372036854775807) (hc : -9223372036854775808 ≤ c ∧ c ≤ 9223372036854775807) :
    Calls Try.prog 8 #[.int .i64 a, .int .i64 b, .int .i64 c] w fun e w' => e = .returned (.bool true) ∧ Only [] w w' := by
  have hx := in_range [a, b] 1 (by decide) (by decide)
  exact core a b c _ _ _ _ _ _ _ _ w (fun w g hg => by subst hg; exact call2 w a b ha hb) (fun w g hg => by subst hg; exact call2 w b a hb ha)
    (fun w g hg => by subst hg; exact call3 w a b c ha hb hc) (fun w g hg => by subst hg; exact call2 w (mulGo 1 [a, b]).1 c ⟨by omega, by omega⟩ hc) (facts a b c)

set_option maxRecDepth 100000 in
theorem lifted (os : Os) (started : os.Started) (H : Type) (enc : TypeId × Value → H) :
    ReturnsInHanded {} Try.checked os 8 .any (Rows.bitsProductsSpec.pre6 enc Try.prog Try.f8 Rows.bitsProductsRow.domain false)
      (Rows.bitsProductsSpec.post enc Try.prog Try.f8 false true false false) := by
  refine returnsInHanded_of_change (C := Try.checked) own_knob started (by kernel_rfl) Try.func8
    (ChangeSpec.witness6 (enc := enc) (C := Try.checked) false ⟨#[], #[.int .i64 0, .int .i64 0, .int .i64 0], []⟩ 8 (by kernel_rfl) (by kernel_rfl) (by kernel_rfl) (by kernel_rfl)) ?_
  intro W base args ds gs before hval0 hW hcnd _
  have hval : ∀ (j : Nat) t v, Try.f8.params[j]? = some t → args[j]? = some v → Value.okWide Try.prog W .any base t v := hval0
  have hW' := hW
  obtain ⟨p, q, hA0, hV, rfl, hfz, hnd⟩ := hW
  have hA : DataW.TrodAll enc Try.prog W 0 (fun _ => true) true Try.f8.params.toList args.toList ds p := hA0
  rw [Try.params8] at hA hval
  obtain ⟨v0, vs0, d0, ds0, p0, q0, hargs, rfl, rfl, h0, r0⟩ := trodAll_cons hA
  obtain ⟨v1, vs1, d1, ds1, p1, q1, rfl, rfl, rfl, h1, r1⟩ := trodAll_cons r0
  obtain ⟨v2, vs2, d2, ds2, p2, q2, rfl, rfl, rfl, h2, r2⟩ := trodAll_cons r1
  obtain ⟨rfl, rfl, rfl⟩ := trodAll_nil r2
  obtain rfl : args = #[v0, v1, v2] := by cases args; simp_all
  obtain ⟨a, rfl, rfl, rfl, wa⟩ := open_int Try.underlying3 (hval 0 3 v0 rfl rfl) h0
  obtain ⟨b, rfl, rfl, rfl, wb⟩ := open_int Try.underlying3 (hval 1 3 v1 rfl rfl) h1
  obtain ⟨c, rfl, rfl, rfl, wc⟩ := open_int Try.underlying3 (hval 2 3 v2 rfl rfl) h2
  have ba : -9223372036854775808 ≤ a ∧ a ≤ 9223372036854775807 := by simpa [Lit.wf, IntKind.min, IntKind.max, IntKind.signed, IntKind.bits] using wa
  have bb : -9223372036854775808 ≤ b ∧ b ≤ 9223372036854775807 := by simpa [Lit.wf, IntKind.min, IntKind.max, IntKind.signed, IntKind.bits] using wb
  have bc : -9223372036854775808 ≤ c ∧ c ≤ 9223372036854775807 := by simpa [Lit.wf, IntKind.min, IntKind.max, IntKind.signed, IntKind.bits] using wc
  refine (walk a b c W ba bb bc).mono fun e W' ⟨he, ho⟩ => ?_
  subst he
  exact ⟨_, rfl, law_post rfl hW' (by intro t ht; revert t; exact of_decide_eq_true (by kernel_rfl)) rfl rfl ho⟩

theorem proved : Rows.BitsProductsSaid :=
  OpenClaim.holds_of_wide 8 Try.f8 rfl rfl rfl rfl rfl rfl rfl ⟨rfl, rfl, rfl, rfl, rfl⟩ rfl rfl rfl rfl rfl (by kernel_rfl) Try.func8 (by kernel_rfl)
    (of_decide_eq_true (by kernel_rfl)) (by unfold Func.isWrapper; first | (rw [if_pos (by decide +kernel)]; kernel_rfl) | (rw [if_neg (by decide +kernel)]; exact ⟨rfl, rfl⟩))
    (fun os started H enc _ => lifted os started H enc)
end Go.Proofs.Ytheipfcbpjfohaa.products
