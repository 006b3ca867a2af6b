/-
  Streams of all kinds, plainly: what is right in each state, and stays so.
-/
import Derived.Test.YtopjkmobnmaaaaaDoorInfO
namespace Go.Proofs.YtopjkmobnmaaaaaDoor

/-- Lengths of which codes may be made. -/
structure OkT (l : List UInt8) : Prop where
  len : l.length ≤ 320
  far : far l = false
  may : mayBe (cn l) = true
theorem OkT.le {l : List UInt8} (h : OkT l) : ∀ i, ln l i ≤ 15 := ln_far h.far
theorem OkT.sum {l : List UInt8} (h : OkT l) : Sm (cn l) 16 ≤ 32768 := mayBe_le h.may

theorem sy_lt {l : List UInt8} (h : l ≠ []) (n j : Nat) : sy l n j < l.length := by
  unfold sy
  cases hf : (List.range l.length).find? fun i => ln l i == n && rk l i n == j with
  | none => exact List.length_pos_iff.2 h
  | some i =>
    have := List.mem_of_find?_eq_some hf
    exact List.mem_range.1 this
theorem huffN_lt {l : List UInt8} {N p : Nat} (h : (huffN l N p).2.1 = 0) : (huffN l N p).1 < l.length := by
  by_cases hn : l = []
  · subst hn
    exfalso
    unfold huffN readM at h
    have : Lg (cn []) 15 = 0 := by decide
    rw [this] at h
    exact absurd (show (3 : Nat) = 0 from h) (by decide)
  · unfold huffN readM at h ⊢
    have key : ∀ r n, r + n ≤ 16 → (scan l N p 16 r n).2.1 = 0 → (scan l N p 16 r n).1 < l.length := by
      intro r
      induction r with
      | zero => intro n _ h; exact absurd h (by simp [scan])
      | succ r ih =>
        intro n hn h
        by_cases hb : bc N p n < Fs (cn l) n + cn l n
        · rw [scan_hit (by omega) hb]; exact sy_lt ‹_› _ _
        · rw [scan_next (by omega) hb] at h ⊢; exact ih _ (by omega) h
    exact key _ _ (by have := Lg_15 (cn l); omega) h
theorem huffN_ok {l : List UInt8} {N p : Nat} (h : ¬ (huffN l N p).2.1 ≠ 0) : (huffN l N p).2.1 = 0 := Decidable.of_not_not h
theorem needN_ok {l : List UInt8} {N p : Nat} (h : (huffN l N p).2.1 = 0) : needN l N p = (huffN l N p).2.2 := by unfold needN; rw [if_pos h]

/-- What is right where one stands. -/
structure GSt.Wf (s : GSt) : Prop where
  k : s.k ≤ 11
  code : 7 ≤ s.k → s.k ≤ 10 → OkT s.T ∧ OkT s.D
  sym8 : s.k = 8 → 257 ≤ s.sym ∧ s.sym ≤ 285
  sym10 : s.k = 10 → s.sym ≤ 29
  len : 9 ≤ s.k → s.k ≤ 10 → s.len ≤ 258
  left : s.k = 2 → 0 < s.left ∧ s.left < 65536 ∧ s.p % 8 = 0
  by8 : s.k = 1 → s.p % 8 = 0
  head : 4 ≤ s.k → s.k ≤ 6 → 257 ≤ s.nl ∧ s.nl ≤ 286 ∧ 1 ≤ s.nd ∧ s.nd ≤ 30 ∧ 4 ≤ s.no ∧ s.no ≤ 19 ∧ s.own.length = 19 ∧ (∀ b ∈ s.own, b.toNat ≤ 7)
  now : s.k = 4 → s.nOwn < s.no ∧ s.lens = []
  said : 5 ≤ s.k → s.k ≤ 6 → mayBe (cn s.own) = true ∧ s.lens.length < s.nl + s.nd ∧ ∀ b ∈ s.lens, b.toNat ≤ 15
  sym6 : s.k = 6 → s.sym ≤ 18 ∧ (s.sym = 16 → s.lens ≠ [])

theorem far_of {l : List UInt8} (h : ∀ b ∈ l, b.toNat ≤ 15) : far l = false := by
  cases hf : far l with
  | false => rfl
  | true =>
    exfalso
    unfold far at hf
    rw [List.any_eq_true] at hf
    obtain ⟨b, hb, h2⟩ := hf
    have := h b hb
    simp only [decide_eq_true_eq] at h2
    omega
theorem behindK_or' (b : Bool) : behindK b = 0 ∨ behindK b = 11 := by cases b <;> decide
theorem stK_or (b : Bool) (n : Nat) : (stK b n = 2 ∧ 0 < n) ∨ (n = 0 ∧ (stK b n = 0 ∨ stK b n = 11)) := by
  rcases Nat.eq_zero_or_pos n with rfl | h
  · exact .inr ⟨rfl, by rw [stK_zero]; exact behindK_or' b⟩
  · exact .inl ⟨stK_pos b h, h⟩
theorem repV_le {s : Nat} {lens : List UInt8} (hs : s ≤ 18) (h : ∀ b ∈ lens, b.toNat ≤ 15) : (repV s lens).toNat ≤ 15 := by
  unfold repV
  split
  · rw [UInt8.toNat_ofNat']; omega
  · split
    · cases lens with
      | nil => decide
      | cons b l => rw [List.getLastD_cons]; exact h _ (by rw [← List.getLast_eq_getLastD]; exact List.getLast_mem (by simp))
    · decide

variable {L0 D0 : List UInt8} {N a most : Nat}

theorem GSt.nx_wf {s t : GSt} (hL : OkT L0) (hD : OkT D0) (h : s.Wf) (h11 : s.k ≠ 11) (ht : (s.nx L0 D0 N most).2 = .ok t) : t.Wf := by
  have hk := h.k
  by_cases h0 : s.k = 0
  · rw [GSt.nx_0 h0] at ht
    dsimp only at ht
    split at ht
    · cases ht; constructor <;> (intros; simp only at *; first | omega | contradiction)
    · split at ht
      · cases ht; constructor <;> (intros; simp only at *; first | omega | exact ⟨hL, hD⟩ | contradiction)
      · split at ht
        · cases ht; constructor <;> (intros; simp only at *; first | omega | contradiction)
        · cases ht
  by_cases h1 : s.k = 1
  · rw [GSt.nx_1 h1] at ht
    have hb := h.by8 h1
    dsimp only at ht
    split at ht
    · cases ht
      have hst := stK_or s.last (N / 2 ^ s.p % 65536)
      generalize stK s.last (N / 2 ^ s.p % 65536) = k at hst
      have : N / 2 ^ s.p % 65536 < 65536 := Nat.mod_lt _ (by decide)
      constructor <;> (intros; simp only at *; first | omega | contradiction)
    · cases ht
  by_cases h2 : s.k = 2
  · rw [GSt.nx_2 h2] at ht
    have hb := h.left h2
    dsimp only at ht
    split at ht
    · cases ht
      have hst := stK_or s.last (s.left - 1)
      generalize stK s.last (s.left - 1) = k at hst
      constructor <;> (intros; simp only at *; first | omega | contradiction)
    · cases ht
  by_cases h3 : s.k = 3
  · rw [GSt.nx_3 h3] at ht
    dsimp only at ht
    split at ht
    · cases ht
      have : N / 2 ^ s.p % 16384 < 16384 := Nat.mod_lt _ (by decide)
      constructor <;> (intros; simp only at *; first | omega | contradiction | skip)
      · refine ⟨by omega, by omega, by omega, by omega, by omega, by omega, List.length_replicate, fun b hb => ?_⟩
        rw [List.mem_replicate] at hb
        rw [hb.2]; decide
      · exact ⟨by omega, trivial⟩
    · cases ht
  by_cases h4 : s.k = 4
  · rw [GSt.nx_4 h4] at ht
    have hh := h.head (by omega) (by omega)
    have hn := h.now h4
    have how : ∀ b ∈ s.own.set (rankN.getD s.nOwn 0) (UInt8.ofNat (N / 2 ^ s.p % 8)), b.toNat ≤ 7 := fun b hb => by
      rcases List.mem_or_eq_of_mem_set hb with h | h
      · exact hh.2.2.2.2.2.2.2 b h
      · rw [h, UInt8.toNat_ofNat']; omega
    dsimp only at ht
    split at ht
    · cases ht
      refine ⟨by simp only; omega, ?_, ?_, ?_, ?_, ?_, ?_, ?_, ?_, ?_, ?_⟩
      all_goals (intros; simp only at *; first | omega | contradiction | skip)
      · exact ⟨hh.1, hh.2.1, hh.2.2.1, hh.2.2.2.1, hh.2.2.2.2.1, hh.2.2.2.2.2.1, by rw [List.length_set]; exact hh.2.2.2.2.2.2.1, how⟩
      · exact ⟨by omega, hn.2⟩
    · split at ht
      · rename_i hm
        cases ht
        refine ⟨by simp only; omega, ?_, ?_, ?_, ?_, ?_, ?_, ?_, ?_, ?_, ?_⟩
        all_goals (intros; simp only at *; first | omega | contradiction | skip)
        · exact ⟨hh.1, hh.2.1, hh.2.2.1, hh.2.2.2.1, hh.2.2.2.2.1, hh.2.2.2.2.2.1, by rw [List.length_set]; exact hh.2.2.2.2.2.2.1, how⟩
        · refine ⟨hm, by rw [hn.2]; simp only [List.length_nil]; omega, ?_⟩
          rw [hn.2]; simp
      · cases ht
  by_cases h5 : s.k = 5
  · rw [GSt.nx_5 h5] at ht
    have hh := h.head (by omega) (by omega)
    have hsd := h.said (by omega) (by omega)
    dsimp only at ht
    split at ht
    · cases ht
    · rename_i hne
      have he : (huffN s.own N s.p).2.1 = 0 := huffN_ok (fun h => hne (.inl h))
      have hlt := huffN_lt he
      cases ht
      refine ⟨by simp only; omega, ?_, ?_, ?_, ?_, ?_, ?_, ?_, ?_, ?_, ?_⟩
      all_goals (intros; simp only at *; first | omega | contradiction | skip)
      · exact ⟨by omega, fun h16 hl => hne (.inr ⟨h16, hl⟩)⟩
  by_cases h6 : s.k = 6
  · rw [GSt.nx_6 h6] at ht
    have hh := h.head (by omega) (by omega)
    have hsd := h.said (by omega) (by omega)
    have hsy := h.sym6 h6
    have hl : ∀ b ∈ s.lens ++ List.replicate (repM s.sym + N / 2 ^ s.p % 2 ^ repB s.sym) (repV s.sym s.lens), b.toNat ≤ 15 := fun b hb => by
      rcases List.mem_append.1 hb with hb | hb
      · exact hsd.2.2 b hb
      · rw [(List.mem_replicate.1 hb).2]; exact repV_le hsy.1 hsd.2.2
    dsimp only at ht
    generalize s.lens ++ List.replicate (repM s.sym + N / 2 ^ s.p % 2 ^ repB s.sym) (repV s.sym s.lens) = l at *
    split at ht
    · cases ht
    · split at ht
      · cases ht
        refine ⟨by simp only; omega, ?_, ?_, ?_, ?_, ?_, ?_, ?_, ?_, ?_, ?_⟩
        all_goals (intros; simp only at *; first | omega | contradiction | skip)
        · exact ⟨hsd.1, by assumption, hl⟩
      · split at ht
        · rename_i hm
          cases ht
          refine ⟨by simp only; omega, ?_, ?_, ?_, ?_, ?_, ?_, ?_, ?_, ?_, ?_⟩
          all_goals (intros; simp only at *; first | omega | contradiction | skip)
          exact ⟨⟨by rw [List.length_take]; omega, far_of fun b hb => hl b (List.mem_of_mem_take hb), hm.1⟩, ⟨by rw [List.length_drop]; omega, far_of fun b hb => hl b (List.mem_of_mem_drop hb), hm.2.1⟩⟩
        · cases ht
  by_cases h7 : s.k = 7
  · rw [GSt.nx_7 h7] at ht
    have hc := h.code (by omega) (by omega)
    dsimp only at ht
    split at ht
    · cases ht
    · rename_i hne
      split at ht
      · split at ht
        · cases ht
          refine ⟨by simp only; omega, ?_, ?_, ?_, ?_, ?_, ?_, ?_, ?_, ?_, ?_⟩
          all_goals (intros; simp only at *; first | omega | contradiction | exact hc)
        · cases ht
      · split at ht
        · cases ht
          have hst := behindK_or' s.last
          generalize behindK s.last = k at hst
          refine ⟨by simp only; omega, ?_, ?_, ?_, ?_, ?_, ?_, ?_, ?_, ?_, ?_⟩
          all_goals (intros; simp only at *; first | omega | contradiction | skip)
        · cases ht
          refine ⟨by simp only; omega, ?_, ?_, ?_, ?_, ?_, ?_, ?_, ?_, ?_, ?_⟩
          all_goals (intros; simp only at *; first | omega | contradiction | exact hc)
  by_cases h8 : s.k = 8
  · rw [GSt.nx_8 h8] at ht
    have hc := h.code (by omega) (by omega)
    have hs := h.sym8 h8
    dsimp only at ht
    cases ht
    have hlen : lenM s.sym + N / 2 ^ s.p % 2 ^ lenB s.sym ≤ 258 := by
      have key : ∀ y, 257 ≤ y → y ≤ 285 → lenM y + (2 ^ lenB y - 1) ≤ 258 := by
        intro y h1 h2
        have all : ∀ d, d < 29 → lenM (257 + d) + (2 ^ lenB (257 + d) - 1) ≤ 258 := by decide
        have := all (y - 257) (by omega)
        rwa [show 257 + (y - 257) = y by omega] at this
      have := key s.sym hs.1 hs.2
      have h2 := Nat.mod_lt (N / 2 ^ s.p) (Nat.two_pow_pos (lenB s.sym))
      omega
    refine ⟨by simp only; omega, ?_, ?_, ?_, ?_, ?_, ?_, ?_, ?_, ?_, ?_⟩
    all_goals (intros; simp only at *; first | omega | contradiction | exact hc)
  by_cases h9 : s.k = 9
  · rw [GSt.nx_9 h9] at ht
    have hc := h.code (by omega) (by omega)
    have hl := h.len (by omega) (by omega)
    dsimp only at ht
    split at ht
    · cases ht
    · cases ht
      refine ⟨by simp only; omega, ?_, ?_, ?_, ?_, ?_, ?_, ?_, ?_, ?_, ?_⟩
      all_goals (intros; simp only at *; first | omega | contradiction | exact hc)
  rw [GSt.nx_10 (by omega)] at ht
  have hc := h.code (by omega) (by omega)
  dsimp only at ht
  split at ht
  · cases ht
  · split at ht
    · cases ht
    · cases ht
      refine ⟨by simp only; omega, ?_, ?_, ?_, ?_, ?_, ?_, ?_, ?_, ?_, ?_⟩
      all_goals (intros; simp only at *; first | omega | contradiction | exact hc)
theorem Steps.wf {s t : GSt} (hL : OkT L0) (hD : OkT D0) (r : Steps L0 D0 N a most s t) (h : s.Wf) : t.Wf := by
  induction r with
  | refl => exact h
  | go s t u h11 hp ht r ih => exact ih (GSt.nx_wf hL hD h h11 ht)

/-- A step passes all that it looks at. -/
theorem GSt.nx_le {s t : GSt} (ht : (s.nx L0 D0 N most).2 = .ok t) : (s.nx L0 D0 N most).1 ≤ t.p := by
  by_cases h0 : s.k = 0
  · rw [GSt.nx_0 h0] at ht ⊢
    dsimp only at ht ⊢
    repeat' split at ht
    all_goals cases ht
    all_goals (show _ ≤ _; simp only; omega)
  by_cases h1 : s.k = 1
  · rw [GSt.nx_1 h1] at ht ⊢
    dsimp only at ht ⊢
    repeat' split at ht
    all_goals cases ht
    all_goals exact Nat.le_refl _
  by_cases h2 : s.k = 2
  · rw [GSt.nx_2 h2] at ht ⊢
    dsimp only at ht ⊢
    repeat' split at ht
    all_goals cases ht
    all_goals exact Nat.le_refl _
  by_cases h3 : s.k = 3
  · rw [GSt.nx_3 h3] at ht ⊢
    dsimp only at ht ⊢
    repeat' split at ht
    all_goals cases ht
    all_goals exact Nat.le_refl _
  by_cases h4 : s.k = 4
  · rw [GSt.nx_4 h4] at ht ⊢
    dsimp only at ht ⊢
    repeat' split at ht
    all_goals cases ht
    all_goals exact Nat.le_refl _
  by_cases h5 : s.k = 5
  · rw [GSt.nx_5 h5] at ht ⊢
    dsimp only at ht ⊢
    split at ht
    · cases ht
    · rename_i hne
      rw [needN_ok (huffN_ok fun h => hne (.inl h))]
      cases ht; exact Nat.le_refl _
  by_cases h6 : s.k = 6
  · rw [GSt.nx_6 h6] at ht ⊢
    dsimp only at ht ⊢
    repeat' split at ht
    all_goals cases ht
    all_goals exact Nat.le_refl _
  by_cases h7 : s.k = 7
  · rw [GSt.nx_7 h7] at ht ⊢
    dsimp only at ht ⊢
    split at ht
    · cases ht
    · rename_i hne
      rw [needN_ok (huffN_ok fun h => hne (.inl h))]
      repeat' split at ht
      all_goals cases ht
      all_goals exact Nat.le_refl _
  by_cases h8 : s.k = 8
  · rw [GSt.nx_8 h8] at ht ⊢
    dsimp only at ht ⊢
    cases ht; exact Nat.le_refl _
  by_cases h9 : s.k = 9
  · rw [GSt.nx_9 h9] at ht ⊢
    dsimp only at ht ⊢
    split at ht
    · cases ht
    · rename_i hne
      rw [needN_ok (huffN_ok fun h => hne (.inl h))]
      cases ht; exact Nat.le_refl _
  rw [GSt.nx_10 (by omega)] at ht ⊢
  dsimp only at ht ⊢
  repeat' split at ht
  all_goals cases ht
  all_goals exact Nat.le_refl _

/-- How much is to be done yet, at most. -/
def GSt.ms (a : Nat) (s : GSt) : Nat := 2 * (8 * a - s.p) + GSt.rk s.k
theorem GSt.rk_le (k : Nat) : GSt.rk k ≤ 1 := by unfold rk; split <;> omega
theorem GSt.nx_ms {s t : GSt} (h : s.k ≠ 11) (hp : (s.nx L0 D0 N most).1 ≤ 8 * a) (ht : (s.nx L0 D0 N most).2 = .ok t) : t.ms a < s.ms a := by
  have hon := GSt.nx_on h hp ht
  have := GSt.rk_le t.k
  have := GSt.rk_le s.k
  unfold ms
  omega
theorem Steps.ms {s t : GSt} (r : Steps L0 D0 N a most s t) : t.ms a ≤ s.ms a := by
  induction r with
  | refl => exact Nat.le_refl _
  | go s t u h hp ht r ih => have := GSt.nx_ms h hp ht; omega
/-- Steps, one at least. -/
def Steps1 (L0 D0 : List UInt8) (N a most : Nat) (s u : GSt) : Prop := Steps L0 D0 N a most s u ∧ u.ms a < s.ms a
theorem Steps1.one {s t : GSt} {q : Nat} (h : s.k ≠ 11) (hn : s.nx L0 D0 N most = (q, .ok t)) (hq : q ≤ 8 * a) : Steps1 L0 D0 N a most s t :=
  ⟨.one h hn hq, GSt.nx_ms h (by rw [hn]; exact hq) (by rw [hn])⟩
theorem Steps1.then_ {s t u : GSt} (h : Steps1 L0 D0 N a most s t) (r : Steps L0 D0 N a most t u) : Steps1 L0 D0 N a most s u :=
  ⟨h.1.trans r, Nat.lt_of_le_of_lt r.ms h.2⟩
theorem Steps.then_ {s t u : GSt} (r : Steps L0 D0 N a most s t) (h : Steps1 L0 D0 N a most t u) : Steps1 L0 D0 N a most s u :=
  ⟨r.trans h.1, Nat.lt_of_lt_of_le h.2 r.ms⟩
end Go.Proofs.YtopjkmobnmaaaaaDoor
