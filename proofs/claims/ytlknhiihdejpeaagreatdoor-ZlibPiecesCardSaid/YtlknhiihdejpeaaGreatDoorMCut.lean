/-
  Parts of a slice of bytes: b[k:] and b[:k], wherever it lies. | Package inflate, all streams: bytes that wait are few, and lie in their own row.
-/
import Derived.Test.YtlknhiihdejpeaaGreatDoorProg
import Derived.Test.YtlknhiihdejpeaaGreatDoorMMem
import Derived.Test.YtlknhiihdejpeaaGreatDoorMFlZ
import Derived.Test.YtlknhiihdejpeaaGreatDoorMHufX
import Derived.Deep.RegionLaw
namespace Go.Proofs.YtlknhiihdejpeaaGreatDoor
open Go Go.RowKit

theorem bytes_elem : Tryz.prog.underlying 22 = some (.slice (Tryz.prog.elem 22)) := by kernel_rfl
theorem bytes_size (w : World) : (sizeOf (Tryz.prog.elem 22)).run Tryz.prog w = .ok 1 w := by kernel_rfl

theorem Holds.from {w : World} {A : Option Addr} {n c : Nat} {l : List UInt8} (h : Holds w 1 A n (bvals l)) (hl : l.length = n) (hn : n ≤ c) (k : Nat) (hk : k ≤ n) :
    Holds w 1 (if c = k then A else A.map (·.add (k * 1))) (n - k) (bvals (l.drop k)) := by
  split
  · have e : n - k = 0 := by omega
    rw [e]
    have e2 : l.drop k = [] := List.drop_eq_nil_of_le (by omega)
    rw [e2]
    exact Holds.empty _ _ _
  · have := h.cut (f := k) (m := n - k) (by omega)
    have e : ((bvals l).drop (k * 1)).take ((n - k) * 1) = bvals (l.drop k) := by
      rw [Nat.mul_one, Nat.mul_one, bvals_drop]
      exact List.take_of_length_le (by rw [List.length_drop, bvals_length]; omega)
    rw [e] at this
    exact this

theorem Holds.upto {w : World} {A : Option Addr} {n : Nat} {l : List UInt8} (h : Holds w 1 A n (bvals l)) (k : Nat) (hk : k ≤ n) : Holds w 1 A k (bvals (l.take k)) := by
  have hl := h.1
  rw [bvals_length] at hl
  refine ⟨by rw [bvals_length, List.length_take]; omega, fun hp => ?_⟩
  obtain ⟨ad, e, hb, hc⟩ := h.2 (by omega)
  refine ⟨ad, e, hb, fun j u hu => hc j u ?_⟩
  rw [bvals_take, List.getElem?_take] at hu
  split at hu
  · exact hu
  · cases hu

/-- b[k:]. -/
theorem run_from {w : World} {A : Option Addr} {n c : Nat} {l : List UInt8} (h : Holds w 1 A n (bvals l)) (hl : l.length = n) (hn : n ≤ c) (k : Nat) (hk : k ≤ n) :
    ∃ A' c', (∀ w', (Instr.slice 22 (.slice A n c) (some (.int .i64 k)) none none).run Tryz.prog w' = .ok (.slice A' (n - k) c') w') ∧ Holds w 1 A' (n - k) (bvals (l.drop k)) ∧ n - k ≤ c' ∧
      (∀ ad', A' = some ad' → ∃ ad, A = some ad ∧ ad'.block = ad.block) := by
  refine ⟨_, c - k, fun w' => ?_, h.from hl hn k hk, by omega, fun ad' he => ?_⟩
  · rw [run_slice_l (w := w') 22 A n c bytes_elem .i64 k (by omega) (by omega), bytes_size]
    simp [sliced, Result.andThen]
  · split at he
    · exact ⟨ad', he, rfl⟩
    · obtain ⟨ad, h1, h2⟩ := Option.map_eq_some_iff.1 he
      exact ⟨ad, h1, by rw [← h2, add_block]⟩
/-- b[:k]. -/
theorem run_upto (A : Option Addr) (n c k : Nat) (hk : k ≤ c) (w : World) :
    (Instr.slice 22 (.slice A n c) none (some (.int .i64 k)) none).run Tryz.prog w = .ok (.slice A k c) w := by
  rw [run_slice_h (w := w) 22 A n c bytes_elem .i64 k (by omega) (by omega), bytes_size]
  cases A with
  | none => simp [sliced, Result.andThen]
  | some ad => by_cases hc : c = 0 <;> simp [sliced, Result.andThen, hc, Addr.add]
end Go.Proofs.YtlknhiihdejpeaaGreatDoor


namespace Go.Proofs.YtlknhiihdejpeaaGreatDoor
open Go Go.RowKit

theorem needN_le (l : List UInt8) (N p : Nat) : needN l N p ≤ 15 := by
  unfold needN
  split
  · rename_i h
    have key : ∀ r n, 0 < n → r + n ≤ 16 → (scan l N p 16 r n).2.2 ≤ 15 := by
      intro r
      induction r with
      | zero => intro n _ _; simp [scan]
      | succ r ih =>
        intro n hn hr
        by_cases hb : bc N p n < Fs (cn l) n + cn l n
        · rw [scan_hit (by omega) hb]; show n ≤ 15; omega
        · rw [scan_next (by omega) hb]; exact ih _ (by omega) (by omega)
    unfold huffN readM
    exact key _ _ (by decide) (by have := Lg_15 (cn l); omega)
  · exact Lg_15 _
theorem repB_le (s : Nat) : repB s ≤ 7 := by unfold repB; split <;> (try split) <;> (try split) <;> omega
/-- A step looks at 32 bits at most. -/
theorem GSt.nx_top {L0 D0 : List UInt8} {N most : Nat} {s : GSt} (h : s.Wf) (h11 : s.k ≠ 11) : (s.nx L0 D0 N most).1 ≤ s.p + 32 := by
  have hk := h.k
  have key : s.k = 0 ∨ s.k = 1 ∨ s.k = 2 ∨ s.k = 3 ∨ s.k = 4 ∨ s.k = 5 ∨ s.k = 6 ∨ s.k = 7 ∨ s.k = 8 ∨ s.k = 9 ∨ s.k = 10 := by omega
  rcases key with k | k | k | k | k | k | k | k | k | k | k
  · rw [GSt.nx_0 k]; show s.p + 3 ≤ _; omega
  · rw [GSt.nx_1 k]; show s.p + 32 ≤ _; omega
  · rw [GSt.nx_2 k]; show s.p + 8 ≤ _; omega
  · rw [GSt.nx_3 k]; show s.p + 14 ≤ _; omega
  · rw [GSt.nx_4 k]; show s.p + 3 ≤ _; omega
  · rw [GSt.nx_5 k]; show s.p + needN s.own N s.p ≤ _; have := needN_le s.own N s.p; omega
  · rw [GSt.nx_6 k]; show s.p + repB s.sym ≤ _; have := repB_le s.sym; omega
  · rw [GSt.nx_7 k]; show s.p + needN s.T N s.p ≤ _; have := needN_le s.T N s.p; omega
  · rw [GSt.nx_8 k]; show s.p + lenB s.sym ≤ _; have := (len_le s.sym (h.sym8 k).1 (h.sym8 k).2).2; omega
  · rw [GSt.nx_9 k]; show s.p + needN s.D N s.p ≤ _; have := needN_le s.D N s.p; omega
  · rw [GSt.nx_10 (by omega)]; show s.p + dstB s.sym ≤ _; have := (dst_le s.sym (by have := h.sym10 k; omega)).2.2.1; omega
/-- What ended came by all that the first step looks at. -/
theorem Ends.far {L0 D0 : List UInt8} {N a most : Nat} {s u : GSt} (h : Ends L0 D0 N a most s 0 u) (hk : s.k ≠ 11) : (s.nx L0 D0 N most).1 ≤ u.p := by
  cases h with
  | done _ h => exact absurd h hk
  | bad _ _ _ _ h3 => rcases GSt.nx_err h3 with h | h <;> cases h
  | go _ t _ _ h1 h2 h3 h4 =>
    have := GSt.nx_le h3
    have h5 := (h4.on (GSt.nx_on h1 h2 h3).1).1
    omega

section
variable {P : Program} (w : World)
/-- append where there is room: the row stays. -/
theorem run_append_in (base : Nat) (t ty e : TypeId) (i : TypeInfo) (ht : P.underlying t = some (.slice e)) (hi : P.info? e = some i) (hsize : i.size = 1)
    {g n cap : Nat} {xs : List Value} (hown : w.ownsRow base e 1 (.slice (some ⟨g, 0, none⟩) n cap) n xs) {A : Option Addr} {m : Nat} (c : Nat) {news : List Value} (hr : Holds w 1 A m news)
    (h1 : ∀ u ∈ news, u.oneCell' = true) (hroom : n + m ≤ cap) :
    ∃ w', (Builtin.append_ #[t, t] ty #[.slice (some ⟨g, 0, none⟩) n cap, .slice A m c]).run P w = .ok (.slice (some ⟨g, 0, none⟩) (n + m) cap) w' ∧ w'.ownsRow base e 1 (.slice (some ⟨g, 0, none⟩) (n + m) cap) (n + m) (xs ++ news) ∧ w.grownBy w' (some g) := by
  rcases hown.2 with ⟨h, _⟩ | ⟨g', cap', cur, hv, hbg, hg, hnc, hcm, hcs, htake⟩
  · cases h
  · injection hv with hA _ hc
    injection hA with hA
    injection hA with hA
    subst hA hc
    have hlen : (xs ++ news).length = (n + m) * 1 := by rw [List.length_append, hown.1, hr.1, Nat.add_mul]
    cases A with
    | none =>
      have h0 : m = 0 := by
        rcases Nat.eq_zero_or_pos m with h0 | h0
        · exact h0
        · obtain ⟨ad, he, _⟩ := hr.2 h0; cases he
      subst h0
      have hnil : news = [] := List.eq_nil_of_length_eq_zero (by rw [hr.1, Nat.zero_mul])
      subst hnil
      refine ⟨w, ?_, by simpa using hown, ⟨rfl, rfl, rfl, Nat.le_refl _, fun _ _ _ => rfl⟩⟩
      simp [Builtin.append_, run_underlying ht, sizeOf, typeInfo, hi, Builtin.lenOf, Builtin.firstCells, hnc, storeCells]
    | some ad =>
      have hfit : n * i.size + news.length ≤ cur.size := by rw [hr.1, hcs, hsize, ← Nat.add_mul]; exact Nat.mul_le_mul_right _ hroom
      have hrun := run_append_room (P := P) w t ty e i ht hi g n cap cur hg ad m c news (by rw [hr.1, hsize]) (fun j u hu => by
        rcases Nat.eq_zero_or_pos m with h0 | h0
        · have : news.length = 0 := by rw [hr.1, h0, Nat.zero_mul]
          rw [List.eq_nil_of_length_eq_zero this] at hu; simp at hu
        · obtain ⟨ad', he, _, hc⟩ := hr.2 h0
          injection he with he; subst he; exact hc j u hu) h1 hroom hfit
      refine ⟨_, hrun, ⟨hlen, .inr ⟨g, cap, _, rfl, hbg, setRow_heap w g cur _ e _ hg, hroom, hcm, ?_, ?_⟩⟩, ⟨rfl, rfl, rfl, by simp, fun k _ hk => setRow_other w g k _ (fun e => hk (by rw [e]))⟩⟩
      · simp only [List.size_toArray, List.length_append, List.length_take, List.length_drop, Array.length_toList, hsize] at hfit ⊢
        omega
      · rw [hsize, htake, ← hlen]
        exact List.take_left
theorem step_append_in {ops : Array Oper} {o : Oper} {a : Act} {K : Act → World → Prop} {Q : Exit → Act → World → Prop} {E : Prop} (hgd : o.guard = none) (s x : Operand) (t : TypeId)
    (ho : o.op = .call { callee := .builtin .append, args := #[s, x], argTypes := #[t, t] })
    (base : Nat) {e : TypeId} {i : TypeInfo} (ht : P.underlying t = some (.slice e)) (hi : P.info? e = some i) (hsize : i.size = 1)
    {g n cap : Nat} {xs : List Value} (hown : w.ownsRow base e 1 (.slice (some ⟨g, 0, none⟩) n cap) n xs) (hs : a.eval s = .slice (some ⟨g, 0, none⟩) n cap) {A : Option Addr} {m c : Nat} {news : List Value} (hr : Holds w 1 A m news) (hx : a.eval x = .slice A m c)
    (h1 : ∀ u ∈ news, u.oneCell' = true) (hroom : n + m ≤ cap)
    (h : ∀ w', w'.ownsRow base e 1 (.slice (some ⟨g, 0, none⟩) (n + m) cap) (n + m) (xs ++ news) → w.grownBy w' (some g) → K (a.put o.dst (.slice (some ⟨g, 0, none⟩) (n + m) cap)) w') :
    if Region.wanted o (yielded ops a.tmps) = true then Oper.wp P o a w K Q else E := by
  rw [if_pos (by simp [Region.wanted, hgd])]
  obtain ⟨w', hrun, h2, h3⟩ := run_append_in (P := P) w base t o.type e i ht hi hsize hown c hr h1 hroom
  unfold Oper.wp execOp
  simp only [ho, resolve, invoke, builtin, Sem.run_bind, Sem.run_pure, Result.andThen_ok, List.map_toArray, List.map_cons, List.map_nil, hs, hx, hrun]
  exact h w' h2 h3
end
end Go.Proofs.YtlknhiihdejpeaaGreatDoor

