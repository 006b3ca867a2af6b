/-
  A list of puts that came in, and how many there may be.
-/
import Derived.Test.YtheipfcbpjfohaaOpenS
namespace Go.Proofs.Ytheipfcbpjfohaa
open Go Go.RowKit Go.ChangeShapes Go.WideShapes Go.ChangeAt

/-- The puts as cells: kind, number, value, bytes by turns. -/
structure Put1 (w : World) (b o i : Nat) (K N : Int) (V : Nat) (BA : Option Addr) (BC : Nat) (l : List UInt8) : Prop where
  kind : w.cell? ⟨b, o + i * 4, none⟩ = some (.int .i64 K)
  num : w.cell? ⟨b, o + i * 4 + 1, none⟩ = some (.int .i64 N)
  val : w.cell? ⟨b, o + i * 4 + 2, none⟩ = some (.int .u32 V)
  byt : w.cell? ⟨b, o + i * 4 + 3, none⟩ = some (.slice BA l.length BC)
  holds : Holds w 1 BA l.length (bvals l)
  rangeN : -9223372036854775808 ≤ N ∧ N ≤ 9223372036854775807
  rangeV : V < 4294967296
  small : l.length ≤ 9223372036854775807
  lt : b < w.heap.size

theorem Put1.keep {w w' : World} {b o i V BC : Nat} {K N : Int} {BA : Option Addr} {l : List UInt8} (h : Put1 w b o i K N V BA BC l) (ho : Only [] w w') : Put1 w' b o i K N V BA BC l :=
  ⟨(ho.cell h.lt (by simp)).trans h.kind, (ho.cell h.lt (by simp)).trans h.num, (ho.cell h.lt (by simp)).trans h.val, (ho.cell h.lt (by simp)).trans h.byt, h.holds.keep ho (by simp), h.rangeN, h.rangeV, h.small, Nat.lt_of_lt_of_le h.lt ho.size⟩

structure PutF where
  K : Nat → Int
  N : Nat → Int
  V : Nat → Nat
  BA : Nat → Option Addr
  BC : Nat → Nat
  B : Nat → List UInt8

def Puts (w : World) (A : Option Addr) (m : Nat) (f : PutF) : Prop :=
  ∀ i, i < m → ∃ b o, A = some ⟨b, o, none⟩ ∧ Put1 w b o i (f.K i) (f.N i) (f.V i) (f.BA i) (f.BC i) (f.B i)

theorem Puts.keep {w w' : World} {A : Option Addr} {m : Nat} {f : PutF} (h : Puts w A m f) (ho : Only [] w w') : Puts w' A m f := fun i hi => by
  obtain ⟨b, o, ha, hp⟩ := h i hi
  exact ⟨b, o, ha, hp.keep ho⟩

def total (f : PutF) : Nat → Nat
  | 0 => 0
  | k + 1 => total f k + (f.B k).length + 4

theorem total_mono (f : PutF) {a b : Nat} (h : a ≤ b) : total f a ≤ total f b := by
  induction b with
  | zero => have : a = 0 := by omega
            subst this; exact Nat.le_refl _
  | succ b ih =>
    rcases Nat.lt_or_ge a (b + 1) with h1 | h1
    · have := ih (by omega); rw [total]; omega
    · have : a = b + 1 := by omega
      subst this; exact Nat.le_refl _
theorem total_ge (f : PutF) (k : Nat) : 4 * k ≤ total f k := by
  induction k with
  | zero => simp
  | succ k ih => rw [total]; omega

theorem few_end {b : Bool} {a : Int} {t : Nat} (h : b = decide (a ≤ 4096)) (ha : a = t) (hb : b = true) : t ≤ 4096 := by
  rw [h] at hb; simp at hb; omega

/-- What few tells. -/
def FewAs (t : Nat) (e : Ending) : Prop := ∃ fb : Bool, e = .returned (.bool fb) ∧ (fb = true → t ≤ 4096)

set_option maxHeartbeats 1000000 in
theorem few_any (A : Option Addr) (m c : Nat) (f : PutF) (w : World) (hP : Puts w A m f) (hm : m ≤ 9223372036854775807) :
    Calls Try.prog 22 #[.slice A m c] w fun e w' => FewAs (total f m) e ∧ w = w' := by
  go_enter Try.func22, Try.ntmps22
  go_wp2
  go_loop [3, 4] (fun n i => ∃ j : Nat, j ≤ m ∧ i = .int .i64 j ∧ n = .int .i64 (total f j : Nat) ∧ total f j ≤ 131076) (fun _ i => m - (intOf i).toNat)
  case atStart => exact ⟨0, Nat.zero_le _, rfl, rfl, by simp [total]⟩
  case round =>
    obtain ⟨j, hj, rfl, rfl, hle⟩ := hrel
    by_cases hlt : j < m
    · obtain ⟨b, o, rfl, hp⟩ := hP j hlt
      have c3 := hp.byt
      have hsm := hp.small
      have hs : total f (j + 1) = total f j + (f.B j).length + 4 := rfl
      have HS := hide hs
      generalize (f.B j).length = q at *
      clear hs
      by_cases h1 : 65536 < q
      · go_wp2
        go_ret
        exact ⟨⟨false, rfl, by simp⟩, rfl⟩
      · by_cases h2 : 65536 < total f j
        · go_wp2
          go_ret
          exact ⟨⟨false, rfl, by simp⟩, rfl⟩
        · go_wp2
          go_round
          case rel => exact ⟨j + 1, hlt, by go_num, by rw [HS.out]; rfl, by rw [HS.out]; omega⟩
          case measure => simp [intOf]; omega
    · obtain rfl : j = m := by omega
      go_wp2
      go_ret
      exact ⟨⟨_, rfl, fun hb => few_end rfl rfl hb⟩, rfl⟩

section
variable {H : Type} {enc : TypeId × Value → H} {W : World}

/-- A field that is a slice of bytes. -/
theorem field_bytes {t e : TypeId} {fuel : Nat} {u : Value} {y : DataW H × List MemPlace} (ht : Try.prog.underlying t = some (.slice e)) (he : Try.prog.underlying e = some (.int .u8)) (hc : Try.prog.cellsOf e = 1)
    (h : DataW.trod enc Try.prog W 0 (fun _ => true) true fuel t [u] = some y) :
    ∃ (A : Option Addr) (c : Nat) (l : List UInt8), u = .slice A l.length c ∧ l.length ≤ c ∧ c ≤ maxLen ∧ (A = none → c = 0) ∧ Holds W 1 A l.length (bvals l) := by
  rcases open_ints ht he hc h with ⟨hcs, hx⟩ | ⟨a, len', cap', zs, hcs, _, hl, hm, hz, hx, hcell, hwz⟩
  · simp at hcs
    exact ⟨none, 0, [], hcs, Nat.le_refl _, by simp [maxLen], fun _ => rfl, Holds.empty _ _ _⟩
  · simp at hcs
    have hzl : zs.length = cap' := by simpa using hz
    have hlen : ((zs.take len').map fun z => UInt8.ofNat z.toNat).length = len' := by rw [List.length_map, List.length_take]; omega
    refine ⟨some a, cap', (zs.take len').map fun z => UInt8.ofNat z.toNat, by rw [hlen]; exact hcs, by rw [hlen]; exact hl, hm, by simp, ⟨by simp, fun hp => ⟨a, rfl, ?_, fun j u hu => ?_⟩⟩⟩
    · rw [hlen] at hp
      have h0 := hcell 0 (by omega)
      have := World.block_lt_of_cell? W (a.add 0) h0
      rwa [add_block] at this
    · have hj : j < len' := by
        have := (List.getElem?_eq_some_iff.1 hu).1
        rw [bvals_length, hlen] at this; exact this
      rw [hcell j (by omega), ← hu, bvals_get _ _ (by rw [hlen]; exact hj)]
      have hzj : zs.getD j 0 = zs[j]'(by omega) := by simp [show j < zs.length by omega]
      have hw := wf_u8 (hwz (zs[j]'(by omega)) (List.getElem_mem _))
      rw [hzj]
      simp
      omega

def intAt (xs : List Value) (q : Nat) : Int := match xs[q]? with | some (.int _ z) => z | _ => 0
def addrAt (xs : List Value) (q : Nat) : Option Addr := match xs[q]? with | some (.slice A _ _) => A | _ => none
def capAt (xs : List Value) (q : Nat) : Nat := match xs[q]? with | some (.slice _ _ c) => c | _ => 0

theorem open_puts {r : Reach} {b0 : Nat} {v : Value} {d : DataW H} {p : List MemPlace} (hval : Value.okWide Try.prog W r b0 39 v) (h : DataW.Trod enc Try.prog W 0 (fun _ => true) true 39 v d p) :
    ∃ (A : Option Addr) (m c : Nat) (f : PutF), v = .slice A m c ∧ m ≤ maxLen ∧ Puts W A m f := by
  obtain ⟨A, m, c, xs, rfl, mc, cm, hnil, hx, hf⟩ := open_recs Try.underlying39 Try.underlying47 (by kernel_rfl) (by kernel_rfl) (by decide) hval h
  have hxl : xs.length = m * 4 := hx.1
  have hall : ∀ i, i < m → ∃ k n u BA BC l, xs[i * 4]? = some (.int .i64 k) ∧ xs[i * 4 + 1]? = some (.int .i64 n) ∧ (Lit.int .i64 n).wf = true ∧ xs[i * 4 + 2]? = some (.int .u32 u) ∧ (Lit.int .u32 u).wf = true ∧
      xs[i * 4 + 3]? = some (.slice BA l.length BC) ∧ l.length ≤ BC ∧ BC ≤ maxLen ∧ Holds W 1 BA l.length (bvals l) := by
    intro i hi
    obtain ⟨u0, f0, y0, hu0, hy0⟩ := hf i 0 _ hi rfl
    obtain ⟨k, rfl, _⟩ := field_int Try.underlying3 hy0
    obtain ⟨u1, f1, y1, hu1, hy1⟩ := hf i 1 _ hi rfl
    obtain ⟨n, rfl, hn⟩ := field_int Try.underlying3 hy1
    obtain ⟨u2, f2, y2, hu2, hy2⟩ := hf i 2 _ hi rfl
    obtain ⟨u, rfl, hu⟩ := field_int Try.underlying32 hy2
    obtain ⟨u3, f3, y3, hu3, hy3⟩ := hf i 3 _ hi rfl
    obtain ⟨BA, BC, l, rfl, h1, h2, _, h3⟩ := field_bytes Try.underlying22 Try.underlying5 (by kernel_rfl) hy3
    exact ⟨k, n, u, BA, BC, l, hu0, hu1, hn, hu2, hu, hu3, h1, h2, h3⟩
  have hB0 : ∀ i, i < m → ∃ l : List UInt8, xs[i * 4 + 3]? = some (.slice (addrAt xs (i * 4 + 3)) l.length (capAt xs (i * 4 + 3))) ∧ l.length ≤ maxLen ∧ Holds W 1 (addrAt xs (i * 4 + 3)) l.length (bvals l) := by
    intro i hi
    obtain ⟨_, _, _, BA, BC, l, _, _, _, _, _, h6, h7, h8, h9⟩ := hall i hi
    have ea : addrAt xs (i * 4 + 3) = BA := by unfold addrAt; rw [h6]
    have ec : capAt xs (i * 4 + 3) = BC := by unfold capAt; rw [h6]
    rw [ea, ec]
    exact ⟨l, h6, Nat.le_trans h7 h8, h9⟩
  have hB : ∃ B : Nat → List UInt8, ∀ i, i < m → xs[i * 4 + 3]? = some (.slice (addrAt xs (i * 4 + 3)) (B i).length (capAt xs (i * 4 + 3))) ∧ (B i).length ≤ maxLen ∧ Holds W 1 (addrAt xs (i * 4 + 3)) (B i).length (bvals (B i)) := by
    refine ⟨fun i => if hi : i < m then Classical.choose (hB0 i hi) else [], fun i hi => ?_⟩
    simp only [dif_pos hi]
    exact Classical.choose_spec (hB0 i hi)
  obtain ⟨B, hB⟩ := hB
  refine ⟨A, m, c, ⟨fun i => intAt xs (i * 4), fun i => intAt xs (i * 4 + 1), fun i => (intAt xs (i * 4 + 2)).toNat, fun i => addrAt xs (i * 4 + 3), fun i => capAt xs (i * 4 + 3), B⟩, rfl, Nat.le_trans mc cm, ?_⟩
  intro i hi
  obtain ⟨b, o, rfl, hc⟩ := hx.addr (by omega)
  obtain ⟨k, n, u, _, _, _, h1, h2, h3, h4, h5, _⟩ := hall i hi
  obtain ⟨h6, h7, h8⟩ := hB i hi
  have hu := wf_u32 h5
  refine ⟨b, o, rfl, ⟨?_, ?_, ?_, ?_, h8, ?_, ?_, by unfold maxLen at h7; omega, World.block_lt_of_cell? W _ (hc _ _ h1)⟩⟩
  · rw [hc _ _ h1]; simp [intAt, h1]
  · rw [Nat.add_assoc, hc _ _ h2]; simp [intAt, h2]
  · rw [Nat.add_assoc, hc _ _ h4]; simp [intAt, h4]; omega
  · rw [Nat.add_assoc, hc _ _ h6]
  · simpa [intAt, h2] using wf_i64 h3
  · simp [intAt, h4]; omega
end
end Go.Proofs.Ytheipfcbpjfohaa
