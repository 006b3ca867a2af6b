/-
  A list of pieces that came in, and how many there may be.
-/
import Derived.Test.YtdnkkdpcahmngaaDoorB64L
import Derived.Test.YtdnkkdpcahmngaaDoorOpenS
namespace Go.Proofs.YtdnkkdpcahmngaaDoor
open Go Go.RowKit Go.ChangeShapes Go.WideShapes Go.ChangeAt

/-- A piece as cells: kind, bytes. -/
structure Pc1 (w : World) (b o i : Nat) (K : Int) (BA : Option Addr) (BC : Nat) (l : List UInt8) : Prop where
  kind : w.cell? ⟨b, o + i * 2, none⟩ = some (.int .i64 K)
  byt : w.cell? ⟨b, o + i * 2 + 1, none⟩ = some (.slice BA l.length BC)
  holds : Holds w 1 BA l.length (bvals l)
  small : l.length ≤ 9223372036854775807
  lt : b < w.heap.size

theorem Pc1.keep {w w' : World} {b o i BC : Nat} {K : Int} {BA : Option Addr} {l : List UInt8} (h : Pc1 w b o i K BA BC l) (ho : Only [] w w') : Pc1 w' b o i K BA BC l :=
  ⟨(ho.cell h.lt (by simp)).trans h.kind, (ho.cell h.lt (by simp)).trans h.byt, h.holds.keep ho (by simp), h.small, Nat.lt_of_lt_of_le h.lt ho.size⟩

structure PcF where
  K : Nat → Int
  BA : Nat → Option Addr
  BC : Nat → Nat
  B : Nat → List UInt8

def Pcs (w : World) (A : Option Addr) (m : Nat) (f : PcF) : Prop :=
  ∀ i, i < m → ∃ b o, A = some ⟨b, o, none⟩ ∧ Pc1 w b o i (f.K i) (f.BA i) (f.BC i) (f.B i)

theorem Pcs.keep {w w' : World} {A : Option Addr} {m : Nat} {f : PcF} (h : Pcs w A m f) (ho : Only [] w w') : Pcs w' A m f := fun i hi => by
  obtain ⟨b, o, ha, hp⟩ := h i hi
  exact ⟨b, o, ha, hp.keep ho⟩

def sumB (f : PcF) : Nat → Nat
  | 0 => 0
  | k + 1 => sumB f k + (f.B k).length

theorem sumB_ge (f : PcF) {a b : Nat} (h : a < b) : (f.B a).length ≤ sumB f b := by
  induction b with
  | zero => omega
  | succ b ih =>
    rw [sumB]
    rcases Nat.lt_or_ge a b with h1 | h1
    · have := ih h1; omega
    · have : a = b := by omega
      subst this; omega

theorem few_end {b : Bool} {a : Int} {t : Nat} (h : b = decide (a ≤ 4096)) (ha : a = t) (hb : b = true) : t ≤ 4096 := by
  rw [h] at hb; simp at hb; omega

/-- What few tells. -/
def FewAs (t : Nat) (e : Ending) : Prop := ∃ fb : Bool, e = .returned (.bool fb) ∧ (fb = true → t ≤ 4096)

set_option maxHeartbeats 1000000 in
theorem few_any (A : Option Addr) (m c : Nat) (f : PcF) (w : World) (hP : Pcs w A m f) (hm : m ≤ 9223372036854775807) :
    Calls Tryd.prog 8 #[.slice A m c] w fun e w' => FewAs (m + sumB f m) e ∧ w = w' := by
  go_enter Tryd.func8, Tryd.ntmps8
  go_wp2
  go_loop [3, 4] (fun n i => ∃ j : Nat, j ≤ m ∧ i = .int .i64 j ∧ n = .int .i64 (m + sumB f j : Nat) ∧ m + sumB f j ≤ 9223372036854775807) (fun _ i => m - (intOf i).toNat)
  case atStart => exact ⟨0, Nat.zero_le _, rfl, rfl, by simp [sumB]; omega⟩
  case round =>
    obtain ⟨j, hj, rfl, rfl, hle⟩ := hrel
    by_cases hlt : j < m
    · obtain ⟨b, o, rfl, hp⟩ := hP j hlt
      have c3 := hp.byt
      have hsm := hp.small
      have hs : m + sumB f (j + 1) = m + sumB f j + (f.B j).length := by rw [sumB]; omega
      have HS := hide hs
      generalize (f.B j).length = q at *
      clear hs
      generalize m + sumB f j = tt at *
      by_cases h1 : 65536 < q
      · go_wp2
        go_ret
        exact ⟨⟨false, rfl, by simp⟩, rfl⟩
      · by_cases h2 : 65536 < tt
        · go_wp2
          go_ret
          exact ⟨⟨false, rfl, by simp⟩, rfl⟩
        · go_wp2
          go_round
          case rel => exact ⟨j + 1, hlt, by go_num, by rw [HS.out]; rfl, by rw [HS.out]; omega⟩
          case measure => simp [intOf]; omega
    · obtain rfl : j = m := by omega
      go_wp2
      go_ret
      exact ⟨⟨_, rfl, fun hb => few_end rfl rfl hb⟩, rfl⟩

section
variable {H : Type} {enc : TypeId × Value → H} {W : World}

/-- A field that is a slice of bytes. -/
theorem field_bytes {t e : TypeId} {fuel : Nat} {u : Value} {y : DataW H × List MemPlace} (ht : Tryd.prog.underlying t = some (.slice e)) (he : Tryd.prog.underlying e = some (.int .u8)) (hc : Tryd.prog.cellsOf e = 1)
    (h : DataW.trod enc Tryd.prog W 0 (fun _ => true) true fuel t [u] = some y) :
    ∃ (A : Option Addr) (c : Nat) (l : List UInt8), u = .slice A l.length c ∧ l.length ≤ c ∧ c ≤ maxLen ∧ (A = none → c = 0) ∧ Holds W 1 A l.length (bvals l) := by
  rcases open_ints ht he hc h with ⟨hcs, hx⟩ | ⟨a, len', cap', zs, hcs, _, hl, hm, hz, hx, hcell, hwz⟩
  · simp at hcs
    exact ⟨none, 0, [], hcs, Nat.le_refl _, by simp [maxLen], fun _ => rfl, Holds.empty _ _ _⟩
  · simp at hcs
    have hzl : zs.length = cap' := by simpa using hz
    have hlen : ((zs.take len').map fun z => UInt8.ofNat z.toNat).length = len' := by rw [List.length_map, List.length_take]; omega
    refine ⟨some a, cap', (zs.take len').map fun z => UInt8.ofNat z.toNat, by rw [hlen]; exact hcs, by rw [hlen]; exact hl, hm, by simp, ⟨by simp, fun hp => ⟨a, rfl, ?_, fun j u hu => ?_⟩⟩⟩
    · rw [hlen] at hp
      have h0 := hcell 0 (by omega)
      have := World.block_lt_of_cell? W (a.add 0) h0
      rwa [add_block] at this
    · have hj : j < len' := by
        have := (List.getElem?_eq_some_iff.1 hu).1
        rw [bvals_length, hlen] at this; exact this
      rw [hcell j (by omega), ← hu, bvals_get _ _ (by rw [hlen]; exact hj)]
      have hzj : zs.getD j 0 = zs[j]'(by omega) := by simp [show j < zs.length by omega]
      have hw := wf_u8 (hwz (zs[j]'(by omega)) (List.getElem_mem _))
      rw [hzj]
      simp
      omega

def intAt (xs : List Value) (q : Nat) : Int := match xs[q]? with | some (.int _ z) => z | _ => 0
def addrAt (xs : List Value) (q : Nat) : Option Addr := match xs[q]? with | some (.slice A _ _) => A | _ => none
def capAt (xs : List Value) (q : Nat) : Nat := match xs[q]? with | some (.slice _ _ c) => c | _ => 0

theorem open_pieces {r : Reach} {b0 : Nat} {v : Value} {d : DataW H} {p : List MemPlace} (hval : Value.okWide Tryd.prog W r b0 22 v) (h : DataW.Trod enc Tryd.prog W 0 (fun _ => true) true 22 v d p) :
    ∃ (A : Option Addr) (m c : Nat) (f : PcF), v = .slice A m c ∧ m ≤ maxLen ∧ Pcs W A m f ∧ (A = none → m = 0) := by
  obtain ⟨A, m, c, xs, rfl, mc, cm, hnil, hx, hf⟩ := open_recs Tryd.underlying22 Tryd.underlying32 (by kernel_rfl) (by kernel_rfl) (by decide) hval h
  have hxl : xs.length = m * 2 := hx.1
  have hall : ∀ i, i < m → ∃ k BA BC l, xs[i * 2]? = some (.int .i64 k) ∧ xs[i * 2 + 1]? = some (.slice BA l.length BC) ∧ l.length ≤ BC ∧ BC ≤ maxLen ∧ Holds W 1 BA l.length (bvals l) := by
    intro i hi
    obtain ⟨u0, f0, y0, hu0, hy0⟩ := hf i 0 _ hi rfl
    obtain ⟨k, rfl, _⟩ := field_int Tryd.underlying3 hy0
    obtain ⟨u3, f3, y3, hu3, hy3⟩ := hf i 1 _ hi rfl
    obtain ⟨BA, BC, l, rfl, h1, h2, _, h3⟩ := field_bytes Tryd.underlying28 Tryd.underlying5 (by kernel_rfl) hy3
    exact ⟨k, BA, BC, l, hu0, hu3, h1, h2, h3⟩
  have hB0 : ∀ i, i < m → ∃ l : List UInt8, xs[i * 2 + 1]? = some (.slice (addrAt xs (i * 2 + 1)) l.length (capAt xs (i * 2 + 1))) ∧ l.length ≤ maxLen ∧ Holds W 1 (addrAt xs (i * 2 + 1)) l.length (bvals l) := by
    intro i hi
    obtain ⟨_, BA, BC, l, _, h6, h7, h8, h9⟩ := hall i hi
    have ea : addrAt xs (i * 2 + 1) = BA := by unfold addrAt; rw [h6]
    have ec : capAt xs (i * 2 + 1) = BC := by unfold capAt; rw [h6]
    rw [ea, ec]
    exact ⟨l, h6, Nat.le_trans h7 h8, h9⟩
  have hB : ∃ B : Nat → List UInt8, ∀ i, i < m → xs[i * 2 + 1]? = some (.slice (addrAt xs (i * 2 + 1)) (B i).length (capAt xs (i * 2 + 1))) ∧ (B i).length ≤ maxLen ∧ Holds W 1 (addrAt xs (i * 2 + 1)) (B i).length (bvals (B i)) := by
    refine ⟨fun i => if hi : i < m then Classical.choose (hB0 i hi) else [], fun i hi => ?_⟩
    simp only [dif_pos hi]
    exact Classical.choose_spec (hB0 i hi)
  obtain ⟨B, hB⟩ := hB
  refine ⟨A, m, c, ⟨fun i => intAt xs (i * 2), fun i => addrAt xs (i * 2 + 1), fun i => capAt xs (i * 2 + 1), B⟩, rfl, Nat.le_trans mc cm, ?_, fun h => (hnil h).2⟩
  intro i hi
  obtain ⟨b, o, rfl, hc⟩ := hx.addr (by omega)
  obtain ⟨k, _, _, _, h1, _⟩ := hall i hi
  obtain ⟨h6, h7, h8⟩ := hB i hi
  refine ⟨b, o, rfl, ⟨?_, ?_, h8, by unfold maxLen at h7; omega, World.block_lt_of_cell? W _ (hc _ _ h1)⟩⟩
  · rw [hc _ _ h1]; simp [intAt, h1]
  · rw [Nat.add_assoc, hc _ _ h6]
end
end Go.Proofs.YtdnkkdpcahmngaaDoor
