/-
  Contracts of the reference: the bytes of a four.
-/
import Derived.Test.YtibbaeelgihmgaaDoorB64R
namespace Go.Proofs.YtibbaeelgihmgaaDoor
open Go Go.RowKit

/-- The number of 24 bits. -/
def w24 (cs : List UInt8) (i : Nat) : Nat := V (cs.take i) * 64 ^ (i - cs.length)
theorem w24_step (cs : List UInt8) (i : Nat) : w24 cs (i + 1) = w24 cs i * 64 + if h : i < cs.length then six cs[i].toNat else 0 := by
  unfold w24
  by_cases h : i < cs.length
  · rw [dif_pos h, List.take_succ_eq_append_getElem h, V_snoc]
    have e1 : i + 1 - cs.length = 0 := by omega
    have e2 : i - cs.length = 0 := by omega
    rw [e1, e2]; omega
  · rw [dif_neg h, List.take_of_length_le (by omega), List.take_of_length_le (by omega)]
    have e1 : i + 1 - cs.length = (i - cs.length) + 1 := by omega
    rw [e1, Nat.pow_succ]
    generalize 64 ^ (i - cs.length) = p
    rw [Nat.add_zero, Nat.mul_assoc]
theorem w24_lt {cs : List UInt8} (h : ∀ c ∈ cs, six c.toNat < 64) : ∀ i, w24 cs i < 64 ^ i
  | 0 => by simp [w24, V]
  | i + 1 => by
    have := w24_lt h i
    rw [w24_step, Nat.pow_succ]
    split
    · rename_i hi
      have := h cs[i] (List.getElem_mem hi)
      omega
    · omega

/-- The three bytes. -/
def b3 (v : Nat) : List UInt8 := [UInt8.ofNat (v / 65536), UInt8.ofNat (v / 256), UInt8.ofNat v]

theorem u8_zero (x : Nat) : UInt8.ofNat x = 0 ↔ x % 256 = 0 := by
  rw [← UInt8.toNat_inj, UInt8.toNat_ofNat']
  simp
theorem u8_eq (x y : Nat) (h : x % 256 = y % 256) : UInt8.ofNat x = UInt8.ofNat y := by
  rw [← UInt8.toNat_inj, UInt8.toNat_ofNat', UInt8.toNat_ofNat', h]

theorem b3_out (cs : List UInt8) (h2 : 2 ≤ cs.length) (h4 : cs.length ≤ 4) : (b3 (w24 cs 4)).take (cs.length - 1) = outOf cs := by
  unfold outOf w24
  rw [List.take_of_length_le h4]
  generalize V cs = x
  generalize cs.length = n at *
  rcases (by omega : n = 2 ∨ n = 3 ∨ n = 4) with rfl | rfl | rfl
  · simp [b3, outN, List.range_succ]
    exact u8_eq _ _ (by omega)
  · simp [b3, outN, List.range_succ]
    exact ⟨u8_eq _ _ (by omega), u8_eq _ _ (by omega)⟩
  · simp [b3, outN, List.range_succ]
theorem b3_beyond (cs : List UInt8) (h2 : 2 ≤ cs.length) (h4 : cs.length ≤ 4) : beyond cs = 0 ↔ ∀ i, cs.length - 1 ≤ i → i < 3 → (b3 (w24 cs 4)).getD i 0 = 0 := by
  unfold beyond w24
  rw [List.take_of_length_le h4]
  generalize V cs = x
  generalize cs.length = n at *
  have key : ∀ (p : Nat → Prop) (k : Nat), ((∀ i, k ≤ i → i < 3 → p i) ↔ ((k ≤ 0 → p 0) ∧ (k ≤ 1 → p 1) ∧ (k ≤ 2 → p 2))) := by
    intro p k
    constructor
    · intro h; exact ⟨fun hk => h 0 hk (by omega), fun hk => h 1 hk (by omega), fun hk => h 2 hk (by omega)⟩
    · rintro ⟨h0, h1, h2⟩ i hk hi
      rcases (by omega : i = 0 ∨ i = 1 ∨ i = 2) with rfl | rfl | rfl
      · exact h0 hk
      · exact h1 hk
      · exact h2 hk
  rw [key (fun i => (b3 (x * 64 ^ (4 - n))).getD i 0 = 0) (n - 1)]
  rcases (by omega : n = 2 ∨ n = 3 ∨ n = 4) with rfl | rfl | rfl
  · simp [b3, u8_zero, -UInt8.ofNat_mul]; omega
  · simp [b3, u8_zero, -UInt8.ofNat_mul]; omega
  · simp [b3, Nat.mod_one]

/-- What three tells. -/
def Three (cs : List UInt8) (w : World) (e : Ending) (w' : World) : Prop :=
  ∃ A m c, e = .returned (.tuple #[.slice A m c, .bool (decide (beyond cs = 0))]) ∧ m ≤ c ∧ Holds w' 1 A m (bvals (if beyond cs = 0 then outOf cs else [])) ∧ Only [] w w'

set_option maxHeartbeats 2000000 in
theorem tThree (A : Option Addr) (n c : Nat) (cs : List UInt8) (w : World) (h6 : ∀ c ∈ cs, six c.toNat < 64) (hb : Holds w 1 A n (bvals cs)) (hl : cs.length = n) (h2 : 2 ≤ n) (h4 : n ≤ 4) :
    Calls Tryd.prog 25 #[.slice A n c] w (Three cs w) := by
  subst hl
  have HB := hide (And.intro hb h6)
  obtain ⟨b, o, rfl, hc2⟩ := hb.addr (by simp; omega)
  have HC := hide hc2
  have hout := b3_out cs h2 h4
  have hbe := b3_beyond cs h2 h4
  clear hb hc2 h6
  have HO := hide (And.intro hout hbe)
  clear hout hbe
  have HS := hide (fun i => w24_step cs i)
  go_enter Tryd.func25, Tryd.ntmps25
  go_wp2_with fail
  go_loop [4, 5] (fun v i => ∃ j : Nat, j ≤ 4 ∧ i = .int .i64 j ∧ v = .int .i64 (w24 cs j : Nat)) (fun _ i => 4 - (intOf i).toNat)
  case atStart => exact ⟨0, by omega, rfl, by simp [w24, V]⟩
  case round =>
    obtain ⟨j, hj, rfl, rfl⟩ := hrel
    have hlt64 := w24_lt HB.out.2 j
    have hv : w24 cs j < 16777217 := by
      have : 64 ^ j ≤ 64 ^ 4 := Nat.pow_le_pow_right (by omega) hj
      omega
    clear hlt64
    by_cases hlt : j < 4
    · by_cases hlc : j < cs.length
      · have hcell : w.cell? ⟨b, o + j, none⟩ = some (.int .u8 (cs[j].toNat : Int)) := HC.out j _ (bvals_get cs j hlc)
        have hx := cs[j].toNat_lt
        have h6 := HB.out.2 cs[j] (List.getElem_mem hlc)
        have hst := HS.out j
        rw [dif_pos hlc] at hst
        have hva : valZ cs[j].toNat = (six cs[j].toNat : Nat) := by unfold valZ; rw [if_pos h6]
        have HV := tValue cs[j].toNat w (by omega)
        rw [hva] at HV
        have HF := hide (And.intro HV hst)
        clear HV hst hva
        generalize cs[j].toNat = x at *
        generalize six x = y at *
        generalize w24 cs j = z at *
        go_wp2_with fail
        refine (HF.out.1).mono ?_
        rintro e w1 ⟨rfl, rfl⟩
        go_wp2_with fail
        go_round
        case rel => exact ⟨j + 1, hlt, by go_num, by rw [HF.out.2]; go_num⟩
        case measure => simp [intOf]; omega
      · have hst := HS.out j
        rw [dif_neg hlc, Nat.add_zero] at hst
        have HF := hide hst
        clear hst
        generalize w24 cs j = z at *
        go_wp2_with fail
        go_round
        case rel => exact ⟨j + 1, hlt, by go_num, by rw [HF.out]; go_num⟩
        case measure => simp [intOf]; omega
    · obtain rfl : j = 4 := by omega
      clear hlt hj
      generalize w24 cs 4 = z at *
      have u0 : IntKind.u8.wrap ((z : Int) / 65536) = ((UInt8.ofNat (z / 65536)).toNat : Int) := by rw [IntKind.wrap_u8, UInt8.toNat_ofNat']; omega
      have u1 : IntKind.u8.wrap ((z : Int) / 256) = ((UInt8.ofNat (z / 256)).toNat : Int) := by rw [IntKind.wrap_u8, UInt8.toNat_ofNat']; omega
      have u2 : IntKind.u8.wrap (z : Int) = ((UInt8.ofNat z).toNat : Int) := by rw [IntKind.wrap_u8, UInt8.toNat_ofNat']; omega
      have HBT : Hid (b3 z = [UInt8.ofNat (z / 65536), UInt8.ofNat (z / 256), UInt8.ofNat z]) := hide rfl
      generalize UInt8.ofNat (z / 65536) = c0 at *
      generalize UInt8.ofNat (z / 256) = c1 at *
      generalize UInt8.ofNat z = c2 at *
      go_wp2_with fail
      have hlit : Holds (w.alloc (.cells #[.int .u8 (c0.toNat : Int), .int .u8 (c1.toNat : Int), .int .u8 (c2.toNat : Int)] 5)) 1 (some ⟨w.heap.size, 0, none⟩) 3 (bvals [c0, c1, c2]) :=
        Holds.lit w #[.int .u8 (c0.toNat : Int), .int .u8 (c1.toNat : Int), .int .u8 (c2.toNat : Int)] 5
      have hon : Only [] w (w.alloc (.cells #[.int .u8 (c0.toNat : Int), .int .u8 (c1.toNat : Int), .int .u8 (c2.toNat : Int)] 5)) := (Only.refl [] w).alloc _
      generalize w.alloc (.cells #[.int .u8 (c0.toNat : Int), .int .u8 (c1.toNat : Int), .int .u8 (c2.toNat : Int)] 5) = w1 at *
      have hcc : ∀ j u, (bvals [c0, c1, c2])[j]? = some u → w1.cell? ⟨w.heap.size, j, none⟩ = some u := fun j u h => by rw [← add_zero_of]; exact hlit.at_ _ rfl j u h
      have hb3 := HBT.out
      have ho1 := HO.out.1
      have ho2 := HO.out.2
      rw [hb3] at ho1
      rw [hb3] at ho2
      have HK := hide (And.intro hlit (And.intro hon (And.intro hcc (And.intro ho1 ho2))))
      clear hlit hon hcc hb3 ho1 ho2 HO HBT HC HS u0 u1 u2
      have hl3 : [c0, c1, c2].length = 3 := rfl
      generalize [c0, c1, c2] = l3 at *
      generalize w.heap.size = g at *
      go_loop [7] (fun i => ∃ j : Nat, cs.length - 1 ≤ j ∧ j ≤ 3 ∧ i = .int .i64 j ∧ ∀ i, cs.length - 1 ≤ i → i < j → l3.getD i 0 = 0) (fun i => 3 - (intOf i).toNat)
      case atStart => exact ⟨cs.length - 1, Nat.le_refl _, by omega, by go_num, fun i h1 h2 => by omega⟩
      case round =>
        obtain ⟨j, hj1, hj2, rfl, hz⟩ := hrel
        have HZ := hide hz
        clear hz
        by_cases hlt : j < 3
        · have hcell : w1.cell? ⟨g, j, none⟩ = some (.int .u8 (l3[j].toNat : Int)) := HK.out.2.2.1 j _ (bvals_get l3 j (by omega))
          have hgd : l3.getD j 0 = l3[j]'(by omega) := by simp [List.getD, show j < l3.length by omega]
          by_cases h0 : l3[j] = 0
          · rw [h0] at hcell hgd
            have hcell : w1.cell? ⟨g, j, none⟩ = some (.int .u8 0) := hcell
            have H0 := hide hgd
            clear h0 hgd
            go_wp2_with fail
            go_round
            case rel => exact ⟨j + 1, by omega, hlt, by go_num, fun i h1 h2 => by
              by_cases he : i = j
              · subst he; exact H0.out
              · exact HZ.out i h1 (by omega)⟩
            case measure => simp [intOf]; omega
          · have hne : ((l3[j].toNat : Int) != 0) = true := by
              have : l3[j].toNat ≠ 0 := fun h => h0 (UInt8.toNat_inj.1 (by rw [h]; rfl))
              simpa using this
            have hbn : ¬ beyond cs = 0 := fun h => h0 (hgd.symm.trans (HK.out.2.2.2.2.1 h j hj1 hlt))
            have HN := hide hbn
            clear h0 hbn hgd
            generalize l3[j].toNat = x at *
            go_wp2_with fail
            go_ret2
            exact ⟨none, 0, 0, by rw [decide_eq_false HN.out]; rfl, Nat.le_refl _, by rw [if_neg HN.out]; exact Holds.empty _ _ _, HK.out.2.1⟩
        · obtain rfl : j = 3 := by omega
          have hbn : beyond cs = 0 := HK.out.2.2.2.2.2 (fun i h1 h2 => HZ.out i h1 h2)
          have HN := hide hbn
          clear hbn hlt hj1 hj2
          have e1 : ((cs.length : Int) - 1) = ((cs.length - 1 : Nat) : Int) := by omega
          have h1c : (1 : Int) ≤ (cs.length : Int) := by omega
          have hup := run_upto (some ⟨g, 0, none⟩) 3 3 (cs.length - 1) (by omega)
          rw [← e1] at hup
          go_wp2_with fail
          go_ret2
          exact ⟨some ⟨g, 0, none⟩, cs.length - 1, 3, by rw [decide_eq_true HN.out]; rfl, by omega, by rw [if_pos HN.out, ← HK.out.2.2.2.1]; exact HK.out.1.upto (cs.length - 1) (by omega), HK.out.2.1⟩
end Go.Proofs.YtibbaeelgihmgaaDoor
