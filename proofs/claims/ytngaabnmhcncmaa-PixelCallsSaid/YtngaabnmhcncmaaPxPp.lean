/-
  Plain facts: a part cut out, drawn again; cut out of what was filled.
-/
import Derived.Test.YtngaabnmhcncmaaPxMt
namespace Go.Proofs.Ytngaabnmhcncmaa
open Go Go.RowKit

theorem cut_ok {W H n : Nat} (h : okM W H n) (x y p q : Int) : okM (cutW W H x y p q) (cutH W H x y p q) (4 * (cutW W H x y p q * cutH W H x y p q)) := by
  have hle := wi_le W H x y p q
  have hc := h.1
  refine ⟨?_, rfl⟩
  by_cases h0 : spL x p W = spR x p W ∨ spL y q H = spR y q H
  · obtain ⟨e1, e2, _⟩ := cut_none h0 ([] : List UInt8)
    exact .inl ⟨e1, e2⟩
  · obtain ⟨e1, e2, e3, e4⟩ := cut_some h0
    have h1 := sp_le x p W
    have h2 := sp_le y q H
    have hw : cutW W H x y p q = spR x p W - spL x p W := by unfold cutW; rw [e1, e2]
    have hh : cutH W H x y p q = spR y q H - spL y q H := by unfold cutH; rw [e3, e4]
    have hm : cutW W H x y p q * cutH W H x y p q ≤ W * H := Nat.mul_le_mul (by omega) (by omega)
    right
    omega
theorem cutL_at4 (W H : Nat) (x y p q : Int) (l : List UInt8) (u v : Nat) (hu : u < cutW W H x y p q) (hv : v < cutH W H x y p q) : at4 (cutL W H x y p q l) (v * cutW W H x y p q + u) = at4 l ((wiT W H x y p q + v) * W + (wiL W H x y p q + u)) := by
  unfold cutL
  generalize cutW W H x y p q = k at *
  generalize cutH W H x y p q = g at *
  generalize wiT W H x y p q = e at *
  generalize wiL W H x y p q = a at *
  have hfit : 4 * (v * k + u) + 4 ≤ 4 * (k * g) := by
    have h1 : (v + 1) * k ≤ g * k := Nat.mul_le_mul_right _ hv
    rw [Nat.succ_mul, Nat.mul_comm g k] at h1
    omega
  obtain ⟨e1, e2⟩ := place k v u hu
  have hk : ∀ z, z < 4 → (rowsF (cutF W a e l) k 0 k (List.replicate (4 * (k * g)) 0) 0 g).getD (4 * (v * k + u) + z) 0 = (at4 l ((e + v) * W + (a + u))).at z := fun z hz => by
    rw [rowsF_get _ _ _ _ _ _ _ (by omega) (by rw [List.length_replicate, Nat.zero_add, Nat.mul_comm g k]; exact Nat.le_refl _), show (4 * (v * k + u) + z) / 4 = v * k + u by omega, show (4 * (v * k + u) + z) % 4 = z by omega, e1, e2, if_pos ⟨⟨Nat.zero_le _, by omega⟩, Nat.zero_le _, by omega⟩]
    rfl
  show Px.mk _ _ _ _ = _
  have h0 := hk 0 (by omega)
  rw [Nat.add_zero] at h0
  rw [h0, hk 1 (by omega), hk 2 (by omega), hk 3 (by omega)]
  rfl
theorem part_get (f : Nat → Nat → Px → Px) (W H : Nat) (x y p q : Int) (l : List UInt8) (hl : l.length = 4 * (W * H)) (i : Nat) :
    (partL f W H x y p q l).getD i 0 = if (wiT W H x y p q ≤ i / 4 / W ∧ i / 4 / W < wiB W H x y p q) ∧ wiL W H x y p q ≤ i / 4 % W ∧ i / 4 % W < wiR W H x y p q then (f (i / 4 / W) (i / 4 % W) (at4 l (i / 4))).at (i % 4) else l.getD i 0 := by
  have hle := wi_le W H x y p q
  rw [part_wi]
  generalize wiL W H x y p q = a at *
  generalize wiR W H x y p q = b at *
  generalize wiT W H x y p q = e at *
  generalize wiB W H x y p q = g at *
  have hfit : (e + (g - e)) * W ≤ W * H := by rw [show e + (g - e) = g by omega, Nat.mul_comm]; exact Nat.mul_le_mul_left _ (by omega)
  rw [rowsF_get _ _ _ _ _ _ _ (by omega) (by omega), show e + (g - e) = g by omega, show a + (b - a) = b by omega]
theorem part_at4 (W H : Nat) (x y p q : Int) (c : Px) (l : List UInt8) (hl : l.length = 4 * (W * H)) (X Y : Nat) (hX : X < W) (h1 : wiT W H x y p q ≤ Y) (h2 : Y < wiB W H x y p q) (h3 : wiL W H x y p q ≤ X) (h4 : X < wiR W H x y p q) :
    at4 (partL (fun _ _ _ => c) W H x y p q l) (Y * W + X) = c := by
  obtain ⟨e1, e2⟩ := place W Y X hX
  have hk : ∀ z, z < 4 → (partL (fun _ _ _ => c) W H x y p q l).getD (4 * (Y * W + X) + z) 0 = c.at z := fun z hz => by
    rw [part_get _ _ _ _ _ _ _ _ hl, show (4 * (Y * W + X) + z) / 4 = Y * W + X by omega, show (4 * (Y * W + X) + z) % 4 = z by omega, e1, e2, if_pos ⟨⟨h1, h2⟩, h3, h4⟩]
  show Px.mk _ _ _ _ = _
  have h0 := hk 0 (by omega)
  rw [Nat.add_zero] at h0
  rw [h0, hk 1 (by omega), hk 2 (by omega), hk 3 (by omega)]
  rfl
/-- Cut out of what was filled: one colour. -/
theorem cut_fill (W H : Nat) (x y p q : Int) (c : Px) (l : List UInt8) (hl : l.length = 4 * (W * H)) (i : Nat) (hi : i < 4 * (cutW W H x y p q * cutH W H x y p q)) :
    (cutL W H x y p q (partL (fun _ _ _ => c) W H x y p q l)).getD i 0 = c.at (i % 4) := by
  have hle := wi_le W H x y p q
  have hcw : cutW W H x y p q = wiR W H x y p q - wiL W H x y p q := rfl
  have hch : cutH W H x y p q = wiB W H x y p q - wiT W H x y p q := rfl
  have hk : 0 < cutW W H x y p q := Nat.pos_of_ne_zero fun h => by rw [h] at hi; simp at hi
  have hv : i / 4 / cutW W H x y p q < cutH W H x y p q := Nat.div_lt_of_lt_mul (by omega)
  have hu := Nat.mod_lt (i / 4) hk
  have hp := place_of (cutW W H x y p q) (i / 4)
  generalize i / 4 / cutW W H x y p q = v at *
  generalize i / 4 % cutW W H x y p q = u at *
  have h := cutL_at4 W H x y p q (partL (fun _ _ _ => c) W H x y p q l) _ _ hu hv
  rw [part_at4 W H x y p q c l hl _ _ (by omega) (by omega) (by omega) (by omega) (by omega), ← hp] at h
  rw [← at4_at, h]
theorem over_self (c : Px) (h : c.a = 255) : over c c = c := by
  obtain ⟨r, g, b, a⟩ := c
  simp only [] at h
  subst h
  have e : ∀ z : UInt8, UInt8.ofNat (ov1 z.toNat z.toNat (255 : UInt8).toNat) = z := fun z => by
    have h1 : ov1 z.toNat z.toNat (255 : UInt8).toNat = z.toNat := by
      show (z.toNat * 255 + z.toNat * (255 - 255) + 127) / 255 = z.toNat
      omega
    rw [h1, UInt8.ofNat_toNat]
  unfold over
  simp only [e]
/-- Cut out and drawn again at its place, all opaque: nothing turns. -/
theorem draw_cut (W H : Nat) (x y : Nat) (p q : Int) (l : List UInt8) {n : Nat} (hok : okM W H n) (hl : l.length = n) (ha : ∀ z, z < W * H → (at4 l z).a = 255) :
    drawL W H (cutW W H x y p q) (cutH W H x y p q) x y l (cutL W H x y p q l) = l := by
  have hl4 := hl.trans hok.2
  have hsd := hok.side
  refine ext_getD (by unfold drawL; rw [partL_length]) fun i hi => ?_
  unfold drawL at hi ⊢
  rw [partL_length, hl4] at hi
  rw [part_get _ _ _ _ _ _ _ _ hl4]
  by_cases h0 : spL x p W = spR x p W ∨ spL y q H = spR y q H
  · obtain ⟨e1, e2, _⟩ := cut_none h0 l
    rw [if_neg]
    rw [e1, e2]
    have h1 : spL (x : Int) ((0 : Nat) : Int) W = 0 ∧ spR (x : Int) ((0 : Nat) : Int) W = 0 := by unfold spL spR; rw [if_pos (by omega), if_pos (by omega)]; exact ⟨rfl, rfl⟩
    unfold wiT wiB
    rw [if_pos (.inl (h1.1.trans h1.2.symm)), if_pos (.inl (h1.1.trans h1.2.symm))]
    omega
  · obtain ⟨e1, e2, e3, e4⟩ := cut_some h0
    have hx : wiL W H x y p q = x ∧ wiR W H x y p q ≤ W := by
      rw [e1, e2]
      have := sp_le x p W
      refine ⟨?_, this.2⟩
      unfold spL spR at h0
      unfold spL
      split
      · rename_i hh; rw [if_pos hh, if_pos hh] at h0; exact absurd (.inl rfl) h0
      · omega
    have hy : wiT W H x y p q = y ∧ wiB W H x y p q ≤ H := by
      rw [e3, e4]
      have := sp_le y q H
      refine ⟨?_, this.2⟩
      unfold spL spR at h0
      unfold spL
      split
      · rename_i hh; rw [if_pos hh, if_pos hh] at h0; exact absurd (.inr rfl) h0
      · omega
    have hcw : cutW W H x y p q = wiR W H x y p q - wiL W H x y p q := rfl
    have hch : cutH W H x y p q = wiB W H x y p q - wiT W H x y p q := rfl
    have hcl := cutL_at4 W H x y p q l
    generalize cutL W H x y p q l = cl at *
    generalize cutW W H x y p q = k at *
    generalize cutH W H x y p q = g at *
    split
    · rename_i hh
      have hz : i / 4 < W * H := by omega
      obtain ⟨⟨a1, a2⟩, a3, a4⟩ := wi_src (W := W) (H := H) (p := k) (q := g) (i := i / 4 % W) (j := i / 4 / W) (by omega) (by omega) hh.2.1 hh.2.2 hh.1.1 hh.1.2
      have hc := hcl ((((i / 4 % W : Nat) : Int) - (x : Int)).toNat) ((((i / 4 / W : Nat) : Int) - (y : Int)).toNat) (by omega) (by omega)
      unfold drawF
      rw [hc, hx.1, hy.1, show y + (((i / 4 / W : Nat) : Int) - (y : Int)).toNat = i / 4 / W by omega, show x + (((i / 4 % W : Nat) : Int) - (x : Int)).toNat = i / 4 % W by omega, ← place_of, over_self _ (ha _ hz), at4_at]
    · rfl
end Go.Proofs.Ytngaabnmhcncmaa
