/-
  Package huff: order: where the codes of each length begin. | Package huff: deal: each symbol with a length is given the next code of that length. | Package huff: New, Complete, Symbols.
-/
import Derived.Test.YtlknhiihdejpeaaGreatDoorMHufA
namespace Go.Proofs.YtlknhiihdejpeaaGreatDoor
open Go Go.RowKit

/-- A table of which order has gone k lengths. -/
def TF.ord (c : Nat → Nat) (k : Nat) : TF := { TF.new c with fst := fun i => if i ≤ k then Fs c i else 0, bef := fun i => if i ≤ k then Bf c i else 0, lng := Lg c k }
/-- Block g is a table. -/
def Tbl (w : World) (g : Nat) (f : TF) : Prop := Has w g 126 f.cells
theorem Tbl.cell {w : World} {g : Nat} {f : TF} (h : Tbl w g f) {i : Nat} (hi : i < 1009) : w.cell? ⟨g, i, none⟩ = some (f.at i) := by rw [Has.cell h, f.cells_get hi]

theorem Tbl.set {w : World} {g : Nat} {f f' : TF} {p : Nat} {v : Value} (h : Tbl w g f) (e : f.cells.setIfInBounds p v = f'.cells) : Tbl (w.setCell ⟨g, p, none⟩ v) g f' := by
  have := Has.set h p v
  rw [e] at this
  exact this
theorem Tbl.only {w w' : World} {g : Nat} {f : TF} {S : List Nat} (h : Tbl w g f) (ho : Only S w w') (hg : g ∉ S) : Tbl w' g f := Has.only h ho hg
theorem Tbl.drew {w : World} {g : Nat} {f : TF} (h : Tbl w g f) : Tbl w.drew g f := h

/-- One length more. -/
theorem ord_step (c : Nat → Nat) (k : Nat) (B F : Nat) (hB : Bf c (k + 1) = B) (hF : Fs c (k + 1) = F) (L : Nat) (hL : Lg c (k + 1) = L) :
    TF.cells { TF.ord c k with fst := upd (TF.ord c k).fst (k + 1) F, bef := upd (TF.ord c k).bef (k + 1) B, lng := L } = (TF.ord c (k + 1)).cells := by
  subst hB hF hL
  refine TF.ext (f := TF.ord c (k + 1)) (f' := { TF.ord c k with fst := upd (TF.ord c k).fst (k + 1) (Fs c (k + 1)), bef := upd (TF.ord c k).bef (k + 1) (Bf c (k + 1)), lng := Lg c (k + 1) })
    (fun _ _ => rfl) (fun _ _ => rfl) (fun _ _ => rfl) (fun _ _ => rfl) (fun i _ => ?_) (fun i _ => ?_) rfl
  · show (if i = k + 1 then Fs c (k + 1) else if i ≤ k then Fs c i else 0) = if i ≤ k + 1 then Fs c i else 0
    by_cases h : i = k + 1
    · subst h; rw [if_pos rfl, if_pos (Nat.le_refl _)]
    · rw [if_neg h]
      by_cases h2 : i ≤ k
      · rw [if_pos h2, if_pos (by omega)]
      · rw [if_neg h2, if_neg (by omega)]
  · show (if i = k + 1 then Bf c (k + 1) else if i ≤ k then Bf c i else 0) = if i ≤ k + 1 then Bf c i else 0
    by_cases h : i = k + 1
    · subst h; rw [if_pos rfl, if_pos (Nat.le_refl _)]
    · rw [if_neg h]
      by_cases h2 : i ≤ k
      · rw [if_pos h2, if_pos (by omega)]
      · rw [if_neg h2, if_neg (by omega)]

theorem wrap64 {z : Int} {n : Nat} (h1 : z = n) (h2 : n ≤ 9223372036854775807) : IntKind.i64.wrap z = (n : Int) := by
  rw [IntKind.wrap_i64]; omega

theorem Bf_le_of (c : Nat → Nat) (hc : ∀ i, i < 16 → c i ≤ 65536) {k : Nat} (hk : k ≤ 16) : Bf c k ≤ 65536 * k := by
  induction k with
  | zero => simp [Bf]
  | succ k ih =>
    rw [Bf_succ]
    have := ih (by omega)
    have := hc k (by omega)
    omega

set_option maxRecDepth 100000 in
set_option maxHeartbeats 2000000 in
theorem order_any (g : Nat) (c : Nat → Nat) (w : World) (h : Tbl w g (TF.new c)) (_ : c 0 = 0) (hc : ∀ i, i < 16 → c i ≤ 65536) (hS : Sm c 16 ≤ 32768) :
    Calls Tryz.prog 67 #[.pointer (some ⟨g, 0, none⟩)] w fun e w' => e = .returned (.tuple #[]) ∧ Tbl w' g (TF.ord c 15) ∧ Only [g] w w' := by
  have HH := hide h
  clear h
  go_enter Tryz.func67, Tryz.ntmps67
  go_wp2_with fail
  go_loopw [2] (fun n wr => ∃ k : Nat, k ≤ 15 ∧ n = .int .i64 ((k + 1 : Nat) : Int) ∧ Tbl wr g (TF.ord c k) ∧ Only [g] w wr) (fun n _ => 17 - (intOf n).toNat)
  case atStart =>
    refine ⟨0, by omega, rfl, ?_, Only.refl _ _⟩
    have : TF.cells (TF.ord c 0) = TF.cells (TF.new c) := TF.ext (f := TF.new c) (f' := TF.ord c 0) (fun _ _ => rfl) (fun _ _ => rfl) (fun _ _ => rfl) (fun _ _ => rfl)
      (fun i _ => by
        show (if i ≤ 0 then Fs c i else 0) = 0
        by_cases hi : i ≤ 0
        · obtain rfl : i = 0 := by omega
          rfl
        · rw [if_neg hi])
      (fun i _ => by
        show (if i ≤ 0 then Bf c i else 0) = 0
        by_cases hi : i ≤ 0
        · obtain rfl : i = 0 := by omega
          rfl
        · rw [if_neg hi]) rfl
    unfold Tbl
    rw [this]; exact HH.out
  case round =>
    obtain ⟨k, hk, rfl, hT, ho⟩ := hrel
    by_cases hlt : k < 15
    · have a1 : wr.cell? ⟨g, 976 + k, none⟩ = some (.int .i64 (Fs c k : Nat)) := by
        rw [hT.cell (by omega), TF.at_fst _ (by omega)]; show some (Value.int .i64 ((if k ≤ k then Fs c k else 0 : Nat) : Int)) = _; rw [if_pos (Nat.le_refl _)]
      have a2 : wr.cell? ⟨g, 960 + k, none⟩ = some (.int .i64 (c k : Nat)) := by rw [hT.cell (by omega), TF.at_cnt _ (by omega)]; rfl
      have a3 : wr.cell? ⟨g, 976 + (k + 1), none⟩ = some (.int .i64 0) := by
        rw [hT.cell (by omega), TF.at_fst _ (by omega)]; show some (Value.int .i64 ((if k + 1 ≤ k then Fs c (k + 1) else 0 : Nat) : Int)) = _; rw [if_neg (by omega)]; rfl
      have f3 : wr.frozen? ⟨g, 976 + (k + 1), none⟩ = false := Has.free hT _
      have b1 := Fs_le c k (by omega) hS
      have b2 := Nat.pow_le_pow_right (n := 2) (by decide) (show k ≤ 14 by omega)
      have e1 : ((k + 1 : Nat) : Int) - 1 = (k : Int) := by omega
      have e2 : ((k + 1 : Nat) : Int) ≤ 15 := by omega
      have e4 : ((k + 1 : Nat) : Int) < 16 := by omega
      have e3 : (0 : Int) ≤ ((k + 1 : Nat) : Int) := by omega
      have q0 : (0 : Int) ≤ (k : Int) := by omega
      have q1 : (k : Int) < 16 := by omega
      have b3 : Fs c k + c k ≤ 16384 := Nat.le_trans b1 b2
      have hF := Fs_succ c k
      have w1 : IntKind.i64.wrap (k : Int) = (k : Int) := wrap64 rfl (by omega)
      have w2 : IntKind.i64.wrap ((Fs c k : Int) + (c k : Int)) = ((Fs c k + c k : Nat) : Int) := wrap64 (by omega) (by omega)
      have hst := ord_step c k (Bf c k + c k) (2 * (Fs c k + c k)) rfl rfl
      have hBk := Bf_le_of c hc (show k ≤ 16 by omega)
      have hck2 := hc k (by omega)
      have hcn := hc (k + 1) (by omega)
      have b4 : wr.cell? ⟨g, 992 + k, none⟩ = some (.int .i64 (Bf c k : Nat)) := by
        rw [hT.cell (by omega), TF.at_bef _ (by omega)]; show some (Value.int .i64 ((if k ≤ k then Bf c k else 0 : Nat) : Int)) = _; rw [if_pos (Nat.le_refl _)]
      have b5 : wr.cell? ⟨g, 992 + (k + 1), none⟩ = some (.int .i64 0) := by
        rw [hT.cell (by omega), TF.at_bef _ (by omega)]; show some (Value.int .i64 ((if k + 1 ≤ k then Bf c (k + 1) else 0 : Nat) : Int)) = _; rw [if_neg (by omega)]; rfl
      have b6 : wr.cell? ⟨g, 960 + (k + 1), none⟩ = some (.int .i64 (c (k + 1) : Nat)) := by rw [hT.cell (by omega), TF.at_cnt _ (by omega)]; rfl
      have b7 : wr.cell? ⟨g, 1008, none⟩ = some (.int .i64 (Lg c k : Nat)) := by rw [hT.cell (by omega), TF.at_lng]; rfl
      have w3 : IntKind.i64.wrap ((Bf c k : Int) + (c k : Int)) = ((Bf c k + c k : Nat) : Int) := wrap64 (by omega) (by omega)
      have hb5 : Bf c k + c k ≤ 4611686018427387904 := by omega
      have hLs : Lg c (k + 1) = if 0 < c (k + 1) then k + 1 else Lg c k := rfl
      have fr : ∀ i, wr.frozen? ⟨g, i, none⟩ = false := fun i => Has.free hT i
      clear hBk hck2
      have HR := hide (And.intro hT (And.intro ho (And.intro hst (And.intro fr hLs))))
      have HB := hide (And.intro b4 (And.intro b5 (And.intro b6 b7)))
      clear hT ho b1 b2 hst hLs fr b4 b5 b6 b7
      generalize hFk : Fs c k = F at *
      generalize hck : c k = C at *
      generalize hBk : Bf c k = B at *
      generalize hcn2 : c (k + 1) = D at *
      generalize hLk : Lg c k = L at *
      generalize hn : k + 1 = n at *
      have HZ := hide (And.intro hFk (And.intro hck (And.intro hBk (And.intro hcn2 (And.intro hLk hn)))))
      have hnk : k < n := by omega
      clear hFk hck hBk hcn2 hLk hn
      go_wp2_with fail
      go_still_tail 21, (by kernel_rfl)
      change wpList _ _ _ _ _ wr.drew
      go_wp2_with fail
      have T1 := (HR.out.1.set (TF.set_fst _ (show n < 16 by omega) (2 * (F + C)))).drew
      have O1 := (HR.out.2.1.setCell (p := ⟨g, 976 + n, none⟩) (by simp) (.int .i64 ((2 * (F + C) : Nat) : Int))).drew
      rw [show ((2 * (F + C) : Nat) : Int) = ((F : Int) + (C : Int)) * 2 by omega] at T1 O1
      generalize (wr.setCell ⟨g, 976 + n, none⟩ (.int .i64 (((F : Int) + (C : Int)) * 2))).drew = wa at *
      clear a1 a2 a3 f3
      have a1 : wa.cell? ⟨g, 992 + k, none⟩ = some (.int .i64 (B : Int)) := by
        rw [T1.cell (by omega), TF.at_bef _ (by omega)]
        have := HB.out.1; rw [HR.out.1.cell (by omega), TF.at_bef _ (by omega)] at this; exact this
      have a2 : wa.cell? ⟨g, 960 + k, none⟩ = some (.int .i64 (C : Int)) := by rw [T1.cell (by omega), TF.at_cnt _ (by omega)]; show some (Value.int .i64 ((c k : Nat) : Int)) = _; rw [HZ.out.2.1]
      have a3 : wa.cell? ⟨g, 992 + n, none⟩ = some (.int .i64 0) := by
        rw [T1.cell (by omega), TF.at_bef _ (by omega)]
        have := HB.out.2.1; rw [HR.out.1.cell (by omega), TF.at_bef _ (by omega)] at this; exact this
      have f3 : wa.frozen? ⟨g, 992 + n, none⟩ = false := Has.free T1 _
      have a4 : wa.cell? ⟨g, 960 + n, none⟩ = some (.int .i64 (D : Int)) := by rw [T1.cell (by omega), TF.at_cnt _ (by omega)]; show some (Value.int .i64 ((c n : Nat) : Int)) = _; rw [HZ.out.2.2.2.1]
      have a5 : wa.cell? ⟨g, 1008, none⟩ = some (.int .i64 (L : Int)) := by rw [T1.cell (by omega), TF.at_lng]; show some (Value.int .i64 ((Lg c k : Nat) : Int)) = _; rw [HZ.out.2.2.2.2.1]
      have f5 : wa.frozen? ⟨g, 1008, none⟩ = false := Has.free T1 _
      have HT1 := hide (And.intro T1 O1)
      clear T1 O1
      have HE : (Lg c n = n ∧ 0 < D) ∨ (Lg c n = L ∧ D = 0) := by
        have := HR.out.2.2.2.2
        by_cases hD : 0 < D
        · rw [if_pos hD] at this; exact .inl ⟨this, hD⟩
        · rw [if_neg hD] at this; exact .inr ⟨this, by omega⟩
      rcases HE with ⟨hL, hD⟩ | ⟨hL, rfl⟩
      · have HL := hide hL
        clear hL
        go_still_tail 20, (by kernel_rfl)
        change wpList _ _ _ _ _ wa.drew
        go_wp2_with fail
        go_roundw
        case rel =>
          have T2 := ((HT1.out.1.set (TF.set_bef _ (show n < 16 by omega) (B + C))).set (TF.set_lng _ n)).drew
          have O2 := ((HT1.out.2.setCell (p := ⟨g, 992 + n, none⟩) (by simp) (.int .i64 ((B + C : Nat) : Int))).setCell (p := ⟨g, 1008, none⟩) (by simp) (.int .i64 (n : Int))).drew
          rw [Int.natCast_add] at T2 O2
          refine ⟨n, by omega, by go_num, ?_, O2⟩
          unfold Tbl
          rw [← HR.out.2.2.1 n HL.out]
          exact T2
        case measure => simp [intOf]; omega
      · have HL := hide hL
        clear hL
        go_still_tail 20, (by kernel_rfl)
        change wpList _ _ _ _ _ wa.drew
        go_wp2_with fail
        go_roundw
        case rel =>
          have T2 := (HT1.out.1.set (TF.set_bef _ (show n < 16 by omega) (B + C))).drew
          have O2 := (HT1.out.2.setCell (p := ⟨g, 992 + n, none⟩) (by simp) (.int .i64 ((B + C : Nat) : Int))).drew
          rw [Int.natCast_add] at T2 O2
          refine ⟨n, by omega, by go_num, ?_, O2⟩
          unfold Tbl
          rw [← HR.out.2.2.1 L HL.out]
          have e : (TF.ord c k).lng = L := HZ.out.2.2.2.2.1
          rw [← e]
          exact T2
        case measure => simp [intOf]; omega
    · obtain rfl : k = 15 := by omega
      go_wp2_with fail
      go_end0
      exact ⟨rfl, hT, ho⟩
end Go.Proofs.YtlknhiihdejpeaaGreatDoor


namespace Go.Proofs.YtlknhiihdejpeaaGreatDoor
open Go Go.RowKit

/-- A table of which deal has gone s symbols. -/
def TF.dl (l : List UInt8) (s : Nat) (S : Nat → Nat) : TF :=
  { TF.ord (cn l) 15 with len := fun i => if i < s then ln l i else 0, code := fun i => if i < s ∧ ln l i ≠ 0 then rev (cd l i) (ln l i) else 0, sym := S }

theorem dl_skip (l : List UInt8) (s : Nat) (S : Nat → Nat) (h : ln l s = 0) : (TF.dl l (s + 1) S).cells = (TF.dl l s S).cells := by
  refine TF.ext (f := TF.dl l s S) (f' := TF.dl l (s + 1) S) (fun i _ => ?_) (fun i _ => ?_) (fun _ _ => rfl) (fun _ _ => rfl) (fun _ _ => rfl) (fun _ _ => rfl) rfl
  · show (if i < s + 1 then ln l i else 0) = if i < s then ln l i else 0
    by_cases hi : i = s
    · subst hi; rw [if_pos (by omega), if_neg (by omega), h]
    · by_cases h2 : i < s
      · rw [if_pos h2, if_pos (by omega)]
      · rw [if_neg h2, if_neg (by omega)]
  · show (if i < s + 1 ∧ ln l i ≠ 0 then rev (cd l i) (ln l i) else 0) = if i < s ∧ ln l i ≠ 0 then rev (cd l i) (ln l i) else 0
    by_cases hi : i = s
    · subst hi; rw [if_neg (by omega), if_neg (by omega)]
    · by_cases h2 : i < s ∧ ln l i ≠ 0
      · rw [if_pos h2, if_pos (by omega)]
      · rw [if_neg h2, if_neg (by omega)]

theorem dl_step (l : List UInt8) (s : Nat) (S : Nat → Nat) (h : ln l s ≠ 0) (x R p : Nat) (hx : ln l s = x) (hR : rev (cd l s) x = R) :
    TF.cells { TF.dl l s S with len := upd (TF.dl l s S).len s x, code := upd (TF.dl l s S).code s R, sym := upd (TF.dl l s S).sym p s } = (TF.dl l (s + 1) (upd S p s)).cells := by
  subst hx hR
  refine TF.ext (f := TF.dl l (s + 1) (upd S p s)) (f' := { TF.dl l s S with len := upd (TF.dl l s S).len s (ln l s), code := upd (TF.dl l s S).code s (rev (cd l s) (ln l s)), sym := upd (TF.dl l s S).sym p s })
    (fun i _ => ?_) (fun i _ => ?_) (fun _ _ => rfl) (fun _ _ => rfl) (fun _ _ => rfl) (fun _ _ => rfl) rfl
  · show (if i = s then ln l s else if i < s then ln l i else 0) = if i < s + 1 then ln l i else 0
    by_cases hi : i = s
    · subst hi; rw [if_pos rfl, if_pos (by omega)]
    · rw [if_neg hi]
      by_cases h2 : i < s
      · rw [if_pos h2, if_pos (by omega)]
      · rw [if_neg h2, if_neg (by omega)]
  · show (if i = s then rev (cd l s) (ln l s) else if i < s ∧ ln l i ≠ 0 then rev (cd l i) (ln l i) else 0) = if i < s + 1 ∧ ln l i ≠ 0 then rev (cd l i) (ln l i) else 0
    by_cases hi : i = s
    · subst hi; rw [if_pos rfl, if_pos ⟨by omega, h⟩]
    · rw [if_neg hi]
      by_cases h2 : i < s ∧ ln l i ≠ 0
      · rw [if_pos h2, if_pos (by omega)]
      · rw [if_neg h2, if_neg (by omega)]

/-- The symbols so far stand where they are dealt. -/
def Dealt (l : List UInt8) (s : Nat) (S : Nat → Nat) : Prop := ∀ i, i < s → ln l i ≠ 0 → S (pl l i) = i
theorem Dealt.step {l : List UInt8} {s : Nat} {S : Nat → Nat} (h : Dealt l s S) (hs : ln l s ≠ 0) : Dealt l (s + 1) (upd S (pl l s) s) := by
  intro i hi h0
  by_cases he : i = s
  · subst he; exact if_pos rfl
  · show (if pl l i = pl l s then s else S (pl l i)) = i
    rw [if_neg (fun e => he (pl_inj h0 hs e))]
    exact h i (by omega) h0
theorem Dealt.skip {l : List UInt8} {s : Nat} {S : Nat → Nat} (h : Dealt l s S) (hs : ln l s = 0) : Dealt l (s + 1) S := by
  intro i hi h0
  by_cases he : i = s
  · subst he; exact absurd hs h0
  · exact h i (by omega) h0

theorem wrapU32 {z : Int} {n : Nat} (h1 : z = n) (h2 : n < 4294967296) : IntKind.u32.wrap z = (n : Int) := by
  rw [IntKind.wrap_u32]; omega
theorem wrapU16 {z : Int} {n : Nat} (h1 : z = n) (h2 : n < 65536) : IntKind.u16.wrap z = (n : Int) := by
  rw [IntKind.wrap_u16]; omega
theorem wrapI16 {z : Int} {n : Nat} (h1 : z = n) (h2 : n < 32768) : IntKind.i16.wrap z = (n : Int) := by
  subst h1; simp only [IntKind.wrap, IntKind.signed, IntKind.bits]; simp; omega

set_option maxRecDepth 100000 in
set_option maxHeartbeats 4000000 in
theorem deal_any (g : Nat) (A : Option Addr) (n c : Nat) (l : List UInt8) (w : World) (h : Tbl w g (TF.ord (cn l) 15)) (hb : Holds w 1 A n (bvals l)) (hl : l.length = n) (hn : n ≤ 320) (h15 : ∀ i, ln l i ≤ 15) (hS : Sm (cn l) 16 ≤ 32768)
    (hA : 0 < n → ∀ ad, A = some ad → ad.block ≠ g) :
    Calls Tryz.prog 68 #[.pointer (some ⟨g, 0, none⟩), .slice A n c] w fun e w' => e = .returned (.tuple #[]) ∧ (∃ S, Dealt l l.length S ∧ Tbl w' g (TF.dl l l.length S)) ∧ Only [g] w w' := by
  subst hl
  have glt : g < w.heap.size := Has.lt h
  have HH := hide (And.intro h (And.intro hb hA))
  clear h hb hA
  go_enter Tryz.func68, Tryz.ntmps68
  go_wp2_with fail
  go_loopw [10] (fun i wr => ∃ (s : Nat) (S : Nat → Nat), s ≤ l.length ∧ i = .int .i64 s ∧ Dealt l s S ∧ Tbl wr g (TF.dl l s S) ∧ Has wr w.heap.size 124 (tcells (rk l s)) ∧ Only [g] w wr) (fun i _ => l.length - (intOf i).toNat)
  case atStart =>
    refine ⟨0, fun _ => 0, Nat.zero_le _, rfl, fun i hi => absurd hi (by omega), ?_, ?_, (Only.refl [g] w).alloc _⟩
    · have e : (TF.dl l 0 fun _ => 0).cells = (TF.ord (cn l) 15).cells := TF.ext (f := TF.ord (cn l) 15) (f' := TF.dl l 0 fun _ => 0) (fun i _ => rfl) (fun i _ => by
        show (if i < 0 ∧ ln l i ≠ 0 then rev (cd l i) (ln l i) else 0) = 0
        rw [if_neg (by omega)]) (fun _ _ => rfl) (fun _ _ => rfl) (fun _ _ => rfl) (fun _ _ => rfl) rfl
      unfold Tbl
      rw [e]; exact Has.alloc HH.out.1 _
    · rw [tcells_congr (c := rk l 0) (d := fun _ => 0) (fun i _ => rk_zero l i)]
      exact Has.new w 124 (tcells fun _ => 0)
  case round =>
    obtain ⟨s, S, hs, rfl, hD, hT, hY, ho⟩ := hrel
    by_cases hlt : s < l.length
    · obtain ⟨b, o, rfl, hc2⟩ := (HH.out.2.1.keepPos ho (fun h0 ad ha _ => by simpa using HH.out.2.2 h0 ad ha)).addr (by simpa using (show 0 < l.length by omega))
      have hcell : wr.cell? ⟨b, o + s, none⟩ = some (.int .u8 (l[s].toNat : Int)) := hc2 s _ (bvals_get l s hlt)
      have hx15 := h15 s
      have hR := fun m => rk_succ (l := l) hlt m
      have hlx : ln l s = l[s].toNat := ln_get hlt
      rw [hlx] at hR hx15
      clear hc2
      generalize l[s].toNat = x at *
      by_cases hx0 : x = 0
      · subst hx0
        have e : tcells (rk l (s + 1)) = tcells (rk l s) := tcells_congr (fun i _ => by rw [hR, if_neg (by omega)]; rfl)
        have e2 := dl_skip l s S hlx
        have H1 := hide (And.intro (hD.skip hlx) (And.intro hT (And.intro hY (And.intro ho (And.intro e e2)))))
        clear hD hT hY ho e e2 hR
        go_wp2_with fail
        go_roundw
        case rel => exact ⟨s + 1, S, hlt, by go_num, H1.out.1, by unfold Tbl; rw [H1.out.2.2.2.2.2]; exact H1.out.2.1, by rw [H1.out.2.2.2.2.1]; exact H1.out.2.2.1, H1.out.2.2.2.1⟩
        case measure => simp [intOf]; omega
      · have hne : ln l s ≠ 0 := by omega
        obtain ⟨F, hF⟩ : ∃ F, F = Fs (cn l) x := ⟨_, rfl⟩
        obtain ⟨r, hr⟩ : ∃ r, r = rk l s x := ⟨_, rfl⟩
        obtain ⟨B, hB⟩ : ∃ B, B = Bf (cn l) x := ⟨_, rfl⟩
        have hcd : cd l s = F + r := by unfold cd; rw [hlx, hF, hr]
        have hpl : pl l s = B + r := by unfold pl; rw [hlx, hB, hr]
        have hcl := cd_lt hS hne (h15 s)
        rw [hlx, hcd] at hcl
        have hp15 := Nat.pow_le_pow_right (n := 2) (by decide) hx15
        have hFr : F + r < 32768 := Nat.lt_of_lt_of_le hcl hp15
        have hBr := pl_lt hne
        rw [hpl] at hBr
        have hrl := rev_lt (F + r) x
        obtain ⟨R, hRR⟩ : ∃ R, R = rev (F + r) x := ⟨_, rfl⟩
        rw [← hRR] at hrl
        have hR15 : R < 32768 := Nat.lt_of_lt_of_le hrl hp15
        have hst := dl_step l s S hne x R (B + r) hlx (by rw [hcd, hRR])
        have hD2 := hD.step hne
        rw [hpl] at hD2
        have y1 : wr.cell? ⟨w.heap.size, x, none⟩ = some (.int .i64 (r : Int)) := by rw [hY.cell, tcells_get _ (by omega), hr]
        have y2 : wr.frozen? ⟨w.heap.size, x, none⟩ = false := hY.free x
        have a1 : wr.cell? ⟨g, s, none⟩ = some (.int .u8 0) := by
          rw [hT.cell (by omega), TF.at_len _ (by omega)]; show some (Value.int .u8 ((if s < s then ln l s else 0 : Nat) : Int)) = _; rw [if_neg (by omega)]; rfl
        have f1 : wr.frozen? ⟨g, s, none⟩ = false := Has.free hT _
        have ey : (tcells (rk l s)).setIfInBounds x (.int .i64 ((r + 1 : Nat) : Int)) = tcells (rk l (s + 1)) :=
          tcells_set _ _ x _ (by omega) (by rw [hR, if_pos ⟨rfl, hx0⟩, hr]) (fun i _ hne => by rw [hR, if_neg (by omega)]; rfl)
        have Y1 := hY.set x (.int .i64 ((r + 1 : Nat) : Int))
        rw [ey] at Y1
        have Y2 := Y1.other (p := ⟨g, s, none⟩) (by show ¬ w.heap.size = g; omega) (.int .u8 (x : Int))
        have T1 : Tbl (wr.setCell ⟨w.heap.size, x, none⟩ (.int .i64 ((r + 1 : Nat) : Int))) g (TF.dl l s S) := Has.other hT (p := ⟨w.heap.size, x, none⟩) (by show ¬ g = w.heap.size; omega) _
        have T2 := T1.set (TF.set_len _ (show s < 320 by omega) x)
        have O2 := (ho.setCell (p := ⟨w.heap.size, x, none⟩) (by simp) (.int .i64 ((r + 1 : Nat) : Int))).setCell (p := ⟨g, s, none⟩) (by simp) (.int .u8 (x : Int))
        have q0 : (0 : Int) ≤ (s : Int) := by omega
        have q1 : (s : Int) < 320 := by omega
        have q2 : (x : Int) < 16 := by omega
        have q3 : (0 : Int) ≤ (x : Int) := by omega
        have hr2 : r < 32768 := by omega
        rw [Int.natCast_add] at Y2 T2 O2
        have H1 := hide (And.intro hst (And.intro hD2 (And.intro Y2 (And.intro T2 (And.intro O2 (And.intro hRR (And.intro hF hB)))))))
        clear hst hD2 Y1 Y2 T1 T2 O2 ey hD hT hY ho hR hF hr hB hRR hcd hpl
        go_wp2_with fail
        generalize ((wr.setCell ⟨w.heap.size, x, none⟩ (.int .i64 ((r : Int) + ((1 : Nat) : Int)))).setCell ⟨g, s, none⟩ (.int .u8 (x : Int))) = wa at *
        have T2 := H1.out.2.2.2.1
        clear y1 y2 a1 f1
        have k1 : IntKind.i64.wrap ((F : Int) + (r : Int)) = (F : Int) + (r : Int) := by have := wrap64 (z := (F : Int) + (r : Int)) (n := F + r) (by omega) (by omega); omega
        have k2 : IntKind.u32.wrap ((F : Int) + (r : Int)) = (F : Int) + (r : Int) := by have := wrapU32 (z := (F : Int) + (r : Int)) (n := F + r) (by omega) (by omega); omega
        have k3 : IntKind.u16.wrap (R : Int) = (R : Int) := wrapU16 rfl (by omega)
        have k4 : IntKind.i64.wrap (x : Int) = (x : Int) := wrap64 rfl (by omega)
        have a1 : wa.cell? ⟨g, 976 + x, none⟩ = some (.int .i64 (F : Int)) := by
          rw [T2.cell (by omega), TF.at_fst _ (by omega)]
          show some (Value.int .i64 ((if x ≤ 15 then Fs (cn l) x else 0 : Nat) : Int)) = _
          rw [if_pos hx15, H1.out.2.2.2.2.2.2.1]
        have a2 : wa.cell? ⟨g, 320 + s, none⟩ = some (.int .u16 0) := by
          rw [T2.cell (by omega), TF.at_code _ (by omega)]
          show some (Value.int .u16 ((if s < s ∧ ln l s ≠ 0 then rev (cd l s) (ln l s) else 0 : Nat) : Int)) = _
          rw [if_neg (by omega)]; rfl
        have f2 : wa.frozen? ⟨g, 320 + s, none⟩ = false := Has.free T2 _
        have HV := hide (reverse_yes (F + r) x wa.drew (by omega) (by omega))
        rw [← H1.out.2.2.2.2.2.1, Int.natCast_add] at HV
        clear T2
        go_still_tail 18, (by kernel_rfl)
        still_call (HV.out.mono (fun e w' h => ⟨h.1, h.2.symm⟩))
        repeat still_step
        refine wpStill_nil ?_
        change wpList _ _ _ _ _ wa.drew
        go_wp2_with fail
        have T3 := (H1.out.2.2.2.1.set (TF.set_code _ (show s < 320 by omega) R)).drew
        have Y3 : Has (wa.setCell ⟨g, 320 + s, none⟩ (.int .u16 (R : Int))).drew w.heap.size 124 (tcells (rk l (s + 1))) := H1.out.2.2.1.other (p := ⟨g, 320 + s, none⟩) (by show ¬ w.heap.size = g; omega) _
        have O3 := (H1.out.2.2.2.2.1.setCell (p := ⟨g, 320 + s, none⟩) (by simp) (.int .u16 (R : Int))).drew
        generalize (wa.setCell ⟨g, 320 + s, none⟩ (.int .u16 (R : Int))).drew = wb at *
        clear a1 a2 f2 k1 k2 k3 k4 HV
        have k1 : IntKind.i64.wrap ((B : Int) + (r : Int)) = (B : Int) + (r : Int) := by have := wrap64 (z := (B : Int) + (r : Int)) (n := B + r) (by omega) (by omega); omega
        have k2 : IntKind.i16.wrap (s : Int) = (s : Int) := wrapI16 rfl (by omega)
        have k3 : (0 : Int) ≤ (B : Int) + (r : Int) := by omega
        have k4 : (B : Int) + (r : Int) < 320 := by omega
        have a1 : wb.cell? ⟨g, 992 + x, none⟩ = some (.int .i64 (B : Int)) := by
          rw [T3.cell (by omega), TF.at_bef _ (by omega)]
          show some (Value.int .i64 ((if x ≤ 15 then Bf (cn l) x else 0 : Nat) : Int)) = _
          rw [if_pos hx15, H1.out.2.2.2.2.2.2.2]
        have a2 : wb.cell? ⟨g, 640 + (B + r), none⟩ = some (.int .i16 (S (B + r) : Nat)) := by
          rw [T3.cell (by omega), TF.at_sym _ (by omega)]; rfl
        have f2 : wb.frozen? ⟨g, 640 + (B + r), none⟩ = false := Has.free T3 _
        have H3 := hide (And.intro T3 (And.intro Y3 O3))
        clear T3 Y3 O3
        go_still_tail 14, (by kernel_rfl)
        change wpList _ _ _ _ _ wb.drew
        go_wp2_with fail
        go_roundw
        case rel =>
          have T4 := (H3.out.1.set (TF.set_sym _ (show B + r < 320 by omega) s)).drew
          have Y4 : Has (wb.setCell ⟨g, 640 + (B + r), none⟩ (.int .i16 (s : Int))).drew w.heap.size 124 (tcells (rk l (s + 1))) := H3.out.2.1.other (p := ⟨g, 640 + (B + r), none⟩) (by show ¬ w.heap.size = g; omega) _
          have O4 := (H3.out.2.2.setCell (p := ⟨g, 640 + (B + r), none⟩) (by simp) (.int .i16 (s : Int))).drew
          refine ⟨s + 1, _, hlt, by go_num, H1.out.2.1, ?_, Y4, O4⟩
          unfold Tbl
          rw [← H1.out.1]
          exact T4
        case measure => simp [intOf]; omega
    · obtain rfl : s = l.length := by omega
      go_wp2_with fail
      go_end0
      exact ⟨rfl, ⟨S, hD, hT⟩, ho⟩
end Go.Proofs.YtlknhiihdejpeaaGreatDoor


namespace Go.Proofs.YtlknhiihdejpeaaGreatDoor
open Go Go.RowKit

/-- Is there a length above 15? -/
def far (l : List UInt8) : Bool := l.any fun b => decide (15 < b.toNat)

set_option maxRecDepth 100000 in
set_option maxHeartbeats 1000000 in
theorem indexFunc_any (A : Option Addr) (n c : Nat) (l : List UInt8) (w : World) (hb : Holds w 1 A n (bvals l)) (hl : l.length = n) (hn : n ≤ 140737488355328) :
    Calls Tryz.prog 76 #[.slice A n c, .func (.func 64) #[] #[]] w fun e w' => (∃ z : Int, e = .returned (.int .i64 z) ∧ decide (z ≥ 0) = far l) ∧ w = w' := by
  subst hl
  have HT := hide tooLong_any
  have HB := hide hb
  clear hb
  go_enter Tryz.func76, Tryz.ntmps76
  go_wp2_with fail
  go_loop [8] (fun i => ∃ j : Nat, j ≤ l.length ∧ i = .int .i64 j ∧ (l.take j).any (fun b => decide (15 < b.toNat)) = false) (fun i => l.length - (intOf i).toNat)
  case atStart => exact ⟨0, Nat.zero_le _, rfl, rfl⟩
  case round =>
    obtain ⟨j, hj, rfl, hno⟩ := hrel
    by_cases hlt : j < l.length
    · obtain ⟨b, o, rfl, hc2⟩ := HB.out.addr (by simpa using (show 0 < l.length by omega))
      have hcell : w.cell? ⟨b, o + j, none⟩ = some (.int .u8 (l[j].toNat : Int)) := hc2 j _ (bvals_get l j hlt)
      clear hc2
      cases hd : decide (15 < l[j].toNat) with
      | true =>
        have hf : far l = true := by
          unfold far
          rw [List.any_eq_true]
          exact ⟨l[j], List.getElem_mem hlt, hd⟩
        have HF := hide (And.intro hf hd)
        clear hf hd hno
        generalize l[j].toNat = x at *
        go_wp2_with fail
        refine (HT.out x w).mono ?_
        rintro e w1 ⟨rfl, rfl⟩
        rw [HF.out.2]
        go_wp2_with fail
        go_ret
        refine ⟨⟨_, rfl, ?_⟩, rfl⟩
        rw [HF.out.1]
        simp
      | false =>
        have hno2 : (l.take (j + 1)).any (fun b => decide (15 < b.toNat)) = false := by
          rw [take_snoc hlt, List.any_append, hno]
          simp only [List.any_cons, List.any_nil, Bool.or_false, Bool.false_or]
          exact hd
        have HF := hide (And.intro hno2 hd)
        clear hno2 hd hno
        generalize l[j].toNat = x at *
        go_wp2_with fail
        refine (HT.out x w).mono ?_
        rintro e w1 ⟨rfl, rfl⟩
        rw [HF.out.2]
        go_wp2_with fail
        go_round
        case rel => exact ⟨j + 1, hlt, by go_num, HF.out.1⟩
        case measure => simp [intOf]; omega
    · obtain rfl : j = l.length := by omega
      rw [List.take_length] at hno
      have HF := hide hno
      clear hno
      go_wp2_with fail
      go_ret
      refine ⟨⟨_, rfl, ?_⟩, rfl⟩
      unfold far
      rw [HF.out]
      rfl

set_option maxRecDepth 100000 in
theorem containsFunc_any (A : Option Addr) (n c : Nat) (l : List UInt8) (w : World) (hb : Holds w 1 A n (bvals l)) (hl : l.length = n) (hn : n ≤ 140737488355328) :
    Calls Tryz.prog 63 #[.slice A n c, .func (.func 64) #[] #[]] w fun e w' => e = .returned (.bool (far l)) ∧ w = w' := by
  have H := hide (indexFunc_any A n c l w hb hl hn)
  clear hb
  go_enter Tryz.func63, Tryz.ntmps63
  go_wp2_with fail
  refine (H.out).mono ?_
  rintro e w1 ⟨⟨z, rfl, hz⟩, rfl⟩
  have HZ := hide hz
  clear hz
  go_wp2_with fail
  go_ret
  exact ⟨ret_bool HZ.out, rfl⟩

/-- Block g is a table of these lengths. -/
def Tb (w : World) (g : Nat) (l : List UInt8) : Prop := ∃ S, Dealt l l.length S ∧ Tbl w g (TF.dl l l.length S)
theorem Tb.only {w w' : World} {g : Nat} {l : List UInt8} {S : List Nat} (h : Tb w g l) (ho : Only S w w') (hg : g ∉ S) : Tb w' g l := by
  obtain ⟨F, h1, h2⟩ := h
  exact ⟨F, h1, h2.only ho hg⟩
theorem Tb.lt {w : World} {g : Nat} {l : List UInt8} (h : Tb w g l) : g < w.heap.size := by
  obtain ⟨F, _, h2⟩ := h
  exact Has.lt h2

/-- What New answers. -/
def newE (l : List UInt8) : Nat := if 320 < l.length ∨ far l = true then 1 else if mayBe (cn l) then 0 else 3

theorem mayBe_le {c : Nat → Nat} (h : mayBe c = true) : Sm c 16 ≤ 32768 := by
  unfold mayBe at h
  rcases Bool.or_eq_true _ _ ▸ h with h | h
  · rcases Bool.or_eq_true _ _ ▸ h with h | h
    · have := of_decide_eq_true h; omega
    · have h0 := (tEq_iff _ _).1 h
      have : ∀ n, n ≤ 16 → Sm c n = 0 := by
        intro n hn
        induction n with
        | zero => rfl
        | succ n ih => show Sm c n + c n * 2 ^ (15 - n) = 0; rw [ih (by omega), h0 n (by omega)]; simp
      rw [this 16 (Nat.le_refl _)]; omega
  · have h0 := (tEq_iff _ _).1 h
    have : ∀ n, n ≤ 16 → Sm c n = if n ≤ 1 then 0 else 16384 := by
      intro n hn
      induction n with
      | zero => rfl
      | succ n ih =>
        show Sm c n + c n * 2 ^ (15 - n) = _
        rw [ih (by omega), h0 n (by omega)]
        by_cases h1 : n = 0
        · subst h1; rfl
        · by_cases h2 : n = 1
          · subst h2; rfl
          · rw [if_neg (by omega), if_neg h2, if_neg (by omega)]; simp
    rw [this 16 (Nat.le_refl _)]; decide

theorem cn_le (l : List UInt8) (n : Nat) : cn l n ≤ l.length := by
  unfold cn; split
  · exact Nat.zero_le _
  · exact List.countP_le_length
theorem Sm_bound (c : Nat → Nat) (m : Nat) (hc : ∀ i, c i ≤ m) (n : Nat) : Sm c n ≤ m * 32768 * n := by
  induction n with
  | zero => simp [Sm]
  | succ n ih =>
    show Sm c n + c n * 2 ^ (15 - n) ≤ _
    have h1 : 2 ^ (15 - n) ≤ 32768 := Nat.pow_le_pow_right (n := 2) (i := 15 - n) (j := 15) (by decide) (by omega)
    have h2 := Nat.mul_le_mul (hc n) h1
    rw [Nat.mul_add]; omega
theorem ln_far {l : List UInt8} (h : far l = false) (i : Nat) : ln l i ≤ 15 := by
  rcases Nat.lt_or_ge i l.length with hi | hi
  · rw [ln_get hi]
    unfold far at h
    rw [List.any_eq_false] at h
    have := h l[i] (List.getElem_mem hi)
    simpa using this
  · rw [ln_out hi]; omega
end Go.Proofs.YtlknhiihdejpeaaGreatDoor

