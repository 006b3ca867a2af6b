/-
  Package huff: order: where the codes of each length begin.
-/
import Derived.Test.YtglkfgpefpebmaaDoorHufC
namespace Go.Proofs.YtglkfgpefpebmaaDoor
open Go Go.RowKit

/-- A table of which order has gone k lengths. -/
def TF.ord (c : Nat → Nat) (k : Nat) : TF := { TF.new c with fst := fun i => if i ≤ k then Fs c i else 0, bef := fun i => if i ≤ k then Bf c i else 0, lng := Lg c k }
/-- Block g is a table. -/
def Tbl (w : World) (g : Nat) (f : TF) : Prop := Has w g 101 f.cells
theorem Tbl.cell {w : World} {g : Nat} {f : TF} (h : Tbl w g f) {i : Nat} (hi : i < 1009) : w.cell? ⟨g, i, none⟩ = some (f.at i) := by rw [Has.cell h, f.cells_get hi]

theorem Tbl.set {w : World} {g : Nat} {f f' : TF} {p : Nat} {v : Value} (h : Tbl w g f) (e : f.cells.setIfInBounds p v = f'.cells) : Tbl (w.setCell ⟨g, p, none⟩ v) g f' := by
  have := Has.set h p v
  rw [e] at this
  exact this
theorem Tbl.only {w w' : World} {g : Nat} {f : TF} {S : List Nat} (h : Tbl w g f) (ho : Only S w w') (hg : g ∉ S) : Tbl w' g f := Has.only h ho hg
theorem Tbl.drew {w : World} {g : Nat} {f : TF} (h : Tbl w g f) : Tbl w.drew g f := h

/-- One length more. -/
theorem ord_step (c : Nat → Nat) (k : Nat) (B F : Nat) (hB : Bf c (k + 1) = B) (hF : Fs c (k + 1) = F) (L : Nat) (hL : Lg c (k + 1) = L) :
    TF.cells { TF.ord c k with fst := upd (TF.ord c k).fst (k + 1) F, bef := upd (TF.ord c k).bef (k + 1) B, lng := L } = (TF.ord c (k + 1)).cells := by
  subst hB hF hL
  refine TF.ext (f := TF.ord c (k + 1)) (f' := { TF.ord c k with fst := upd (TF.ord c k).fst (k + 1) (Fs c (k + 1)), bef := upd (TF.ord c k).bef (k + 1) (Bf c (k + 1)), lng := Lg c (k + 1) })
    (fun _ _ => rfl) (fun _ _ => rfl) (fun _ _ => rfl) (fun _ _ => rfl) (fun i _ => ?_) (fun i _ => ?_) rfl
  · show (if i = k + 1 then Fs c (k + 1) else if i ≤ k then Fs c i else 0) = if i ≤ k + 1 then Fs c i else 0
    by_cases h : i = k + 1
    · subst h; rw [if_pos rfl, if_pos (Nat.le_refl _)]
    · rw [if_neg h]
      by_cases h2 : i ≤ k
      · rw [if_pos h2, if_pos (by omega)]
      · rw [if_neg h2, if_neg (by omega)]
  · show (if i = k + 1 then Bf c (k + 1) else if i ≤ k then Bf c i else 0) = if i ≤ k + 1 then Bf c i else 0
    by_cases h : i = k + 1
    · subst h; rw [if_pos rfl, if_pos (Nat.le_refl _)]
    · rw [if_neg h]
      by_cases h2 : i ≤ k
      · rw [if_pos h2, if_pos (by omega)]
      · rw [if_neg h2, if_neg (by omega)]

theorem wrap64 {z : Int} {n : Nat} (h1 : z = n) (h2 : n ≤ 9223372036854775807) : IntKind.i64.wrap z = (n : Int) := by
  rw [IntKind.wrap_i64]; omega

theorem Bf_le_of (c : Nat → Nat) (hc : ∀ i, i < 16 → c i ≤ 65536) {k : Nat} (hk : k ≤ 16) : Bf c k ≤ 65536 * k := by
  induction k with
  | zero => simp [Bf]
  | succ k ih =>
    rw [Bf_succ]
    have := ih (by omega)
    have := hc k (by omega)
    omega

set_option maxRecDepth 100000 in
set_option maxHeartbeats 2000000 in
theorem order_any (g : Nat) (c : Nat → Nat) (w : World) (h : Tbl w g (TF.new c)) (_ : c 0 = 0) (hc : ∀ i, i < 16 → c i ≤ 65536) (hS : Sm c 16 ≤ 32768) :
    Calls Tryd.prog 59 #[.pointer (some ⟨g, 0, none⟩)] w fun e w' => e = .returned (.tuple #[]) ∧ Tbl w' g (TF.ord c 15) ∧ Only [g] w w' := by
  have HH := hide h
  clear h
  go_enter Tryd.func59, Tryd.ntmps59
  go_wp2_with fail
  go_loopw [2] (fun n wr => ∃ k : Nat, k ≤ 15 ∧ n = .int .i64 ((k + 1 : Nat) : Int) ∧ Tbl wr g (TF.ord c k) ∧ Only [g] w wr) (fun n _ => 17 - (intOf n).toNat)
  case atStart =>
    refine ⟨0, by omega, rfl, ?_, Only.refl _ _⟩
    have : TF.cells (TF.ord c 0) = TF.cells (TF.new c) := TF.ext (f := TF.new c) (f' := TF.ord c 0) (fun _ _ => rfl) (fun _ _ => rfl) (fun _ _ => rfl) (fun _ _ => rfl)
      (fun i _ => by
        show (if i ≤ 0 then Fs c i else 0) = 0
        by_cases hi : i ≤ 0
        · obtain rfl : i = 0 := by omega
          rfl
        · rw [if_neg hi])
      (fun i _ => by
        show (if i ≤ 0 then Bf c i else 0) = 0
        by_cases hi : i ≤ 0
        · obtain rfl : i = 0 := by omega
          rfl
        · rw [if_neg hi]) rfl
    unfold Tbl
    rw [this]; exact HH.out
  case round =>
    obtain ⟨k, hk, rfl, hT, ho⟩ := hrel
    by_cases hlt : k < 15
    · have a1 : wr.cell? ⟨g, 976 + k, none⟩ = some (.int .i64 (Fs c k : Nat)) := by
        rw [hT.cell (by omega), TF.at_fst _ (by omega)]; show some (Value.int .i64 ((if k ≤ k then Fs c k else 0 : Nat) : Int)) = _; rw [if_pos (Nat.le_refl _)]
      have a2 : wr.cell? ⟨g, 960 + k, none⟩ = some (.int .i64 (c k : Nat)) := by rw [hT.cell (by omega), TF.at_cnt _ (by omega)]; rfl
      have a3 : wr.cell? ⟨g, 976 + (k + 1), none⟩ = some (.int .i64 0) := by
        rw [hT.cell (by omega), TF.at_fst _ (by omega)]; show some (Value.int .i64 ((if k + 1 ≤ k then Fs c (k + 1) else 0 : Nat) : Int)) = _; rw [if_neg (by omega)]; rfl
      have f3 : wr.frozen? ⟨g, 976 + (k + 1), none⟩ = false := Has.free hT _
      have b1 := Fs_le c k (by omega) hS
      have b2 := Nat.pow_le_pow_right (n := 2) (by decide) (show k ≤ 14 by omega)
      have e1 : ((k + 1 : Nat) : Int) - 1 = (k : Int) := by omega
      have e2 : ((k + 1 : Nat) : Int) ≤ 15 := by omega
      have e4 : ((k + 1 : Nat) : Int) < 16 := by omega
      have e3 : (0 : Int) ≤ ((k + 1 : Nat) : Int) := by omega
      have q0 : (0 : Int) ≤ (k : Int) := by omega
      have q1 : (k : Int) < 16 := by omega
      have b3 : Fs c k + c k ≤ 16384 := Nat.le_trans b1 b2
      have hF := Fs_succ c k
      have w1 : IntKind.i64.wrap (k : Int) = (k : Int) := wrap64 rfl (by omega)
      have w2 : IntKind.i64.wrap ((Fs c k : Int) + (c k : Int)) = ((Fs c k + c k : Nat) : Int) := wrap64 (by omega) (by omega)
      have hst := ord_step c k (Bf c k + c k) (2 * (Fs c k + c k)) rfl rfl
      have hBk := Bf_le_of c hc (show k ≤ 16 by omega)
      have hck2 := hc k (by omega)
      have hcn := hc (k + 1) (by omega)
      have b4 : wr.cell? ⟨g, 992 + k, none⟩ = some (.int .i64 (Bf c k : Nat)) := by
        rw [hT.cell (by omega), TF.at_bef _ (by omega)]; show some (Value.int .i64 ((if k ≤ k then Bf c k else 0 : Nat) : Int)) = _; rw [if_pos (Nat.le_refl _)]
      have b5 : wr.cell? ⟨g, 992 + (k + 1), none⟩ = some (.int .i64 0) := by
        rw [hT.cell (by omega), TF.at_bef _ (by omega)]; show some (Value.int .i64 ((if k + 1 ≤ k then Bf c (k + 1) else 0 : Nat) : Int)) = _; rw [if_neg (by omega)]; rfl
      have b6 : wr.cell? ⟨g, 960 + (k + 1), none⟩ = some (.int .i64 (c (k + 1) : Nat)) := by rw [hT.cell (by omega), TF.at_cnt _ (by omega)]; rfl
      have b7 : wr.cell? ⟨g, 1008, none⟩ = some (.int .i64 (Lg c k : Nat)) := by rw [hT.cell (by omega), TF.at_lng]; rfl
      have w3 : IntKind.i64.wrap ((Bf c k : Int) + (c k : Int)) = ((Bf c k + c k : Nat) : Int) := wrap64 (by omega) (by omega)
      have hb5 : Bf c k + c k ≤ 4611686018427387904 := by omega
      have hLs : Lg c (k + 1) = if 0 < c (k + 1) then k + 1 else Lg c k := rfl
      have fr : ∀ i, wr.frozen? ⟨g, i, none⟩ = false := fun i => Has.free hT i
      clear hBk hck2
      have HR := hide (And.intro hT (And.intro ho (And.intro hst (And.intro fr hLs))))
      have HB := hide (And.intro b4 (And.intro b5 (And.intro b6 b7)))
      clear hT ho b1 b2 hst hLs fr b4 b5 b6 b7
      generalize hFk : Fs c k = F at *
      generalize hck : c k = C at *
      generalize hBk : Bf c k = B at *
      generalize hcn2 : c (k + 1) = D at *
      generalize hLk : Lg c k = L at *
      generalize hn : k + 1 = n at *
      have HZ := hide (And.intro hFk (And.intro hck (And.intro hBk (And.intro hcn2 (And.intro hLk hn)))))
      have hnk : k < n := by omega
      clear hFk hck hBk hcn2 hLk hn
      go_wp2_with fail
      go_still_tail 21, (by kernel_rfl)
      change wpList _ _ _ _ _ wr.drew
      go_wp2_with fail
      have T1 := (HR.out.1.set (TF.set_fst _ (show n < 16 by omega) (2 * (F + C)))).drew
      have O1 := (HR.out.2.1.setCell (p := ⟨g, 976 + n, none⟩) (by simp) (.int .i64 ((2 * (F + C) : Nat) : Int))).drew
      rw [show ((2 * (F + C) : Nat) : Int) = ((F : Int) + (C : Int)) * 2 by omega] at T1 O1
      generalize (wr.setCell ⟨g, 976 + n, none⟩ (.int .i64 (((F : Int) + (C : Int)) * 2))).drew = wa at *
      clear a1 a2 a3 f3
      have a1 : wa.cell? ⟨g, 992 + k, none⟩ = some (.int .i64 (B : Int)) := by
        rw [T1.cell (by omega), TF.at_bef _ (by omega)]
        have := HB.out.1; rw [HR.out.1.cell (by omega), TF.at_bef _ (by omega)] at this; exact this
      have a2 : wa.cell? ⟨g, 960 + k, none⟩ = some (.int .i64 (C : Int)) := by rw [T1.cell (by omega), TF.at_cnt _ (by omega)]; show some (Value.int .i64 ((c k : Nat) : Int)) = _; rw [HZ.out.2.1]
      have a3 : wa.cell? ⟨g, 992 + n, none⟩ = some (.int .i64 0) := by
        rw [T1.cell (by omega), TF.at_bef _ (by omega)]
        have := HB.out.2.1; rw [HR.out.1.cell (by omega), TF.at_bef _ (by omega)] at this; exact this
      have f3 : wa.frozen? ⟨g, 992 + n, none⟩ = false := Has.free T1 _
      have a4 : wa.cell? ⟨g, 960 + n, none⟩ = some (.int .i64 (D : Int)) := by rw [T1.cell (by omega), TF.at_cnt _ (by omega)]; show some (Value.int .i64 ((c n : Nat) : Int)) = _; rw [HZ.out.2.2.2.1]
      have a5 : wa.cell? ⟨g, 1008, none⟩ = some (.int .i64 (L : Int)) := by rw [T1.cell (by omega), TF.at_lng]; show some (Value.int .i64 ((Lg c k : Nat) : Int)) = _; rw [HZ.out.2.2.2.2.1]
      have f5 : wa.frozen? ⟨g, 1008, none⟩ = false := Has.free T1 _
      have HT1 := hide (And.intro T1 O1)
      clear T1 O1
      have HE : (Lg c n = n ∧ 0 < D) ∨ (Lg c n = L ∧ D = 0) := by
        have := HR.out.2.2.2.2
        by_cases hD : 0 < D
        · rw [if_pos hD] at this; exact .inl ⟨this, hD⟩
        · rw [if_neg hD] at this; exact .inr ⟨this, by omega⟩
      rcases HE with ⟨hL, hD⟩ | ⟨hL, rfl⟩
      · have HL := hide hL
        clear hL
        go_still_tail 20, (by kernel_rfl)
        change wpList _ _ _ _ _ wa.drew
        go_wp2_with fail
        go_roundw
        case rel =>
          have T2 := ((HT1.out.1.set (TF.set_bef _ (show n < 16 by omega) (B + C))).set (TF.set_lng _ n)).drew
          have O2 := ((HT1.out.2.setCell (p := ⟨g, 992 + n, none⟩) (by simp) (.int .i64 ((B + C : Nat) : Int))).setCell (p := ⟨g, 1008, none⟩) (by simp) (.int .i64 (n : Int))).drew
          rw [Int.natCast_add] at T2 O2
          refine ⟨n, by omega, by go_num, ?_, O2⟩
          unfold Tbl
          rw [← HR.out.2.2.1 n HL.out]
          exact T2
        case measure => simp [intOf]; omega
      · have HL := hide hL
        clear hL
        go_still_tail 20, (by kernel_rfl)
        change wpList _ _ _ _ _ wa.drew
        go_wp2_with fail
        go_roundw
        case rel =>
          have T2 := (HT1.out.1.set (TF.set_bef _ (show n < 16 by omega) (B + C))).drew
          have O2 := (HT1.out.2.setCell (p := ⟨g, 992 + n, none⟩) (by simp) (.int .i64 ((B + C : Nat) : Int))).drew
          rw [Int.natCast_add] at T2 O2
          refine ⟨n, by omega, by go_num, ?_, O2⟩
          unfold Tbl
          rw [← HR.out.2.2.1 L HL.out]
          have e : (TF.ord c k).lng = L := HZ.out.2.2.2.2.1
          rw [← e]
          exact T2
        case measure => simp [intOf]; omega
    · obtain rfl : k = 15 := by omega
      go_wp2_with fail
      go_end0
      exact ⟨rfl, hT, ho⟩
end Go.Proofs.YtglkfgpefpebmaaDoor
