/-
  Package filter: Adam7's passes.
-/
import Derived.Test.YtopjkmobnmaaaaaFiJ
namespace Go.Proofs.Ytopjkmobnmaaaaa
open Go Go.RowKit

/-- The cells of the first k passes. -/
def passV (i : Nat) : List Value := [.int .i64 (adX i), .int .i64 (adY i), .int .i64 (adW i), .int .i64 (adH i)]
def pvals : Nat → List Value
  | 0 => []
  | k + 1 => pvals k ++ passV k
theorem pvals_length : ∀ k, (pvals k).length = k * 4
  | 0 => rfl
  | k + 1 => by rw [pvals, List.length_append, pvals_length k, Nat.add_mul]; rfl

theorem holds4 (w : World) (x y p q : Int) (t : TypeId) : Holds (w.alloc (.cells #[.int .i64 x, .int .i64 y, .int .i64 p, .int .i64 q] t)) 4 (some ⟨w.heap.size, 0, none⟩) 1 [.int .i64 x, .int .i64 y, .int .i64 p, .int .i64 q] := by
  have h := Holds.lit w #[.int .i64 x, .int .i64 y, .int .i64 p, .int .i64 q] t
  exact ⟨rfl, fun _ => h.2 (by simp)⟩
theorem own4 (w : World) (x y p q : Int) : (w.alloc (.cells #[.int .i64 x, .int .i64 y, .int .i64 p, .int .i64 q] 40)).ownsRow w.heap.size 40 4 (.slice (some ⟨w.heap.size, 0, none⟩) 1 1) 1 [.int .i64 x, .int .i64 y, .int .i64 p, .int .i64 q] :=
  ⟨rfl, .inr ⟨w.heap.size, 1, #[.int .i64 x, .int .i64 y, .int .i64 p, .int .i64 q], rfl, Nat.le_refl _, Has.new w _ _, Nat.le_refl _, by unfold maxLen; omega, rfl, rfl⟩⟩
theorem own_at {w : World} {base e size n b : Nat} {v : Value} {xs : List Value} (h : w.ownsRow base e size v n xs) (hb : v.ownBlock = some b) : base ≤ b ∧ b < w.heap.size := by
  rcases h.2 with ⟨rfl, _⟩ | ⟨g, cap, cur, rfl, h1, h2, _⟩
  · simp [Value.ownBlock] at hb
  · have : g = b := by simpa [Value.ownBlock] using hb
    subst this
    exact ⟨h1, Has.lt (cs := cur) h2⟩
theorem pass_info : (Try.prog.info? 40).map (fun i => (i.zero, i.size, i.bytes)) = some (some (.agg #[.int .i64 0, .int .i64 0, .int .i64 0, .int .i64 0]), 4, 32) := by kernel_rfl

/-- Where the loop stands: i + 1 passes are there. -/
structure PsSt (w : World) (i c : Nat) (A : Option Addr) (wr : World) : Prop where
  own : wr.ownsRow (w.heap.size + 2) 40 4 (.slice A (i + 1) c) (i + 1) (pvals (i + 1))
  kn : Has wr w.heap.size 40 #[.int .i64 0, .int .i64 0, .int .i64 (knW i), .int .i64 (knH i)]
  al : Has wr (w.heap.size + 1) 40 #[.int .i64 0, .int .i64 0, .int .i64 1, .int .i64 1]
  only : Only [] w wr
def slen : Value → Nat
  | .slice _ n _ => n
  | _ => 0

/-- One round's end. -/
theorem PsSt.next {w w2 w5 : World} {i c c' : Nat} {A A' : Option Addr} {wr : World} (S : PsSt w i c A wr) (ho : Only [] wr w2) (a b p q : Int) (hp : adW (i + 1) = p ∧ adH (i + 1) = q ∧ adX (i + 1) = a ∧ adY (i + 1) = b)
    (hown : w5.ownsRow (w.heap.size + 2) 40 4 (.slice A' (i + 1 + 1) c') (i + 1 + 1) (pvals (i + 1) ++ [.int .i64 a, .int .i64 b, .int .i64 p, .int .i64 q]))
    (hgrow : ((w2.alloc (.cells #[.int .i64 a, .int .i64 b, .int .i64 p, .int .i64 q] 40)).alloc (.cells #[.int .i64 a, .int .i64 b, .int .i64 p, .int .i64 q] 40)).grownBy w5 (Value.slice A (i + 1) c).ownBlock) :
    Has w5 w.heap.size 40 #[.int .i64 0, .int .i64 0, .int .i64 (knW i), .int .i64 (knH i)] ∧ Has w5 w2.heap.size 40 #[.int .i64 a, .int .i64 b, .int .i64 p, .int .i64 q] ∧
      (w.heap.size < w2.heap.size) ∧
      ∀ r s : Int, knW (i + 1) = r → knH (i + 1) = s → PsSt w (i + 1) c' A' (((w5.setCell ⟨w.heap.size, 2, none⟩ (.int .i64 r)).setCell ⟨w.heap.size, 3, none⟩ (.int .i64 s)).drew) := by
  obtain ⟨rfl, rfl, rfl, rfl⟩ := hp
  have ho2 : Only [] wr ((w2.alloc (.cells #[.int .i64 (adX (i + 1)), .int .i64 (adY (i + 1)), .int .i64 (adW (i + 1)), .int .i64 (adH (i + 1))] 40)).alloc (.cells #[.int .i64 (adX (i + 1)), .int .i64 (adY (i + 1)), .int .i64 (adW (i + 1)), .int .i64 (adH (i + 1))] 40)) := (ho.alloc _).alloc _
  have hk := S.kn.only ho2 (by simp)
  have ha := S.al.only ho2 (by simp)
  have hP : Has ((w2.alloc (.cells #[.int .i64 (adX (i + 1)), .int .i64 (adY (i + 1)), .int .i64 (adW (i + 1)), .int .i64 (adH (i + 1))] 40)).alloc (.cells #[.int .i64 (adX (i + 1)), .int .i64 (adY (i + 1)), .int .i64 (adW (i + 1)), .int .i64 (adH (i + 1))] 40)) w2.heap.size 40 #[.int .i64 (adX (i + 1)), .int .i64 (adY (i + 1)), .int .i64 (adW (i + 1)), .int .i64 (adH (i + 1))] := (Has.new w2 _ _).alloc _
  have n0 : some w.heap.size ≠ (Value.slice A (i + 1) c).ownBlock := fun h => by have := (own_at S.own h.symm).1; omega
  have n1 : some (w.heap.size + 1) ≠ (Value.slice A (i + 1) c).ownBlock := fun h => by have := (own_at S.own h.symm).1; omega
  have n2 : some w2.heap.size ≠ (Value.slice A (i + 1) c).ownBlock := fun h => by have := (own_at S.own h.symm).2; have := ho.size; omega
  have hk5 := hk.grown hgrow n0
  have ha5 := ha.grown hgrow n1
  have hP5 := hP.grown hgrow n2
  have hsz : w.heap.size < w2.heap.size := by have := S.kn.lt; have := ho.size; omega
  refine ⟨hk5, hP5, hsz, ?_⟩
  rintro r s rfl rfl
  have o5 : Only [] w w5 := (S.only.trans ho2 (S := []) (by simp)).grown hgrow (fun k hk hlt => by have := (own_at S.own hk).1; omega)
  have hb5 : ∀ b, (Value.slice A' (i + 1 + 1) c').ownBlock = some b → b ∉ [w.heap.size] := fun b hb => by have := (own_at hown hb).1; simp; omega
  have os : Only [w.heap.size] w5 (((w5.setCell ⟨w.heap.size, 2, none⟩ (.int .i64 (knW (i + 1)))).setCell ⟨w.heap.size, 3, none⟩ (.int .i64 (knH (i + 1)))).drew) := (((Only.refl _ w5).setCell (by simp) _).setCell (by simp) _).drew
  refine ⟨own_keep hown os hb5, ?_, ha5.only os (by simp), ?_⟩
  · exact (hk5.set 2 (.int .i64 (knW (i + 1)))).set 3 (.int .i64 (knH (i + 1)))
  · exact o5.trans os (by intro k hk hlt; simp at hk; omega)

set_option maxRecDepth 100000 in
set_option maxHeartbeats 8000000 in
theorem passes_any (w : World) : Calls Try.prog 20 #[] w fun e w' => ∃ v, e = .returned v ∧ w'.ownsRow w.heap.size 40 4 v 7 (pvals 7) ∧ Only [] w w' := by
  obtain ⟨i0, hi0, hz0, hz1, hz2⟩ := info_of pass_info
  have hS : PsSt w 0 1 (some ⟨w.heap.size + 2, 0, none⟩) (((w.alloc (.cells #[.int .i64 0, .int .i64 0, .int .i64 8, .int .i64 8] 40)).alloc (.cells #[.int .i64 0, .int .i64 0, .int .i64 1, .int .i64 1] 40)).alloc (.cells #[.int .i64 0, .int .i64 0, .int .i64 8, .int .i64 8] 40)) := by
    have h1 := own4 ((w.alloc (.cells #[.int .i64 0, .int .i64 0, .int .i64 8, .int .i64 8] 40)).alloc (.cells #[.int .i64 0, .int .i64 0, .int .i64 1, .int .i64 1] 40)) 0 0 8 8
    have e : ((w.alloc (.cells #[.int .i64 0, .int .i64 0, .int .i64 8, .int .i64 8] 40)).alloc (.cells #[.int .i64 0, .int .i64 0, .int .i64 1, .int .i64 1] 40)).heap.size = w.heap.size + 2 := by simp
    rw [e] at h1
    have h2 := Has.new (w.alloc (.cells #[.int .i64 0, .int .i64 0, .int .i64 8, .int .i64 8] 40)) 40 #[.int .i64 0, .int .i64 0, .int .i64 1, .int .i64 1]
    rw [World.size_alloc] at h2
    exact ⟨h1, ((Has.new w _ _).alloc _).alloc _, h2.alloc _, (((Only.refl [] w).alloc _).alloc _).alloc _⟩
  have H0 := hide hS
  clear hS
  go_enter Try.func20, Try.ntmps20
  go_wp2_with fail
  go_loopw [3] (fun v wr => ∃ (i : Nat) (A : Option Addr) (c : Nat), i ≤ 6 ∧ v = .slice A (i + 1) c ∧ PsSt w i c A wr) (fun v _ => 7 - slen v)
  case atStart => exact ⟨0, _, _, by omega, rfl, H0.out⟩
  case round =>
    obtain ⟨i, A, c, hi, rfl, S⟩ := hrel
    by_cases hlt : i < 6
    · rcases (show i = 0 ∨ i = 1 ∨ i = 2 ∨ i = 3 ∨ i = 4 ∨ i = 5 by omega) with rfl | rfl | rfl | rfl | rfl | rfl
      · have k2 := S.kn
        have k3 := S.al
        rw [show knW 0 = 8 from rfl, show knH 0 = 8 from rfl] at k2
        have a0 := k2.cell 0
        have a1 := k2.cell 1
        have a2 := k2.cell 2
        have a3 := k2.cell 3
        have b0 := k3.cell 0
        have b1 := k3.cell 1
        have b2 := k3.cell 2
        have b3 := k3.cell 3
        simp only [List.getElem?_toArray, List.getElem?_cons_zero, List.getElem?_cons_succ] at a0 a1 a2 a3 b0 b1 b2 b3
        have HB : Hid (∀ w, Calls Try.prog 33 #[.agg #[.int .i64 0, .int .i64 0, .int .i64 8, .int .i64 8]] w fun e w' => e = .returned (.agg #[.int .i64 4, .int .i64 0, .int .i64 8, .int .i64 8]) ∧ Only [] w w') := hide (fun w => between_any 8 8 4 0 w (by omega) (by omega) rfl rfl)
        have HS := hide S
        clear k2 k3 S
        go_wp2_with fail
        refine (HB.out _).mono ?_
        rintro e w2 ⟨rfl, ho⟩
        have HO := hide ho
        have h4 := holds4 (w2.alloc (.cells #[.int .i64 4, .int .i64 0, .int .i64 8, .int .i64 8] 40)) 4 0 8 8 40
        rw [World.size_alloc] at h4
        have how : ((w2.alloc (.cells #[.int .i64 4, .int .i64 0, .int .i64 8, .int .i64 8] 40)).alloc (.cells #[.int .i64 4, .int .i64 0, .int .i64 8, .int .i64 8] 40)).ownsRow (w.heap.size + 2) 40 4 (.slice A (0 + 1) c) (0 + 1) (pvals (0 + 1)) := own_keep HS.out.own ((ho.alloc _).alloc _) (by simp)
        have hbase : w.heap.size + 2 ≤ ((w2.alloc (.cells #[.int .i64 4, .int .i64 0, .int .i64 8, .int .i64 8] 40)).alloc (.cells #[.int .i64 4, .int .i64 0, .int .i64 8, .int .i64 8] 40)).heap.size := by
          have := HS.out.al.lt
          have := ho.size
          simp
          omega
        have H4 := hide (And.intro h4 (And.intro how hbase))
        clear h4 how hbase ho a0 a1 a2 a3 b0 b1 b2 b3
        go_wp2_with (at_builtin; refine list_append _ rfl (.tmp 14) (.tmp 16) 45 rfl (w.heap.size + 2) 4 32 Try.underlying45 hi0 hz0 hz1 hz2 rfl (by omega) H4.out.2.1 rfl H4.out.1 rfl (by simp [Value.oneCell']) (by omega) (by omega) H4.out.2.2 ?_; intro A' c' w5 hown hgrow hat; obtain ⟨n1, n2, n3, n4⟩ := HS.out.next HO.out 4 0 8 8 ⟨rfl, rfl, rfl, rfl⟩ hown hgrow; have a2 := n1.cell 2; have a3 := n1.cell 3; have f2 := n1.free 2; have f3 := n1.free 3; have b0 := n2.cell 0; have b1 := n2.cell 1; have b2 := n2.cell 2; have b3 := n2.cell 3; simp only [List.getElem?_toArray, List.getElem?_cons_zero, List.getElem?_cons_succ] at a2 a3 b0 b1 b2 b3; have HN := hide (n4 4 8 rfl rfl); clear n1 n2 n4 hown hgrow hat)
        go_region
        go_wp2_with fail
        go_roundw
        case rel => exact ⟨0 + 1, A', c', by omega, rfl, HN.out⟩
        case measure => simp [slen]
      · have k2 := S.kn
        have k3 := S.al
        rw [show knW 1 = 4 from rfl, show knH 1 = 8 from rfl] at k2
        have a0 := k2.cell 0
        have a1 := k2.cell 1
        have a2 := k2.cell 2
        have a3 := k2.cell 3
        have b0 := k3.cell 0
        have b1 := k3.cell 1
        have b2 := k3.cell 2
        have b3 := k3.cell 3
        simp only [List.getElem?_toArray, List.getElem?_cons_zero, List.getElem?_cons_succ] at a0 a1 a2 a3 b0 b1 b2 b3
        have HB : Hid (∀ w, Calls Try.prog 33 #[.agg #[.int .i64 0, .int .i64 0, .int .i64 4, .int .i64 8]] w fun e w' => e = .returned (.agg #[.int .i64 0, .int .i64 4, .int .i64 4, .int .i64 8]) ∧ Only [] w w') := hide (fun w => between_any 4 8 0 4 w (by omega) (by omega) rfl rfl)
        have HS := hide S
        clear k2 k3 S
        go_wp2_with fail
        refine (HB.out _).mono ?_
        rintro e w2 ⟨rfl, ho⟩
        have HO := hide ho
        have h4 := holds4 (w2.alloc (.cells #[.int .i64 0, .int .i64 4, .int .i64 4, .int .i64 8] 40)) 0 4 4 8 40
        rw [World.size_alloc] at h4
        have how : ((w2.alloc (.cells #[.int .i64 0, .int .i64 4, .int .i64 4, .int .i64 8] 40)).alloc (.cells #[.int .i64 0, .int .i64 4, .int .i64 4, .int .i64 8] 40)).ownsRow (w.heap.size + 2) 40 4 (.slice A (1 + 1) c) (1 + 1) (pvals (1 + 1)) := own_keep HS.out.own ((ho.alloc _).alloc _) (by simp)
        have hbase : w.heap.size + 2 ≤ ((w2.alloc (.cells #[.int .i64 0, .int .i64 4, .int .i64 4, .int .i64 8] 40)).alloc (.cells #[.int .i64 0, .int .i64 4, .int .i64 4, .int .i64 8] 40)).heap.size := by
          have := HS.out.al.lt
          have := ho.size
          simp
          omega
        have H4 := hide (And.intro h4 (And.intro how hbase))
        clear h4 how hbase ho a0 a1 a2 a3 b0 b1 b2 b3
        go_wp2_with (at_builtin; refine list_append _ rfl (.tmp 14) (.tmp 16) 45 rfl (w.heap.size + 2) 4 32 Try.underlying45 hi0 hz0 hz1 hz2 rfl (by omega) H4.out.2.1 rfl H4.out.1 rfl (by simp [Value.oneCell']) (by omega) (by omega) H4.out.2.2 ?_; intro A' c' w5 hown hgrow hat; obtain ⟨n1, n2, n3, n4⟩ := HS.out.next HO.out 0 4 4 8 ⟨rfl, rfl, rfl, rfl⟩ hown hgrow; have a2 := n1.cell 2; have a3 := n1.cell 3; have f2 := n1.free 2; have f3 := n1.free 3; have b0 := n2.cell 0; have b1 := n2.cell 1; have b2 := n2.cell 2; have b3 := n2.cell 3; simp only [List.getElem?_toArray, List.getElem?_cons_zero, List.getElem?_cons_succ] at a2 a3 b0 b1 b2 b3; have HN := hide (n4 4 4 rfl rfl); clear n1 n2 n4 hown hgrow hat)
        go_region
        go_wp2_with fail
        go_roundw
        case rel => exact ⟨1 + 1, A', c', by omega, rfl, HN.out⟩
        case measure => simp [slen]
      · have k2 := S.kn
        have k3 := S.al
        rw [show knW 2 = 4 from rfl, show knH 2 = 4 from rfl] at k2
        have a0 := k2.cell 0
        have a1 := k2.cell 1
        have a2 := k2.cell 2
        have a3 := k2.cell 3
        have b0 := k3.cell 0
        have b1 := k3.cell 1
        have b2 := k3.cell 2
        have b3 := k3.cell 3
        simp only [List.getElem?_toArray, List.getElem?_cons_zero, List.getElem?_cons_succ] at a0 a1 a2 a3 b0 b1 b2 b3
        have HB : Hid (∀ w, Calls Try.prog 33 #[.agg #[.int .i64 0, .int .i64 0, .int .i64 4, .int .i64 4]] w fun e w' => e = .returned (.agg #[.int .i64 2, .int .i64 0, .int .i64 4, .int .i64 4]) ∧ Only [] w w') := hide (fun w => between_any 4 4 2 0 w (by omega) (by omega) rfl rfl)
        have HS := hide S
        clear k2 k3 S
        go_wp2_with fail
        refine (HB.out _).mono ?_
        rintro e w2 ⟨rfl, ho⟩
        have HO := hide ho
        have h4 := holds4 (w2.alloc (.cells #[.int .i64 2, .int .i64 0, .int .i64 4, .int .i64 4] 40)) 2 0 4 4 40
        rw [World.size_alloc] at h4
        have how : ((w2.alloc (.cells #[.int .i64 2, .int .i64 0, .int .i64 4, .int .i64 4] 40)).alloc (.cells #[.int .i64 2, .int .i64 0, .int .i64 4, .int .i64 4] 40)).ownsRow (w.heap.size + 2) 40 4 (.slice A (2 + 1) c) (2 + 1) (pvals (2 + 1)) := own_keep HS.out.own ((ho.alloc _).alloc _) (by simp)
        have hbase : w.heap.size + 2 ≤ ((w2.alloc (.cells #[.int .i64 2, .int .i64 0, .int .i64 4, .int .i64 4] 40)).alloc (.cells #[.int .i64 2, .int .i64 0, .int .i64 4, .int .i64 4] 40)).heap.size := by
          have := HS.out.al.lt
          have := ho.size
          simp
          omega
        have H4 := hide (And.intro h4 (And.intro how hbase))
        clear h4 how hbase ho a0 a1 a2 a3 b0 b1 b2 b3
        go_wp2_with (at_builtin; refine list_append _ rfl (.tmp 14) (.tmp 16) 45 rfl (w.heap.size + 2) 4 32 Try.underlying45 hi0 hz0 hz1 hz2 rfl (by omega) H4.out.2.1 rfl H4.out.1 rfl (by simp [Value.oneCell']) (by omega) (by omega) H4.out.2.2 ?_; intro A' c' w5 hown hgrow hat; obtain ⟨n1, n2, n3, n4⟩ := HS.out.next HO.out 2 0 4 4 ⟨rfl, rfl, rfl, rfl⟩ hown hgrow; have a2 := n1.cell 2; have a3 := n1.cell 3; have f2 := n1.free 2; have f3 := n1.free 3; have b0 := n2.cell 0; have b1 := n2.cell 1; have b2 := n2.cell 2; have b3 := n2.cell 3; simp only [List.getElem?_toArray, List.getElem?_cons_zero, List.getElem?_cons_succ] at a2 a3 b0 b1 b2 b3; have HN := hide (n4 2 4 rfl rfl); clear n1 n2 n4 hown hgrow hat)
        go_region
        go_wp2_with fail
        go_roundw
        case rel => exact ⟨2 + 1, A', c', by omega, rfl, HN.out⟩
        case measure => simp [slen]
      · have k2 := S.kn
        have k3 := S.al
        rw [show knW 3 = 2 from rfl, show knH 3 = 4 from rfl] at k2
        have a0 := k2.cell 0
        have a1 := k2.cell 1
        have a2 := k2.cell 2
        have a3 := k2.cell 3
        have b0 := k3.cell 0
        have b1 := k3.cell 1
        have b2 := k3.cell 2
        have b3 := k3.cell 3
        simp only [List.getElem?_toArray, List.getElem?_cons_zero, List.getElem?_cons_succ] at a0 a1 a2 a3 b0 b1 b2 b3
        have HB : Hid (∀ w, Calls Try.prog 33 #[.agg #[.int .i64 0, .int .i64 0, .int .i64 2, .int .i64 4]] w fun e w' => e = .returned (.agg #[.int .i64 0, .int .i64 2, .int .i64 2, .int .i64 4]) ∧ Only [] w w') := hide (fun w => between_any 2 4 0 2 w (by omega) (by omega) rfl rfl)
        have HS := hide S
        clear k2 k3 S
        go_wp2_with fail
        refine (HB.out _).mono ?_
        rintro e w2 ⟨rfl, ho⟩
        have HO := hide ho
        have h4 := holds4 (w2.alloc (.cells #[.int .i64 0, .int .i64 2, .int .i64 2, .int .i64 4] 40)) 0 2 2 4 40
        rw [World.size_alloc] at h4
        have how : ((w2.alloc (.cells #[.int .i64 0, .int .i64 2, .int .i64 2, .int .i64 4] 40)).alloc (.cells #[.int .i64 0, .int .i64 2, .int .i64 2, .int .i64 4] 40)).ownsRow (w.heap.size + 2) 40 4 (.slice A (3 + 1) c) (3 + 1) (pvals (3 + 1)) := own_keep HS.out.own ((ho.alloc _).alloc _) (by simp)
        have hbase : w.heap.size + 2 ≤ ((w2.alloc (.cells #[.int .i64 0, .int .i64 2, .int .i64 2, .int .i64 4] 40)).alloc (.cells #[.int .i64 0, .int .i64 2, .int .i64 2, .int .i64 4] 40)).heap.size := by
          have := HS.out.al.lt
          have := ho.size
          simp
          omega
        have H4 := hide (And.intro h4 (And.intro how hbase))
        clear h4 how hbase ho a0 a1 a2 a3 b0 b1 b2 b3
        go_wp2_with (at_builtin; refine list_append _ rfl (.tmp 14) (.tmp 16) 45 rfl (w.heap.size + 2) 4 32 Try.underlying45 hi0 hz0 hz1 hz2 rfl (by omega) H4.out.2.1 rfl H4.out.1 rfl (by simp [Value.oneCell']) (by omega) (by omega) H4.out.2.2 ?_; intro A' c' w5 hown hgrow hat; obtain ⟨n1, n2, n3, n4⟩ := HS.out.next HO.out 0 2 2 4 ⟨rfl, rfl, rfl, rfl⟩ hown hgrow; have a2 := n1.cell 2; have a3 := n1.cell 3; have f2 := n1.free 2; have f3 := n1.free 3; have b0 := n2.cell 0; have b1 := n2.cell 1; have b2 := n2.cell 2; have b3 := n2.cell 3; simp only [List.getElem?_toArray, List.getElem?_cons_zero, List.getElem?_cons_succ] at a2 a3 b0 b1 b2 b3; have HN := hide (n4 2 2 rfl rfl); clear n1 n2 n4 hown hgrow hat)
        go_region
        go_wp2_with fail
        go_roundw
        case rel => exact ⟨3 + 1, A', c', by omega, rfl, HN.out⟩
        case measure => simp [slen]
      · have k2 := S.kn
        have k3 := S.al
        rw [show knW 4 = 2 from rfl, show knH 4 = 2 from rfl] at k2
        have a0 := k2.cell 0
        have a1 := k2.cell 1
        have a2 := k2.cell 2
        have a3 := k2.cell 3
        have b0 := k3.cell 0
        have b1 := k3.cell 1
        have b2 := k3.cell 2
        have b3 := k3.cell 3
        simp only [List.getElem?_toArray, List.getElem?_cons_zero, List.getElem?_cons_succ] at a0 a1 a2 a3 b0 b1 b2 b3
        have HB : Hid (∀ w, Calls Try.prog 33 #[.agg #[.int .i64 0, .int .i64 0, .int .i64 2, .int .i64 2]] w fun e w' => e = .returned (.agg #[.int .i64 1, .int .i64 0, .int .i64 2, .int .i64 2]) ∧ Only [] w w') := hide (fun w => between_any 2 2 1 0 w (by omega) (by omega) rfl rfl)
        have HS := hide S
        clear k2 k3 S
        go_wp2_with fail
        refine (HB.out _).mono ?_
        rintro e w2 ⟨rfl, ho⟩
        have HO := hide ho
        have h4 := holds4 (w2.alloc (.cells #[.int .i64 1, .int .i64 0, .int .i64 2, .int .i64 2] 40)) 1 0 2 2 40
        rw [World.size_alloc] at h4
        have how : ((w2.alloc (.cells #[.int .i64 1, .int .i64 0, .int .i64 2, .int .i64 2] 40)).alloc (.cells #[.int .i64 1, .int .i64 0, .int .i64 2, .int .i64 2] 40)).ownsRow (w.heap.size + 2) 40 4 (.slice A (4 + 1) c) (4 + 1) (pvals (4 + 1)) := own_keep HS.out.own ((ho.alloc _).alloc _) (by simp)
        have hbase : w.heap.size + 2 ≤ ((w2.alloc (.cells #[.int .i64 1, .int .i64 0, .int .i64 2, .int .i64 2] 40)).alloc (.cells #[.int .i64 1, .int .i64 0, .int .i64 2, .int .i64 2] 40)).heap.size := by
          have := HS.out.al.lt
          have := ho.size
          simp
          omega
        have H4 := hide (And.intro h4 (And.intro how hbase))
        clear h4 how hbase ho a0 a1 a2 a3 b0 b1 b2 b3
        go_wp2_with (at_builtin; refine list_append _ rfl (.tmp 14) (.tmp 16) 45 rfl (w.heap.size + 2) 4 32 Try.underlying45 hi0 hz0 hz1 hz2 rfl (by omega) H4.out.2.1 rfl H4.out.1 rfl (by simp [Value.oneCell']) (by omega) (by omega) H4.out.2.2 ?_; intro A' c' w5 hown hgrow hat; obtain ⟨n1, n2, n3, n4⟩ := HS.out.next HO.out 1 0 2 2 ⟨rfl, rfl, rfl, rfl⟩ hown hgrow; have a2 := n1.cell 2; have a3 := n1.cell 3; have f2 := n1.free 2; have f3 := n1.free 3; have b0 := n2.cell 0; have b1 := n2.cell 1; have b2 := n2.cell 2; have b3 := n2.cell 3; simp only [List.getElem?_toArray, List.getElem?_cons_zero, List.getElem?_cons_succ] at a2 a3 b0 b1 b2 b3; have HN := hide (n4 1 2 rfl rfl); clear n1 n2 n4 hown hgrow hat)
        go_region
        go_wp2_with fail
        go_roundw
        case rel => exact ⟨4 + 1, A', c', by omega, rfl, HN.out⟩
        case measure => simp [slen]
      · have k2 := S.kn
        have k3 := S.al
        rw [show knW 5 = 1 from rfl, show knH 5 = 2 from rfl] at k2
        have a0 := k2.cell 0
        have a1 := k2.cell 1
        have a2 := k2.cell 2
        have a3 := k2.cell 3
        have b0 := k3.cell 0
        have b1 := k3.cell 1
        have b2 := k3.cell 2
        have b3 := k3.cell 3
        simp only [List.getElem?_toArray, List.getElem?_cons_zero, List.getElem?_cons_succ] at a0 a1 a2 a3 b0 b1 b2 b3
        have HB : Hid (∀ w, Calls Try.prog 33 #[.agg #[.int .i64 0, .int .i64 0, .int .i64 1, .int .i64 2]] w fun e w' => e = .returned (.agg #[.int .i64 0, .int .i64 1, .int .i64 1, .int .i64 2]) ∧ Only [] w w') := hide (fun w => between_any 1 2 0 1 w (by omega) (by omega) rfl rfl)
        have HS := hide S
        clear k2 k3 S
        go_wp2_with fail
        refine (HB.out _).mono ?_
        rintro e w2 ⟨rfl, ho⟩
        have HO := hide ho
        have h4 := holds4 (w2.alloc (.cells #[.int .i64 0, .int .i64 1, .int .i64 1, .int .i64 2] 40)) 0 1 1 2 40
        rw [World.size_alloc] at h4
        have how : ((w2.alloc (.cells #[.int .i64 0, .int .i64 1, .int .i64 1, .int .i64 2] 40)).alloc (.cells #[.int .i64 0, .int .i64 1, .int .i64 1, .int .i64 2] 40)).ownsRow (w.heap.size + 2) 40 4 (.slice A (5 + 1) c) (5 + 1) (pvals (5 + 1)) := own_keep HS.out.own ((ho.alloc _).alloc _) (by simp)
        have hbase : w.heap.size + 2 ≤ ((w2.alloc (.cells #[.int .i64 0, .int .i64 1, .int .i64 1, .int .i64 2] 40)).alloc (.cells #[.int .i64 0, .int .i64 1, .int .i64 1, .int .i64 2] 40)).heap.size := by
          have := HS.out.al.lt
          have := ho.size
          simp
          omega
        have H4 := hide (And.intro h4 (And.intro how hbase))
        clear h4 how hbase ho a0 a1 a2 a3 b0 b1 b2 b3
        go_wp2_with (at_builtin; refine list_append _ rfl (.tmp 14) (.tmp 16) 45 rfl (w.heap.size + 2) 4 32 Try.underlying45 hi0 hz0 hz1 hz2 rfl (by omega) H4.out.2.1 rfl H4.out.1 rfl (by simp [Value.oneCell']) (by omega) (by omega) H4.out.2.2 ?_; intro A' c' w5 hown hgrow hat; obtain ⟨n1, n2, n3, n4⟩ := HS.out.next HO.out 0 1 1 2 ⟨rfl, rfl, rfl, rfl⟩ hown hgrow; have a2 := n1.cell 2; have a3 := n1.cell 3; have f2 := n1.free 2; have f3 := n1.free 3; have b0 := n2.cell 0; have b1 := n2.cell 1; have b2 := n2.cell 2; have b3 := n2.cell 3; simp only [List.getElem?_toArray, List.getElem?_cons_zero, List.getElem?_cons_succ] at a2 a3 b0 b1 b2 b3; have HN := hide (n4 1 1 rfl rfl); clear n1 n2 n4 hown hgrow hat)
        go_region
        go_wp2_with fail
        go_roundw
        case rel => exact ⟨5 + 1, A', c', by omega, rfl, HN.out⟩
        case measure => simp [slen]
    · obtain rfl : i = 6 := by omega
      have k2 := S.kn
      have k3 := S.al
      rw [show knW 6 = 1 from rfl, show knH 6 = 1 from rfl] at k2
      have a0 := k2.cell 0
      have a1 := k2.cell 1
      have a2 := k2.cell 2
      have a3 := k2.cell 3
      have b0 := k3.cell 0
      have b1 := k3.cell 1
      have b2 := k3.cell 2
      have b3 := k3.cell 3
      simp only [List.getElem?_toArray, List.getElem?_cons_zero, List.getElem?_cons_succ] at a0 a1 a2 a3 b0 b1 b2 b3
      have HS := hide S
      clear k2 k3 S
      go_wp2_with fail
      go_ret
      exact ⟨_, rfl, own_mono HS.out.own (by omega), HS.out.only⟩
end Go.Proofs.Ytopjkmobnmaaaaa
