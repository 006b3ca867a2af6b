/-
  Statement RingPlays: any size, any acts: each answer, and all that there is, behind each, as the document's.
  Conditions: none.
-/
import Derived.Test.YtakeoabeaopamaaRows
import Derived.Test.YtakeoabeaopamaaLaw
import Derived.Test.YtakeoabeaopamaaRnO
import Derived.Test.YtakeoabeaopamaaRnY
namespace Go.Proofs.Ytakeoabeaopamaa.rplays
open Go Go.RowKit Go.ChangeShapes Go.WideShapes Go.ChangeAt

theorem looks_v {w : World} {B g h M k : Nat} {v v2 : Value} {L : List Int} (T : Two w B g h M v v2 L k) (hk : k ≤ 1000000) (i : Int) :
    Calls Try.prog 15 #[.pointer (some ⟨g, 0, none⟩), .pointer (some ⟨h, 0, none⟩), .int .i64 i] w fun e w' => e = .returned (.bool true) ∧ Only [] w w' := by
  by_cases h0 : i < 0
  · exact looks_neg T hk i h0
  by_cases h1 : (L.length : Int) ≤ i
  · exact looks_far T hk i ⟨by omega, h1⟩
  · obtain ⟨j, rfl⟩ := Int.eq_ofNat_of_zero_le (show 0 ≤ i by omega)
    exact looks_in T hk j (by omega)

/-- Where the law's loop stands. -/
structure PlS (w : World) (B g h M : Nat) (j : Nat) (wr : World) : Prop where
  ex : ∃ v v2 L k, Two wr B g h M v v2 L k ∧ k + L.length ≤ j
  only : Only [] w wr
  base : w.heap.size ≤ B

theorem Two.pushed {w wr w1 w2 : World} {B g h M : Nat} {v v2 v' v2' : Value} {L L' : List Int} {k k' : Nat} (T : Two wr B g h M v v2 L k) (R1 : RgV_ri w1 B g M v' (ivals L') k') (T1 : Tn [g] wr v w1 v') (R2 : RfV w2 B h M v2' L' k') (T2 : Tn [h] w1 v2 w2 v2') (ho : Only [] w wr) (hB : w.heap.size ≤ B) :
    Two w2 B g h M v' v2' L' k' ∧ Only [] w w2 := by
  obtain ⟨hg1, hgB, hv⟩ := T.ring.has
  obtain ⟨hh1, hhB, hv2⟩ := T.ref.has
  obtain ⟨hg2, _, hv'⟩ := R1.has
  obtain ⟨_, _, hv2'⟩ := R2.has
  have hsz := T1.only.size
  -- v' at v's block or at a new one; v2' likewise
  have hgv2 : ∀ b, v2.ownBlock = some b → v'.ownBlock ≠ some b := fun b hb hb' => by
    rcases T1.own b hb' with h | h
    · exact (T.apart b h).1 hb
    · have := (hv2 b hb).2.2; omega
  have hgh : ∀ b, v'.ownBlock = some b → b ≠ h := fun b hb e => by
    subst e
    rcases T1.own b hb with h | h
    · exact (T.apart b h).2 rfl
    · omega
  have hg2n : ∀ b, v2'.ownBlock = some b → b ≠ g := fun b hb e => by
    subst e
    rcases T2.own b hb with h | h
    · exact T.apart2 b h rfl
    · omega
  have hvv : ∀ b, v'.ownBlock = some b → v2'.ownBlock ≠ some b := fun b hb hb' => by
    obtain ⟨n, c, A, f, xs, rfl, R⟩ := R1
    have hl := (own_lt R.own hb).1
    rcases T2.own b hb' with h | h
    · exact hgv2 b h hb
    · omega
  refine ⟨⟨?_, R2, T.ne, fun b hb => ⟨hvv b hb, hgh b hb⟩, hg2n⟩, ?_⟩
  · obtain ⟨n, c, A, f, xs, rfl, R⟩ := R1
    refine ⟨n, c, A, f, xs, rfl, R.only T2.only (fun hm => ?_) (fun b hb hm => ?_)⟩
    · rcases List.mem_append.1 hm with h | h
      · rw [List.mem_singleton] at h; exact T.ne h
      · cases hv : v2.ownBlock with
        | none => rw [hv] at h; simp at h
        | some q => rw [hv] at h; simp at h; subst h; exact T.apart2 _ hv rfl
    · rcases List.mem_append.1 hm with h | h
      · rw [List.mem_singleton] at h; exact hgh b hb h
      · cases hv : v2.ownBlock with
        | none => rw [hv] at h; simp at h
        | some q => rw [hv] at h; simp at h; subst h; exact hgv2 _ hv hb
  · refine (T.ring.after T1 ho hB).trans T2.only (fun i hi hlt => ?_)
    rcases List.mem_append.1 hi with h | h
    · rw [List.mem_singleton] at h; omega
    · cases hv : v2.ownBlock with
      | none => rw [hv] at h; simp at h
      | some q => rw [hv] at h; simp at h; subst h; have := (hv2 _ hv).1; omega

theorem Two.refKeep {w w1 : World} {B g h M k : Nat} {v v2 v' : Value} {L : List Int} (T : Two w B g h M v v2 L k) (T1 : Tn [g] w v w1 v') : RfV w1 B h M v2 L k := by
  refine T.ref.only T1.only (fun hm => ?_) (fun b hb hm => ?_)
  · rcases List.mem_append.1 hm with h | h
    · rw [List.mem_singleton] at h; exact T.ne h.symm
    · cases hv : v.ownBlock with
      | none => rw [hv] at h; simp at h
      | some q => rw [hv] at h; simp at h; subst h; exact (T.apart _ hv).2 rfl
  · rcases List.mem_append.1 hm with h | h
    · rw [List.mem_singleton] at h; exact T.apart2 b hb h
    · cases hv : v.ownBlock with
      | none => rw [hv] at h; simp at h
      | some q => rw [hv] at h; simp at h; subst h; exact (T.apart _ hv).1 hb

/-- What both answer, and what is there then. -/
def Both2 (f1 f2 : FuncId) (a : List Value) (w : World) (B g h M : Nat) (v v2 : Value) (L : List Int) (k : Nat) (ans : Int → Bool → Value) : Prop :=
  ∃ (p : Int) (gone : Bool) (L' : List Int) (k' : Nat), k' + L'.length ≤ k + L.length + 1 ∧
    (Calls Try.prog f1 (#[.pointer (some ⟨g, 0, none⟩)] ++ a.toArray) w fun e w1 => ∃ v', e = .returned (ans p gone) ∧ RgV_ri w1 B g M v' (ivals L') k' ∧ Tn [g] w v w1 v') ∧
    ∀ w1, RfV w1 B h M v2 L k → Calls Try.prog f2 (#[.pointer (some ⟨h, 0, none⟩)] ++ a.toArray) w1 fun e w2 => ∃ v2', e = .returned (ans p gone) ∧ RfV w2 B h M v2' L' k' ∧ Tn [h] w1 v2 w2 v2'
def two (p : Int) (b : Bool) : Value := .tuple #[.int .i64 p, .bool b]

theorem push2 {w : World} {B g h M k : Nat} {v v2 : Value} {L : List Int} (T : Two w B g h M v v2 L k) (hk : k ≤ 1000000) (z : Int) :
    Both2 9 10 [.int .i64 z] w B g h M v v2 L k two := by
  have hM := T.ring.len.2
  by_cases hl : L.length < M
  · refine ⟨0, false, L ++ [z], k, by simp; omega, ?_, fun w1 R => rpush_room R z hl hM⟩
    have := push_room_ri T.ring z (by rw [ivals_len']; exact hl)
    rw [ivals_append]
    exact this
  · obtain ⟨y, hy⟩ : ∃ y, (L ++ [z])[0]? = some y := ⟨_, List.getElem?_eq_getElem (by simp)⟩
    refine ⟨y, true, (L ++ [z]).tail, k + 1, by simp; omega, ?_, fun w1 R => rpush_out R z y hl hy hk⟩
    have := push_out_ri T.ring z (.int .i64 y) (by rw [ivals_len']; exact hl) (by rw [show ivals L ++ [Value.int .i64 z] = ivals (L ++ [z]) by rw [ivals_append]; rfl, ivals, List.getElem?_map, hy]; rfl) hk
    rw [show ivals L ++ [Value.int .i64 z] = ivals (L ++ [z]) by rw [ivals_append]; rfl, show (ivals (L ++ [z])).tail = ivals (L ++ [z]).tail by simp [ivals]] at this
    exact this
theorem pop2 {w : World} {B g h M k : Nat} {v v2 : Value} {L : List Int} (T : Two w B g h M v v2 L k) :
    Both2 11 12 [] w B g h M v v2 L k two := by
  rcases List.eq_nil_or_concat L with rfl | ⟨L0, y, rfl⟩
  · refine ⟨0, false, [], k, by omega, (popNone_v T.ring).mono fun e w1 ⟨he, ho⟩ => ⟨v, he, T.ring.only ho, Tn.nil ho.of_nil⟩, fun w1 R => (rpopNone_v R).mono fun e w2 ⟨he, ho⟩ => ⟨v2, he, R.only ho (by simp) (by simp), Tn.nil ho.of_nil⟩⟩
  · rw [List.concat_eq_append] at T ⊢
    have hr := T.ring
    rw [ivals_append] at hr
    refine ⟨y, true, L0, k, by simp; omega, pop_v (.int .i64 y) hr, fun w1 R => rpop_v y R⟩
theorem clear2 {w : World} {B g h M k : Nat} {v v2 : Value} {L : List Int} (T : Two w B g h M v v2 L k) (hk : k ≤ 1000000) :
    Both2 13 14 [] w B g h M v v2 L k (fun _ _ => .tuple #[]) := by
  refine ⟨0, false, [], k + L.length, by simp, ?_, fun w1 R => (rclear_v R hk).mono fun e w2 ⟨he, R2, T2⟩ => ⟨_, he, R2, T2⟩⟩
  have := clear_v T.ring hk
  rw [ivals_len'] at this
  exact this.mono fun e w1 ⟨he, R1, T1⟩ => ⟨_, he, R1, T1⟩

set_option maxHeartbeats 4000000 in
theorem new_bad (z : Int) (hz : z < 0 ∨ 65536 < z) (w : World) : Calls Try.prog 7 #[.int .i64 z] w fun e w' => e = .returned (.tuple #[.pointer none, .int .i64 1]) ∧ Only [] w w' := by
  rcases hz with k1 | k1
  · go_enter Try.func7, Try.ntmps7
    go_wp2_with fail
    go_ret2
    exact ⟨rfl, Only.refl _ _⟩
  · have k0 : ¬ z < 0 := by omega
    have k2 : z > 65536 := k1
    go_enter Try.func7, Try.ntmps7
    go_wp2_with fail
    go_ret2
    exact ⟨rfl, Only.refl _ _⟩
set_option maxHeartbeats 4000000 in
theorem rnew_bad (z : Int) (hz : z < 0 ∨ 65536 < z) (w : World) : Calls Try.prog 8 #[.int .i64 z] w fun e w' => e = .returned (.tuple #[.pointer none, .int .i64 1]) ∧ Only [] w w' := by
  rcases hz with k1 | k1
  · go_enter Try.func8, Try.ntmps8
    go_wp2_with fail
    go_ret2
    exact ⟨rfl, Only.refl _ _⟩
  · have k0 : ¬ z < 0 := by omega
    have k2 : z > 65536 := k1
    go_enter Try.func8, Try.ntmps8
    go_wp2_with fail
    go_ret2
    exact ⟨rfl, Only.refl _ _⟩

set_option maxRecDepth 100000 in
set_option maxHeartbeats 8000000 in
theorem core (z : Int) (A : Option Addr) (n c : Nat) (x y : Nat → Int) (w : World) (hb : Acts w A n x y) (hn0 : n ≤ 9223372036854775807) :
    Calls Try.prog 3 #[.int .i64 z, .slice A n c] w fun e w' => e = .returned (.bool true) ∧ Only [] w w' := by
  by_cases h1 : 300 < n
  · clear hb
    go_enter Try.func3, Try.ntmps3
    go_wp2_with fail
    refine (known_any w).mono ?_
    rintro e w1 ⟨rfl, ho⟩
    go_wp2_with fail
    go_ret
    exact ⟨rfl, ho⟩
  have hd1 : decide (300 < n) = false := by simpa using h1
  have hp : ∀ (g : Nat) (w : World), (binOp .eql 24 (.pointer (some ⟨g, 0, none⟩)) (.pointer none)).run Try.prog w = .ok (.bool false) w := fun g w => by kernel_rfl
  have hp2 : ∀ (g : Nat) (w : World), (binOp .eql 28 (.pointer (some ⟨g, 0, none⟩)) (.pointer none)).run Try.prog w = .ok (.bool false) w := fun g w => by kernel_rfl
  by_cases hz : z < 0 ∨ 65536 < z
  · have HN := hide (fun w => new_bad z hz w)
    have HR := hide (fun w => rnew_bad z hz w)
    have hq : ∀ (w : World), (binOp .eql 24 (.pointer none) (.pointer none)).run Try.prog w = .ok (.bool true) w := fun w => by kernel_rfl
    have hq2 : ∀ (w : World), (binOp .eql 28 (.pointer none) (.pointer none)).run Try.prog w = .ok (.bool true) w := fun w => by kernel_rfl
    have h1 : n ≤ 300 := by omega
    clear hb hz
    go_enter Try.func3, Try.ntmps3
    go_wp2_with fail
    refine (known_any w).mono ?_
    rintro e w1 ⟨rfl, ho⟩
    go_wp2_with fail
    refine (HN.out w1).mono ?_
    rintro e w2 ⟨rfl, ho2⟩
    go_wp2_with fail
    refine (HR.out w2).mono ?_
    rintro e w3 ⟨rfl, ho3⟩
    go_wp2_with fail
    go_ret
    exact ⟨rfl, (ho.trans ho2 (S := []) (by simp)).trans ho3 (S := []) (by simp)⟩
  obtain ⟨M, rfl⟩ : ∃ M : Nat, z = (M : Int) := ⟨z.toNat, by omega⟩
  have hM : M ≤ 65536 := by omega
  have HN := hide (fun w => new_v M hM w)
  have HR := hide (fun w => rnew_v M hM w)
  have h1 : n ≤ 300 := by omega
  have HB := hide hb
  clear hb hz
  go_enter Try.func3, Try.ntmps3
  go_wp2_with fail
  refine (known_any w).mono ?_
  rintro e w1 ⟨rfl, ho⟩
  have H1 := hide ho
  clear ho
  go_wp2_with fail
  refine (HN.out w1).mono ?_
  rintro e w2 ⟨v0, rfl, hR, ho2⟩
  have H2 := hide (And.intro hR ho2)
  clear hR ho2 HN
  go_wp2_with fail
  refine (HR.out w2).mono ?_
  rintro e w3 ⟨rfl, hR3, ho3⟩
  have S0 : PlS w w1.heap.size w1.heap.size w2.heap.size M 0 w3 := by
    obtain ⟨hR, ho2⟩ := H2.out
    have hlt := hR.has
    refine ⟨⟨v0, .slice none 0 0, [], 0, ⟨hR.only ho3, ?_, by omega, fun b hb => ⟨by simp [Value.ownBlock], ?_⟩, fun b hb => by simp [Value.ownBlock] at hb⟩, by simp⟩, (H1.out.trans ho2 (S := []) (by simp)).trans ho3 (S := []) (by simp), H1.out.size⟩
    · obtain ⟨n, c, A, e, R⟩ := hR3
      exact ⟨n, c, A, e, ⟨R.box, own_mono R.own ho2.size, ho2.size, R.few⟩⟩
    · obtain ⟨n, c, A, f, xs, rfl, R⟩ := hR
      have := (own_lt R.own hb).1
      omega
  have HS := hide S0
  clear S0 hR3 ho3 H2 HR H1
  generalize w1.heap.size = g at *
  generalize w2.heap.size = h at *
  go_wp2_with fail
  go_loopw [9] (fun iv wr => ∃ j : Nat, j ≤ n ∧ iv = .int .i64 j ∧ PlS w g g h M j wr) (fun iv _ => n - (intOf iv).toNat)
  case atStart => exact ⟨0, Nat.zero_le _, rfl, HS.out⟩
  case round =>
    obtain ⟨j, hj, rfl, S⟩ := hrel
    obtain ⟨⟨v, v2, L, k, T, hkl⟩, hO, hB⟩ := S
    by_cases hlt : j < n
    · obtain ⟨b, o, rfl, hbl, hx, hy⟩ := HB.out j hlt
      have hC : ∀ X, Only [] w X → X.cell? ⟨b, o + j * 2, none⟩ = some (.int .i64 (x j)) ∧ X.cell? ⟨b, o + j * 2 + 1, none⟩ = some (.int .i64 (y j)) := fun X hX => ⟨by rw [hX.cell hbl (by simp)]; exact hx, by rw [hX.cell hbl (by simp)]; exact hy⟩
      obtain ⟨c1, c2⟩ := hC wr hO
      have HCe := hide hC
      clear hC hx hy
      generalize x j = a at *
      generalize y j = d at *
      have hk : k ≤ 1000000 := by omega
      have k3 : (j : Int) < (n : Int) := by omega
      have HL := hide (fun (X : World) (v v2 : Value) (L : List Int) (k : Nat) (T : Two X g g h M v v2 L k) (hk : k ≤ 1000000) => looks_v T hk d)
      by_cases a1 : a = 1
      · subst a1
        obtain ⟨p, gone, L', k', hkl', C1, C2⟩ := push2 T hk d
        have HC1 : Hid (Calls Try.prog 9 #[.pointer (some ⟨g, 0, none⟩), .int .i64 d] wr fun e w1 => ∃ v', e = .returned (.tuple #[.int .i64 p, .bool gone]) ∧ RgV_ri w1 g g M v' (ivals L') k' ∧ Tn [g] wr v w1 v') := hide C1
        have HC2 : Hid (∀ w1, RfV w1 g h M v2 L k → Calls Try.prog 10 #[.pointer (some ⟨h, 0, none⟩), .int .i64 d] w1 fun e w2 => ∃ v2', e = .returned (.tuple #[.int .i64 p, .bool gone]) ∧ RfV w2 g h M v2' L' k' ∧ Tn [h] w1 v2 w2 v2') := hide C2
        have HT := hide (And.intro T (And.intro hO hB))
        clear C1 C2 T hO hB
        go_wp2_with fail
        refine (HC1.out).mono ?_
        rintro e wa ⟨v', rfl, R1, T1⟩
        have oa := HT.out.1.ring.after T1 HT.out.2.1 HT.out.2.2
        have d2 := (HCe.out wa oa).2
        have HA := hide (And.intro R1 (And.intro T1 (Two.refKeep HT.out.1 T1)))
        clear R1 T1 oa HC1 c1 c2
        go_wp2_with fail
        refine (HC2.out wa HA.out.2.2).mono ?_
        rintro e wb ⟨v2', rfl, R2, T2⟩
        obtain ⟨T', O'⟩ := Two.pushed HT.out.1 HA.out.1 HA.out.2.1 R2 T2 HT.out.2.1 HT.out.2.2
        have d3 := (HCe.out wb O').2
        have HZ := hide (And.intro T' (And.intro O' HT.out.2.2))
        clear R2 T2 T' O' HC2 HA HT d2
        go_wp2_with fail
        refine (HL.out wb _ _ _ _ HZ.out.1 (by omega)).mono ?_
        rintro e wc ⟨rfl, hoc⟩
        have HY := hide (And.intro (HZ.out.1.only hoc) (And.intro (HZ.out.2.1.trans hoc (S := []) (by simp)) HZ.out.2.2))
        clear hoc HZ d3
        go_wp2_with fail
        go_roundw
        case rel => exact ⟨j + 1, by omega, by go_num, ⟨⟨v', v2', L', k', HY.out.1, by omega⟩, HY.out.2.1, HY.out.2.2⟩⟩
        case measure => simp [intOf]; omega
      by_cases a2 : a = 2
      · subst a2
        obtain ⟨p, gone, L', k', hkl', C1, C2⟩ := pop2 T
        have HC1 : Hid (Calls Try.prog 11 #[.pointer (some ⟨g, 0, none⟩)] wr fun e w1 => ∃ v', e = .returned (.tuple #[.int .i64 p, .bool gone]) ∧ RgV_ri w1 g g M v' (ivals L') k' ∧ Tn [g] wr v w1 v') := hide C1
        have HC2 : Hid (∀ w1, RfV w1 g h M v2 L k → Calls Try.prog 12 #[.pointer (some ⟨h, 0, none⟩)] w1 fun e w2 => ∃ v2', e = .returned (.tuple #[.int .i64 p, .bool gone]) ∧ RfV w2 g h M v2' L' k' ∧ Tn [h] w1 v2 w2 v2') := hide C2
        have HT := hide (And.intro T (And.intro hO hB))
        clear C1 C2 T hO hB
        go_wp2_with fail
        refine (HC1.out).mono ?_
        rintro e wa ⟨v', rfl, R1, T1⟩
        have oa := HT.out.1.ring.after T1 HT.out.2.1 HT.out.2.2
        have d2 := (HCe.out wa oa).2
        have HA := hide (And.intro R1 (And.intro T1 (Two.refKeep HT.out.1 T1)))
        clear R1 T1 oa HC1 c1 c2
        go_wp2_with fail
        refine (HC2.out wa HA.out.2.2).mono ?_
        rintro e wb ⟨v2', rfl, R2, T2⟩
        obtain ⟨T', O'⟩ := Two.pushed HT.out.1 HA.out.1 HA.out.2.1 R2 T2 HT.out.2.1 HT.out.2.2
        have d3 := (HCe.out wb O').2
        have HZ := hide (And.intro T' (And.intro O' HT.out.2.2))
        clear R2 T2 T' O' HC2 HA HT d2
        go_wp2_with fail
        refine (HL.out wb _ _ _ _ HZ.out.1 (by omega)).mono ?_
        rintro e wc ⟨rfl, hoc⟩
        have HY := hide (And.intro (HZ.out.1.only hoc) (And.intro (HZ.out.2.1.trans hoc (S := []) (by simp)) HZ.out.2.2))
        clear hoc HZ d3
        go_wp2_with fail
        go_roundw
        case rel => exact ⟨j + 1, by omega, by go_num, ⟨⟨v', v2', L', k', HY.out.1, by omega⟩, HY.out.2.1, HY.out.2.2⟩⟩
        case measure => simp [intOf]; omega
      by_cases a3 : a = 3
      · subst a3
        obtain ⟨p, gone, L', k', hkl', C1, C2⟩ := clear2 T hk
        have HC1 : Hid (Calls Try.prog 13 #[.pointer (some ⟨g, 0, none⟩)] wr fun e w1 => ∃ v', e = .returned (.tuple #[]) ∧ RgV_ri w1 g g M v' (ivals L') k' ∧ Tn [g] wr v w1 v') := hide C1
        have HC2 : Hid (∀ w1, RfV w1 g h M v2 L k → Calls Try.prog 14 #[.pointer (some ⟨h, 0, none⟩)] w1 fun e w2 => ∃ v2', e = .returned (.tuple #[]) ∧ RfV w2 g h M v2' L' k' ∧ Tn [h] w1 v2 w2 v2') := hide C2
        have HT := hide (And.intro T (And.intro hO hB))
        clear C1 C2 T hO hB
        go_wp2_with fail
        refine (HC1.out).mono ?_
        rintro e wa ⟨v', rfl, R1, T1⟩
        have oa := HT.out.1.ring.after T1 HT.out.2.1 HT.out.2.2
        have d2 := (HCe.out wa oa).2
        have HA := hide (And.intro R1 (And.intro T1 (Two.refKeep HT.out.1 T1)))
        clear R1 T1 oa HC1 c1 c2
        go_wp2_with fail
        refine (HC2.out wa HA.out.2.2).mono ?_
        rintro e wb ⟨v2', rfl, R2, T2⟩
        obtain ⟨T', O'⟩ := Two.pushed HT.out.1 HA.out.1 HA.out.2.1 R2 T2 HT.out.2.1 HT.out.2.2
        have d3 := (HCe.out wb O').2
        have HZ := hide (And.intro T' (And.intro O' HT.out.2.2))
        clear R2 T2 T' O' HC2 HA HT d2
        go_wp2_with fail
        refine (HL.out wb _ _ _ _ HZ.out.1 (by omega)).mono ?_
        rintro e wc ⟨rfl, hoc⟩
        have HY := hide (And.intro (HZ.out.1.only hoc) (And.intro (HZ.out.2.1.trans hoc (S := []) (by simp)) HZ.out.2.2))
        clear hoc HZ d3
        go_wp2_with fail
        go_roundw
        case rel => exact ⟨j + 1, by omega, by go_num, ⟨⟨v', v2', L', k', HY.out.1, by omega⟩, HY.out.2.1, HY.out.2.2⟩⟩
        case measure => simp [intOf]; omega
      · have HZ := hide (And.intro T (And.intro hO hB))
        clear T hO hB
        go_wp2_with fail
        refine (HL.out wr _ _ _ _ HZ.out.1 hk).mono ?_
        rintro e wc ⟨rfl, hoc⟩
        have HY := hide (And.intro (HZ.out.1.only hoc) (And.intro (HZ.out.2.1.trans hoc (S := []) (by simp)) HZ.out.2.2))
        clear hoc HZ c1 c2
        go_wp2_with fail
        go_roundw
        case rel => exact ⟨j + 1, by omega, by go_num, ⟨⟨v, v2, L, k, HY.out.1, by omega⟩, HY.out.2.1, HY.out.2.2⟩⟩
        case measure => simp [intOf]; omega
    · obtain rfl : j = n := by omega
      have HZ := hide hO
      clear T hO hB
      have k3 : ¬ (j : Int) < (j : Int) := by omega
      go_wp2_with fail
      go_ret
      exact ⟨rfl, HZ.out⟩
set_option maxRecDepth 100000 in
theorem lifted (os : Os) (started : os.Started) (H : Type) (enc : TypeId × Value → H) :
    ReturnsInHanded {} Try.checked os 3 .any (Rows.ringPlaysSpec.pre6 enc Try.prog Try.f3 Rows.ringPlaysRow.domain false)
      (Rows.ringPlaysSpec.post enc Try.prog Try.f3 false true false false) := by
  refine returnsInHanded_of_change (C := Try.checked) own_knob started (by kernel_rfl) Try.func3
    (ChangeSpec.witness6 (enc := enc) (C := Try.checked) false ⟨#[], #[.int .i64 0, .slice none 0 0], []⟩ 8 (by kernel_rfl) (by kernel_rfl) (by kernel_rfl) (by kernel_rfl)) ?_
  intro W base args ds gs before hval0 hW hcnd _
  have hval : ∀ (j : Nat) t v, Try.f3.params[j]? = some t → args[j]? = some v → Value.okWide Try.prog W .any base t v := hval0
  have hW' := hW
  obtain ⟨p, q, hA0, hV, rfl, hfz, hnd⟩ := hW
  have hA : DataW.TrodAll enc Try.prog W 0 (fun _ => true) true Try.f3.params.toList args.toList ds p := hA0
  rw [Try.params3] at hA hval
  obtain ⟨v0, vs0, d0, ds0, p0, q0, hargs, rfl, rfl, h0, r0⟩ := trodAll_cons hA
  obtain ⟨v1, vs1, d1, ds1, p1, q1, rfl, rfl, rfl, h1, r1⟩ := trodAll_cons r0
  obtain ⟨rfl, rfl, rfl⟩ := trodAll_nil r1
  obtain rfl : args = #[v0, v1] := by cases args; simp_all
  obtain ⟨z0, rfl, rfl, rfl, _⟩ := open_int Try.underlying3 (hval 0 3 v0 rfl rfl) h0
  obtain ⟨A1, n1, c1, x1, y1, rfl, hc1, cm1, hb1⟩ := open_acts (hval 1 22 v1 rfl rfl) h1
  unfold maxLen at *
  refine (core z0 A1 n1 c1 x1 y1 W hb1 (by omega)).mono fun e W' ⟨he, ho⟩ => ?_
  subst he
  exact ⟨_, rfl, law_post rfl hW' (by intro t ht; revert t; exact of_decide_eq_true (by kernel_rfl)) rfl rfl ho⟩

theorem proved : Rows.RingPlaysSaid :=
  OpenClaim.holds_of_wide 3 Try.f3 rfl rfl rfl rfl rfl rfl rfl ⟨rfl, rfl, rfl, rfl, rfl⟩ rfl rfl rfl rfl rfl (by kernel_rfl) Try.func3 (by kernel_rfl)
    (of_decide_eq_true (by kernel_rfl)) (by unfold Func.isWrapper; first | (rw [if_pos (by decide +kernel)]; kernel_rfl) | (rw [if_neg (by decide +kernel)]; exact ⟨rfl, rfl⟩))
    (fun os started H enc _ => lifted os started H enc)
end Go.Proofs.Ytakeoabeaopamaa.rplays
