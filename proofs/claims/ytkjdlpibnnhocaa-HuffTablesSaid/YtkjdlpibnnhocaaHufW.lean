/-
  The codes said a second time: begins, Read.
-/
import Derived.Test.YtkjdlpibnnhocaaHufV
namespace Go.Proofs.Ytkjdlpibnnhocaa
open Go Go.RowKit

set_option maxRecDepth 100000 in
set_option maxHeartbeats 8000000 in
theorem begins_any (g base : Nat) (l : List UInt8) (code n : Nat) (w : World) (h : RT w base g l) (hn : l.length ≤ 320) (h15 : ∀ i, ln l i ≤ 15) (hS : Sm (cn l) 16 ≤ 32768) (hc : code < 4294967296) (hn15 : n ≤ 15) :
    Calls Try.prog 37 #[.pointer (some ⟨g, 0, none⟩), .int .u32 code, .int .i64 n] w fun e w' => e = .returned (.bool (beginsB l code n l.length)) ∧ w = w' := by
  obtain ⟨A, B, c, c', c0, c1, hcs⟩ := h.open_
  have HC := hide hcs
  clear h hcs
  obtain ⟨r, hr⟩ : ∃ r, r = beginsB l code n l.length := ⟨_, rfl⟩
  rw [← hr]
  have HR := hide hr
  clear hr
  go_enter Try.func37, Try.ntmps37
  go_wp2_with fail
  go_loop [7] (fun i => ∃ j : Nat, j ≤ l.length ∧ i = .int .i64 j ∧ beginsB l code n j = false) (fun i => l.length - (intOf i).toNat)
  case atStart => exact ⟨0, Nat.zero_le _, rfl, rfl⟩
  case round =>
    obtain ⟨j, hj, rfl, hno⟩ := hrel
    by_cases hlt : j < l.length
    · obtain ⟨a, b, rfl, rfl, hcs⟩ := HC.out (by omega)
      obtain ⟨d0, d1⟩ := hcs j hlt
      have hs := beginsB_succ l code n j
      rw [hno, Bool.false_or] at hs
      have hx15 := h15 j
      have hcd : cdz l j = if ln l j ≠ 0 then cd l j else 0 := rfl
      have hcl : ln l j ≠ 0 → cd l j < 2 ^ ln l j := fun h0 => cd_lt hS h0 hx15
      clear hcs hno
      obtain ⟨x, hx⟩ : ∃ x, x = ln l j := ⟨_, rfl⟩
      rw [← hx] at d0 hs hx15 hcd hcl
      have k1 : IntKind.i64.wrap (x : Int) = (x : Int) := wrap64 rfl (by omega)
      by_cases hxn : x < n
      · have hs' : beginsB l code n (j + 1) = false := by rw [hs]; exact decide_eq_false (by omega)
        have HS := hide hs'
        have q1 : ¬ (n : Int) ≤ (x : Int) := by omega
        clear hs hs' hcd hcl hx
        go_wp2_with fail
        go_round
        case rel => exact ⟨j + 1, hlt, by go_num, HS.out⟩
        case measure => simp [intOf]; omega
      · have q1 : (n : Int) ≤ (x : Int) := by omega
        by_cases hx0 : x = 0
        · have hs' : beginsB l code n (j + 1) = false := by rw [hs]; exact decide_eq_false (by omega)
          have HS := hide hs'
          have q2 : ¬ (0 : Int) < (x : Int) := by omega
          clear hs hs' hcd hcl hx hx0
          go_wp2_with fail
          go_round
          case rel => exact ⟨j + 1, hlt, by go_num, HS.out⟩
          case measure => simp [intOf]; omega
        · have q2 : (0 : Int) < (x : Int) := by omega
          rw [if_pos hx0] at hcd
          rw [hcd] at d1
          have hcl2 := hcl hx0
          have hp15 := Nat.pow_le_pow_right (n := 2) (by decide) hx15
          obtain ⟨y, hy⟩ : ∃ y, y = cd l j := ⟨_, rfl⟩
          rw [← hy] at d1 hs hcl2
          have hyb : y < 32768 := Nat.lt_of_lt_of_le hcl2 hp15
          obtain ⟨k, hk⟩ : ∃ k, k = x - n := ⟨_, rfl⟩
          rw [← hk] at hs
          have e1 : (x : Int) - (n : Int) = (k : Int) := by omega
          have e2 : IntKind.u64.wrap (k : Int) = (k : Int) := by have := IntWalk.u64_in (k : Int) ⟨by omega, by omega⟩; exact this
          obtain ⟨q, hq⟩ : ∃ q, q = y / 2 ^ k := ⟨_, rfl⟩
          rw [← hq] at hs
          have e3 : (y : Int) / 2 ^ k = (q : Int) := by rw [hq]; simp
          have hk16 : k ≤ 15 := by omega
          clear hcd hcl hcl2 hp15 hq hk hy hx
          by_cases hqc : q = code
          · have hrr : r = true := by
              rw [HR.out]
              unfold beginsB
              rw [List.any_eq_true]
              have : beginsB l code n (j + 1) = true := by rw [hs]; exact decide_eq_true ⟨hx0, by omega, hqc⟩
              unfold beginsB at this
              rw [List.any_eq_true] at this
              obtain ⟨i, hi, h2⟩ := this
              exact ⟨i, List.mem_range.2 (by have := List.mem_range.1 hi; omega), h2⟩
            have q3 : ((q : Int) == (code : Int)) = true := beq_iff_eq.2 (by omega)
            have q4 : (q : Int) = (code : Int) := by omega
            clear hs HR hqc
            subst hrr
            go_wp2_with fail
            go_ret
            exact ⟨rfl, rfl⟩
          · have hs' : beginsB l code n (j + 1) = false := by rw [hs]; exact decide_eq_false (by rintro ⟨_, _, h⟩; exact hqc h)
            have HS := hide hs'
            have q3 : ((q : Int) == (code : Int)) = false := beq_eq_false_iff_ne.2 (by omega)
            have q4 : ¬ (q : Int) = (code : Int) := by omega
            clear hs hs' hqc
            go_wp2_with fail
            go_round
            case rel => exact ⟨j + 1, hlt, by go_num, HS.out⟩
            case measure => simp [intOf]; omega
    · obtain rfl : j = l.length := by omega
      have hrr : r = false := by rw [HR.out]; exact hno
      clear hno HR
      subst hrr
      go_wp2_with fail
      go_ret
      exact ⟨rfl, rfl⟩

/-- Where the reference's Read stands when it has seen n bits. -/
def StepR (l : List UInt8) (N k left n : Nat) (R : Nat × Nat × Nat) : Prop :=
  (n = 0 ∧ Seen l N k left 0 R) ∨ ∃ j, n = j + 1 ∧ Seen l N k left j R ∧ j < Lg (cn l) 15 ∧ ¬ left < j + 1
namespace StepR
variable {l : List UInt8} {N k left n : Nat} {R : Nat × Nat × Nat}
theorem le (h : StepR l N k left n R) : n ≤ 15 := by
  rcases h with ⟨rfl, _⟩ | ⟨j, rfl, _, h, _⟩
  · omega
  · have := Lg_le (cn l) 15; omega
theorem hit (h : StepR l N k left n R) {i : Nat} (hn : n ≠ 0) (hl : ln l i = n) (hc : cd l i = bc N k n) : R = (i, 0, n) := by
  rcases h with ⟨h0, _⟩ | ⟨j, rfl, hs, h1, h2⟩
  · exact absurd h0 hn
  · have hi : ln l i ≠ 0 := by omega
    have hrk := rk_lt hi
    have hsy := sy_eq hi
    have e : cd l i = Fs (cn l) (j + 1) + rk l i (j + 1) := by unfold cd; rw [hl]
    rw [hl] at hrk hsy
    have h3 := hs.hit h1 h2 (by omega)
    rw [← hc, e, Nat.add_sub_cancel_left, hsy] at h3
    exact h3
theorem miss (h : StepR l N k left n R) (hm : n ≠ 0 → ∀ i, i < l.length → ¬ (ln l i = n ∧ cd l i = bc N k n)) : Seen l N k left n R := by
  rcases h with ⟨rfl, hs⟩ | ⟨j, rfl, hs, h1, h2⟩
  · exact hs
  · refine hs.next h1 h2 (fun hlt => ?_)
    have hge := hs.ge
    obtain ⟨i, hi, hli, hri⟩ := rk_sur (l := l) (n := j + 1) (j := bc N k (j + 1) - Fs (cn l) (j + 1)) (by omega) (by omega)
    exact hm (by omega) i hi ⟨hli, by unfold cd; rw [hli, hri]; omega⟩
end StepR

set_option maxRecDepth 100000 in
set_option maxHeartbeats 8000000 in
theorem tRead_any (g base gq : Nat) (A : Option Addr) (c : Nat) (l b : List UInt8) (k : Nat) (w : World) (hT : RT w base g l) (hR : TRd w gq A c b k) (hA : 0 < b.length → ∀ ad, A = some ad → ad.block ≠ gq)
    (hn : l.length ≤ 320) (h15 : ∀ i, ln l i ≤ 15) (hm : mayBe (cn l) = true) (x e n : Nat) (hs : readM l (num b) k (8 * b.length - k) = (x, e, n)) :
    Calls Try.prog 16 #[.pointer (some ⟨g, 0, none⟩), .pointer (some ⟨gq, 0, none⟩)] w fun o w' => o = .returned (.tuple #[.int .i64 x, .int .i64 e]) ∧ Only [gq] w w' ∧ TRd w' gq A c b (k + n) := by
  have hk := hR.le
  have hS := mayBe_le hm
  obtain ⟨left, hleft⟩ : ∃ q, q = 8 * b.length - k := ⟨_, rfl⟩
  rw [← hleft] at hs
  have h0 := Seen.start l (num b) k left
  rw [hs] at h0
  have c1 : w.cell? ⟨gq, 1, none⟩ = some (.int .i64 (k : Int)) := hR.has.cell 1
  have hRT := fun w1 (ho : Only [gq] w w1) => hT.other ho hR.has (by decide) (by decide) (by decide)
  have HT := hide (And.intro hRT (And.intro hA (And.intro hleft (And.intro hm (And.intro h15 (And.intro hS h0))))))
  have HR0 := hide hR
  clear hT hR hA hRT hleft hs h0 hm h15 hS
  go_enter Try.func16, Try.ntmps16
  go_wp2_with fail
  go_loopw [7, 8] (fun v7 v8 wr => ∃ j : Nat, StepR l (num b) k left j (x, e, n) ∧ v8 = .int .i64 j ∧ v7 = .int .u32 (bc (num b) k j : Nat) ∧ TRd wr gq A c b (k + j) ∧ Only [gq] w wr) (fun _ v8 _ => 17 - (intOf v8).toNat)
  case atStart => exact ⟨0, .inl ⟨rfl, HT.out.2.2.2.2.2.2⟩, rfl, rfl, HR0.out, Only.refl _ _⟩
  case round =>
    obtain ⟨j, hSt, rfl, rfl, hRd, ho⟩ := hrel
    have hj15 := hSt.le
    have hj15' : (j : Int) ≤ 15 := by omega
    have hbl := bc_lt (num b) k j
    have hp15 := Nat.pow_le_pow_right (n := 2) (by decide) hj15
    obtain ⟨code, hcode⟩ : ∃ q, q = bc (num b) k j := ⟨_, rfl⟩
    rw [← hcode] at hbl ⊢
    have hcl : code < 32768 := Nat.lt_of_lt_of_le hbl hp15
    have HJ := hide (And.intro hSt (And.intro hRd (And.intro ho hcode)))
    have hRTw := HT.out.1 wr ho
    obtain ⟨TA, TB, tc, tc', c0, c1', hcs⟩ := hRTw.open_
    have HC := hide (And.intro hcs hRTw)
    have ha0 : wr.cell? ⟨gq, 0, none⟩ = some (.slice A b.length c) := hRd.has.cell 0
    have ha1 : wr.cell? ⟨gq, 1, none⟩ = some (.int .i64 ((k + j : Nat) : Int)) := hRd.has.cell 1
    have hf1 : wr.frozen? ⟨gq, 1, none⟩ = false := hRd.has.free 1
    clear hSt hRd ho hcode hcs hRTw hbl hp15 c1
    go_wp2_with fail
    go_loop [9] (fun v => ∃ s : Nat, s ≤ l.length ∧ v = .int .i64 s ∧ (j ≠ 0 → ∀ i, i < s → ¬ (ln l i = j ∧ cd l i = code))) (fun v => l.length - (intOf v).toNat)
    case atStart => exact ⟨0, Nat.zero_le _, rfl, fun _ i hi => absurd hi (by omega)⟩
    case round =>
      obtain ⟨s, hs, rfl, hno⟩ := hrel
      by_cases hlt : s < l.length
      · obtain ⟨ta, tb, rfl, rfl, hcs⟩ := HC.out.1 (by omega)
        obtain ⟨d0, d1⟩ := hcs s hlt
        have hx15 := HT.out.2.2.2.2.1 s
        have hcd : cdz l s = if ln l s ≠ 0 then cd l s else 0 := rfl
        have hcdl : ln l s ≠ 0 → cd l s < 2 ^ ln l s := fun h0 => cd_lt HT.out.2.2.2.2.2.1 h0 hx15
        clear hcs
        obtain ⟨z, hz⟩ : ∃ z, z = ln l s := ⟨_, rfl⟩
        obtain ⟨y, hy⟩ : ∃ y, y = cdz l s := ⟨_, rfl⟩
        rw [← hz] at d0 hx15 hcd hcdl
        rw [← hy] at d1 hcd
        have k1 : IntKind.i64.wrap (z : Int) = (z : Int) := wrap64 rfl (by omega)
        have hstep : (j ≠ 0 → ¬ (z = j ∧ cd l s = code)) → j ≠ 0 → ∀ i, i < s + 1 → ¬ (ln l i = j ∧ cd l i = code) := fun h h0 i hi => by
          rcases Nat.lt_or_ge i s with h1 | h1
          · exact hno h0 i h1
          · have : i = s := by omega
            subst this
            rw [← hz]; exact h h0
        by_cases hj0 : j = 0
        · have HS := hide (hstep (fun h => absurd hj0 h))
          have q1 : ¬ (0 : Int) < (j : Int) := by omega
          clear hstep hno hcd hcdl hz hy hj0
          go_wp2_with fail
          go_round
          case rel => exact ⟨s + 1, hlt, by go_num, HS.out⟩
          case measure => simp [intOf]; omega
        · have q1 : (0 : Int) < (j : Int) := by omega
          by_cases hzj : z = j
          · rw [if_pos (by omega)] at hcd
            have q2 : ((z : Int) == (j : Int)) = true := beq_iff_eq.2 (by omega)
            have q2' : (z : Int) = (j : Int) := by omega
            by_cases hyc : y = code
            · have hR := HJ.out.1.hit (i := s) hj0 (by omega) (by rw [← HJ.out.2.2.2]; omega)
              injection hR with hxx hR
              injection hR with hee hnn
              have q3 : ((y : Int) == (code : Int)) = true := beq_iff_eq.2 (by omega)
              have q3' : (y : Int) = (code : Int) := by omega
              have HN := hide hnn
              clear hstep hno hcd hcdl hz hy hj0 hzj hyc hnn
              subst hxx hee
              go_wp2_with fail
              go_ret2
              rw [HN.out]
              exact ⟨rfl, HJ.out.2.2.1, HJ.out.2.1⟩
            · have HS := hide (hstep (fun _ h => hyc (by omega)))
              have q3 : ((y : Int) == (code : Int)) = false := beq_eq_false_iff_ne.2 (by omega)
              have q3' : ¬ (y : Int) = (code : Int) := by omega
              clear hstep hno hcd hcdl hz hy hj0 hzj hyc
              go_wp2_with fail
              go_round
              case rel => exact ⟨s + 1, hlt, by go_num, HS.out⟩
              case measure => simp [intOf]; omega
          · have HS := hide (hstep (fun _ h => hzj h.1))
            have q2 : ((z : Int) == (j : Int)) = false := beq_eq_false_iff_ne.2 (by omega)
            have q2' : ¬ (z : Int) = (j : Int) := by omega
            clear hstep hno hcd hcdl hz hy hj0 hzj
            go_wp2_with fail
            go_round
            case rel => exact ⟨s + 1, hlt, by go_num, HS.out⟩
            case measure => simp [intOf]; omega
      · obtain rfl : s = l.length := by omega
        have hSn := HJ.out.1.miss (by rw [← HJ.out.2.2.2]; exact hno)
        have hbi := begins_iff HT.out.2.2.2.1 HT.out.2.2.2.2.1 hSn
        have HBg := hide (begins_any g base l code j wr HC.out.2 hn HT.out.2.2.2.2.1 HT.out.2.2.2.2.2.1 (by omega) hj15)
        rw [← HJ.out.2.2.2] at hbi
        have HSN := hide (And.intro hSn hbi)
        clear hno hSn hbi hlt
        cases hbb : beginsB l code j l.length with
        | false =>
          have hL : j = Lg (cn l) 15 := Nat.le_antisymm HSN.out.1.le (Nat.le_of_not_lt fun h => by have := HSN.out.2.2 h; rw [hbb] at this; cases this)
          have hRR : (x, e, n) = (0, 3, 0) := by have := HSN.out.1; rw [hL] at this; exact this.done
          injection hRR with hxx hR
          injection hR with hee hnn
          rw [hbb] at HBg
          clear hbb hL
          subst hxx hee hnn
          go_wp2_with fail
          refine (HBg.out).mono ?_
          rintro o w5 ⟨rfl, rfl⟩
          go_wp2_with fail
          go_ret2
          exact ⟨rfl, HJ.out.2.2.1.setCell (by simp) _, HJ.out.2.1.set (by omega) HT.out.2.1⟩
        | true =>
          have hL := HSN.out.2.1 hbb
          rw [hbb] at HBg
          have HTB := hide (tBits gq c (k + j) A b 1 wr HJ.out.2.1 HT.out.2.1)
          have hlf := HT.out.2.2.1
          by_cases hsh : left < j + 1
          · have hRR := HSN.out.1.short hL hsh
            injection hRR with hxx hR
            injection hR with hee hnn
            have hok : okBits b.length (k + j) 1 = false := by unfold okBits; exact decide_eq_false (by omega)
            rw [hok] at HTB
            clear hbb hL hsh hlf hok
            subst hxx hee hnn
            go_wp2_with fail
            refine (HBg.out).mono ?_
            rintro o w5 ⟨rfl, rfl⟩
            go_wp2_with fail
            refine (HTB.out).mono ?_
            rintro o w6 ⟨rfl, ho6, hR6⟩
            have hR6' : TRd w6 gq A c b (k + j) := hR6
            have hg6 : w6.cell? ⟨gq, 1, none⟩ = some (.int .i64 ((k + j : Nat) : Int)) := hR6'.has.cell 1
            have hf6 : w6.frozen? ⟨gq, 1, none⟩ = false := hR6'.has.free 1
            have H6 := hide (And.intro hR6' ho6)
            clear hR6 hR6' ho6
            go_wp2_with fail
            go_ret2
            exact ⟨rfl, (HJ.out.2.2.1.trans H6.out.2 (fun i hi _ => hi)).setCell (by simp) _, H6.out.1.set (by omega) HT.out.2.1⟩
          · have hok : okBits b.length (k + j) 1 = true := by unfold okBits; exact decide_eq_true (by omega)
            have hgot : gotBits b (k + j) 1 = num b / 2 ^ (k + j) % 2 := by
              unfold gotBits
              rw [if_pos hok]
              rfl
            rw [hok, hgot] at HTB
            obtain ⟨t, ht⟩ : ∃ t, t = num b / 2 ^ (k + j) % 2 := ⟨_, rfl⟩
            rw [← ht] at HTB
            have ht2 : t < 2 := by omega
            have hnx : bc (num b) k (j + 1) = 2 * code + t := by rw [bc_succ, ← HJ.out.2.2.2, ht]
            have eO := u32_or1 code t ht2 (by omega)
            have HX := hide (And.intro hnx (And.intro hL hsh))
            clear hbb hL hsh hlf hok hgot ht hnx
            obtain ⟨C2, hC2⟩ : ∃ q, q = 2 * code + t := ⟨_, rfl⟩
            rw [← hC2] at eO
            have HC2 := hide hC2
            clear hC2
            go_wp2_with fail
            refine (HBg.out).mono ?_
            rintro o w5 ⟨rfl, rfl⟩
            go_wp2_with fail
            refine (HTB.out).mono ?_
            rintro o w6 ⟨rfl, ho6, hR6⟩
            have hR6' : TRd w6 gq A c b (k + (j + 1)) := hR6
            have H6 := hide (And.intro hR6' ho6)
            clear hR6 hR6' ho6
            go_wp2_with fail
            go_roundw
            case rel => exact ⟨j + 1, .inr ⟨j, rfl, HSN.out.1, HX.out.2.1, HX.out.2.2⟩, by go_num, by rw [HX.out.1, ← HC2.out], H6.out.1, HJ.out.2.2.1.trans H6.out.2 (fun i hi _ => hi)⟩
            case measure => simp [intOf]; omega
end Go.Proofs.Ytkjdlpibnnhocaa
