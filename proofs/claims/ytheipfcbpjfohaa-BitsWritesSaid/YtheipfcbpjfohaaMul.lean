import Derived.Test.YtheipfcbpjfohaaClone
import Derived.Test.YtheipfcbpjfohaaMulP
import Derived.Deep.QuietTactic
import Derived.BigQuiet
namespace Go.Proofs.Ytheipfcbpjfohaa
open Go Go.RowKit

/-- The numbers as the model's values. -/
def ivals (zs : List Int) : List Value := zs.map fun z => .int .i64 z

theorem Holds.addr {w : World} {size n : Nat} {A : Option Addr} {xs : List Value} (h : Holds w size A n xs) (hp : 0 < xs.length) :
    ∃ b o, A = some ⟨b, o, none⟩ ∧ ∀ j u, xs[j]? = some u → w.cell? ⟨b, o + j, none⟩ = some u := by
  have hn : 0 < n := by
    rcases Nat.eq_zero_or_pos n with h0 | h0
    · have := h.1; rw [h0, Nat.zero_mul] at this; omega
    · exact h0
  obtain ⟨⟨b, o, s⟩, rfl, _, hc⟩ := h.2 hn
  have h0 := hc 0 _ (List.getElem?_eq_getElem hp)
  have hs : s = none := by
    cases s with
    | none => rfl
    | some k =>
      exfalso
      have e : (⟨b, o, some k⟩ : Addr).add 0 = ⟨b, o, some k⟩ := by simp [Addr.add]
      rw [e] at h0
      unfold World.cell? at h0
      split at h0 <;> simp at h0
  subst hs
  exact ⟨b, o, rfl, fun j u hu => by rw [← add_none]; exact hc j u hu⟩

theorem ret_mul {r : Int × Bool} {a : Int} {c : Bool} (h : r = (a, c)) : Ending.returned (.tuple #[.int .i64 a, .bool c]) = .returned (.tuple #[.int .i64 r.1, .bool r.2]) := by rw [h]

set_option maxHeartbeats 1000000 in
theorem mul_any (A : Option Addr) (n c : Nat) (zs : List Int) (w : World) (h : Holds w 1 A n (ivals zs)) (hl : zs.length = n) (hn : n ≤ 140737488355328) (hz : ∀ z ∈ zs, -9223372036854775808 ≤ z ∧ z ≤ 9223372036854775807) :
    Calls Try.prog 32 #[.slice A n c] w fun e w' => e = .returned (.tuple #[.int .i64 (mulGo 1 zs).1, .bool (mulGo 1 zs).2]) ∧ w = w' := by
  go_enter Try.func32, Try.ntmps32
  go_wp2
  go_loop [4, 6, 9] (fun p _ i => ∃ (j : Nat) (q : Int), j ≤ n ∧ i = .int .i64 j ∧ p = .int .i64 q ∧ 0 ≤ q ∧ q ≤ 1099511627776 ∧ mulGo 1 zs = mulGo q (zs.drop j)) (fun _ _ i => n - (intOf i).toNat)
  case atStart => exact ⟨0, 1, Nat.zero_le _, rfl, rfl, by decide, by decide, by simp⟩
  case round =>
    obtain ⟨j, q, hj, rfl, rfl, hq0, hq1, hm⟩ := hrel
    by_cases hlt : j < n
    · have hjl : j < zs.length := by omega
      obtain ⟨b, o, rfl, hc⟩ := h.addr (by simp [ivals]; omega)
      have hcell : w.cell? ⟨b, o + j, none⟩ = some (.int .i64 zs[j]) := hc j _ (by simp [ivals, hjl])
      rw [List.drop_eq_getElem_cons hjl] at hm
      have hzj := hz zs[j] (List.getElem_mem hjl)
      generalize zs[j] = z at *
      by_cases hneg : z < 0
      · have hr : mulGo 1 zs = (0, false) := hm.trans (mulGo_no (.inl hneg))
        have HR := hide hr
        clear hr hm hl hz hc
        go_wp2
        go_ret2
        exact ⟨ret_mul HR.out, rfl⟩
      · by_cases hp : 0 < q
        · by_cases hbig : 1099511627776 / q < z
          · have hr : mulGo 1 zs = (0, false) := hm.trans (mulGo_no (.inr ⟨hp, hbig⟩))
            have HR := hide hr
            clear hr hm hl hz hc
            go_wp2
            go_ret2
            exact ⟨ret_mul HR.out, rfl⟩
          · have hr := hm.trans (mulGo_yes (by omega))
            have hfit := mul_fits (n := z) hq0 hq1 (by omega) (fun hc => hbig hc.2)
            have ew : wrap64 (q * z) = q * z := IntWalk.wrap64_in _ ⟨by omega, by omega⟩
            have HR := hide hr
            clear hr hm hl hz hc
            go_wp2
            go_round
            case rel => exact ⟨j + 1, q * z, hlt, by go_num, rfl, hfit.1, hfit.2, HR.out⟩
            case measure => simp [intOf]; omega
        · have hr := hm.trans (mulGo_yes (by omega))
          have hfit := mul_fits (n := z) hq0 hq1 (by omega) (fun hc => hp hc.1)
          have ew : wrap64 (q * z) = q * z := IntWalk.wrap64_in _ ⟨by omega, by omega⟩
          have HR := hide hr
          clear hr hm hl hz hc
          go_wp2
          go_round
          case rel => exact ⟨j + 1, q * z, hlt, by go_num, rfl, hfit.1, hfit.2, HR.out⟩
          case measure => simp [intOf]; omega
    · have hd : zs.drop j = [] := List.drop_eq_nil_of_le (by omega)
      rw [hd] at hm
      have hr : mulGo 1 zs = (q, true) := hm
      have HR := hide hr
      clear hr hm hl hz hd
      go_wp2
      go_ret2
      exact ⟨ret_mul HR.out, rfl⟩

theorem drews (w : World) (m k : Nat) : ∃ n, (w.drewN m).drewN k = w.drewN n := ⟨m + k, by rw [World.drewN_drewN]⟩

set_option maxHeartbeats 2000000 in
theorem refMul_any (A : Option Addr) (n c : Nat) (zs : List Int) (w : World) (h : Holds w 1 A n (ivals zs)) (hl : zs.length = n) (hn : n ≤ 140737488355328) (hz : ∀ z ∈ zs, -9223372036854775808 ≤ z ∧ z ≤ 9223372036854775807) :
    Calls Try.prog 33 #[.slice A n c] w fun e w' => e = .returned (.tuple #[.int .i64 (mulGo 1 zs).1, .bool (mulGo 1 zs).2]) ∧ ∃ m, w' = w.drewN m := by
  go_enter Try.func33, Try.ntmps33
  go_wp2
  go_loopw [4, 5] (fun p i wr => ∃ (j m : Nat) (q : Int), wr = w.drewN m ∧ j ≤ n ∧ i = .int .i64 j ∧ p = .int .i64 q ∧ 0 ≤ q ∧ q ≤ 1099511627776 ∧ mulGo 1 zs = mulGo q (zs.drop j)) (fun _ i _ => n - (intOf i).toNat)
  case atStart => exact ⟨0, 0, 1, rfl, Nat.zero_le _, rfl, rfl, by decide, by decide, by simp⟩
  case round =>
    obtain ⟨j, m, q, rfl, hj, rfl, rfl, hq0, hq1, hm⟩ := hrel
    by_cases hlt : j < n
    · have hjl : j < zs.length := by omega
      obtain ⟨b, o, rfl, hc⟩ := h.addr (by simp [ivals]; omega)
      have hcell : w.cell? ⟨b, o + j, none⟩ = some (.int .i64 zs[j]) := hc j _ (by simp [ivals, hjl])
      rw [List.drop_eq_getElem_cons hjl] at hm
      have hzj := hz zs[j] (List.getElem_mem hjl)
      have hj0 : (0 : Int) ≤ (j : Int) := Int.natCast_nonneg _
      have hj1 : (j : Int) < (n : Int) := by omega
      generalize zs[j] = z at *
      by_cases hneg : z < 0
      · have hr : mulGo 1 zs = (0, false) := hm.trans (mulGo_no (.inl hneg))
        have HR := hide hr
        have hd : decide (z < 0) = true := by simpa using hneg
        clear hr hm hl hz hc
        go_wp2
        go_quiet (fail)
        go_wp2
        go_ret2
        exact ⟨ret_mul HR.out, (drews _ _ _)⟩
      · have hd : decide (z < 0) = false := by simpa using hneg
        by_cases hp : 0 < q
        · have hd2 : decide (0 < q) = true := by simpa using hp
          by_cases hbig : 1099511627776 / q < z
          · have hr : mulGo 1 zs = (0, false) := hm.trans (mulGo_no (.inr ⟨hp, hbig⟩))
            have HR := hide hr
            clear hr hm hl hz hc
            go_wp2
            go_quiet (fail)
            go_wp2
            go_ret2
            exact ⟨ret_mul HR.out, (drews _ _ _)⟩
          · have hr := hm.trans (mulGo_yes (by omega))
            have hfit := mul_fits (n := z) hq0 hq1 (by omega) (fun hc => hbig hc.2)
            have HR := hide hr
            have ew : wrap64 (q * z) = q * z := IntWalk.wrap64_in _ ⟨by omega, by omega⟩
            clear hr hm hl hz hc
            go_wp2
            go_quiet (fail)
            go_wp2
            go_roundw
            case rel => exact ⟨j + 1, _, q * z, rfl, hlt, by go_num, rfl, hfit.1, hfit.2, HR.out⟩
            case measure => simp [intOf]; omega
        · have hd2 : decide (0 < q) = false := by simpa using hp
          have hr := hm.trans (mulGo_yes (by omega))
          have hfit := mul_fits (n := z) hq0 hq1 (by omega) (fun hc => hp hc.1)
          have HR := hide hr
          have ew : wrap64 (q * z) = q * z := IntWalk.wrap64_in _ ⟨by omega, by omega⟩
          clear hr hm hl hz hc
          go_wp2
          go_quiet (fail)
          go_wp2
          go_roundw
          case rel => exact ⟨j + 1, _, q * z, rfl, hlt, by go_num, rfl, hfit.1, hfit.2, HR.out⟩
          case measure => simp [intOf]; omega
    · have hd : zs.drop j = [] := List.drop_eq_nil_of_le (by omega)
      rw [hd] at hm
      have hr : mulGo 1 zs = (q, true) := hm
      have HR := hide hr
      clear hr hm hl hz hd
      go_wp2
      go_ret2
      exact ⟨ret_mul HR.out, _, rfl⟩
end Go.Proofs.Ytheipfcbpjfohaa
