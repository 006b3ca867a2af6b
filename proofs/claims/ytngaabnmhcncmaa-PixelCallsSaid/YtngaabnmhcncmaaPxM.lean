/-
  Package bits: Mul, for seats without the rest of it.
-/
import Derived.Test.YtngaabnmhcncmaaProg
import Derived.Test.YtngaabnmhcncmaaMem
import Derived.Test.YtngaabnmhcncmaaMulP
import Derived.Deep.QuietTactic
import Derived.BigQuiet
namespace Go.Proofs.Ytngaabnmhcncmaa
open Go Go.RowKit

theorem ret_mul {r : Int × Bool} {a : Int} {c : Bool} (h : r = (a, c)) : Ending.returned (.tuple #[.int .i64 a, .bool c]) = .returned (.tuple #[.int .i64 r.1, .bool r.2]) := by rw [h]

set_option maxHeartbeats 1000000 in
theorem mul_any (A : Option Addr) (n c : Nat) (zs : List Int) (w : World) (h : Holds w 1 A n (ivals zs)) (hl : zs.length = n) (hn : n ≤ 140737488355328) (hz : ∀ z ∈ zs, -9223372036854775808 ≤ z ∧ z ≤ 9223372036854775807) :
    Calls Try.prog 58 #[.slice A n c] w fun e w' => e = .returned (.tuple #[.int .i64 (mulGo 1 zs).1, .bool (mulGo 1 zs).2]) ∧ w = w' := by
  go_enter Try.func58, Try.ntmps58
  go_wp2
  go_loop [4, 6, 9] (fun p _ i => ∃ (j : Nat) (q : Int), j ≤ n ∧ i = .int .i64 j ∧ p = .int .i64 q ∧ 0 ≤ q ∧ q ≤ 1099511627776 ∧ mulGo 1 zs = mulGo q (zs.drop j)) (fun _ _ i => n - (intOf i).toNat)
  case atStart => exact ⟨0, 1, Nat.zero_le _, rfl, rfl, by decide, by decide, by simp⟩
  case round =>
    obtain ⟨j, q, hj, rfl, rfl, hq0, hq1, hm⟩ := hrel
    by_cases hlt : j < n
    · have hjl : j < zs.length := by omega
      obtain ⟨b, o, rfl, hc⟩ := h.addr (by simp [ivals]; omega)
      have hcell : w.cell? ⟨b, o + j, none⟩ = some (.int .i64 zs[j]) := hc j _ (by simp [ivals, hjl])
      rw [List.drop_eq_getElem_cons hjl] at hm
      have hzj := hz zs[j] (List.getElem_mem hjl)
      generalize zs[j] = z at *
      by_cases hneg : z < 0
      · have hr : mulGo 1 zs = (0, false) := hm.trans (mulGo_no (.inl hneg))
        have HR := hide hr
        clear hr hm hl hz hc
        go_wp2
        go_ret2
        exact ⟨ret_mul HR.out, rfl⟩
      · by_cases hp : 0 < q
        · by_cases hbig : 1099511627776 / q < z
          · have hr : mulGo 1 zs = (0, false) := hm.trans (mulGo_no (.inr ⟨hp, hbig⟩))
            have HR := hide hr
            clear hr hm hl hz hc
            go_wp2
            go_ret2
            exact ⟨ret_mul HR.out, rfl⟩
          · have hr := hm.trans (mulGo_yes (by omega))
            have hfit := mul_fits (n := z) hq0 hq1 (by omega) (fun hc => hbig hc.2)
            have ew : wrap64 (q * z) = q * z := IntWalk.wrap64_in _ ⟨by omega, by omega⟩
            have HR := hide hr
            clear hr hm hl hz hc
            go_wp2
            go_round
            case rel => exact ⟨j + 1, q * z, hlt, by go_num, rfl, hfit.1, hfit.2, HR.out⟩
            case measure => simp [intOf]; omega
        · have hr := hm.trans (mulGo_yes (by omega))
          have hfit := mul_fits (n := z) hq0 hq1 (by omega) (fun hc => hp hc.1)
          have ew : wrap64 (q * z) = q * z := IntWalk.wrap64_in _ ⟨by omega, by omega⟩
          have HR := hide hr
          clear hr hm hl hz hc
          go_wp2
          go_round
          case rel => exact ⟨j + 1, q * z, hlt, by go_num, rfl, hfit.1, hfit.2, HR.out⟩
          case measure => simp [intOf]; omega
    · have hd : zs.drop j = [] := List.drop_eq_nil_of_le (by omega)
      rw [hd] at hm
      have hr : mulGo 1 zs = (q, true) := hm
      have HR := hide hr
      clear hr hm hl hz hd
      go_wp2
      go_ret2
      exact ⟨ret_mul HR.out, rfl⟩
end Go.Proofs.Ytngaabnmhcncmaa
