import Derived.Test.YtglkfgpefpebmaaDoorWriteA
namespace Go.Proofs.YtglkfgpefpebmaaDoor
open Go Go.RowKit

set_option maxHeartbeats 400000 in
theorem newWriter_any (w : World) :
    Calls Tryd.prog 18 #[] w fun e w' =>
      ∃ g, e = .returned (.pointer (some ⟨g, 0, none⟩)) ∧ w.heap.size ≤ g ∧ Wr w' g (.slice none 0 0) 0 0 ∧ Only [] w w' := by
  have hwr : Wr (w.alloc (.cells #[.slice none 0 0, .int .u64 0, .int .i64 0] 88)) w.heap.size (.slice none 0 0) 0 0 :=
    ⟨[], 0, 0, ⟨Has.new _ _ _, World.ownsRow_nil _ _ _ _, by decide, rfl, rfl⟩, by decide⟩
  have ho : Only [] w (w.alloc (.cells #[.slice none 0 0, .int .u64 0, .int .i64 0] 88)) := (Only.refl _ _).alloc _
  go_enter Tryd.func18, Tryd.ntmps18
  go_wp2
  go_ret
  exact ⟨w.heap.size, rfl, Nat.le_refl _, hwr, ho⟩

theorem WSince.refl (w : World) (g : Nat) (v : Value) : WSince w g v w v := ⟨Only.refl _ _, fun _ h => .inl h⟩
theorem WSince.trans {w w' w'' : World} {g : Nat} {v v' v'' : Value} (h : WSince w g v w' v') (k : WSince w' g v' w'' v'') : WSince w g v w'' v'' := by
  refine ⟨h.1.trans k.1 ?_, fun b hb => ?_⟩
  · intro i hi hlt
    rcases List.mem_cons.1 hi with rfl | hi
    · simp
    · have hv : v'.ownBlock = some i := by cases hv : v'.ownBlock with
        | none => rw [hv] at hi; simp at hi
        | some j => rw [hv] at hi; simp at hi; rw [hi]
      rcases h.2 i hv with h1 | h1
      · rw [h1]; simp
      · omega
  · rcases k.2 b hb with h1 | h1
    · exact h.2 b h1
    · exact .inr (Nat.le_trans h.1.size h1)

set_option maxHeartbeats 400000 in
theorem wbits_no (g x : Nat) (k : Int) (w : World) (hk : k < 1 ∨ 32 < k) :
    Calls Tryd.prog 22 #[.pointer (some ⟨g, 0, none⟩), .int .u32 x, .int .i64 k] w fun e w' => e = .returned (.tuple #[]) ∧ w = w' := by
  by_cases h1 : k < 1
  · clear hk
    go_enter Tryd.func22, Tryd.ntmps22
    go_wp2
    exact bodyPost_ret (results_none rfl _ _ _) rfl ⟨rfl, rfl⟩
  · have h2 : 32 < k := by omega
    clear hk
    go_enter Tryd.func22, Tryd.ntmps22
    go_wp2
    exact bodyPost_ret (results_none rfl _ _ _) rfl ⟨rfl, rfl⟩

/-- What a writer has laid behind Bits(x, k). -/
def laidN (N n x : Nat) (k : Int) : Nat := if 1 ≤ k ∧ k ≤ 32 then N + (x % 2 ^ k.toNat) * 2 ^ n else N
def laidL (n : Nat) (k : Int) : Nat := if 1 ≤ k ∧ k ≤ 32 then n + k.toNat else n

theorem wBits (g : Nat) (v : Value) (N n x : Nat) (k : Int) (w : World) (hW : Wr w g v N n) (hx : x < 4294967296) (hn : n + 32 ≤ 140737488355328) :
    Calls Tryd.prog 22 #[.pointer (some ⟨g, 0, none⟩), .int .u32 x, .int .i64 k] w fun e w' =>
      e = .returned (.tuple #[]) ∧ ∃ v', Wr w' g v' (laidN N n x k) (laidL n k) ∧ WSince w g v w' v' := by
  unfold laidN laidL
  by_cases hk : 1 ≤ k ∧ k ≤ 32
  · rw [if_pos hk, if_pos hk]
    obtain ⟨k, rfl⟩ := Int.eq_ofNat_of_zero_le (show 0 ≤ k by omega)
    rw [Int.toNat_natCast]
    obtain ⟨l, rest, cnt, h, hc⟩ := hW
    exact wbits_any g v l rest cnt N n x k w h hc hx (by omega) (by omega) (by omega)
  · rw [if_neg hk, if_neg hk]
    refine (wbits_no g x k w (by omega)).mono ?_
    rintro e w' ⟨rfl, rfl⟩
    exact ⟨rfl, v, hW, WSince.refl _ _ _⟩

/-- How many bits 0 Align lays. -/
def padOf (n : Nat) : Nat := (8 - n % 8) % 8

set_option maxHeartbeats 400000 in
theorem wAlign (g : Nat) (v : Value) (N n : Nat) (w : World) (hW : Wr w g v N n) (hn : n + 32 ≤ 140737488355328) :
    Calls Tryd.prog 40 #[.pointer (some ⟨g, 0, none⟩)] w fun e w' =>
      e = .returned (.tuple #[]) ∧ ∃ v', Wr w' g v' N (n + padOf n) ∧ WSince w g v w' v' := by
  obtain ⟨l, rest, cnt, hL, hc⟩ := hW
  have c2 : w.cell? ⟨g, 2, none⟩ = some (.int .i64 (cnt : Int)) := hL.1.cell 2
  have hcn : cnt = n % 8 := by have := hL.2.2.2.2; omega
  by_cases h0 : cnt = 0
  · subst h0
    have hp : padOf n = 0 := by unfold padOf; omega
    rw [hp]
    clear hcn
    go_enter Tryd.func40, Tryd.ntmps40
    go_wp2
    go_end0
    exact ⟨rfl, v, ⟨l, rest, 0, hL, by omega⟩, WSince.refl _ _ _⟩
  · have h1 : 0 < cnt := by omega
    have hp : padOf n = 8 - cnt := by unfold padOf; omega
    have HP := hide hp
    have HL := hide (wbits_any g v l rest cnt N n 0 (8 - cnt) w hL hc (by omega) (by omega) (by omega) (by omega))
    clear hp hcn hL
    go_enter Tryd.func40, Tryd.ntmps40
    go_wp2_with fail
    have e1 : (8 : Int) - (cnt : Int) = ((8 - cnt : Nat) : Int) := by omega
    rw [e1]
    refine (HL.out).mono ?_
    rintro e w' ⟨rfl, v', hW', hs⟩
    go_wp2
    go_end0
    refine ⟨rfl, v', ?_, hs⟩
    rw [HP.out]
    simpa using hW'

set_option maxHeartbeats 1000000 in
/-- Bytes that are laid: from the next byte on. -/
theorem wBytes (g : Nat) (v : Value) (N n : Nat) (A : Option Addr) (m c : Nat) (bs : List UInt8) (w : World) (hW : Wr w g v N n) (hb : Holds w 1 A m (bvals bs)) (hm : bs.length = m)
    (hN : n + 8 * m + 64 ≤ 140737488355328) (hA : 0 < m → ∀ ad, A = some ad → ad.block < w.heap.size → ad.block ∉ g :: v.ownBlock.toList) :
    Calls Tryd.prog 41 #[.pointer (some ⟨g, 0, none⟩), .slice A m c] w fun e w' =>
      e = .returned (.tuple #[]) ∧ ∃ v', Wr w' g v' (N + num bs * 2 ^ (n + padOf n)) (n + padOf n + 8 * m) ∧ WSince w g v w' v' := by
  obtain ⟨i0, hi0, hz0, hz1, hz2⟩ := info_of u8_info
  have HW := hide (wAlign g v N n w hW (by omega))
  go_enter Tryd.func41, Tryd.ntmps41
  go_wp2_with fail
  refine (HW.out).mono ?_
  rintro e w1 ⟨rfl, v1, ⟨l, rest, cnt, ⟨hh, hown, hr, hN1, hn1⟩, hc⟩, hs⟩
  have hpad : padOf n ≤ 7 ∧ (n + padOf n) % 8 = 0 := by unfold padOf; omega
  have hcnt0 : cnt = 0 := by omega
  have hr0 : rest = 0 := by rw [hcnt0] at hr; omega
  have hlen : l.length + m ≤ 140737488355328 := by omega
  have hb1 : Holds w1 1 A m (bvals bs) := by
    rcases Nat.eq_zero_or_pos m with h0 | h0
    · exact ⟨hb.1, fun hp => absurd hp (by omega)⟩
    · exact hb.keep hs.1 (hA h0)
  obtain ⟨A1, cc1, rfl, _, _⟩ := own_shape hown
  have c0 : w1.cell? ⟨g, 0, none⟩ = some (.slice A1 l.length cc1) := hh.cell 0
  have hne := own_ne hown hh (by decide)
  have hone := bvals_one bs
  have hroom : (l.length + m) * 1 ≤ 140737488355328 := by omega
  have Hpad := hide (And.intro hpad (And.intro hcnt0 (And.intro hr0 (And.intro hN1 hn1))))
  clear hpad hcnt0 hr0 hN1 hn1
  go_wp2_with (at_builtin; refine list_append _ rfl (.tmp 10) (.tmp 11) 22 rfl 0 1 1 Tryd.underlying22 hi0 hz0 hz1 hz2 rfl (Nat.zero_lt_one) hown rfl hb1 rfl hone hroom (Nat.zero_lt_one) (Nat.zero_le _) ?_; intro A2 cc2 w2 hown2 hgrow hat; have cw0 : w2.cell? ⟨g, 0, none⟩ = some (.slice A1 l.length cc1) := (hh.grown hgrow hne).cell 0; have fw0 : w2.frozen? ⟨g, 0, none⟩ = false := (hh.grown hgrow hne).free 0)
  go_end0
  obtain ⟨⟨hp7, hp8⟩, rfl, rfl, hN1, hn1⟩ := Hpad.out
  have hh2 := hh.grown hgrow hne
  have hne2 := own_ne hown2 hh2 (by decide)
  have hs2 : WSince w1 g (.slice A1 l.length cc1) (w2.setCell ⟨g, 0, none⟩ (.slice A2 (l.length + m) cc2)) (.slice A2 (l.length + m) cc2) := by
    refine ⟨((Only.refl _ _).grown hgrow (by
      intro k hk hlt
      simp [hk])).setCell (by simp) _, fun b hb => ?_⟩
    rcases hat with h | h
    · rw [h] at hb; exact .inl hb
    · rw [h] at hb; right; injection hb with hb; omega
  refine ⟨rfl, .slice A2 (l.length + m) cc2, ⟨l ++ bs, 0, 0, ⟨?_, ?_, by decide, ?_, ?_⟩, by decide⟩, hs.trans hs2⟩
  · exact (by simpa using hh2.set 0 (.slice A2 (l.length + m) cc2) : Has _ g 88 #[.slice A2 (l.length + m) cc2, .int .u64 0, .int .i64 0])
  · have h3 := ownsRow_setCell_other hown2 (a := ⟨g, 0, none⟩) (fun h => hne2 h.symm) (.slice A2 (l.length + m) cc2)
    rw [bvals_append, List.length_append, hm]
    exact h3
  · have e : n + padOf n = 8 * l.length := by omega
    rw [hN1, num_append, e, pow_256, Nat.mul_comm (num bs)]; omega
  · rw [List.length_append, hm]; omega

theorem num_one (b : UInt8) : num [b] = b.toNat := by simp [num]

/-- What Done hands back. -/
def DoneAs (w : World) (N n : Nat) (e : Ending) (w' : World) : Prop :=
  ∃ rv bs, e = .returned rv ∧ w'.ownsRow w.heap.size 5 1 rv bs.length (bvals bs) ∧ Only [] w w' ∧ bs.length = (n + 7) / 8 ∧ num bs = N

set_option maxHeartbeats 1000000 in
theorem wDone (g : Nat) (v : Value) (N n : Nat) (w : World) (hW : Wr w g v N n) (hN : n + 64 ≤ 140737488355328) :
    Calls Tryd.prog 20 #[.pointer (some ⟨g, 0, none⟩)] w (DoneAs w N n) := by
  obtain ⟨l, rest, cnt, ⟨hh, hown, hr, hN1, hn1⟩, hc⟩ := hW
  obtain ⟨A1, cc1, rfl, hcap, hnil⟩ := own_shape hown
  obtain ⟨i0, hi0, hz0, hz1, hz2⟩ := info_of u8_info
  have c0 : w.cell? ⟨g, 0, none⟩ = some (.slice A1 l.length cc1) := hh.cell 0
  have c1 : w.cell? ⟨g, 1, none⟩ = some (.int .u64 (rest : Int)) := hh.cell 1
  have c2 : w.cell? ⟨g, 2, none⟩ = some (.int .i64 (cnt : Int)) := hh.cell 2
  have hlen : l.length + 1 ≤ 140737488355328 := by omega
  by_cases h0 : 0 < cnt
  · have hp7 : 2 ^ cnt ≤ 2 ^ 7 := Nat.pow_le_pow_right (by omega) (by omega)
    obtain ⟨b, hb⟩ : ∃ b : UInt8, b.toNat = rest := ⟨UInt8.ofNat rest, by simp; omega⟩
    have e8 : IntKind.u8.wrap (rest : Int) = (b.toNat : Int) := by rw [hb, IntKind.wrap_u8]; omega
    have HB := hide hb
    have hone : ∀ u ∈ [Value.int .u8 (b.toNat : Int)], u.oneCell' = true := by simp [Value.oneCell']
    have hold : ∀ nq, Holds ((w.drewN nq).alloc (.cells #[.int .u8 (b.toNat : Int)] 5)) 1 A1 l.length (bvals l) := fun nq =>
      (Holds.of_own hown).keep (((Only.refl [] w).drewN nq).alloc _) (by simp)
    have hnew : ∀ nq, ∀ j u, [Value.int .u8 (b.toNat : Int)][j]? = some u → ((w.drewN nq).alloc (.cells #[.int .u8 (b.toNat : Int)] 5)).cell? ((⟨w.heap.size, 0, none⟩ : Addr).add j) = some u := fun nq =>
      (Holds.lit (w.drewN nq) #[.int .u8 (b.toNat : Int)] 5).at_ _ rfl
    have hnil' : A1 = none → l.length = 0 ∧ l.length = 0 := fun h => by have := hnil h; omega
    have HN := hide (And.intro hN1 hn1)
    clear hb hN1 hn1 hh
    go_enter Tryd.func20, Tryd.ntmps20
    go_wp2_with fail
    go_quiet (fail)
    go_wp2_with (at_builtin; refine wpList_append_grows _ rfl (.tmp 24) (.tmp 30) 22 rfl 5 i0 _ 1 1 Tryd.underlying22 hi0 hz0 hz1 hz2 rfl (Nat.zero_lt_one) A1 l.length l.length (bvals l) rfl hnil' (by simp) (hold nq).at_ _ 1 1 [.int .u8 (b.toNat : Int)] rfl rfl (hnew nq) hone (by omega) (by unfold maxLen; omega) (by omega) ?_; intro v2 w2 hown2 hg2)
    go_ret
    have ho : Only [] w w2 := (((Only.refl [] w).drewN nq).alloc _).grown hg2 (by simp)
    have hsz : w.heap.size ≤ ((w.drewN nq).alloc (.cells #[.int .u8 (b.toNat : Int)] 5)).heap.size := (((Only.refl [] w).drewN nq).alloc _).size
    refine ⟨v2, l ++ [b], rfl, ?_, ho, ?_, ?_⟩
    · rw [bvals_append, List.length_append]
      exact own_mono hown2 hsz
    · rw [List.length_append, List.length_singleton]; have := HN.out.2; omega
    · rw [num_snoc, HB.out, HN.out.1]
  · obtain rfl : cnt = 0 := by omega
    obtain rfl : rest = 0 := by omega
    have hold : ∀ nq, Holds (w.drewN nq) 1 A1 l.length (bvals l) := fun nq => (Holds.of_own hown).keep ((Only.refl [] w).drewN nq) (by simp)
    have hnil' : A1 = none → l.length = 0 ∧ l.length = 0 := fun h => by have := hnil h; omega
    have HN := hide (And.intro hN1 hn1)
    clear hN1 hn1 hh
    go_enter Tryd.func20, Tryd.ntmps20
    go_wp2_with fail
    go_quiet (fail)
    go_wp2_with fail
    refine (clone_any A1 l.length l.length l _ (hold nq) (by omega) (fun h => by have := hnil' h; omega)).mono ?_
    rintro e w' ⟨rv, rfl, hown2, ho⟩
    go_wp2
    go_ret
    refine ⟨rv, l, rfl, hown2, ((Only.refl [] w).drewN nq).trans ho (by simp), ?_, ?_⟩
    · have := HN.out.2; omega
    · have := HN.out.1; omega
end Go.Proofs.YtglkfgpefpebmaaDoor
