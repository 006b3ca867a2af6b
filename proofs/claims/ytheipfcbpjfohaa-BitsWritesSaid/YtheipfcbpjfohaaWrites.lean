
/-
  Proves: for all puts BitsWrites tells true, and leaves all that was there as it was. No condition.
-/
import Derived.Test.YtheipfcbpjfohaaTwo
import Derived.Deep.RegionWith
import Derived.StillTailTactics
namespace Go.Proofs.Ytheipfcbpjfohaa.writes
open Go Go.RowKit Go.ChangeShapes Go.WideShapes Go.ChangeAt

theorem same_bytes {l m : List UInt8} {N n : Nat} (h1 : l.length = (n + 7) / 8) (h2 : num l = N) (h3 : m.length = (n + 7) / 8) (h4 : num m = N) : m = l :=
  num_inj (h3.trans h1.symm) (h4.trans h2.symm)

set_option maxRecDepth 100000 in
set_option maxHeartbeats 4000000 in
theorem core (A : Option Addr) (m c : Nat) (f : PutF) (w : World) (hP : Puts w A m f) (hm : m ≤ 9223372036854775807) :
    Calls Try.prog 4 #[.slice A m c] w fun e w' => e = .returned (.bool true) ∧ Only [] w w' := by
  have hN2 : ∀ (g : Nat) (w : World), (binOp .eql 41 (.pointer (some ⟨g, 0, none⟩)) (.pointer none)).run Try.prog w = .ok (.bool false) w := fun g w => by kernel_rfl
  have HP := hide hP
  clear hP
  go_enter Try.func4, Try.ntmps4
  go_wp2_with fail
  refine (known_any w).mono ?_
  rintro e w1 ⟨rfl, ho⟩
  go_wp2_with fail
  refine (few_any A m c f w1 (HP.out.keep ho) hm).mono ?_
  rintro e w2 ⟨⟨fb, rfl, hfb⟩, rfl⟩
  cases fb with
  | false =>
    clear hfb
    go_wp2_with fail
    go_ret
    exact ⟨rfl, ho⟩
  | true =>
    have ht := hfb rfl
    have hm4 := total_ge f m
    have hm1 : m ≤ 1024 := by omega
    have HT := hide ht
    clear hfb ht hm4
    go_wp2_with fail
    refine (newWriter_any w1).mono ?_
    rintro e w2 ⟨g, rfl, hg, hW, ho2⟩
    have hsz := ho.size
    have h02 : Only [] w w2 := ho.trans ho2 (by simp)
    have hgw : w.heap.size ≤ g := by omega
    have HW := hide (And.intro hW (And.intro h02 hgw))
    clear hW ho ho2 hg hsz h02 hgw
    go_wp2_with fail
    go_loopw [5] (fun i wr => ∃ (j n N : Nat) (v v' : Value), j ≤ m ∧ i = .int .i64 j ∧ n ≤ 8 * total f j ∧ Two w wr g w2.heap.size v v' N n N n) (fun i _ => m - (intOf i).toNat)
    case atStart =>
      refine ⟨0, 0, 0, .slice none 0 0, .slice none 0 0, Nat.zero_le _, rfl, Nat.zero_le _, ?_⟩
      have hW3 := HW.out
      have hlt := Wr.lt hW3.1
      have ho := (Only.refl [] w2).alloc (.cells #[.slice none 0 0] 45)
      exact ⟨hW3.1.only ho (by simp) (by simp), ⟨[], Has.new _ _ _, World.ownsRow_nil _ _ _ _, by simp, rfl, rfl⟩, hW3.2.1.trans ho (by simp), hW3.2.2, hW3.2.1.size, by omega, by simp [Value.ownBlock], by simp [Value.ownBlock], by simp [Value.ownBlock]⟩
    case round =>
      obtain ⟨j, n, N, v, v', hj, rfl, hnt, h2⟩ := hrel
      by_cases hlt : j < m
      · obtain ⟨b, o, rfl, hp⟩ := HP.out j hlt
        have hpr := hp.keep h2.only
        have d0 := hpr.kind
        have hts : total f (j + 1) = total f j + (f.B j).length + 4 := rfl
        have htm := total_mono f (show j + 1 ≤ m by omega)
        have htt := HT.out
        have hn4 : n ≤ 32768 := by omega
        have hj0 : (0 : Int) ≤ (j : Int) := Int.natCast_nonneg _
        have hj1 : (j : Int) < (m : Int) := by omega
        have HR := hide (And.intro hp.rangeV hp)
        have H2 := hide h2
        clear h2
        by_cases hk1 : f.K j = 1
        · rw [hk1] at d0
          have HB := hide (wBits g v N n (f.V j) (f.N j) wr.drew H2.out.wr HR.out.1 (by omega))
          have d1 := hpr.num
          have d2 := hpr.val
          have HL := hide (And.intro hnt (And.intro hts (And.intro htm htt)))
          clear hp hpr hnt hts htm htt
          go_wp2_with fail
          go_still_tail 11, (by kernel_rfl)
          change wpList _ _ _ _ _ wr.drew
          go_wp2_with fail
          refine (HB.out).mono ?_
          rintro e w3 ⟨rfl, v3, hW3, hs3⟩
          have h3 := (H2.out.keep ((Only.refl [] wr).drew)).step hW3 hs3
          have hp3 := HR.out.2.keep h3.only
          have HC := hide (tWBits w2.heap.size v' N n (f.V j) (f.N j) w3.drew h3.td HR.out.1 (by omega))
          have H3 := hide h3
          clear d0 d1 d2 HB hW3 hs3 h3
          have d1 := hp3.num
          have d2 := hp3.val
          clear hp3
          go_wp2_with fail
          go_still_tail 11, (by kernel_rfl)
          change wpList _ _ _ _ _ w3.drew
          go_wp2_with fail
          refine (HC.out).mono ?_
          rintro e w4 ⟨rfl, v4, hW4, hs4⟩
          have h4 := (H3.out.keep ((Only.refl [] w3).drew)).step' hW4 hs4
          have hn1 : laidL n (f.N j) ≤ 8 * total f (j + 1) := by
            have h1 : laidL n (f.N j) ≤ n + 32 := by unfold laidL; split <;> omega
            have := HL.out; omega
          generalize laidL n (f.N j) = n1 at *
          generalize laidN N n (f.V j) (f.N j) = N1 at *
          clear d1 d2 HC hW4 hs4 H3 H2
          have hn5 : n1 + 64 ≤ 140737488355328 := by have := HL.out; omega
          have HD1 := fun (W : World) (ho : Only [] w4 W) => hide (wDone g v3 N1 n1 W (h4.wr.only ho (by simp) (by simp)) hn5)
          have HD2 := fun (W : World) (ho : Only [] w4 W) => hide (tWDone w2.heap.size v4 N1 n1 W (h4.td.only ho (by simp) (by simp)) hn5)
          have H4 := hide (And.intro h4 hn1)
          have hdr : Only [] w4 w4.drew := (Only.refl [] w4).drew
          clear h4 hn1 hn5
          go_wp2_with fail
          go_region_with (first
            | (go_at_call 30; refine (HD1 _ hdr).out.mono ?_; rintro e wA ⟨ra, ba, rfl, hoa, hwa, hla, hna⟩; obtain ⟨Aa, ca, rfl, _, _⟩ := own_shape hoa; have HAB := hide (And.intro hla hna); clear hla hna;
               have hcA := run_string_of (Holds.of_own hoa) ca 22 5 9 Try.underlying22 Try.underlying5 Try.underlying9)
            | (go_at_call 31; refine (HD2 _ (hdr.trans hwa (by simp))).out.mono ?_; rintro e wB ⟨rb, bb, rfl, hob, hwb, hlb, hnb⟩; obtain rfl := same_bytes HAB.out.1 HAB.out.2 hlb hnb; clear hlb hnb; obtain ⟨Ab, cb, rfl, _, _⟩ := own_shape hob;
               have hcA2 := run_string_of (Holds.of_own (own_keep hoa hwb (by simp))) ca 22 5 9 Try.underlying22 Try.underlying5 Try.underlying9;
               have hcB := run_string_of (Holds.of_own hob) cb 22 5 9 Try.underlying22 Try.underlying5 Try.underlying9))
          all_goals (
            have hall : Only [] w4 wB := (hdr.trans hwa (by simp)).trans hwb (by simp)
            have HE := hide (And.intro (H4.out.1.keep hall) H4.out.2)
            clear hall hdr hwa hwb hoa hob HD1 HD2 H4 HAB hcA hcA2 hcB
            go_wp2_with fail
            go_roundw
            case rel => exact ⟨j + 1, n1, N1, v3, v4, hlt, by go_num, HE.out.2, HE.out.1⟩
            case measure => simp [intOf]; omega)
        by_cases hk2 : f.K j = 2
        · rw [hk2] at d0
          have HB := hide (wAlign g v N n wr H2.out.wr (by omega))
          have HL := hide (And.intro hnt (And.intro hts (And.intro htm htt)))
          clear hp hpr hnt hts htm htt
          go_wp2_with fail
          refine (HB.out).mono ?_
          rintro e w3 ⟨rfl, v3, hW3, hs3⟩
          have h3 := H2.out.step hW3 hs3
          have HC := hide (tWAlign w2.heap.size v' N n w3 h3.td (by omega))
          have H3 := hide h3
          clear d0 HB hW3 hs3 h3
          go_wp2_with fail
          refine (HC.out).mono ?_
          rintro e w4 ⟨rfl, v4, hW4, hs4⟩
          have h4 := H3.out.step' hW4 hs4
          have hn1 : n + padOf n ≤ 8 * total f (j + 1) := by
            have h7 : padOf n ≤ 7 := by unfold padOf; omega
            have := HL.out; omega
          obtain ⟨n1, hn1e⟩ : ∃ n1, n1 = n + padOf n := ⟨_, rfl⟩
          rw [← hn1e] at h4 hn1
          obtain ⟨N1, hN1e⟩ : ∃ N1, N1 = N := ⟨_, rfl⟩
          rw [← hN1e] at h4
          clear HC hW4 hs4 H3 H2 hn1e hN1e
          have hn5 : n1 + 64 ≤ 140737488355328 := by have := HL.out; omega
          have HD1 := fun (W : World) (ho : Only [] w4 W) => hide (wDone g v3 N1 n1 W (h4.wr.only ho (by simp) (by simp)) hn5)
          have HD2 := fun (W : World) (ho : Only [] w4 W) => hide (tWDone w2.heap.size v4 N1 n1 W (h4.td.only ho (by simp) (by simp)) hn5)
          have H4 := hide (And.intro h4 hn1)
          have hdr : Only [] w4 w4.drew := (Only.refl [] w4).drew
          clear h4 hn1 hn5
          go_wp2_with fail
          go_region_with (first
            | (go_at_call 30; refine (HD1 _ hdr).out.mono ?_; rintro e wA ⟨ra, ba, rfl, hoa, hwa, hla, hna⟩; obtain ⟨Aa, ca, rfl, _, _⟩ := own_shape hoa; have HAB := hide (And.intro hla hna); clear hla hna;
               have hcA := run_string_of (Holds.of_own hoa) ca 22 5 9 Try.underlying22 Try.underlying5 Try.underlying9)
            | (go_at_call 31; refine (HD2 _ (hdr.trans hwa (by simp))).out.mono ?_; rintro e wB ⟨rb, bb, rfl, hob, hwb, hlb, hnb⟩; obtain rfl := same_bytes HAB.out.1 HAB.out.2 hlb hnb; clear hlb hnb; obtain ⟨Ab, cb, rfl, _, _⟩ := own_shape hob;
               have hcA2 := run_string_of (Holds.of_own (own_keep hoa hwb (by simp))) ca 22 5 9 Try.underlying22 Try.underlying5 Try.underlying9;
               have hcB := run_string_of (Holds.of_own hob) cb 22 5 9 Try.underlying22 Try.underlying5 Try.underlying9))
          all_goals (
            have hall : Only [] w4 wB := (hdr.trans hwa (by simp)).trans hwb (by simp)
            have HE := hide (And.intro (H4.out.1.keep hall) H4.out.2)
            clear hall hdr hwa hwb hoa hob HD1 HD2 H4 HAB hcA hcA2 hcB
            go_wp2_with fail
            go_roundw
            case rel => exact ⟨j + 1, n1, N1, v3, v4, hlt, by go_num, HE.out.2, HE.out.1⟩
            case measure => simp [intOf]; omega)
        · have hlb : (f.B j).length ≤ 4096 := by omega
          have hsm := hpr.small
          have HA := hide (fun (hpos : 0 < (f.B j).length) (ad : Addr) (he : f.BA j = some ad) => show ad.block < w.heap.size from by
            obtain ⟨ad', he', hl, _⟩ := hp.holds.2 hpos
            rw [he] at he'; injection he' with he'; rw [he']; exact hl)
          have HB := hide (wBytes g v N n (f.BA j) (f.B j).length (f.BC j) (f.B j) wr H2.out.wr hpr.holds rfl (by omega) (fun hpos ad he _ => H2.out.far _ (HA.out hpos ad he)))
          have d3 := hpr.byt
          have HL := hide (And.intro hnt (And.intro hts (And.intro htm htt)))
          clear hp hpr hnt hts htm htt
          go_wp2_with fail
          refine (HB.out).mono ?_
          rintro e w3 ⟨rfl, v3, hW3, hs3⟩
          have h3 := H2.out.step hW3 hs3
          have hp3 := HR.out.2.keep h3.only
          have HC := hide (tWBytes w2.heap.size v' N n (f.BA j) (f.B j).length (f.BC j) (f.B j) w3 h3.td hp3.holds rfl (by omega) (fun hpos ad he _ => h3.far' _ (HA.out hpos ad he)))
          have H3 := hide h3
          clear d0 d3 HB hW3 hs3 h3
          have d3 := hp3.byt
          clear hp3
          go_wp2_with fail
          refine (HC.out).mono ?_
          rintro e w4 ⟨rfl, v4, hW4, hs4⟩
          have h4 := H3.out.step' hW4 hs4
          have hn1 : n + padOf n + 8 * (f.B j).length ≤ 8 * total f (j + 1) := by
            have h7 : padOf n ≤ 7 := by unfold padOf; omega
            have := HL.out; omega
          obtain ⟨n1, hn1e⟩ : ∃ n1, n1 = n + padOf n + 8 * (f.B j).length := ⟨_, rfl⟩
          rw [← hn1e] at h4 hn1
          obtain ⟨N1, hN1e⟩ : ∃ N1, N1 = N + num (f.B j) * 2 ^ (n + padOf n) := ⟨_, rfl⟩
          rw [← hN1e] at h4
          clear HC hW4 hs4 H3 H2 hn1e hN1e d3 HA
          have hn5 : n1 + 64 ≤ 140737488355328 := by have := HL.out; omega
          have HD1 := fun (W : World) (ho : Only [] w4 W) => hide (wDone g v3 N1 n1 W (h4.wr.only ho (by simp) (by simp)) hn5)
          have HD2 := fun (W : World) (ho : Only [] w4 W) => hide (tWDone w2.heap.size v4 N1 n1 W (h4.td.only ho (by simp) (by simp)) hn5)
          have H4 := hide (And.intro h4 hn1)
          have hdr : Only [] w4 w4.drew := (Only.refl [] w4).drew
          clear h4 hn1 hn5
          go_wp2_with fail
          go_region_with (first
            | (go_at_call 30; refine (HD1 _ hdr).out.mono ?_; rintro e wA ⟨ra, ba, rfl, hoa, hwa, hla, hna⟩; obtain ⟨Aa, ca, rfl, _, _⟩ := own_shape hoa; have HAB := hide (And.intro hla hna); clear hla hna;
               have hcA := run_string_of (Holds.of_own hoa) ca 22 5 9 Try.underlying22 Try.underlying5 Try.underlying9)
            | (go_at_call 31; refine (HD2 _ (hdr.trans hwa (by simp))).out.mono ?_; rintro e wB ⟨rb, bb, rfl, hob, hwb, hlb, hnb⟩; obtain rfl := same_bytes HAB.out.1 HAB.out.2 hlb hnb; clear hlb hnb; obtain ⟨Ab, cb, rfl, _, _⟩ := own_shape hob;
               have hcA2 := run_string_of (Holds.of_own (own_keep hoa hwb (by simp))) ca 22 5 9 Try.underlying22 Try.underlying5 Try.underlying9;
               have hcB := run_string_of (Holds.of_own hob) cb 22 5 9 Try.underlying22 Try.underlying5 Try.underlying9))
          all_goals (
            have hall : Only [] w4 wB := (hdr.trans hwa (by simp)).trans hwb (by simp)
            have HE := hide (And.intro (H4.out.1.keep hall) H4.out.2)
            clear hall hdr hwa hwb hoa hob HD1 HD2 H4 HAB hcA hcA2 hcB
            go_wp2_with fail
            go_roundw
            case rel => exact ⟨j + 1, n1, N1, v3, v4, hlt, by go_num, HE.out.2, HE.out.1⟩
            case measure => simp [intOf]; omega)
      · obtain rfl : j = m := by omega
        have H2 := hide h2
        clear h2 hnt
        go_wp2_with fail
        go_ret
        exact ⟨rfl, H2.out.only⟩

set_option maxRecDepth 100000 in
theorem lifted (os : Os) (started : os.Started) (H : Type) (enc : TypeId × Value → H) :
    ReturnsInHanded {} Try.checked os 4 .any (Rows.bitsWritesSpec.pre6 enc Try.prog Try.f4 Rows.bitsWritesRow.domain false)
      (Rows.bitsWritesSpec.post enc Try.prog Try.f4 false true false false) := by
  refine returnsInHanded_of_change (C := Try.checked) own_knob started (by kernel_rfl) Try.func4
    (ChangeSpec.witness6 (enc := enc) (C := Try.checked) false ⟨#[], #[.slice none 0 0], []⟩ 8 (by kernel_rfl) (by kernel_rfl) (by kernel_rfl) (by kernel_rfl)) ?_
  intro W base args ds gs before hval0 hW hcnd _
  have hval : ∀ (j : Nat) t v, Try.f4.params[j]? = some t → args[j]? = some v → Value.okWide Try.prog W .any base t v := hval0
  have hW' := hW
  obtain ⟨p, q, hA0, hV, rfl, hfz, hnd⟩ := hW
  have hA : DataW.TrodAll enc Try.prog W 0 (fun _ => true) true Try.f4.params.toList args.toList ds p := hA0
  rw [Try.params4] at hA hval
  obtain ⟨v0, vs0, d0, ds0, p0, q0, hargs, rfl, rfl, h0, r0⟩ := trodAll_cons hA
  obtain ⟨rfl, rfl, rfl⟩ := trodAll_nil r0
  obtain rfl : args = #[v0] := by cases args; simp_all
  obtain ⟨A, m, c, f, rfl, cm, hP⟩ := open_puts (hval 0 39 v0 rfl rfl) h0
  unfold maxLen at cm
  refine (core A m c f W hP (by omega)).mono fun e W' ⟨he, ho⟩ => ?_
  subst he
  exact ⟨_, rfl, law_post rfl hW' (by intro t ht; revert t; exact of_decide_eq_true (by kernel_rfl)) rfl rfl ho⟩

theorem proved : Rows.BitsWritesSaid :=
  OpenClaim.holds_of_wide 4 Try.f4 rfl rfl rfl rfl rfl rfl rfl ⟨rfl, rfl, rfl, rfl, rfl⟩ rfl rfl rfl rfl rfl (by kernel_rfl) Try.func4 (by kernel_rfl)
    (of_decide_eq_true (by kernel_rfl)) (by unfold Func.isWrapper; first | (rw [if_pos (by decide +kernel)]; kernel_rfl) | (rw [if_neg (by decide +kernel)]; exact ⟨rfl, rfl⟩))
    (fun os started H enc _ => lifted os started H enc)
end Go.Proofs.Ytheipfcbpjfohaa.writes
