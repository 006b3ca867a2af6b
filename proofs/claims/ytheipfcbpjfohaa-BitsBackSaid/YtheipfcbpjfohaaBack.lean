/-
  Proves: for all puts BitsBack tells true, and leaves all that was there as it was. No condition.
-/
import Derived.Test.YtheipfcbpjfohaaPuts
import Derived.Deep.RegionWith
import Derived.StillTailTactics
namespace Go.Proofs.Ytheipfcbpjfohaa.back
open Go Go.RowKit Go.ChangeShapes Go.WideShapes Go.ChangeAt

/-- What has been laid behind the first k puts: the number, and how many bits. -/
def laid (f : PutF) : Nat → Nat × Nat
  | 0 => (0, 0)
  | k + 1 => (laidN (laid f k).1 (laid f k).2 (f.V k) (f.N k), laidL (laid f k).2 (f.N k))

theorem laid_le (f : PutF) (k : Nat) : (laid f k).2 ≤ 32 * k := by
  induction k with
  | zero => simp [laid]
  | succ k ih =>
    show laidL (laid f k).2 (f.N k) ≤ _
    unfold laidL; split <;> omega
theorem laid_lt (f : PutF) (k : Nat) : (laid f k).1 < 2 ^ (laid f k).2 := by
  induction k with
  | zero => simp [laid]
  | succ k ih =>
    show laidN (laid f k).1 (laid f k).2 (f.V k) (f.N k) < 2 ^ laidL (laid f k).2 (f.N k)
    unfold laidN laidL
    by_cases h : 1 ≤ f.N k ∧ f.N k ≤ 32
    · rw [if_pos h, if_pos h, Nat.pow_add, Nat.mul_comm (2 ^ (laid f k).2)]
      have h1 : f.V k % 2 ^ (f.N k).toNat < 2 ^ (f.N k).toNat := Nat.mod_lt _ (Nat.two_pow_pos _)
      have h2 : (f.V k % 2 ^ (f.N k).toNat + 1) * 2 ^ (laid f k).2 ≤ 2 ^ (f.N k).toNat * 2 ^ (laid f k).2 := Nat.mul_le_mul_right _ h1
      rw [Nat.add_mul] at h2; omega
    · rw [if_neg h, if_neg h]; exact ih
theorem laid_step (f : PutF) (k : Nat) : ∃ R, (laid f (k + 1)).1 = (laid f k).1 + R * 2 ^ (laid f k).2 := by
  show ∃ R, laidN (laid f k).1 (laid f k).2 (f.V k) (f.N k) = _
  unfold laidN
  split
  · exact ⟨_, rfl⟩
  · exact ⟨0, by omega⟩
theorem laid_mono (f : PutF) {a b : Nat} (h : a ≤ b) : (laid f a).2 ≤ (laid f b).2 := by
  induction b with
  | zero => have : a = 0 := by omega
            subst this; exact Nat.le_refl _
  | succ b ih =>
    rcases Nat.lt_or_ge a (b + 1) with h1 | h1
    · have h2 := ih (by omega)
      have h3 : (laid f b).2 ≤ (laid f (b + 1)).2 := by
        show _ ≤ laidL (laid f b).2 (f.N b)
        unfold laidL; split <;> omega
      omega
    · have : a = b + 1 := by omega
      subst this; exact Nat.le_refl _
theorem laid_more (f : PutF) (a d : Nat) : ∃ R, (laid f (a + d)).1 = (laid f a).1 + R * 2 ^ (laid f a).2 := by
  induction d with
  | zero => exact ⟨0, by simp⟩
  | succ d ih =>
    obtain ⟨R, hR⟩ := ih
    obtain ⟨Q, hQ⟩ := laid_step f (a + d)
    have hm := laid_mono f (show a ≤ a + d by omega)
    refine ⟨R + Q * 2 ^ ((laid f (a + d)).2 - (laid f a).2), ?_⟩
    rw [← Nat.add_assoc, hQ, hR, Nat.add_mul, Nat.mul_assoc, ← Nat.pow_add, Nat.sub_add_cancel hm]
    omega
/-- What is read where it was laid. -/
theorem laid_read (f : PutF) {a m : Nat} (h : a < m) (hn : 1 ≤ f.N a ∧ f.N a ≤ 32) : bitsOf (laid f m).1 (laid f a).2 (f.N a).toNat = f.V a % 2 ^ (f.N a).toNat := by
  obtain ⟨R, hR⟩ := laid_more f (a + 1) (m - (a + 1))
  rw [show a + 1 + (m - (a + 1)) = m from by omega] at hR
  have h1 : (laid f (a + 1)).1 = (laid f a).1 + (f.V a % 2 ^ (f.N a).toNat) * 2 ^ (laid f a).2 := by
    show laidN _ _ _ _ = _
    unfold laidN; rw [if_pos hn]
  have h2 : (laid f (a + 1)).2 = (laid f a).2 + (f.N a).toNat := by
    show laidL _ _ = _
    unfold laidL; rw [if_pos hn]
  have hlt := laid_lt f a
  unfold bitsOf
  rw [hR, h1, h2, Nat.pow_add, Nat.mul_comm (2 ^ (laid f a).2), ← Nat.mul_assoc, Nat.add_assoc, ← Nat.add_mul, Nat.add_mul_div_right _ _ (Nat.two_pow_pos _), Nat.div_eq_of_lt hlt, Nat.zero_add, Nat.add_mul_mod_self_right, Nat.mod_mod]

theorem left_rd' (g : Nat) (v : Value) (l : List UInt8) (k : Nat) (w : World) (h : Rd w g v l k) :
    Calls Try.prog 20 #[.pointer (some ⟨g, 0, none⟩)] w fun e w' => e = .returned (.int .i64 ((8 * l.length - k : Nat) : Int)) ∧ ∃ m, w' = w.drewN m := by
  obtain ⟨A, c, rfl, _, _⟩ := own_shape h.2.1
  exact left_any g l.length c A k w h.1 h.2.2.1 h.2.2.2

set_option maxRecDepth 100000 in
set_option maxHeartbeats 4000000 in
theorem core (A : Option Addr) (m c : Nat) (f : PutF) (w : World) (hP : Puts w A m f) (hm : m ≤ 9223372036854775807) :
    Calls Try.prog 5 #[.slice A m c] w fun e w' => e = .returned (.bool true) ∧ Only [] w w' := by
  have hN1 : ∀ (g : Nat) (w : World), (binOp .eql 25 (.pointer (some ⟨g, 0, none⟩)) (.pointer none)).run Try.prog w = .ok (.bool false) w := fun g w => by kernel_rfl
  have hN2 : ∀ (g : Nat) (w : World), (binOp .eql 41 (.pointer (some ⟨g, 0, none⟩)) (.pointer none)).run Try.prog w = .ok (.bool false) w := fun g w => by kernel_rfl
  have HP := hide hP
  clear hP
  go_enter Try.func5, Try.ntmps5
  go_wp2_with fail
  refine (known_any w).mono ?_
  rintro e w1 ⟨rfl, ho⟩
  go_wp2_with fail
  refine (few_any A m c f w1 (HP.out.keep ho) hm).mono ?_
  rintro e w2 ⟨⟨fb, rfl, hfb⟩, rfl⟩
  cases fb with
  | false =>
    clear hfb
    go_wp2_with fail
    go_ret
    exact ⟨rfl, ho⟩
  | true =>
    have ht := hfb rfl
    have hm4 := total_ge f m
    have hm1 : m ≤ 1024 := by omega
    clear hfb ht hm4
    go_wp2_with fail
    refine (newWriter_any w1).mono ?_
    rintro e w2 ⟨g, rfl, hg, hW, ho2⟩
    have hsz := ho.size
    have h02 : Only [] w w2 := ho.trans ho2 (by simp)
    have hgw : w.heap.size ≤ g := by omega
    have HW := hide hW
    clear hW ho ho2 hg hsz
    go_wp2_with fail
    go_loopw [4] (fun i wr => ∃ (j : Nat) (v : Value), j ≤ m ∧ i = .int .i64 j ∧ Wr wr g v (laid f j).1 (laid f j).2 ∧ Only [] w wr ∧ ∀ b, v.ownBlock = some b → w.heap.size ≤ b) (fun i _ => m - (intOf i).toNat)
    case atStart => exact ⟨0, _, Nat.zero_le _, rfl, HW.out, h02, by simp [Value.ownBlock]⟩
    case round =>
      obtain ⟨j, v, hj, rfl, hWj, hoj, hvb⟩ := hrel
      by_cases hlt : j < m
      · obtain ⟨b, o, rfl, hp⟩ := HP.out j hlt
        have hpr := hp.keep hoj
        have d1 := hpr.num
        have d2 := hpr.val
        have hll := laid_le f j
        have HB := hide (wBits g v (laid f j).1 (laid f j).2 (f.V j) (f.N j) wr.drew hWj hp.rangeV (by omega))
        have hlaid : ((laidN (laid f j).1 (laid f j).2 (f.V j) (f.N j)), (laidL (laid f j).2 (f.N j))) = laid f (j + 1) := rfl
        have HL := hide hlaid
        have hj0 : (0 : Int) ≤ (j : Int) := Int.natCast_nonneg _
        have hj1 : (j : Int) < (m : Int) := by omega
        clear hlaid hp hpr
        go_wp2_with fail
        go_still_tail 11, (by kernel_rfl)
        change wpList _ _ _ _ _ wr.drew
        go_wp2_with fail
        refine (HB.out).mono ?_
        rintro e w3 ⟨rfl, v3, hW3, hs3⟩
        have hL1 : laidN (laid f j).1 (laid f j).2 (f.V j) (f.N j) = (laid f (j + 1)).1 := rfl
        have hL2 : laidL (laid f j).2 (f.N j) = (laid f (j + 1)).2 := rfl
        rw [hL1, hL2] at hW3
        have ho3 : Only [] w w3 := hoj.drew.trans hs3.1 (by
          intro i hi hlt
          rcases List.mem_cons.1 hi with h | h
          · omega
          · have hv : v.ownBlock = some i := by cases hv : v.ownBlock with
              | none => rw [hv] at h; simp at h
              | some j => rw [hv] at h; simp at h; rw [h]
            have := hvb i hv; omega)
        have hvb3 : ∀ b, v3.ownBlock = some b → w.heap.size ≤ b := by
          intro b hb
          rcases hs3.2 b hb with h | h
          · exact hvb b h
          · have h1 := hoj.size
            have h2 : wr.heap.size ≤ b := h
            omega
        have HE := hide (And.intro hW3 (And.intro ho3 hvb3))
        clear hW3 ho3 hvb3 hs3 hL1 hL2 HB HL hWj hoj hvb
        go_wp2_with fail
        go_roundw
        case rel => exact ⟨j + 1, v3, hlt, by go_num, HE.out.1, HE.out.2.1, HE.out.2.2⟩
        case measure => simp [intOf]; omega
      · obtain rfl : j = m := by omega
        have hll := laid_le f j
        have HB := hide (wDone g v (laid f j).1 (laid f j).2 wr hWj (by omega))
        clear hWj hlt
        go_wp2_with fail
        refine (HB.out).mono ?_
        rintro e w6 ⟨rv, bs, rfl, hown6, ho6, hlen6, hnum6⟩
        obtain ⟨A6, c6, rfl, _, hnil6⟩ := own_shape hown6
        have hbl : bs.length ≤ 10000 := by omega
        have hbl2 : (laid f j).2 ≤ 8 * bs.length ∧ 8 * bs.length < (laid f j).2 + 8 := by omega
        have H6 := hide hnum6
        clear hlen6 hnum6 HB
        go_wp2_with fail
        refine (newReader_any A6 bs.length c6 bs w6 (Holds.of_own hown6) rfl (by omega) (fun h => ⟨hnil6 h, by have := hnil6 h; omega⟩)).mono ?_
        rintro e w7 ⟨gr, vr, rfl, hgr, hvr, hR7, ho7⟩
        have h7 : Only [] w w7 := (hoj.trans ho6 (by simp)).trans ho7 (by simp)
        have hgr7 : w.heap.size ≤ gr := by
          have h1 := hoj.size
          have h2 := ho6.size
          omega
        have HE := hide (And.intro h7 (And.intro hgr7 hR7))
        have HX := hide hbl2
        clear h7 hgr7 hR7 hown6 hnil6 ho6 ho7 hgr hvr hoj hvb hbl2
        go_wp2_with fail
        go_loopw [6] (fun i wr => ∃ k : Nat, k ≤ j ∧ i = .int .i64 k ∧ Rd wr gr vr bs (laid f k).2 ∧ Only [] w wr) (fun i _ => j - (intOf i).toNat)
        case atStart => exact ⟨0, Nat.zero_le _, rfl, HE.out.2.2, HE.out.1⟩
        case round =>
          obtain ⟨k, hk, rfl, hRk, hok⟩ := hrel
          by_cases hlt : k < j
          · obtain ⟨b, o, rfl, hp⟩ := HP.out k hlt
            have hpr := hp.keep hok
            have d1 := hpr.num
            have d2 := hpr.val
            have hrN := hpr.rangeN
            have hrV := hpr.rangeV
            have hread := laid_read f hlt
            have hstep : (laid f (k + 1)).2 = laidL (laid f k).2 (f.N k) := rfl
            have hmono := laid_mono f (show k + 1 ≤ j by omega)
            unfold laidL at hstep
            clear hp hpr
            generalize f.N k = nn at *
            generalize f.V k = vv at *
            by_cases hlo : nn < 1
            · rw [if_neg (by omega)] at hstep
              have HS := hide hstep
              clear hread hstep hmono hll
              go_wp2_with fail
              go_roundw
              case rel => exact ⟨k + 1, hlt, by go_num, by rw [HS.out]; exact hRk, hok⟩
              case measure => simp [intOf]; omega
            by_cases hhi : 32 < nn
            · rw [if_neg (by omega)] at hstep
              have HS := hide hstep
              clear hread hstep hmono hll
              go_wp2_with fail
              go_roundw
              case rel => exact ⟨k + 1, hlt, by go_num, by rw [HS.out]; exact hRk, hok⟩
              case measure => simp [intOf]; omega
            obtain ⟨n, rfl⟩ := Int.eq_ofNat_of_zero_le (show 0 ≤ nn by omega)
            rw [if_pos (by omega), Int.toNat_natCast] at hstep
            have hread' := hread (by omega)
            rw [Int.toNat_natCast] at hread'
            have hokb : okBits bs.length (laid f k).2 n = true := by
              have := HX.out.1
              simp only [okBits, decide_eq_true_eq]; omega
            have hgot : gotBits bs (laid f k).2 n = vv % 2 ^ n := by
              rw [gotBits, if_pos hokb, Int.toNat_natCast, H6.out, hread']
            have HB := hide (bits_at gr vr bs (laid f k).2 n wr hRk (vv % 2 ^ n) true (laid f (k + 1)).2 hgot hokb (by rw [if_pos hokb, Int.toNat_natCast, hstep]))
            have hgr7 := HE.out.2.1
            by_cases h32 : n < 32
            · have hl := u32_low' vv n hrV h32
              obtain ⟨z, hz⟩ : ∃ z, z = vv % 2 ^ n := ⟨_, rfl⟩
              rw [← hz] at HB hl
              clear hz hread hstep hmono hread' hgot hokb hll
              go_wp2_with fail
              refine (HB.out).mono ?_
              rintro e wc ⟨rfl, hoc, hRc⟩
              have d3 : wc.cell? ⟨b, o + k * 4 + 2, none⟩ = some (.int .u32 vv) := by
                obtain ⟨b', o', he, hp⟩ := HP.out k hlt
                injection he with he; injection he with hb ho'; subst hb; subst ho'
                have hblt := hp.lt
                rw [hoc.cell (Nat.lt_of_lt_of_le hp.lt hok.size) (by simp; omega)]; exact d2
              have ho2 := hok.trans hoc (by simp; omega)
              clear HB d2 d1
              go_wp2_with fail
              go_roundw
              case rel => exact ⟨k + 1, hlt, by go_num, hRc, ho2⟩
              case measure => simp [intOf]; omega
            · obtain rfl : n = 32 := by omega
              have hv32 : vv % 2 ^ 32 = vv := Nat.mod_eq_of_lt hrV
              rw [hv32] at HB
              clear hv32 hread hstep hmono hread' hgot hokb hll h32
              go_wp2_with fail
              refine (HB.out).mono ?_
              rintro e wc ⟨rfl, hoc, hRc⟩
              have d3 : wc.cell? ⟨b, o + k * 4 + 2, none⟩ = some (.int .u32 vv) := by
                obtain ⟨b', o', he, hp⟩ := HP.out k hlt
                injection he with he; injection he with hb ho'; subst hb; subst ho'
                have hblt := hp.lt
                rw [hoc.cell (Nat.lt_of_lt_of_le hp.lt hok.size) (by simp; omega)]; exact d2
              have ho2 := hok.trans hoc (by simp; omega)
              clear HB d2 d1
              go_wp2_with fail
              go_roundw
              case rel => exact ⟨k + 1, hlt, by go_num, hRc, ho2⟩
              case measure => simp [intOf]; omega
          · obtain rfl : k = j := by omega
            have hleft := hide (left_rd' gr vr bs (laid f k).2 wr hRk)
            have h8 : 8 * bs.length - (laid f k).2 < 8 := by have := HX.out.2; omega
            clear hlt hRk hll
            generalize 8 * bs.length - (laid f k).2 = q at *
            go_wp2_with fail
            refine (hleft.out).mono ?_
            rintro e wc ⟨rfl, x, rfl⟩
            go_wp2_with fail
            go_ret
            refine ⟨ret_bool (by simp; omega), hok.drewN x⟩

set_option maxRecDepth 100000 in
theorem lifted (os : Os) (started : os.Started) (H : Type) (enc : TypeId × Value → H) :
    ReturnsInHanded {} Try.checked os 5 .any (Rows.bitsBackSpec.pre6 enc Try.prog Try.f5 Rows.bitsBackRow.domain false)
      (Rows.bitsBackSpec.post enc Try.prog Try.f5 false true false false) := by
  refine returnsInHanded_of_change (C := Try.checked) own_knob started (by kernel_rfl) Try.func5
    (ChangeSpec.witness6 (enc := enc) (C := Try.checked) false ⟨#[], #[.slice none 0 0], []⟩ 8 (by kernel_rfl) (by kernel_rfl) (by kernel_rfl) (by kernel_rfl)) ?_
  intro W base args ds gs before hval0 hW hcnd _
  have hval : ∀ (j : Nat) t v, Try.f5.params[j]? = some t → args[j]? = some v → Value.okWide Try.prog W .any base t v := hval0
  have hW' := hW
  obtain ⟨p, q, hA0, hV, rfl, hfz, hnd⟩ := hW
  have hA : DataW.TrodAll enc Try.prog W 0 (fun _ => true) true Try.f5.params.toList args.toList ds p := hA0
  rw [Try.params5] at hA hval
  obtain ⟨v0, vs0, d0, ds0, p0, q0, hargs, rfl, rfl, h0, r0⟩ := trodAll_cons hA
  obtain ⟨rfl, rfl, rfl⟩ := trodAll_nil r0
  obtain rfl : args = #[v0] := by cases args; simp_all
  obtain ⟨A, m, c, f, rfl, cm, hP⟩ := open_puts (hval 0 39 v0 rfl rfl) h0
  unfold maxLen at cm
  refine (core A m c f W hP (by omega)).mono fun e W' ⟨he, ho⟩ => ?_
  subst he
  exact ⟨_, rfl, law_post rfl hW' (by intro t ht; revert t; exact of_decide_eq_true (by kernel_rfl)) rfl rfl ho⟩

theorem proved : Rows.BitsBackSaid :=
  OpenClaim.holds_of_wide 5 Try.f5 rfl rfl rfl rfl rfl rfl rfl ⟨rfl, rfl, rfl, rfl, rfl⟩ rfl rfl rfl rfl rfl (by kernel_rfl) Try.func5 (by kernel_rfl)
    (of_decide_eq_true (by kernel_rfl)) (by unfold Func.isWrapper; first | (rw [if_pos (by decide +kernel)]; kernel_rfl) | (rw [if_neg (by decide +kernel)]; exact ⟨rfl, rfl⟩))
    (fun os started H enc _ => lifted os started H enc)
end Go.Proofs.Ytheipfcbpjfohaa.back
