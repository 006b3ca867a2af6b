/-
  Proves: for all texts, cuts and further texts Base64Errors tells true, and leaves all that was there as it was. The two tables of package base64 hold what the program's own text lays (the card ties them).
-/
import Derived.Test.YtdnkkdpcahmngaaDoorB64K
import Derived.Test.YtdnkkdpcahmngaaDoorB64L
import Derived.Test.YtdnkkdpcahmngaaDoorB64Y
namespace Go.Proofs.YtdnkkdpcahmngaaDoor.errors
open Go Go.RowKit Go.ChangeShapes Go.WideShapes Go.ChangeAt

/-- b[z:], what is left by name. -/
theorem run_from' {w : World} {A : Option Addr} {n c : Nat} {l : List UInt8} (h : Holds w 1 A n (bvals l)) (hl : l.length = n) (hn : n ≤ c) (k : Nat) (hk : k ≤ n) (z : Int) (hz : z = k) :
    ∃ A' d c', d + k = n ∧ (∀ w', (Instr.slice 28 (.slice A n c) (some (.int .i64 z)) none none).run Tryd.prog w' = .ok (.slice A' d c') w') ∧ Holds w 1 A' d (bvals (l.drop k)) ∧ d ≤ c' ∧ (∀ ad', A' = some ad' → ∃ ad, A = some ad ∧ ad'.block = ad.block) := by
  subst hz
  obtain ⟨A', c', h1, h2, h3, h4⟩ := run_from h hl hn k hk
  exact ⟨A', n - k, c', by omega, h1, h2, h3, h4⟩
/-- b[:z]. -/
theorem run_upto' (A : Option Addr) (n c k : Nat) (hk : k ≤ c) (z : Int) (hz : z = k) (w : World) :
    (Instr.slice 28 (.slice A n c) none (some (.int .i64 z)) none).run Tryd.prog w = .ok (.slice A k c) w := by
  subst hz
  exact run_upto A n c k hk w

/-- A text in two parts: all well, or an error that stays. -/
theorem parts (l : List UInt8) (k : Nat) :
    (∃ o1 t1 o2 t2, St.new.write (l.take k) = (o1, 0, t1) ∧ t1.write (l.drop k) = (o2, 0, t2) ∧ St.new.write l = (o1 ++ o2, 0, t2)) ∨
    (∃ o1 e1 t1, St.new.write (l.take k) = (o1, e1, t1) ∧ t1.write (l.drop k) = ([], 3, St.wrong) ∧ St.new.write l = ([], 3, St.wrong)) := by
  have hb : St.new.bad = false := rfl
  have hw : ∀ s : St, s.bad = false → ∀ m, s.write m = match s.run m with
    | none => ([], 3, St.wrong)
    | some (o, t) => (o, 0, t) := fun s h m => by unfold St.write; rw [h]; rfl
  have hl : St.new.run l = (St.new.run (l.take k)).bind fun x => (St.run x.2 (l.drop k)).map fun y => (x.1 ++ y.1, y.2) := by
    rw [← run_append, List.take_append_drop]
  rw [hw _ hb, hw _ hb, hl]
  cases h1 : St.new.run (l.take k) with
  | none => exact .inr ⟨_, _, _, rfl, by simp [St.write, St.wrong], rfl⟩
  | some x =>
    obtain ⟨o1, t1⟩ := x
    have ht := (run_ok St.Ok.new rfl h1).2
    cases h2 : t1.run (l.drop k) with
    | none => exact .inr ⟨_, _, _, rfl, by rw [hw _ ht, h2], by simp [h2]⟩
    | some y =>
      obtain ⟨o2, t2⟩ := y
      exact .inl ⟨_, _, _, _, rfl, by rw [hw _ ht, h2], by simp [h2]⟩

theorem parts' (l : List UInt8) (k : Nat) : ∃ o1 E1 t1 o2 E2 t2 o3 E3 t3, St.new.write (l.take k) = (o1, E1, t1) ∧ t1.write (l.drop k) = (o2, E2, t2) ∧ St.new.write l = (o3, E3, t3) ∧ t1.Ok ∧ t2.Ok ∧
    ((E1 = 0 ∧ E2 = 0 ∧ E3 = 0 ∧ (⟨o1.toArray⟩ : ByteArray) ++ ⟨o2.toArray⟩ = ⟨o3.toArray⟩ ∧ o1.length + o2.length ≤ 6 * l.length) ∨ (E1 = 0 ∧ E2 = 3 ∧ E3 = 3 ∧ t2 = St.wrong) ∨ (E1 = 3 ∧ E2 = 3 ∧ E3 = 3 ∧ t2 = St.wrong)) := by
  have h1 := write_ok St.Ok.new (l.take k)
  have h2 := write_err St.new (l.take k)
  rcases parts l k with ⟨o1, t1, o2, t2, e1, e2, e3⟩ | ⟨o1, E1, t1, e1, e2, e3⟩
  · rw [e1] at h1 h2
    have h3 := write_ok h1 (l.drop k)
    rw [e2] at h3
    have q1 := write_few St.Ok.new (l.take k)
    have q2 := write_few h1 (l.drop k)
    rw [e1, List.length_take] at q1
    rw [e2, List.length_drop] at q2
    exact ⟨_, _, _, _, _, _, _, _, _, e1, e2, e3, h1, h3, .inl ⟨rfl, rfl, rfl, by apply ByteArray.ext; simp, by simp only at q1 q2; omega⟩⟩
  · rw [e1] at h1 h2
    refine ⟨_, _, _, _, _, _, _, _, _, e1, e2, e3, h1, St.Ok.wrong, ?_⟩
    rcases h2 with h2 | h2
    · exact .inr (.inl ⟨h2, rfl, rfl, rfl⟩)
    · exact .inr (.inr ⟨h2.1, rfl, rfl, rfl⟩)

theorem wrong_write (m : List UInt8) : St.wrong.write m = ([], 3, St.wrong) := by simp [St.write, St.wrong]
theorem wrong_fin : St.wrong.fin = ([], 3, St.wrong) := by simp [St.fin, St.wrong]
theorem known5 : St.new.write [81, 85, 74, 68] = ([65, 66, 67], 0, St.new) := by kernel_rfl
set_option maxRecDepth 100000 in
set_option maxHeartbeats 4000000 in
theorem core (A L : Option Addr) (n c m d : Nat) (z : Int) (l t : List UInt8) (w : World) (T : Tab w) (hb : Holds w 1 A n (bvals l)) (hl : l.length = n) (hc : n ≤ c) (ht : Holds w 1 L m (bvals t)) (htl : t.length = m)
    (hn0 : n ≤ 9223372036854775807) (hm0 : m ≤ 9223372036854775807) :
    Calls Tryd.prog 6 #[.slice A n c, .int .i64 z, .slice L m d] w fun e w' => e = .returned (.bool true) ∧ Only [] w w' := by
  subst hl
  subst htl
  have hn1 : ∀ (g : Nat) (w : World), (binOp .eql 25 (.pointer (some ⟨g, 0, none⟩)) (.pointer none)).run Tryd.prog w = .ok (.bool false) w := fun g w => by kernel_rfl
  have HK := hide (known_any w T)
  by_cases h1 : 4096 < l.length
  · clear hb ht T
    go_enter Tryd.func6, Tryd.ntmps6
    go_wp2_with fail
    refine (HK.out).mono ?_
    rintro e w1 ⟨rfl, ho⟩
    have HO := hide ho
    clear ho
    go_wp2_with fail
    go_ret
    exact ⟨rfl, HO.out⟩
  by_cases h2 : 4096 < t.length
  · clear hb ht T
    go_enter Tryd.func6, Tryd.ntmps6
    go_wp2_with fail
    refine (HK.out).mono ?_
    rintro e w1 ⟨rfl, ho⟩
    have HO := hide ho
    clear ho
    go_wp2_with fail
    go_ret
    exact ⟨rfl, HO.out⟩
  have hd1 : decide (4096 < l.length) = false := by simpa using h1
  have hd2 : decide (4096 < t.length) = false := by simpa using h2
  have HT := hide (And.intro T (And.intro hb (And.intro ht hn1)))
  have hcut : ∃ k : Nat, k ≤ l.length ∧ ((0 ≤ z ∧ z ≤ l.length ∧ z = k) ∨ (z < 0 ∧ ((l.length : Nat) : Int) = k) ∨ (0 ≤ z ∧ (l.length : Int) < z ∧ ((l.length : Nat) : Int) = k)) := by
    by_cases h : 0 ≤ z ∧ z ≤ l.length
    · exact ⟨z.toNat, by omega, .inl ⟨h.1, h.2, by omega⟩⟩
    · exact ⟨l.length, Nat.le_refl _, by omega⟩
  obtain ⟨k, hk, hcut⟩ := hcut
  clear T hb ht
  go_enter Tryd.func6, Tryd.ntmps6
  go_wp2_with fail
  refine (HK.out).mono ?_
  rintro e w1 ⟨rfl, ho1⟩
  have HO1 := hide ho1
  clear ho1
  go_wp2_with fail
  refine (newDecoder_any w1).mono ?_
  rintro e w2 ⟨g, rfl, hg, hd2', ho2⟩
  have o2 := HO1.out.trans ho2 (by simp)
  have hg0 : w.heap.size ≤ g := Nat.le_trans HO1.out.size hg
  have H2 := hide (And.intro hd2' (And.intro o2 hg0))
  clear hd2' ho2 o2 hg hg0
  obtain ⟨o1, E1, t1, o2, E2, t2, o3, E3, t3, e1, e2, e3, k1, k2, hrel⟩ := parts' l k
  have HR := hide (And.intro e1 (And.intro e2 (And.intro e3 (And.intro k1 (And.intro k2 hrel)))))
  clear e1 e2 e3 k1 k2 hrel
  rcases hcut with ⟨q1, q2, q3⟩ | ⟨q1, q3⟩ | ⟨q1, q2, q3⟩
  focus
    obtain ⟨A', d', c', hdk, hfr, hh', hdc, hbk⟩ := run_from' HT.out.2.1 rfl hc k hk z q3
    have hup := run_upto' A l.length c k (by omega) z q3
    have HF := hide (And.intro hh' (And.intro hbk hdk))
    clear q3 hh' hbk hdk
    go_wp2_with fail
  rotate_left 1
  focus
    obtain ⟨A', d', c', hdk, hfr, hh', hdc, hbk⟩ := run_from' HT.out.2.1 rfl hc k hk ((l.length : Nat) : Int) q3
    have hup := run_upto' A l.length c k (by omega) ((l.length : Nat) : Int) q3
    have HF := hide (And.intro hh' (And.intro hbk hdk))
    clear q3 hh' hbk hdk
    go_wp2_with fail
  rotate_left 1
  focus
    obtain ⟨A', d', c', hdk, hfr, hh', hdc, hbk⟩ := run_from' HT.out.2.1 rfl hc k hk ((l.length : Nat) : Int) q3
    have hup := run_upto' A l.length c k (by omega) ((l.length : Nat) : Int) q3
    have HF := hide (And.intro hh' (And.intro hbk hdk))
    clear q3 hh' hbk hdk
    go_wp2_with fail
  all_goals
    have hoA : Only [] w (w2.alloc (.cells #[.slice none 0 0, .bool false, .bool false] 30)) := H2.out.2.1.alloc _
    have hW1 := write_any g St.new A k c (l.take k) _ (HT.out.1.only hoA (by simp) (by simp)) (Has.alloc H2.out.1 _) St.Ok.new ((HT.out.2.1.upto k hk).keep hoA (by simp)) (by rw [List.length_take]; omega) (by omega)
      (fun h0 ad ha => by have := HT.out.2.1.blk (by omega) ad ha; have := H2.out.2.2; omega)
    rw [HR.out.1] at hW1
    have H3 := hide (And.intro hoA hW1)
    clear hoA hW1
    refine (H3.out.2).mono ?_
    rintro e w3 ⟨v3, rfl, ho3, hd3, hon3⟩
    obtain ⟨A3, c3, rfl, _, _⟩ := own_shape ho3
    have o03 : Only [] w w3 := H3.out.1.trans hon3 (by have := H2.out.2.2; simp; omega)
    have hW2 := write_any g t1 A' d' c' (l.drop k) w3 (HT.out.1.only o03 (by simp) (by simp)) hd3 HR.out.2.2.2.1 (HF.out.1.keep o03 (by simp)) (by rw [List.length_drop]; have := HF.out.2.2; omega) (by have := HF.out.2.2; omega)
      (fun h0 ad ha => by obtain ⟨ad0, h5, h6⟩ := HF.out.2.1 ad ha; have := HT.out.2.1.blk (by have := HF.out.2.2; omega) ad0 h5; have := H2.out.2.2; omega)
    rw [HR.out.2.1] at hW2
    have hne3 := own_ne ho3 hd3 (by decide)
    have H4 := hide (And.intro ho3 (And.intro hon3 (And.intro o03 (And.intro hne3 hW2))))
    clear ho3 hd3 hon3 o03 hne3 hW2
    focus go_wp2_with fail
    refine (H4.out.2.2.2.2).mono ?_
    rintro e w4 ⟨v4, rfl, ho4, hd4, hon4⟩
    obtain ⟨A4, c4, rfl, _, _⟩ := own_shape ho4
    have o04 : Only [] w w4 := H4.out.2.2.1.trans hon4 (by have := H2.out.2.2; simp; omega)
    have oA4 : Only [g] _ w4 := H4.out.2.1.trans hon4 (by simp)
    have glt := H2.out.1.lt
    have hs0 := H2.out.2.1.size
    have hrf := (Rf.fresh w.heap.size w2 w2.heap.size rfl).only oA4 (by simp; omega) (by simp [Value.ownBlock])
    have hW3 := tWrite w.heap.size w2.heap.size _ St.new A l.length c l w4 hrf St.Ok.new o04.size (HT.out.2.1.keep o04 (by simp)) rfl (by omega)
      (fun h0 ad ha => ⟨by have := HT.out.2.1.blk h0 ad ha; omega, by simp [Value.ownBlock]⟩)
    rw [HR.out.2.2.1] at hW3
    have hne4 := own_ne ho4 hd4 (by decide)
    have H5 := hide (And.intro ho4 (And.intro hon4 (And.intro o04 (And.intro hne4 (And.intro hd4 (And.intro glt (And.intro hs0 hW3)))))))
    clear ho4 hd4 hon4 o04 oA4 hrf hW3 hne4 glt hs0
    focus go_wp2_with fail
    refine (H5.out.2.2.2.2.2.2.2).mono ?_
    rintro e w5 ⟨r5, v5, rfl, ho5, hr5, hs5⟩
    obtain ⟨A5, c5, rfl, _, _⟩ := own_shape ho5
    have o45 : Only [w2.heap.size] w4 w5 := by simpa [Value.ownBlock] using hs5.only
    have glt := H5.out.2.2.2.2.2.1
    have hs0 := H5.out.2.2.2.2.2.2.1
    have o05 : Only [] w w5 := H5.out.2.2.1.trans o45 (by simp; omega)
    have hd5 : De w5 g t2 := Has.only H5.out.2.2.2.2.1 o45 (by simp; omega)
    have sa := own_string (own_keep (own_keep H4.out.1 H5.out.2.1 (fun b hb hm => H4.out.2.2.2.1 (hb.trans (congrArg some (by simpa using hm))).symm)) o45 (fun b hb hm => by
      have h1 := (H4.out.1.lt b hb).1
      have h2 : b = w2.heap.size := by simpa using hm
      simp at h1; omega))
    have sb := own_string (own_keep H5.out.1 o45 (fun b hb hm => by
      have h1 := (H5.out.1.lt b hb).1
      have h2 : b = w2.heap.size := by simpa using hm
      have h3 := H4.out.2.1.size
      simp at h3; omega))
    have sc := own_string ho5
    have H6 := hide (And.intro o05 hd5)
    have HREL := hide HR.out.2.2.2.2.2
    have HOK := hide HR.out.2.2.2.2.1
    clear ho5 hr5 hs5 o45 glt hs0 o05 hd5 HR H5 H4 H3 HF
    rcases HREL.out with ⟨rfl, rfl, rfl, hcat, hlen⟩ | ⟨rfl, rfl, rfl, rfl⟩ | ⟨rfl, rfl, rfl, rfl⟩
    focus
      clear HREL
      go_wp2_with fail
      go_ret
      exact ⟨rfl, H6.out.1⟩
    all_goals
      clear HREL HOK sa sb sc hfr hup
      have hW6 := write_any g St.wrong L t.length d t w5 (HT.out.1.only H6.out.1 (by simp) (by simp)) H6.out.2 St.Ok.wrong (HT.out.2.2.1.keep H6.out.1 (by simp)) rfl (by omega)
        (fun h0 ad ha => by have := HT.out.2.2.1.blk h0 ad ha; have := H2.out.2.2; omega)
      rw [wrong_write] at hW6
      have HW6 := hide hW6
      clear hW6
      focus go_wp2_with fail
      refine (HW6.out).mono ?_
      rintro e w6 ⟨v6, rfl, ho6, hd6, hon6⟩
      obtain ⟨A6, c6, rfl, _, _⟩ := own_shape ho6
      have hE6 := end_any g St.wrong w6 hd6 St.Ok.wrong
      rw [wrong_fin] at hE6
      have H7 := hide (And.intro hon6 hE6)
      clear ho6 hd6 hon6 hE6
      focus go_wp2_with fail
      refine (H7.out.2).mono ?_
      rintro e w7 ⟨v7, rfl, ho7, hd7, hon7⟩
      obtain ⟨A7, c7, rfl, _, _⟩ := own_shape ho7
      have hh := held_o g St.wrong w7 hd7 (by decide) (by decide)
      have hh : Calls Tryd.prog 15 #[.pointer (some ⟨g, 0, none⟩)] w7 fun e w' => e = .returned (.int .i64 0) ∧ De w' g St.wrong ∧ Only [] w7 w' := hh
      have H8 := hide (And.intro hon7 hh)
      clear ho7 hd7 hon7 hh
      focus go_wp2_with fail
      refine (H8.out.2).mono ?_
      rintro e w8 ⟨rfl, hd8, hon8⟩
      have H9 := hide (And.intro hon8 (reset_any g _ w8 hd8))
      clear hd8 hon8
      focus go_wp2_with fail
      refine (H9.out.2).mono ?_
      rintro e w9 ⟨rfl, hd9, hon9⟩
      have hg0 := H2.out.2.2
      have o09 : Only [] w w9 := ((((H6.out.1.trans H7.out.1 (by simp; omega)).trans H8.out.1 (by simp; omega)).trans H9.out.1 (by simp)).trans hon9 (by simp; omega))
      have glt := hd9.lt
      have hlit : Holds (w9.alloc (.cells #[.int .u8 81, .int .u8 85, .int .u8 74, .int .u8 68] 5 (4, 5))) 1 (some ⟨w9.heap.size, 0, none⟩) 4 (bvals [81, 85, 74, 68]) := Holds.lit_mark w9 _ _ _ _ rfl
      have ol : Only [] w9 (w9.alloc (.cells #[.int .u8 81, .int .u8 85, .int .u8 74, .int .u8 68] 5 (4, 5))) := (Only.refl [] w9).alloc _
      have hW9 := write_any g St.new _ 4 4 _ _ (HT.out.1.only (o09.trans ol (by simp)) (by simp) (by simp)) (Has.only hd9 ol (by simp)) St.Ok.new hlit rfl (by omega) (fun _ ad ha => by injection ha with ha; subst ha; show w9.heap.size ≠ g; omega)
      rw [known5] at hW9
      have hcv := run_bytes_const Tryd.prog 28 5 Tryd.underlying28 Tryd.underlying5
      have HA := hide (And.intro o09 (And.intro ol (And.intro hg0 hW9)))
      clear hd9 hon9 o09 glt hlit ol hW9 hg0
      focus go_wp2_with fail
      refine (HA.out.2.2.2).mono ?_
      rintro e wz ⟨vz, rfl, hoz, _, honz⟩
      obtain ⟨Az, cz, rfl, _, _⟩ := own_shape hoz
      have sz : (convert 28 9 (.slice Az 3 cz)).run Tryd.prog wz = .ok (.string ⟨#[65, 66, 67]⟩) wz := own_string hoz
      have HZ := hide honz
      clear hoz honz
      focus go_wp2_with fail
      go_ret
      exact ⟨rfl, (HA.out.1.trans HA.out.2.1 (by simp)).trans HZ.out (by have := HA.out.2.2.1; simp; omega)⟩


set_option maxRecDepth 100000 in
theorem lifted (os : Os) (started : os.Started) (H : Type) (enc : TypeId × Value → H) :
    ReturnsInHanded {} Tryd.checked os 6 .any (fun w args => (Rows.base64ErrorsSpec.pre enc Tryd.prog Tryd.f6 [] false w args ∧ laidMetH Tryd.prog laidB w) ∧ sizedMet enc Tryd.prog Tryd.f6 (OpenSpec.ofChange Rows.base64ErrorsSpec) false w args)
      (Rows.base64ErrorsSpec.post enc Tryd.prog Tryd.f6 false true false false) := by
  refine returnsInHanded_of_change_and (C := Tryd.checked) (X := fun w _ => laidMetH Tryd.prog laidB w) (fun _ _ _ hh h => h.of_heap hh) own_knob started (by kernel_rfl) Tryd.func6
    (ChangeSpec.witness_shaped (enc := enc) (C := Tryd.checked) (os := os) (X := fun w _ => laidMetH Tryd.prog laidB w) false (World.doorLaid Tryd.prog 400 os) #[.slice none 0 0, .int .i64 0, .slice none 0 0] 8 rfl (World.shaped_of_RefB (by kernel_rfl) (by kernel_rfl)) (by kernel_rfl) (by kernel_rfl) (by kernel_rfl) (door_met os _)) ?_
  intro W base args ds gs before hval0 hW _ _ hL _
  have hval : ∀ (j : Nat) t v, Tryd.f6.params[j]? = some t → args[j]? = some v → Value.okWide Tryd.prog W .any base t v := hval0
  have hW' := hW
  obtain ⟨p, q, hA0, hV, rfl, hfz, hnd⟩ := hW
  have hA : DataW.TrodAll enc Tryd.prog W 0 (fun _ => true) true Tryd.f6.params.toList args.toList ds p := hA0
  rw [Tryd.params6] at hA hval
  obtain ⟨v0, vs0, d0, ds0, p0, q0, hargs, rfl, rfl, h0, r0⟩ := trodAll_cons hA
  obtain ⟨v1, vs1, d1, ds1, p1, q1, rfl, rfl, rfl, h1, r1⟩ := trodAll_cons r0
  obtain ⟨v2, vs2, d2, ds2, p2, q2, rfl, rfl, rfl, h2, r2⟩ := trodAll_cons r1
  obtain ⟨rfl, rfl, rfl⟩ := trodAll_nil r2
  obtain rfl : args = #[v0, v1, v2] := by cases args; simp_all
  obtain ⟨A, n, c, l, rfl, nc, cm, _, hn, hb⟩ := open_bytes Tryd.underlying28 Tryd.underlying5 (by kernel_rfl) (hval 0 28 v0 rfl rfl) h0
  obtain ⟨z, rfl, rfl, rfl, _⟩ := open_int Tryd.underlying3 (hval 1 3 v1 rfl rfl) h1
  obtain ⟨L, m, d, t, rfl, md, dm, _, hm, ht⟩ := open_bytes Tryd.underlying28 Tryd.underlying5 (by kernel_rfl) (hval 2 28 v2 rfl rfl) h2
  unfold maxLen at cm dm
  refine (core A L n c m d z l t W (tab_of_laid hL) hb hn nc ht hm (by omega) (by omega)).mono fun e W' ⟨he, ho⟩ => ?_
  subst he
  exact ⟨_, rfl, law_post rfl hW' (by intro t ht; revert t; exact of_decide_eq_true (by kernel_rfl)) rfl rfl ho⟩

theorem holds : Rows.Base64ErrorsSaid :=
  OpenClaim.holds_of_wide 6 Tryd.f6 rfl rfl rfl rfl rfl rfl rfl ⟨rfl, rfl, rfl, rfl, rfl⟩ rfl rfl rfl rfl rfl (by kernel_rfl) Tryd.func6 (by kernel_rfl)
    (of_decide_eq_true (by kernel_rfl)) (by unfold Func.isWrapper; first | (rw [if_pos (by decide +kernel)]; kernel_rfl) | (rw [if_neg (by decide +kernel)]; exact ⟨rfl, rfl⟩))
    (fun os started H enc _ => lifted os started H enc)

theorem proved : Rows.Base64ErrorsCardSaid :=
  Claim7.holds_tied_plain_at .later [] Rows.base64ErrorsCard.laidKinds true Rows.base64ErrorsCard.stood.harness false
    holds (fun _ h => by cases h) (by kernel_rfl) (fun _ h => by cases h) base64Errors_row_tie rfl ⟨rfl, rfl⟩ (by kernel_rfl) rfl
    (fun f fn hf hfn => by
      obtain rfl : f = 6 := Option.some.inj ((show Tryd.prog.funcNamed "phosphor/phosphorlaw3.Base64Errors" = some 6 by kernel_rfl).symm.trans hf) |>.symm
      obtain rfl : fn = Tryd.f6 := (Option.some.inj (Tryd.func6.symm.trans hfn)).symm
      exact ⟨by kernel_rfl, fun j t ht => by
        rw [Tryd.params6] at ht
        have hm : t ∈ [28, 3, 28] := by simpa using Array.mem_of_getElem? ht
        have hall : ([28, 3, 28].all fun u => !Tryd.prog.wantsStandIn u) = true := by kernel_rfl
        exact (show Tryd.prog.wantsStandIn t = false by simpa using List.all_eq_true.1 hall t hm)⟩)
    (by kernel_rfl)
end Go.Proofs.YtdnkkdpcahmngaaDoor.errors
