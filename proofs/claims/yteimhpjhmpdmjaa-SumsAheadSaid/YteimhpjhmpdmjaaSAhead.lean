/-
  Proves: for all two slices of bytes SumsAhead tells true, and leaves all that was there as it was. No condition.
-/
import Derived.Test.YteimhpjhmpdmjaaSumK
import Derived.Test.YteimhpjhmpdmjaaOpen
namespace Go.Proofs.Yteimhpjhmpdmjaa.sahead
open Go Go.RowKit Go.ChangeShapes Go.WideShapes Go.ChangeAt

/-- The four sums, and the slice of all bytes, as they stand. -/
structure St (w0 w : World) (c d e f : Nat) (p : Part) (lc ld le lf : List UInt8) : Prop where
  oc : Crc w c lc
  od : Crc w d ld
  oe : Adl w e le
  of : Adl w f lf
  only : Only [] w0 w
  cs : w0.heap.size ≤ c
  cd : c < d
  de : d < e
  ef : e < f
  all : Holds w 1 p.A p.l.length (bvals p.l)
  cap : p.l.length ≤ p.c
  max : p.l.length ≤ 140737488355328
  ne : 0 < p.l.length → ∀ ad, p.A = some ad → f < ad.block

section
variable {w0 w w' : World} {c d e f : Nat} {p : Part} {lc ld le lf l' : List UInt8}
theorem St.none (h : St w0 w c d e f p lc ld le lf) (ho : Only [] w w') : St w0 w' c d e f p lc ld le lf :=
  ⟨h.oc.only ho (by simp), h.od.only ho (by simp), h.oe.only ho (by simp), h.of.only ho (by simp), h.only.trans ho (by simp), h.cs, h.cd, h.de, h.ef, h.all.keep ho (by simp), h.cap, h.max, h.ne⟩
theorem St.c1 (h : St w0 w c d e f p lc ld le lf) (ho : Only [c] w w') (hn : Crc w' c l') : St w0 w' c d e f p l' ld le lf := by
  have := h.cs; have := h.cd; have := h.de; have := h.ef
  exact ⟨hn, h.od.only ho (by simp; omega), h.oe.only ho (by simp; omega), h.of.only ho (by simp; omega), h.only.trans ho (by simp; omega), h.cs, h.cd, h.de, h.ef, h.all.keepPos ho (fun h0 ad ha _ => by have := h.ne h0 ad ha; simp; omega), h.cap, h.max, h.ne⟩
theorem St.d1 (h : St w0 w c d e f p lc ld le lf) (ho : Only [d] w w') (hn : Crc w' d l') : St w0 w' c d e f p lc l' le lf := by
  have := h.cs; have := h.cd; have := h.de; have := h.ef
  exact ⟨h.oc.only ho (by simp; omega), hn, h.oe.only ho (by simp; omega), h.of.only ho (by simp; omega), h.only.trans ho (by simp; omega), h.cs, h.cd, h.de, h.ef, h.all.keepPos ho (fun h0 ad ha _ => by have := h.ne h0 ad ha; simp; omega), h.cap, h.max, h.ne⟩
theorem St.e1 (h : St w0 w c d e f p lc ld le lf) (ho : Only [e] w w') (hn : Adl w' e l') : St w0 w' c d e f p lc ld l' lf := by
  have := h.cs; have := h.cd; have := h.de; have := h.ef
  exact ⟨h.oc.only ho (by simp; omega), h.od.only ho (by simp; omega), hn, h.of.only ho (by simp; omega), h.only.trans ho (by simp; omega), h.cs, h.cd, h.de, h.ef, h.all.keepPos ho (fun h0 ad ha _ => by have := h.ne h0 ad ha; simp; omega), h.cap, h.max, h.ne⟩
theorem St.f1 (h : St w0 w c d e f p lc ld le lf) (ho : Only [f] w w') (hn : Adl w' f l') : St w0 w' c d e f p lc ld le l' := by
  have := h.cs; have := h.cd; have := h.de; have := h.ef
  exact ⟨h.oc.only ho (by simp; omega), h.od.only ho (by simp; omega), h.oe.only ho (by simp; omega), hn, h.only.trans ho (by simp; omega), h.cs, h.cd, h.de, h.ef, h.all.keepPos ho (fun h0 ad ha _ => by have := h.ne h0 ad ha; simp; omega), h.cap, h.max, h.ne⟩
/-- An argument is a part. -/
theorem St.arg (h : St w0 w c d e f p lc ld le lf) {A : Option Addr} {n k : Nat} {l : List UInt8} (hb : Holds w0 1 A n (bvals l)) (hl : l.length = n) (hk : n ≤ k) (hm : n ≤ 140737488355328) (g : Nat) (hg : c ≤ g) : Part.Ok ⟨A, k, l⟩ w g := by
  subst hl
  refine ⟨hb.keep h.only (by simp), hk, hm, fun h0 ad ha => ?_⟩
  have h1 := hb.blk h0 ad ha
  have := h.cs
  omega
theorem St.pall (h : St w0 w c d e f p lc ld le lf) (g : Nat) (hg : g ≤ f) : Part.Ok p w g := ⟨h.all, h.cap, h.max, fun h0 ad ha => by have := h.ne h0 ad ha; omega⟩
end

theorem out (A : Option Addr) (n c : Nat) (B : Option Addr) (m d : Nat) (w : World) (hn : n ≤ 9223372036854775807) (hm : m ≤ 9223372036854775807) (h : 8192 < n ∨ 8192 < m) :
    Calls Try.prog 5 #[.slice A n c, .slice B m d] w fun e w' => e = .returned (.bool true) ∧ Only [] w w' := by
  by_cases h1 : 8192 < n
  · clear h
    go_enter Try.func5, Try.ntmps5
    go_wp2_with fail
    refine (known_any w).mono ?_
    rintro e w1 ⟨rfl, ho⟩
    go_wp2_with fail
    go_ret
    exact ⟨rfl, ho⟩
  · have h2 : 8192 < m := by omega
    clear h
    go_enter Try.func5, Try.ntmps5
    go_wp2_with fail
    refine (known_any w).mono ?_
    rintro e w1 ⟨rfl, ho⟩
    go_wp2_with fail
    go_ret
    exact ⟨rfl, ho⟩

set_option maxRecDepth 100000 in
set_option maxHeartbeats 4000000 in
theorem core (A : Option Addr) (n c : Nat) (l : List UInt8) (B : Option Addr) (m d : Nat) (k : List UInt8) (w : World) (hb : Holds w 1 A n (bvals l)) (hl : l.length = n) (hc : n ≤ c) (hB : Holds w 1 B m (bvals k)) (hk : k.length = m) (hd : m ≤ d) (h1 : n ≤ 8192) (h2 : m ≤ 8192) :
    Calls Try.prog 5 #[.slice A n c, .slice B m d] w fun e w' => e = .returned (.bool true) ∧ Only [] w w' := by
  subst hl
  subst hk
  have HB := hide (And.intro hb hB)
  clear hb hB
  have hn1 : ∀ (g : Nat) (w : World), (binOp .eql 25 (.pointer (some ⟨g, 0, none⟩)) (.pointer none)).run Try.prog w = .ok (.bool false) w := fun g w => by kernel_rfl
  have hn2 : ∀ (g : Nat) (w : World), (binOp .eql 27 (.pointer (some ⟨g, 0, none⟩)) (.pointer none)).run Try.prog w = .ok (.bool false) w := fun g w => by kernel_rfl
  have d1 : decide (8192 < (l.length : Int)) = false := by simp; omega
  have d2 : decide (8192 < (k.length : Int)) = false := by simp; omega
  obtain ⟨i0, hi0, hz0, hz1, hz2⟩ := info_of (show (Try.prog.info? 5).map (fun i => (i.zero, i.size, i.bytes)) = some (some (.int .u8 0), 1, 1) by kernel_rfl)
  go_enter Try.func5, Try.ntmps5
  go_wp2_with fail
  refine (known_any w).mono ?_
  rintro e w1 ⟨rfl, ho1⟩
  go_wp2_with fail
  refine (newCrc_any w1).mono ?_
  rintro e w2 ⟨gc, rfl, hgc, hC2, ho2⟩
  go_wp2_with fail
  refine (newCrc_any w2).mono ?_
  rintro e w3 ⟨gd, rfl, hgd, hD3, ho3⟩
  go_wp2_with fail
  refine (newAdler_any w3).mono ?_
  rintro e w4 ⟨ge, rfl, hge, hE4, ho4⟩
  go_wp2_with fail
  refine (newAdler_any w4).mono ?_
  rintro e w5 ⟨gf, rfl, hgf, hF5, ho5⟩
  have hs1 := ho1.size
  have hlc := hC2.lt
  have hld := hD3.lt
  have hle := hE4.lt
  have hlf := hF5.lt
  have HC5 := hide (((hC2.only ho3 (by simp)).only ho4 (by simp)).only ho5 (by simp))
  have HD5 := hide ((hD3.only ho4 (by simp)).only ho5 (by simp))
  have HE5 := hide (hE4.only ho5 (by simp))
  have HF5 := hide hF5
  have HO5 := hide ((((ho1.trans ho2 (by simp)).trans ho3 (by simp)).trans ho4 (by simp)).trans ho5 (by simp))
  clear hC2 hD3 hE4 hF5 ho1 ho2 ho3 ho4 ho5
  have hempty : (w5.alloc (.cells #[] 5)).ownsRow w5.heap.size 5 1 (.slice (some ⟨w5.heap.size, 0, none⟩) 0 0) 0 [] :=
    World.ownsRow_made w5 #[] 0 (Nat.le_refl _) (by simp [maxLen]) rfl
  have HM := hide hempty
  clear hempty
  go_wp2_with (first
    | (at_builtin; refine list_append _ rfl (.tmp 40) (.tmp 41) 22 rfl w5.heap.size 1 1 Try.underlying22 hi0 hz0 hz1 hz2 rfl (by omega) HM.out rfl ((HB.out.1.keep HO5.out (by simp)).keep ((Only.refl [] w5).alloc _) (by simp)) rfl (bvals_one l) (by omega) (by omega) (by simp) ?_; intro A6 c6 w6 hown6 hg6 hat6; simp only [Nat.zero_add, List.nil_append] at hown6 hat6 ⊢; have HG6 := hide (((Only.refl [] w5).alloc _).grown hg6 (by intro k hk hlt; simp [Value.ownBlock] at hk; omega)); have HO6 := hide hown6; have hz6 := hide hg6.size; clear hown6 hg6 hat6)
    | (at_builtin; refine list_append _ rfl (.tmp 42) (.tmp 43) 22 rfl w5.heap.size 1 1 Try.underlying22 hi0 hz0 hz1 hz2 rfl (by omega) HO6.out rfl ((HB.out.2.keep HO5.out (by simp)).keep HG6.out (by simp)) rfl (bvals_one k) (by omega) (by omega) (by { have := HG6.out.size; omega }) ?_; intro A7 c7 w7 hown7 hg7 hat7; have HG7 := hide (HG6.out.grown hg7 (by intro k hk hlt; have := (HO6.out.lt k hk).1; omega)); have HO7 := hide hown7; clear hown7 hg7 hat7))
  obtain ⟨X, hX⟩ : ∃ X, X = 4294967295 - crcList 4294967295 l := ⟨_, rfl⟩
  obtain ⟨Y, hY⟩ : ∃ Y, Y = adWord (adOf l) := ⟨_, rfl⟩
  obtain ⟨Z, hZ⟩ : ∃ Z, Z = 4294967295 - crcList 4294967295 (l ++ k) := ⟨_, rfl⟩
  obtain ⟨V, hV⟩ : ∃ V, V = adWord (adOf (l ++ k)) := ⟨_, rfl⟩
  have hlen : (l ++ k).length = l.length + k.length := List.length_append
  have st7 : St w w7 gc gd ge gf ⟨A7, c7, l ++ k⟩ [] [] [] [] := by
    obtain ⟨_, _, he, hle7, _⟩ := own_shape HO7.out
    injection he with _ _ he
    have h7 := Holds.of_own HO7.out
    rw [← bvals_append, ← hlen] at h7
    refine ⟨HC5.out.only HG7.out (by simp), HD5.out.only HG7.out (by simp), HE5.out.only HG7.out (by simp), HF5.out.only HG7.out (by simp), HO5.out.trans HG7.out (by simp), by omega, by omega, by omega, by omega, h7, by show (l ++ k).length ≤ c7; omega, by show (l ++ k).length ≤ _; omega, fun _ ad ha => ?_⟩
    have ha' : A7 = some ad := ha
    have := (HO7.out.lt ad.block (by rw [ha']; rfl)).1
    omega
  have HX := hide (And.intro hX (And.intro hY (And.intro hZ (And.intro hV hlen))))
  have HS7 := hide st7
  have t1 := ofCrc_one gc [] A l.length c l w7 st7.oc (st7.arg HB.out.1 rfl hc (by omega) gc (by omega)) rfl _ rfl
  simp only [List.nil_append] at t1
  rw [← hX] at t1
  have T1 := hide t1
  clear hX hY hZ hV hlen st7 t1 HM HC5 HD5 HE5 HF5
  go_wp2_with fail
  refine (T1.out).mono ?_
  rintro e w8 ⟨rfl, hc8, ho8⟩
  have HS8 := hide (HS7.out.c1 ho8 hc8)
  have t2 := ofAdler_one ge [] A l.length c l w8 HS8.out.oe (HS8.out.arg HB.out.1 rfl hc (by omega) ge (by omega)) rfl _ rfl
  simp only [List.nil_append] at t2
  rw [← HX.out.2.1] at t2
  have T2 := hide t2
  clear t2 hc8 ho8 T1
  go_wp2_with fail
  refine (T2.out).mono ?_
  rintro e w9 ⟨rfl, he9, ho9⟩
  have HS9 := hide (HS8.out.e1 ho9 he9)
  have t3 := crcSum_any gc l w9 HS9.out.oc
  rw [← HX.out.1] at t3
  have T3 := hide t3
  clear t3 he9 ho9 T2
  go_wp2_with fail
  refine (T3.out).mono ?_
  rintro e w10 ⟨rfl, rfl⟩
  have t4 := adlerSum_o ge l w9 HS9.out.oe
  rw [← HX.out.2.1] at t4
  have T4 := hide t4
  clear t4 T3
  go_wp2_with fail
  refine (T4.out).mono ?_
  rintro e w10 ⟨rfl, _, ho10⟩
  have HS10 := hide (HS9.out.none ho10)
  have t5 := ofCrc_one gc l B k.length d k w10 HS10.out.oc (HS10.out.arg HB.out.2 rfl hd (by omega) gc (by omega)) rfl _ rfl
  rw [← HX.out.2.2.1] at t5
  have T5 := hide t5
  clear t5 ho10 T4
  go_wp2_with fail
  refine (T5.out).mono ?_
  rintro e w11 ⟨rfl, hc11, ho11⟩
  have HS11 := hide (HS10.out.c1 ho11 hc11)
  have t6 := ofCrc_one gd [] A7 (l.length + k.length) c7 (l ++ k) w11 HS11.out.od (HS11.out.pall gd (by omega)) HX.out.2.2.2.2 _ rfl
  simp only [List.nil_append] at t6
  rw [← HX.out.2.2.1] at t6
  have T6 := hide t6
  clear t6 hc11 ho11 T5
  go_wp2_with fail
  refine (T6.out).mono ?_
  rintro e w12 ⟨rfl, hd12, ho12⟩
  have HS12 := hide (HS11.out.d1 ho12 hd12)
  have t7 := ofAdler_one ge l B k.length d k w12 HS12.out.oe (HS12.out.arg HB.out.2 rfl hd (by omega) ge (by omega)) rfl _ rfl
  rw [← HX.out.2.2.2.1] at t7
  have T7 := hide t7
  clear t7 hd12 ho12 T6
  go_wp2_with fail
  refine (T7.out).mono ?_
  rintro e w13 ⟨rfl, he13, ho13⟩
  have HS13 := hide (HS12.out.e1 ho13 he13)
  have t8 := ofAdler_one gf [] A7 (l.length + k.length) c7 (l ++ k) w13 HS13.out.of (HS13.out.pall gf (by omega)) HX.out.2.2.2.2 _ rfl
  simp only [List.nil_append] at t8
  rw [← HX.out.2.2.2.1] at t8
  have T8 := hide t8
  clear t8 he13 ho13 T7
  go_wp2_with fail
  refine (T8.out).mono ?_
  rintro e w14 ⟨rfl, hf14, ho14⟩
  have HS14 := hide (HS13.out.f1 ho14 hf14)
  have t9 := ofCrc_none gc (l ++ k) w14 HS14.out.oc
  rw [← HX.out.2.2.1] at t9
  have T9 := hide t9
  clear t9 hf14 ho14 T8
  go_wp2_with fail
  refine (T9.out).mono ?_
  rintro e w15 ⟨rfl, hc15, ho15⟩
  have HS15 := hide (HS14.out.c1 ho15 hc15)
  have t10 := crcSum_any gd (l ++ k) w15 HS15.out.od
  rw [← HX.out.2.2.1] at t10
  have T10 := hide t10
  clear t10 hc15 ho15 T9
  go_wp2_with fail
  refine (T10.out).mono ?_
  rintro e w16 ⟨rfl, rfl⟩
  go_wp2_with fail
  go_ret
  exact ⟨ret_bool (by simp), HS15.out.only⟩

theorem walk (A : Option Addr) (n c : Nat) (l : List UInt8) (B : Option Addr) (m d : Nat) (k : List UInt8) (w : World) (hb : Holds w 1 A n (bvals l)) (hl : l.length = n) (hc : n ≤ c) (hn : n ≤ 9223372036854775807) (hB : Holds w 1 B m (bvals k)) (hk : k.length = m) (hd : m ≤ d) (hm : m ≤ 9223372036854775807) :
    Calls Try.prog 5 #[.slice A n c, .slice B m d] w fun e w' => e = .returned (.bool true) ∧ Only [] w w' := by
  by_cases h : 8192 < n ∨ 8192 < m
  · exact out A n c B m d w hn hm h
  · exact core A n c l B m d k w hb hl hc hB hk hd (by omega) (by omega)

set_option maxRecDepth 100000 in
theorem lifted (os : Os) (started : os.Started) (H : Type) (enc : TypeId × Value → H) :
    ReturnsInHanded {} Try.checked os 5 .any (Rows.sumsAheadSpec.pre6 enc Try.prog Try.f5 Rows.sumsAheadRow.domain false)
      (Rows.sumsAheadSpec.post enc Try.prog Try.f5 false true false false) := by
  refine returnsInHanded_of_change (C := Try.checked) own_knob started (by kernel_rfl) Try.func5
    (ChangeSpec.witness6 (enc := enc) (C := Try.checked) false ⟨#[], #[.slice none 0 0, .slice none 0 0], []⟩ 8 (by kernel_rfl) (by kernel_rfl) (by kernel_rfl) (by kernel_rfl)) ?_
  intro W base args ds gs before hval0 hW hcnd _
  have hval : ∀ (j : Nat) t v, Try.f5.params[j]? = some t → args[j]? = some v → Value.okWide Try.prog W .any base t v := hval0
  have hW' := hW
  obtain ⟨p, q, hA0, hV, rfl, hfz, hnd⟩ := hW
  have hA : DataW.TrodAll enc Try.prog W 0 (fun _ => true) true Try.f5.params.toList args.toList ds p := hA0
  rw [Try.params5] at hA hval
  obtain ⟨v0, vs0, d0, ds0, p0, q0, hargs, rfl, rfl, h0, r0⟩ := trodAll_cons hA
  obtain ⟨v1, vs1, d1, ds1, p1, q1, rfl, rfl, rfl, h1, r1⟩ := trodAll_cons r0
  obtain ⟨rfl, rfl, rfl⟩ := trodAll_nil r1
  obtain rfl : args = #[v0, v1] := by cases args; simp_all
  obtain ⟨A, len, c, l, rfl, hc, cm, _, hl, hb⟩ := open_bytes Try.underlying22 Try.underlying5 (by kernel_rfl) (hval 0 22 v0 rfl rfl) h0
  obtain ⟨B, m, d, k, rfl, hd, dm, _, hk, hB⟩ := open_bytes Try.underlying22 Try.underlying5 (by kernel_rfl) (hval 1 22 v1 rfl rfl) h1
  unfold maxLen at cm dm
  refine (walk A len c l B m d k W hb hl hc (by omega) hB hk hd (by omega)).mono fun e W' ⟨he, ho⟩ => ?_
  subst he
  exact ⟨_, rfl, law_post rfl hW' (by intro t ht; revert t; exact of_decide_eq_true (by kernel_rfl)) rfl rfl ho⟩

theorem proved : Rows.SumsAheadSaid :=
  OpenClaim.holds_of_wide 5 Try.f5 rfl rfl rfl rfl rfl rfl rfl ⟨rfl, rfl, rfl, rfl, rfl⟩ rfl rfl rfl rfl rfl (by kernel_rfl) Try.func5 (by kernel_rfl)
    (of_decide_eq_true (by kernel_rfl)) (by unfold Func.isWrapper; first | (rw [if_pos (by decide +kernel)]; kernel_rfl) | (rw [if_neg (by decide +kernel)]; exact ⟨rfl, rfl⟩))
    (fun os started H enc _ => lifted os started H enc)
end Go.Proofs.Yteimhpjhmpdmjaa.sahead
