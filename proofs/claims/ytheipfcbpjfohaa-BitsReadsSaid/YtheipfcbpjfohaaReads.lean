/-
  Proves: for all bytes and asks BitsReads tells true, and leaves all that was there as it was. No condition.
-/
import Derived.Test.YtheipfcbpjfohaaOpenS
import Derived.Test.YtheipfcbpjfohaaTRead
namespace Go.Proofs.Ytheipfcbpjfohaa.reads
open Go Go.RowKit Go.ChangeShapes Go.WideShapes Go.ChangeAt

/-- Both readers at one place. -/
structure Both (w0 w : World) (g tg : Nat) (v : Value) (A : Option Addr) (c : Nat) (l : List UInt8) (k : Nat) : Prop where
  rd : Rd w g v l k
  td : TRd w tg A c l k
  only : Only [] w0 w
  g0 : w0.heap.size ≤ g
  t0 : w0.heap.size ≤ tg
  vb : ∀ b, v.ownBlock = some b → w0.heap.size ≤ b ∧ b ≠ tg
  ne : g ≠ tg
  hA : 0 < l.length → ∀ ad, A = some ad → ad.block < w0.heap.size

theorem Both.ag {w0 w : World} {g tg c k : Nat} {v : Value} {A : Option Addr} {l : List UInt8} (h : Both w0 w g tg v A c l k) : 0 < l.length → ∀ ad, A = some ad → ad.block ≠ g := fun h0 ad ha => by
  have := h.hA h0 ad ha; have := h.g0; omega
theorem Both.at_ {w0 w : World} {g tg c k : Nat} {v : Value} {A : Option Addr} {l : List UInt8} (h : Both w0 w g tg v A c l k) : 0 < l.length → ∀ ad, A = some ad → ad.block ≠ tg := fun h0 ad ha => by
  have := h.hA h0 ad ha; have := h.t0; omega

/-- One step of the one, one of the other. -/
theorem Both.step {w0 w w1 w2 : World} {g tg c k k' : Nat} {v : Value} {A : Option Addr} {l : List UInt8} (h : Both w0 w g tg v A c l k)
    (h1 : Only [g] w w1) (hr : Rd w1 g v l k') (h2 : Only [tg] w1 w2) (ht : TRd w2 tg A c l k') : Both w0 w2 g tg v A c l k' := by
  refine ⟨hr.only h2 (by simpa using h.ne) (fun b hb => by simpa using (h.vb b hb).2), ht, ?_, h.g0, h.t0, h.vb, h.ne, h.hA⟩
  have := h.g0; have := h.t0
  exact (h.only.trans h1 (by simp; omega)).trans h2 (by simp; omega)

theorem Both.drawn {w0 w : World} {g tg c k : Nat} {v : Value} {A : Option Addr} {l : List UInt8} (h : Both w0 w g tg v A c l k) (m : Nat) : Both w0 (w.drewN m) g tg v A c l k :=
  ⟨h.rd.drewN m, h.td.drewN m, h.only.drewN m, h.g0, h.t0, h.vb, h.ne, h.hA⟩

/-- The other's state behind the one's step. -/
theorem Both.mid {w0 w w1 : World} {g tg c k : Nat} {v : Value} {A : Option Addr} {l : List UInt8} (h : Both w0 w g tg v A c l k) (h1 : Only [g] w w1) : TRd w1 tg A c l k :=
  h.td.only h1 (by simpa using h.ne.symm) (fun h0 ad ha _ => by simpa using h.ag h0 ad ha)

theorem peek_o (g : Nat) (v : Value) (l : List UInt8) (k : Nat) (n : Int) (w : World) (h : Rd w g v l k) :
    Calls Try.prog 13 #[.pointer (some ⟨g, 0, none⟩), .int .i64 n] w fun e w' =>
      e = .returned (.tuple #[.int .u32 (gotBits l k n : Nat), .bool (okBits l.length k n)]) ∧ Only [g] w w' ∧ Rd w' g v l k :=
  (peek_any g v l k n w h).mono fun _ _ ⟨he, m, hm⟩ => ⟨he, by rw [hm]; exact (Only.refl _ _).drewN m, by rw [hm]; exact h.drewN m⟩
theorem tPeek_o (g c k : Nat) (A : Option Addr) (l : List UInt8) (n : Int) (w : World) (h : TRd w g A c l k) :
    Calls Try.prog 14 #[.pointer (some ⟨g, 0, none⟩), .int .i64 n] w fun e w' =>
      e = .returned (.tuple #[.int .u32 (gotBits l k n : Nat), .bool (okBits l.length k n)]) ∧ Only [g] w w' ∧ TRd w' g A c l k :=
  (tPeek g c k A l n w h).mono fun _ _ ⟨he, m, hm⟩ => ⟨he, by rw [hm]; exact (Only.refl _ _).drewN m, by rw [hm]; exact h.drewN m⟩

/-- The asks as cells: kind and number by turns. -/
def Asks (w : World) (A : Option Addr) (m : Nat) (K N : Nat → Int) : Prop :=
  ∀ i, i < m → ∃ b o, A = some ⟨b, o, none⟩ ∧ w.cell? ⟨b, o + i * 2, none⟩ = some (.int .i64 (K i)) ∧ w.cell? ⟨b, o + i * 2 + 1, none⟩ = some (.int .i64 (N i)) ∧ b < w.heap.size

theorem left_rd (g : Nat) (v : Value) (l : List UInt8) (k : Nat) (w : World) (h : Rd w g v l k) :
    Calls Try.prog 20 #[.pointer (some ⟨g, 0, none⟩)] w fun e w' => e = .returned (.int .i64 ((8 * l.length - k : Nat) : Int)) ∧ ∃ m, w' = w.drewN m := by
  obtain ⟨A, c, rfl, _, _⟩ := own_shape h.2.1
  exact left_any g l.length c A k w h.1 h.2.2.1 h.2.2.2

set_option maxRecDepth 100000 in
set_option maxHeartbeats 4000000 in
theorem core (A L : Option Addr) (n c m d : Nat) (l : List UInt8) (K N : Nat → Int) (w : World) (hb : Holds w 1 A n (bvals l)) (hl : l.length = n) (hc : n ≤ c) (hA : A = none → c = 0 ∧ n = 0) (hK : Asks w L m K N)
    (hNr : ∀ i, i < m → -9223372036854775808 ≤ N i ∧ N i ≤ 9223372036854775807) (hn0 : n ≤ 9223372036854775807) (hm0 : m ≤ 9223372036854775807) :
    Calls Try.prog 3 #[.slice A n c, .slice L m d] w fun e w' => e = .returned (.bool true) ∧ Only [] w w' := by
  subst hl
  by_cases h1 : 400 < l.length
  · clear hb hA hK
    go_enter Try.func3, Try.ntmps3
    go_wp2_with fail
    refine (known_any w).mono ?_
    rintro e w1 ⟨rfl, ho⟩
    go_wp2_with fail
    go_ret
    exact ⟨rfl, ho⟩
  by_cases h2 : 400 < m
  · clear hb hA hK
    go_enter Try.func3, Try.ntmps3
    go_wp2_with fail
    refine (known_any w).mono ?_
    rintro e w1 ⟨rfl, ho⟩
    go_wp2_with fail
    go_ret
    exact ⟨rfl, ho⟩
  have hn1 : ∀ (g : Nat) (w : World), (binOp .eql 25 (.pointer (some ⟨g, 0, none⟩)) (.pointer none)).run Try.prog w = .ok (.bool false) w := fun g w => by kernel_rfl
  have hd1 : decide (400 < l.length) = false := by simpa using h1
  have hd2 : decide (400 < m) = false := by simpa using h2
  have HN := hide hNr
  have HK := hide hK
  clear hNr hK
  go_enter Try.func3, Try.ntmps3
  go_wp2_with fail
  refine (known_any w).mono ?_
  rintro e w1 ⟨rfl, ho⟩
  have hb1 := hb.keep ho (by simp)
  go_wp2_with fail
  refine (newReader_any A l.length c l w1 hb1 rfl (by omega) hA).mono ?_
  rintro e w2 ⟨g, v, rfl, hg, hv, hR, ho2⟩
  have hsz := ho.size
  have glt := hR.1.lt
  have hboth : Both w (w2.alloc (.cells #[.slice A l.length c, .int .i64 0] 29)) g w2.heap.size v A c l 0 := by
    refine ⟨hR.only ((Only.refl [] _).alloc _) (by simp) (by simp), ⟨Has.new _ _ _, (hb1.keep ho2 (by simp)).keep ((Only.refl [] _).alloc _) (by simp), hA, hc, by omega, by omega⟩, (ho.trans ho2 (by simp)).alloc _, by omega, Nat.le_trans hsz ho2.size, ?_, by omega, ?_⟩
    · intro b hb
      have h3 := hR.2.1.lt b hb
      exact ⟨Nat.le_trans hsz (hv b hb), by omega⟩
    · intro h0 ad ha
      obtain ⟨ad', ha', hlt, _⟩ := hb.2 h0
      rw [ha] at ha'; injection ha' with ha'; rw [ha']; exact hlt
  have HB := hide hboth
  clear hboth hb hb1 hR hA
  go_wp2_with fail
  go_loopw [7] (fun i wr => ∃ j k : Nat, j ≤ m ∧ i = .int .i64 j ∧ Both w wr g w2.heap.size v A c l k) (fun i _ => m - (intOf i).toNat)
  case atStart => exact ⟨0, 0, Nat.zero_le _, rfl, HB.out⟩
  case round =>
    obtain ⟨j, k, hj, rfl, hT⟩ := hrel
    by_cases hlt : j < m
    · obtain ⟨lb, lo, rfl, hcK, hcN, hlb⟩ := HK.out j hlt
      have hlb2 : lb < w.heap.size := hlb
      have d0 : wr.cell? ⟨lb, lo + j * 2, none⟩ = some (.int .i64 (K j)) := by rw [hT.only.cell hlb2 (by simp)]; exact hcK
      have d1 : wr.cell? ⟨lb, lo + j * 2 + 1, none⟩ = some (.int .i64 (N j)) := by rw [hT.only.cell hlb2 (by simp)]; exact hcN
      have hNj := HN.out j hlt
      clear hcK hcN
      generalize N j = nn at *
      generalize K j = kk at *
      by_cases hk1 : kk = 1
      · subst hk1
        go_wp2_with fail
        refine (bits_any g v l k nn wr hT.rd).mono ?_
        rintro e wa ⟨rfl, ha, hra⟩
        go_wp2_with fail
        refine (tBits w2.heap.size c k A l nn wa (hT.mid ha) hT.at_).mono ?_
        rintro e wb ⟨rfl, hbo, htb⟩
        have hT2 := hT.step ha hra hbo htb
        clear hra htb
        obtain ⟨k2, hk2⟩ : ∃ k2, k2 = (if okBits l.length k nn = true then k + nn.toNat else k) := ⟨_, rfl⟩
        rw [← hk2] at hT2
        clear hk2
        have hrd := hT2.rd
        have htd := hT2.td
        have e1 : wb.cell? ⟨w2.heap.size, 1, none⟩ = some (.int .i64 (k2 : Int)) := htd.has.cell 1
        have q1 := fun x => hide (at_any g v (k2 : Int) (wb.drewN x) hrd.1)
        have q2 := fun x => hide (left_rd g v l k2 (wb.drewN x) (hrd.drewN x))
        have q3 := fun x => hide (tLeft w2.heap.size c k2 A l (wb.drewN x) (htd.drewN x))
        generalize gotBits l k nn = X
        generalize okBits l.length k nn = Y
        go_wp2_with fail
        go_quiet ((first | (go_at_call 19; exact Calls.quiet_of_same ((q1 _).out.mono fun _ _ h => ⟨h.1, h.2.symm⟩)) | (go_at_call 20; exact Calls.quiet_of (q2 _).out) | (go_at_call 21; exact Calls.quiet_of (q3 _).out)))
        go_wp2_with fail
        go_roundw
        case rel => exact ⟨j + 1, k2, hlt, by go_num, hT2.drawn _⟩
        case measure => simp [intOf]; omega
      by_cases hk2 : kk = 2
      · subst hk2
        clear hk1
        go_wp2_with fail
        refine (peek_o g v l k nn wr hT.rd).mono ?_
        rintro e wa ⟨rfl, ha, hra⟩
        go_wp2_with fail
        refine (tPeek_o w2.heap.size c k A l nn wa (hT.mid ha)).mono ?_
        rintro e wb ⟨rfl, hbo, htb⟩
        have hT2 := hT.step ha hra hbo htb
        clear hra htb
        generalize gotBits l k nn = X
        generalize okBits l.length k nn = Y
        obtain ⟨k2, hk2⟩ : ∃ k2, k2 = k := ⟨_, rfl⟩
        rw [← hk2] at hT2
        clear hk2
        have hrd := hT2.rd
        have htd := hT2.td
        have e1 : wb.cell? ⟨w2.heap.size, 1, none⟩ = some (.int .i64 (k2 : Int)) := htd.has.cell 1
        have q1 := fun x => hide (at_any g v (k2 : Int) (wb.drewN x) hrd.1)
        have q2 := fun x => hide (left_rd g v l k2 (wb.drewN x) (hrd.drewN x))
        have q3 := fun x => hide (tLeft w2.heap.size c k2 A l (wb.drewN x) (htd.drewN x))
        go_wp2_with fail
        go_quiet ((first | (go_at_call 19; exact Calls.quiet_of_same ((q1 _).out.mono fun _ _ h => ⟨h.1, h.2.symm⟩)) | (go_at_call 20; exact Calls.quiet_of (q2 _).out) | (go_at_call 21; exact Calls.quiet_of (q3 _).out)))
        go_wp2_with fail
        go_roundw
        case rel => exact ⟨j + 1, k2, hlt, by go_num, hT2.drawn _⟩
        case measure => simp [intOf]; omega
      by_cases hk3 : kk = 3
      · subst hk3
        clear hk1 hk2
        go_wp2_with fail
        refine (align_any g v l k wr hT.rd).mono ?_
        rintro e wa ⟨rfl, ha, hra⟩
        go_wp2_with fail
        refine (tAlign w2.heap.size c k A l wa (hT.mid ha) hT.at_).mono ?_
        rintro e wb ⟨rfl, hbo, htb⟩
        have hT2 := hT.step ha hra hbo htb
        clear hra htb
        generalize toByte k = X at *
        obtain ⟨k2, hk2⟩ : ∃ k2, k2 = k + X := ⟨_, rfl⟩
        rw [← hk2] at hT2
        clear hk2
        have hrd := hT2.rd
        have htd := hT2.td
        have e1 : wb.cell? ⟨w2.heap.size, 1, none⟩ = some (.int .i64 (k2 : Int)) := htd.has.cell 1
        have q1 := fun x => hide (at_any g v (k2 : Int) (wb.drewN x) hrd.1)
        have q2 := fun x => hide (left_rd g v l k2 (wb.drewN x) (hrd.drewN x))
        have q3 := fun x => hide (tLeft w2.heap.size c k2 A l (wb.drewN x) (htd.drewN x))
        go_wp2_with fail
        go_quiet ((first | (go_at_call 19; exact Calls.quiet_of_same ((q1 _).out.mono fun _ _ h => ⟨h.1, h.2.symm⟩)) | (go_at_call 20; exact Calls.quiet_of (q2 _).out) | (go_at_call 21; exact Calls.quiet_of (q3 _).out)))
        go_wp2_with fail
        go_roundw
        case rel => exact ⟨j + 1, k2, hlt, by go_num, hT2.drawn _⟩
        case measure => simp [intOf]; omega
      · go_wp2_with fail
        refine (bytes_any g v l k nn wr hT.rd).mono ?_
        rintro e wa ⟨ra, rfl, hoa, ha, hra⟩
        obtain ⟨Aa, ca, rfl, _, _⟩ := own_shape hoa
        go_wp2_with fail
        refine (tBytes w2.heap.size c k A l nn wa (hT.mid ha) hT.at_).mono ?_
        rintro e wb ⟨rb, rfl, hob, hbo, htb⟩
        obtain ⟨Ab, cb, rfl, _, _⟩ := own_shape hob
        have hT2 := hT.step ha hra hbo htb
        have tlt := hT.td.has.lt
        have hsa := run_string_of (Holds.of_own (own_keep hoa hbo (fun b hb => by have := (hoa.lt b hb).1; simp; omega))) ca 22 5 9 Try.underlying22 Try.underlying5 Try.underlying9
        have hsb := run_string_of (Holds.of_own hob) cb 22 5 9 Try.underlying22 Try.underlying5 Try.underlying9
        clear hra htb hoa hob tlt
        generalize okBytes l.length k nn = Y
        generalize gotBytes l k nn = X at *
        obtain ⟨k2, hk2⟩ : ∃ k2, k2 = k + 8 * X.length := ⟨_, rfl⟩
        rw [← hk2] at hT2
        clear hk2
        have hrd := hT2.rd
        have htd := hT2.td
        have e1 : wb.cell? ⟨w2.heap.size, 1, none⟩ = some (.int .i64 (k2 : Int)) := htd.has.cell 1
        have q1 := fun x => hide (at_any g v (k2 : Int) (wb.drewN x) hrd.1)
        have q2 := fun x => hide (left_rd g v l k2 (wb.drewN x) (hrd.drewN x))
        have q3 := fun x => hide (tLeft w2.heap.size c k2 A l (wb.drewN x) (htd.drewN x))
        go_wp2_with fail
        go_quiet ((first | (go_at_call 19; exact Calls.quiet_of_same ((q1 _).out.mono fun _ _ h => ⟨h.1, h.2.symm⟩)) | (go_at_call 20; exact Calls.quiet_of (q2 _).out) | (go_at_call 21; exact Calls.quiet_of (q3 _).out)))
        go_wp2_with fail
        go_roundw
        case rel => exact ⟨j + 1, k2, hlt, by go_num, hT2.drawn _⟩
        case measure => simp [intOf]; omega
    · go_wp2_with fail
      go_ret
      exact ⟨rfl, hT.only⟩

/-- The number in a cell of a list. -/
def nth (xs : List Value) (q : Nat) : Int := match xs[q]? with | some (.int _ z) => z | _ => 0

set_option maxRecDepth 100000 in
theorem lifted (os : Os) (started : os.Started) (H : Type) (enc : TypeId × Value → H) :
    ReturnsInHanded {} Try.checked os 3 .any (Rows.bitsReadsSpec.pre6 enc Try.prog Try.f3 Rows.bitsReadsRow.domain false)
      (Rows.bitsReadsSpec.post enc Try.prog Try.f3 false true false false) := by
  refine returnsInHanded_of_change (C := Try.checked) own_knob started (by kernel_rfl) Try.func3
    (ChangeSpec.witness6 (enc := enc) (C := Try.checked) false ⟨#[], #[.slice none 0 0, .slice none 0 0], []⟩ 8 (by kernel_rfl) (by kernel_rfl) (by kernel_rfl) (by kernel_rfl)) ?_
  intro W base args ds gs before hval0 hW hcnd _
  have hval : ∀ (j : Nat) t v, Try.f3.params[j]? = some t → args[j]? = some v → Value.okWide Try.prog W .any base t v := hval0
  have hW' := hW
  obtain ⟨p, q, hA0, hV, rfl, hfz, hnd⟩ := hW
  have hA : DataW.TrodAll enc Try.prog W 0 (fun _ => true) true Try.f3.params.toList args.toList ds p := hA0
  rw [Try.params3] at hA hval
  obtain ⟨v0, vs0, d0, ds0, p0, q0, hargs, rfl, rfl, h0, r0⟩ := trodAll_cons hA
  obtain ⟨v1, vs1, d1, ds1, p1, q1, rfl, rfl, rfl, h1, r1⟩ := trodAll_cons r0
  obtain ⟨rfl, rfl, rfl⟩ := trodAll_nil r1
  obtain rfl : args = #[v0, v1] := by cases args; simp_all
  obtain ⟨A, n, c, l, rfl, nc, cm, hnil, hn, hb⟩ := open_bytes Try.underlying22 Try.underlying5 (by kernel_rfl) (hval 0 22 v0 rfl rfl) h0
  obtain ⟨L, m, d, xs, rfl, md, dm, _, hx, hf⟩ := open_recs Try.underlying23 Try.underlying31 (by kernel_rfl) (by kernel_rfl) (by decide) (hval 1 23 v1 rfl rfl) h1
  unfold maxLen at cm dm
  have hxl : xs.length = m * 2 := hx.1
  have hall : ∀ i, i < m → ∃ a b, xs[i * 2]? = some (.int .i64 a) ∧ xs[i * 2 + 1]? = some (.int .i64 b) ∧ (Lit.int .i64 b).wf = true := by
    intro i hi
    obtain ⟨u, fu, y, hu, hy⟩ := hf i 0 _ hi rfl
    obtain ⟨a, rfl, _⟩ := field_int Try.underlying3 hy
    obtain ⟨u', fu', y', hu', hy'⟩ := hf i 1 _ hi rfl
    obtain ⟨b, rfl, hb⟩ := field_int Try.underlying3 hy'
    exact ⟨a, b, hu, hu', hb⟩
  have hAsks : Asks W L m (fun i => nth xs (i * 2)) (fun i => nth xs (i * 2 + 1)) := by
    intro i hi
    obtain ⟨b, o, rfl, hc⟩ := hx.addr (by omega)
    obtain ⟨x, y, hx1, hy1, _⟩ := hall i hi
    have c1 := hc _ _ hx1
    have c2 := hc _ _ hy1
    refine ⟨b, o, rfl, ?_, ?_, World.block_lt_of_cell? W _ c1⟩
    · rw [c1]; simp [nth, hx1]
    · rw [Nat.add_assoc, c2]; simp [nth, hy1]
  have hNr : ∀ i, i < m → -9223372036854775808 ≤ nth xs (i * 2 + 1) ∧ nth xs (i * 2 + 1) ≤ 9223372036854775807 := by
    intro i hi
    obtain ⟨x, y, _, hy1, hw⟩ := hall i hi
    have := wf_i64 hw
    simpa [nth, hy1] using this
  refine (core A L n c m d l _ _ W hb hn nc hnil hAsks hNr (by omega) (by omega)).mono fun e W' ⟨he, ho⟩ => ?_
  subst he
  exact ⟨_, rfl, law_post rfl hW' (by intro t ht; revert t; exact of_decide_eq_true (by kernel_rfl)) rfl rfl ho⟩

theorem proved : Rows.BitsReadsSaid :=
  OpenClaim.holds_of_wide 3 Try.f3 rfl rfl rfl rfl rfl rfl rfl ⟨rfl, rfl, rfl, rfl, rfl⟩ rfl rfl rfl rfl rfl (by kernel_rfl) Try.func3 (by kernel_rfl)
    (of_decide_eq_true (by kernel_rfl)) (by unfold Func.isWrapper; first | (rw [if_pos (by decide +kernel)]; kernel_rfl) | (rw [if_neg (by decide +kernel)]; exact ⟨rfl, rfl⟩))
    (fun os started H enc _ => lifted os started H enc)
end Go.Proofs.Ytheipfcbpjfohaa.reads
