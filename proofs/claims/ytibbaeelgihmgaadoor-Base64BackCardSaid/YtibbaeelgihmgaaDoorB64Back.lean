/-
  Proves: for all bytes, cuts, with = and without, Base64Back tells true, and leaves all that was there as it was. The two tables of package base64 hold what the program's own text lays (the card ties them).
-/
import Derived.Test.YtibbaeelgihmgaaDoorB64K
import Derived.Test.YtibbaeelgihmgaaDoorB64L
import Derived.Test.YtibbaeelgihmgaaDoorB64O
import Derived.Test.YtibbaeelgihmgaaDoorB64I
import Derived.Deep.RegionLaw
import Derived.BigRegion
import Derived.Deep.CutBlock
import Derived.Deep.DeepCutAuto
namespace Go.Proofs.YtibbaeelgihmgaaDoor.back
open Go Go.RowKit Go.ChangeShapes Go.WideShapes Go.ChangeAt

/-- b[z:], what is left by name. -/
theorem run_from' {w : World} {A : Option Addr} {n c : Nat} {l : List UInt8} (h : Holds w 1 A n (bvals l)) (hl : l.length = n) (hn : n ≤ c) (k : Nat) (hk : k ≤ n) (z : Int) (hz : z = k) :
    ∃ A' d c', d + k = n ∧ (∀ w', (Instr.slice 28 (.slice A n c) (some (.int .i64 z)) none none).run Tryd.prog w' = .ok (.slice A' d c') w') ∧ Holds w 1 A' d (bvals (l.drop k)) ∧ d ≤ c' ∧ (∀ ad', A' = some ad' → ∃ ad, A = some ad ∧ ad'.block = ad.block) := by
  subst hz
  obtain ⟨A', c', h1, h2, h3, h4⟩ := run_from h hl hn k hk
  exact ⟨A', n - k, c', by omega, h1, h2, h3, h4⟩
/-- b[:z]. -/
theorem run_upto' (A : Option Addr) (n c k : Nat) (hk : k ≤ c) (z : Int) (hz : z = k) (w : World) :
    (Instr.slice 28 (.slice A n c) none (some (.int .i64 z)) none).run Tryd.prog w = .ok (.slice A k c) w := by
  subst hz
  exact run_upto A n c k hk w

theorem tail_sign (l : List UInt8) (q : Nat) (hq : 0 < q) : (bare l ++ List.replicate q 61)[(bare l).length + q - 1]? = some 61 := by
  rw [List.getElem?_append_right (by omega), List.getElem?_replicate, if_pos (by omega)]
theorem tail_bare (l : List UInt8) (h : 0 < (bare l).length) : ∃ c : UInt8, (bare l)[(bare l).length - 1]? = some c ∧ c.toNat ≠ 61 := by
  refine ⟨(bare l)[(bare l).length - 1]'(by omega), List.getElem?_eq_getElem (by omega), bare_ok l _ (List.getElem_mem _)⟩

/-- A conversion where the operation stands. -/
theorem op_convert {P : Program} (w : World) {o : Oper} {a : Act} {K : Act → World → Prop} {Q : Exit → Act → World → Prop} (src dst : TypeId) (x : Operand)
    (ho : o.op = .convert src dst x) {v u : Value} (hx : a.eval x = v) (hr : (convert src dst v).run P w = .ok u w) (h : K (a.put o.dst u) w) : o.wp P a w K Q := by
  unfold Oper.wp execOp
  simp only [ho, hx, Sem.run_bind, Sem.run_pure, Result.andThen_ok, hr]
  exact h
/-- The same at a step that has come up, with what follows. -/
theorem ready_convert {P : Program} {md : Region.Mode} {ops : Array Oper} {Q : Exit → Act → World → Prop} {fuel : Nat} {listed : Array Bool} {a : Act} {w : World} {i : Nat} {o : Oper} {rs : List Nat} (ho : ops[i]? = some o)
    (hw : Region.wanted o (yielded ops a.tmps) = true) (src dst : TypeId) (x : Operand) (hop : o.op = .convert src dst x) {v u : Value} (hx : a.eval x = v) (hr : (convert src dst v).run P w = .ok u w)
    (h : wpAny P md ops Q fuel (listed.setIfInBounds i true) (a.put o.dst u) w) (hs : AllReady P md ops Q fuel listed a w rs) : AllReady P md ops Q fuel listed a w (i :: rs) :=
  BigFrame.allReady_want ho hw (fun _ hK => op_convert w src dst x hop hx hr (hK _ _ h)) hs
theorem ready_append {P : Program} {md : Region.Mode} {ops : Array Oper} {Q : Exit → Act → World → Prop} {fuel : Nat} {listed : Array Bool} {a : Act} {w : World} {i : Nat} {o : Oper} {rs : List Nat} (ho : ops[i]? = some o)
    (hw : Region.wanted o (yielded ops a.tmps) = true) (s x : Operand) (t : TypeId) (hop : o.op = .call { callee := .builtin .append, args := #[s, x], argTypes := #[t, t] })
    (base : Nat) {e : TypeId} {ie : TypeInfo} {z : Value} (size bytes : Nat) (ht : P.underlying t = some (.slice e)) (hi : P.info? e = some ie) (hz : ie.zero = some z)
    (hsize : ie.size = size) (hby : ie.bytes = bytes) (hzs : z.cells.size = size) (hsz : 0 < size)
    {v : Value} {n : Nat} {xs : List Value} (hown : w.ownsRow base e size v n xs) (hs0 : a.eval s = v) {A : Option Addr} {m c : Nat} {news : List Value} (hr : Holds w size A m news) (hx : a.eval x = .slice A m c)
    (h1 : ∀ u ∈ news, u.oneCell' = true) (h63 : (n + m) * bytes ≤ 140737488355328) (hbp : 0 < bytes) (hbase : base ≤ w.heap.size)
    (h : ∀ A' c' w', w'.ownsRow base e size (.slice A' (n + m) c') (n + m) (xs ++ news) → w.grownBy w' v.ownBlock → ((Value.slice A' (n + m) c').ownBlock = v.ownBlock ∨ (Value.slice A' (n + m) c').ownBlock = some w.heap.size) → wpAny P md ops Q fuel (listed.setIfInBounds i true) (a.put o.dst (.slice A' (n + m) c')) w')
    (hs : AllReady P md ops Q fuel listed a w rs) : AllReady P md ops Q fuel listed a w (i :: rs) :=
  BigFrame.allReady_want ho hw (fun _ hK => op_append w hop base size bytes ht hi hz hsize hby hzs hsz hown hs0 hr hx h1 h63 hbp hbase fun A' c' w' q1 q2 q3 => hK _ _ (h A' c' w' q1 q2 q3)) hs
/-- Two equal strings at a guarded step. -/
theorem yields_eql {ops : Array Oper} {o : Oper} {a : Act} (hw : Region.wanted o (yielded ops a.tmps) = true) (x y : Operand) (t2 : TypeId) (ho : o.op = .binOp .eql 9 x y t2) {s : ByteArray} (hx : a.eval x = .string s) (hy : a.eval y = .string s) :
    Yields Tryd.prog ops o (.bool true) a := by
  refine .inl ⟨hw, fun w => ?_⟩
  have h : (binOp .eql 9 (.string s) (.string s)).run Tryd.prog w = .ok (.bool true) w := by go_simp
  have hg : (eqGuard .eql 9 x y (.string s) (.string s)).run Tryd.prog w = .ok () w := by simp [eqGuard]
  unfold execOp
  simp only [ho, hx, hy, Sem.run_bind, Sem.run_pure, Result.andThen_ok, h, hg]

theorem app_string {w : World} {B : Nat} {A : Option Addr} {c n : Nat} {q x l : List UInt8} (h : w.ownsRow B 5 1 (.slice A n c) n (bvals q ++ bvals x)) (he : q ++ x = l) : (convert 28 9 (.slice A n c)).run Tryd.prog w = .ok (.string ⟨l.toArray⟩) w := by
  subst he
  rw [← bvals_append] at h
  exact own_string h

theorem rem_le (z : Int) (d : Nat) : (z.tmod ((d : Int) + 1)).natAbs ≤ d := by
  rw [Int.natAbs_tmod]
  have : ((d : Int) + 1).natAbs = d + 1 := by omega
  rw [this]
  have := Nat.mod_lt z.natAbs (show 0 < d + 1 by omega)
  omega
theorem write_run {s t : St} {l o : List UInt8} (hb : s.bad = false) (h : s.run l = some (o, t)) : s.write l = (o, 0, t) := by
  unfold St.write; rw [hb, h]; rfl

set_option maxRecDepth 100000 in
set_option maxHeartbeats 40000000 in
theorem core (A C : Option Addr) (n c m d : Nat) (bb : Bool) (l : List UInt8) (zs : List Int) (w : World) (T : Tab w) (hb : Holds w 1 A n (bvals l)) (hl : l.length = n) (hc : n ≤ c)
    (hz : Holds w 1 C m (zs.map (Value.int .i64))) (hzl : zs.length = m) (hwf : ∀ z ∈ zs, (Lit.int .i64 z).wf = true) (hn0 : n ≤ 9223372036854775807) (hm0 : m ≤ 9223372036854775807) :
    Calls Tryd.prog 5 #[.slice A n c, .slice C m d, .bool bb] w fun e w' => e = .returned (.bool true) ∧ Only [] w w' := by
  subst hl
  subst hzl
  have HK := hide (known_any w T)
  by_cases h1 : 4096 < l.length
  · clear hb hz T hwf
    go_enter Tryd.func5, Tryd.ntmps5
    go_wp2_with fail
    refine (HK.out).mono ?_
    rintro e w1 ⟨rfl, ho⟩
    have HO := hide ho
    clear ho
    go_wp2_with fail
    go_ret
    exact ⟨rfl, HO.out⟩
  by_cases h2 : 100 < zs.length
  · clear hb hz T hwf
    go_enter Tryd.func5, Tryd.ntmps5
    go_wp2_with fail
    refine (HK.out).mono ?_
    rintro e w1 ⟨rfl, ho⟩
    have HO := hide ho
    clear ho
    go_wp2_with fail
    go_ret
    exact ⟨rfl, HO.out⟩
  have hd1 : decide (4096 < l.length) = false := by simpa using h1
  have hd2 : decide (100 < zs.length) = false := by simpa using h2
  have hn1 : ∀ (g : Nat) (w : World), (binOp .eql 25 (.pointer (some ⟨g, 0, none⟩)) (.pointer none)).run Tryd.prog w = .ok (.bool false) w := fun g w => by kernel_rfl
  have HT := hide (And.intro T (And.intro hb (And.intro hz hwf)))
  have HE1 := fun (W : World) (ho : Only [] w W) => hide (encode_any A l.length c l W (T.only ho (by simp) (by simp)) (hb.keep ho (by simp)) rfl (by omega) hc)
  clear T hb hz hwf
  go_enter Tryd.func5, Tryd.ntmps5
  go_wp2_with fail
  refine (HK.out).mono ?_
  rintro e w1 ⟨rfl, ho1⟩
  have HO1 := hide ho1
  clear ho1
  go_wp2_with fail
  refine (HE1 w1 HO1.out).out.mono ?_
  rintro e w2 ⟨v2, rfl, hr2, ho2⟩
  obtain ⟨A1, c1, rfl, hc1, _⟩ := own_shape hr2
  have o2 := HO1.out.trans ho2 (by simp)
  have hh2 := Holds.of_own hr2
  have hel := enc_length l
  rw [enc_bare] at hh2 hel hc1
  rw [enc_bare]
  rw [List.length_append, List.length_replicate] at hh2 hel hc1
  rw [List.length_append, List.length_replicate]
  have H2 := hide (And.intro hh2 o2)
  clear hr2 ho2 o2 hh2 HE1
  obtain ⟨K, hK⟩ : ∃ K, K = (bare l).length := ⟨_, rfl⟩
  rw [← hK] at hel hc1 ⊢
  have HKK := hide hK
  clear hK
  have hpp : K + pad l ≤ 6000 := by omega
  clear hel
  generalize hP : pad l = P at *
  have HPP := hide hP
  clear hP
  go_upto_block 0 with fail
  go_cut [7] (fun t wx => ∃ q : Nat, t = .slice A1 (K + q) c1 ∧ q ≤ P ∧ (q = 0 ∨ q = P) ∧ w2 = wx)
  case first =>
    go_wp2_with fail
    go_loop [7] (fun t => ∃ q : Nat, q ≤ P ∧ (bb = false → q = P) ∧ t = .slice A1 (K + q) c1) (fun t => slen t)
    case atStart => exact ⟨P, Nat.le_refl _, fun _ => rfl, rfl⟩
    case round =>
      obtain ⟨q, hq, hbq, rfl⟩ := hrel
      have hrow : Holds w2 1 A1 (K + q) (bvals (bare l ++ List.replicate q 61)) := by
        have := H2.out.1.upto ((bare l).length + q) (by omega)
        rw [← HKK.out] at this
        have e : (bare l ++ List.replicate P 61).take (K + q) = bare l ++ List.replicate q 61 := by
          rw [HKK.out, List.take_length_add_append, List.take_replicate, Nat.min_eq_left hq]
        rw [e] at this
        exact this
      have hcell : ∀ j b, (bare l ++ List.replicate q 61)[j]? = some b → ∃ bk o, A1 = some ⟨bk, o, none⟩ ∧ w2.cell? ⟨bk, o + j, none⟩ = some (.int .u8 (b.toNat : Int)) := by
        intro j b hb
        have hlj := (List.getElem?_eq_some_iff.1 hb).1
        obtain ⟨bk, o, rfl, hce⟩ := hrow.addr (by rw [bvals_length]; omega)
        refine ⟨bk, o, rfl, hce j _ ?_⟩
        rw [bvals_get _ j hlj]
        rw [List.getElem?_eq_getElem hlj] at hb
        injection hb with hb
        rw [hb]
      by_cases hcont : bb = true ∧ 0 < q
      · obtain ⟨rfl, hq0⟩ := hcont
        obtain ⟨bk, o, rfl, hce⟩ := hcell _ _ (tail_sign l q hq0)
        rw [← HKK.out] at hce
        have hce : w2.cell? ⟨bk, o + (K + q - 1), none⟩ = some (.int .u8 61) := hce
        have e1 : ((K : Int) + (q : Int) - 1) = ((K + q - 1 : Nat) : Int) := by omega
        have hup := run_upto' (some ⟨bk, o, none⟩) (K + q) c1 (K + q - 1) (by omega) ((K + q - 1 : Nat) : Int) rfl
        have HR := hide hrow
        clear hrow hcell
        go_wp2_with fail
        go_round
        case rel => exact ⟨q - 1, by omega, fun h => by simp at h, by rw [show K + (q - 1) = K + q - 1 by omega]⟩
        case measure => simp [slen]; omega
      · have hq2 : q = 0 ∨ q = P := by
          cases bb with
          | false => exact .inr (hbq rfl)
          | true => exact .inl (by simpa using hcont)
        have hways : bb = false ∨ (bb = true ∧ K + q = 0) ∨ (bb = true ∧ q = 0 ∧ 0 < K) := by
          cases bb with
          | false => exact .inl rfl
          | true =>
            have : q = 0 := by simpa using hcont
            rcases Nat.eq_zero_or_pos K with h | h
            · exact .inr (.inl ⟨rfl, by omega⟩)
            · exact .inr (.inr ⟨rfl, this, h⟩)
        have HQ := hide (And.intro hq hq2)
        clear hcont hbq hq2 hq
        rcases hways with rfl | ⟨rfl, hk0⟩ | ⟨rfl, rfl, hk0⟩
        · clear hrow hcell
          go_wp2_with fail
          go_meet
          exact ⟨q, rfl, HQ.out.1, HQ.out.2, rfl⟩
        · obtain ⟨M, hM⟩ : ∃ M, M = K + q := ⟨_, rfl⟩
          rw [← hM] at hk0 ⊢
          subst hk0
          have HM := hide hM
          clear hrow hcell hM
          go_wp2_with fail
          go_meet
          exact ⟨0, by rw [show K + 0 = 0 by have := HM.out; omega], Nat.zero_le _, .inl rfl, rfl⟩
        · obtain ⟨ch, hch, hn61⟩ := tail_bare l (by rw [← HKK.out]; exact hk0)
          obtain ⟨bk, o, rfl, hce⟩ := hcell (K - 1) ch (by
            rw [List.getElem?_append_left (by rw [← HKK.out]; omega), HKK.out]; exact hch)
          have hb61 : ((ch.toNat : Int) == 61) = false := by simp; omega
          have hcl := ch.toNat_lt
          clear hrow hcell hch hn61
          generalize ch.toNat = x at *
          have e1 : ((K : Int) - 1) = ((K - 1 : Nat) : Int) := by omega
          go_wp2_with fail
          go_meet
          exact ⟨0, rfl, Nat.zero_le _, .inl rfl, rfl⟩
  case rest =>
    obtain ⟨q, rfl, hq, hq2, rfl⟩ := hcut
    have hrow : Holds w2 1 A1 (K + q) (bvals (bare l ++ List.replicate q 61)) := by
      have := H2.out.1.upto ((bare l).length + q) (by omega)
      rw [← HKK.out] at this
      have e : (bare l ++ List.replicate P 61).take (K + q) = bare l ++ List.replicate q 61 := by
        rw [HKK.out, List.take_length_add_append, List.take_replicate, Nat.min_eq_left hq]
      rw [e] at this
      exact this
    obtain ⟨oT, tT, xT, hb1, hb2, hb3⟩ := back l q (by rw [HPP.out]; exact hq2)
    have HB := hide (And.intro hb1 (And.intro hb2 hb3))
    have HH := hide (And.intro hrow H2.out.2)
    obtain ⟨M, hM⟩ : ∃ M, M = K + q := ⟨_, rfl⟩
    rw [← hM] at HH ⊢
    have hMb : M ≤ 6000 := by omega
    have hMc : M ≤ c1 := by omega
    clear hM hb1 hb2 hb3 hq2 hrow hq
    focus go_wp2_with fail
    refine (newDecoder_any w2).mono ?_
    rintro e w3 ⟨g, rfl, hg, hd3, ho3⟩
    have H3 := hide (And.intro hg (And.intro hd3 ho3))
    clear hg hd3 ho3
    focus go_wp2_with fail
    go_loopw [7, 9, 10] (fun tv ov iv wr => ∃ (i dd c' : Nat) (A' : Option Addr) (vo : Value) (L q' : List UInt8) (s : St) (o' : List UInt8), tv = .slice A' dd c' ∧ ov = vo ∧ iv = .int .i64 i ∧ (i ≤ zs.length ∨ dd = 0) ∧ i ≤ zs.length + 1 ∧ L.length = dd ∧ Holds w2 1 A' dd (bvals L) ∧ dd ≤ c' ∧ dd ≤ 6000 ∧
      wr.ownsRow w2.heap.size 5 1 vo q'.length (bvals q') ∧ De wr g s ∧ s.Ok ∧ s.bad = false ∧ s.run L = some (o', tT) ∧ q' ++ o' = oT ∧ Only [] w2 wr) (fun _ _ iv _ => zs.length + 2 - (intOf iv).toNat)
    case atStart =>
      refine ⟨0, _, c1, _, _, _, [], St.new, oT, rfl, rfl, rfl, .inl (Nat.zero_le _), Nat.zero_le _, ?_, HH.out.1, hMc, hMb, World.ownsRow_nil _ _ _ _, H3.out.2.1, St.Ok.new, rfl, HB.out.1, rfl, H3.out.2.2⟩
      have := HH.out.1.1
      rw [bvals_length, Nat.mul_one] at this
      exact this
    case round =>
      obtain ⟨i, dd, c', A', vo, L, q', s, o', rfl, rfl, rfl, hi1, hi2, hL, hhL, hdc, hd6, hown, hde, hok, hsb, hrun, heq, hon⟩ := hrel
      obtain ⟨Ao, co, rfl, _, _⟩ := own_shape hown
      by_cases hlt : 0 < dd
      · have hil : i ≤ zs.length := by omega
        have hkeep : ∀ nn, nn ≤ dd → ∀ zz : Int, zz = nn → ∃ (A'' : Option Addr) (d'' c'' : Nat) (o1 : List UInt8) (t1 : St) (o2 : List UInt8), d'' + nn = dd ∧ (∀ w', (Instr.slice 28 (.slice A' dd c') (some (.int .i64 zz)) none none).run Tryd.prog w' = .ok (.slice A'' d'' c'') w') ∧
            (∀ w', (Instr.slice 28 (.slice A' dd c') none (some (.int .i64 zz)) none).run Tryd.prog w' = .ok (.slice A' nn c') w') ∧
            Holds w2 1 A'' d'' (bvals (L.drop nn)) ∧ d'' ≤ c'' ∧ t1.run (L.drop nn) = some (o2, tT) ∧ t1.Ok ∧ t1.bad = false ∧ o1.length ≤ 18000 ∧ q' ++ o1 ++ o2 = oT ∧
            Calls Tryd.prog 13 #[.pointer (some ⟨g, 0, none⟩), .slice A' nn c'] wr (Wrote g (o1, 0, t1) wr) := by
          intro nn hnn zz hzz
          obtain ⟨A'', d'', c'', q1, q2, q3, q4, _⟩ := run_from' hhL hL hdc nn hnn zz hzz
          have q5 := run_upto' A' dd c' nn (by omega) zz hzz
          have q6 := hhL.upto nn hnn
          have hLs : L = L.take nn ++ L.drop nn := (List.take_append_drop nn L).symm
          rw [hLs] at hrun
          obtain ⟨o1, t1, o2, r1, r2, r3⟩ := run_front hrun
          obtain ⟨k1, k2⟩ := run_ok hok hsb r1
          have k3 := run_few hok hsb r1
          rw [List.length_take] at k3
          have hW := write_any g s A' nn c' (L.take nn) wr ((HT.out.1.only H2.out.2 (by simp) (by simp)).only hon (by simp) (by simp)) hde hok (q6.keep hon (by simp)) (by rw [List.length_take]; omega) (by omega)
            (fun h0 ad ha => by have := q6.blk h0 ad ha; have := H3.out.1; omega)
          rw [write_run hsb r1] at hW
          exact ⟨A'', d'', c'', o1, t1, o2, q1, q2, q5, q3, q4, r2, k1, k2, by omega, by rw [List.append_assoc, ← r3]; exact heq, hW⟩
        have hql : q'.length ≤ 10000 := by
          have h1 := congrArg List.length HB.out.2.2
          have h2 := congrArg List.length heq
          rw [List.length_append] at h1 h2
          omega
        have HX := hide (And.intro hown (And.intro hon (And.intro hde.lt (own_ne hown hde (by decide)))))
        have HKP := hide hkeep
        clear hhL hown hde hok hsb hrun heq hon hL hi1 hkeep
        rcases Nat.lt_or_ge i zs.length with hi | hi
        rotate_left 1
        focus
          obtain ⟨A'', d'', c'', o1, t1, o2, q1, hfr, hup, q4, q5, q6, q7, q8, q9, q10, hW⟩ := HKP.out dd (Nat.le_refl _) (dd : Int) rfl
          have HY := hide (And.intro q1 (And.intro q4 (And.intro q5 (And.intro q6 (And.intro q7 (And.intro q8 (And.intro q9 (And.intro q10 hW))))))))
          clear q1 q4 q5 q6 q7 q8 q9 q10 hW HKP
          go_wp2_with fail
        rotate_left 1
        obtain ⟨bz, oz, rfl, hcz⟩ := HT.out.2.2.1.addr (by simp; omega)
        have hcel : wr.cell? ⟨bz, oz + i, none⟩ = some (.int .i64 zs[i]) := by
          have h0 := hcz i _ (by rw [List.getElem?_map, List.getElem?_eq_getElem hi]; rfl)
          rw [(H2.out.2.trans HX.out.2.1 (by simp)).cell (p := ⟨bz, oz + i, none⟩) (World.block_lt_of_cell? w _ h0) (by simp)]
          exact h0
        have hwz := wf_i64 (HT.out.2.2.2 zs[i] (List.getElem_mem hi))
        generalize zs[i] = z at *
        clear hcz
        have hrl := rem_le z dd
        rcases Int.lt_or_le (z.tmod ((dd : Int) + 1)) 0 with hneg | hpos
        focus
          obtain ⟨nn, hnn⟩ : ∃ nn : Nat, z.tmod ((dd : Int) + 1) = -(nn : Int) := ⟨(z.tmod ((dd : Int) + 1)).natAbs, by omega⟩
          rw [hnn] at hrl hneg
          have hn0 : (0 : Int) < (nn : Int) := by omega
          have hnd : nn ≤ dd := by omega
          obtain ⟨A'', d'', c'', o1, t1, o2, q1, hfr, hup, q4, q5, q6, q7, q8, q9, q10, hW⟩ := HKP.out nn hnd (nn : Int) rfl
          have HY := hide (And.intro q1 (And.intro q4 (And.intro q5 (And.intro q6 (And.intro q7 (And.intro q8 (And.intro q9 (And.intro q10 hW))))))))
          clear q1 q4 q5 q6 q7 q8 q9 q10 hW HKP hrl
          go_wp2_with fail
        rotate_left 1
        focus
          obtain ⟨nn, hnn⟩ : ∃ nn : Nat, z.tmod ((dd : Int) + 1) = (nn : Int) := ⟨(z.tmod ((dd : Int) + 1)).natAbs, by omega⟩
          rw [hnn] at hrl hpos
          have hnd : nn ≤ dd := by omega
          obtain ⟨A'', d'', c'', o1, t1, o2, q1, hfr, hup, q4, q5, q6, q7, q8, q9, q10, hW⟩ := HKP.out nn hnd (nn : Int) rfl
          have HY := hide (And.intro q1 (And.intro q4 (And.intro q5 (And.intro q6 (And.intro q7 (And.intro q8 (And.intro q9 (And.intro q10 hW))))))))
          clear q1 q4 q5 q6 q7 q8 q9 q10 hW HKP hrl
          go_wp2_with fail
        all_goals
          refine (HY.out.2.2.2.2.2.2.2.2).mono ?_
          rintro e w4 ⟨v4, rfl, ho4, hd4, hon4⟩
          obtain ⟨A4, c4, rfl, _, _⟩ := own_shape ho4
          have hown4 := own_keep HX.out.1 hon4 (fun b hb hm => HX.out.2.2.2 (hb.trans (congrArg some (by simpa using hm))).symm)
          have hB4 : w2.heap.size ≤ w4.heap.size := Nat.le_trans HX.out.2.1.size hon4.size
          have hsrc := Holds.of_own ho4
          have hone := bvals_one o1
          have hrm : (q'.length + o1.length) * 1 ≤ 140737488355328 := by have := HY.out.2.2.2.2.2.2.1; omega
          have hne4 := own_ne hown4 hd4 (by decide)
          have hog : Only [] w2 w4 := HX.out.2.1.trans hon4 (by have := H3.out.1; simp; omega)
          have H4 := hide (And.intro hown4 (And.intro hsrc (And.intro hone (And.intro hrm (And.intro hB4 (And.intro hd4 (And.intro hne4 hog)))))))
          clear ho4 hd4 hon4 hown4 hB4 hsrc hone hrm hne4 hog
          obtain ⟨i0, hi0, hz0, hz1, hz2⟩ := info_of u8_info
          focus go_wp2_with (at_builtin; refine list_append _ rfl (.tmp 83) (.tmp 84) 28 rfl w2.heap.size 1 1 Tryd.underlying28 hi0 hz0 hz1 hz2 rfl (Nat.zero_lt_one) H4.out.1 rfl H4.out.2.1 rfl H4.out.2.2.1 H4.out.2.2.2.1 (Nat.zero_lt_one) H4.out.2.2.2.2.1 ?_; intro A7 c7 w7 hown7 hgrow hat; have H7 := hide (And.intro hown7 (And.intro hgrow hat)); clear hown7 hgrow hat)
          go_roundw
          case rel =>
            refine ⟨i + 1, d'', c'', A'', _, _, q' ++ o1, t1, o2, rfl, rfl, by go_num, by have := HY.out.1; omega, by omega, ?_, HY.out.2.1, HY.out.2.2.1, by have := HY.out.1; omega, by rw [List.length_append, bvals_append]; exact H7.out.1,
              Has.grown H4.out.2.2.2.2.2.1 H7.out.2.1 H4.out.2.2.2.2.2.2.1, HY.out.2.2.2.2.1, HY.out.2.2.2.2.2.1, HY.out.2.2.2.1, HY.out.2.2.2.2.2.2.2.1, ?_⟩
            · have := HY.out.2.1.1
              rw [bvals_length, Nat.mul_one] at this
              exact this
            · refine H4.out.2.2.2.2.2.2.2.grown H7.out.2.1 (fun k hk hlt => ?_)
              have := (H4.out.1.lt k hk).1
              omega
          case measure => simp [intOf]; omega
      · obtain rfl : dd = 0 := by omega
        obtain rfl : L = [] := List.eq_nil_of_length_eq_zero hL
        rw [run_nil] at hrun
        injection hrun with hrun
        injection hrun with hr1 hr2
        subst hr1
        subst hr2
        rw [List.append_nil] at heq
        subst heq
        have hE := end_any g s wr hde hok
        rw [HB.out.2.1] at hE
        have hne := own_ne hown hde (by decide)
        have HX := hide (And.intro hown (And.intro hon (And.intro hne hE)))
        have hql : q'.length ≤ 10000 := by
          have h1 := congrArg List.length HB.out.2.2
          rw [List.length_append] at h1
          omega
        clear hhL hown hde hok hsb hon hL hi1 hne hE
        focus go_wp2_with fail
        refine (HX.out.2.2.2).mono ?_
        rintro e w4 ⟨v4, rfl, ho4, hd4, hon4⟩
        obtain ⟨A4, c4, rfl, _, _⟩ := own_shape ho4
        focus go_wp2_with fail
        have hown4 := own_keep HX.out.1 hon4 (fun b hb hm => HX.out.2.2.1 (hb.trans (congrArg some (by simpa using hm))).symm)
        have hown5 : w4.drew.ownsRow w2.heap.size 5 1 (.slice Ao q'.length co) q'.length (bvals q') := hown4
        have hsrc : Holds w4.drew 1 A4 xT.length (bvals xT) := Holds.of_own ho4
        have hone := bvals_one xT
        have hxl : xT.length ≤ 10000 := by
          have h1 := congrArg List.length HB.out.2.2
          rw [List.length_append] at h1
          omega
        have hrm : (q'.length + xT.length) * 1 ≤ 140737488355328 := by omega
        have hg0 := H3.out.1
        have o24 : Only [] w2 w4 := HX.out.2.1.trans hon4 (by simp; omega)
        have hB5 : w2.heap.size ≤ w4.drew.heap.size := o24.size
        have o04 : Only [] w w4.drew := (H2.out.2.trans o24 (by simp)).drew
        have hbs := holds_string c (HT.out.2.1.keep o04 (by simp))
        obtain ⟨i0, hi0, hz0, hz1, hz2⟩ := info_of u8_info
        have hkp : ∀ w7, w4.drew.grownBy w7 (Value.slice Ao q'.length co).ownBlock → Only [] w w7 := fun w7 hg => (H2.out.2.trans o24 (by simp)).drew.grown hg (fun k hk hlt => by
          have h1 := (HX.out.1.lt k hk).1
          have h2 := H2.out.2.size
          omega)
        have hkb : ∀ w7, Only [] w w7 → Holds w7 1 A l.length (bvals l) := fun w7 ho => HT.out.2.1.keep ho (by simp)
        have heq := HB.out.2.2
        have HEQ := hide heq
        clear ho4 hd4 hon4 hown4 heq hg0 o24 o04 HK h1 h2 hd1 hd2 hn1 HO1 HKK HPP hc1 hpp HH hMb hMc H3 HB HX HT H2 hi2 hdc hd6 hlt hql hxl hn0 hm0 hc
        refine wp_region_any (by kernel_rfl) ?_
        change wpAny _ _ _ _ _ _ _ (World.drew _)
        refine wpAny_take (i := 0) (v := .int .i64 0) rfl (by kernel_rfl) (by kernel_rfl) (by kernel_rfl) (fun _ _ _ h => h) (Or.inl ⟨by kernel_rfl, by intro w; kernel_rfl⟩) ?_
        refine wpAny_take (i := 1) (v := .bool true) rfl (by kernel_rfl) (by kernel_rfl) (by kernel_rfl) (fun _ _ _ h => h) (Or.inl ⟨by kernel_rfl, by intro w; kernel_rfl⟩) ?_
        refine wpAny_take (i := 2) (v := .bool true) rfl (by kernel_rfl) (by kernel_rfl) (by kernel_rfl) (fun _ _ _ h => h) (Or.inl ⟨by kernel_rfl, by intro w; kernel_rfl⟩) ?_
        refine wpAny_take (i := 3) (v := .slice Ao q'.length co) rfl (by kernel_rfl) (by kernel_rfl) (by kernel_rfl) (fun _ _ _ h => h) (Or.inl ⟨by kernel_rfl, by intro w; kernel_rfl⟩) ?_
        refine wpAny_take (i := 4) (v := .slice A4 xT.length c4) rfl (by kernel_rfl) (by kernel_rfl) (by kernel_rfl) (fun _ _ _ h => h) (Or.inl ⟨by kernel_rfl, by intro w; kernel_rfl⟩) ?_
        refine wpAny_take (i := 7) (v := .slice A l.length c) rfl (by kernel_rfl) (by kernel_rfl) (by kernel_rfl) (fun _ _ _ h => h) (Or.inl ⟨by kernel_rfl, by intro w; kernel_rfl⟩) ?_
        refine wpAny_ready (rs := [5, 8]) (by kernel_rfl) (by simp) ?_
        refine ready_append (c := c4) rfl (by kernel_rfl) (.tmp 97) (.tmp 98) 28 rfl w2.heap.size 1 1 Tryd.underlying28 hi0 hz0 hz1 hz2 rfl (Nat.zero_lt_one) hown5 (by kernel_rfl) hsrc (by kernel_rfl) hone hrm (Nat.zero_lt_one) hB5 ?_ ?_
        · skip
          intro A7 c7 w7 hown7 hgrow hat
          have hcA := app_string hown7 HEQ.out
          have hall := hkp w7 hgrow
          have hcB := holds_string c (hkb w7 hall)
          refine wpAny_ready (rs := [6, 8]) (by kernel_rfl) (by simp) ?_
          refine ready_convert rfl (by kernel_rfl) 28 9 (.tmp 99) rfl (by kernel_rfl) hcA ?_ ?_
          · skip
            refine wpAny_ready (rs := [8]) (by kernel_rfl) (by simp) ?_
            refine ready_convert rfl (by kernel_rfl) 28 9 (.tmp 101) rfl (by kernel_rfl) hcB ?_ AllReady.nil
            refine wpAny_take (i := 9) (v := .bool true) rfl (by kernel_rfl) (by kernel_rfl) (by kernel_rfl) (fun _ _ _ h => h) (yields_eql (by kernel_rfl) (.tmp 100) (.tmp 102) 9 rfl (s := ⟨l.toArray⟩) (by kernel_rfl) (by kernel_rfl)) ?_
            refine wpAny_take (i := 10) (v := .bool true) rfl (by kernel_rfl) (by kernel_rfl) (by kernel_rfl) (fun _ _ _ h => h) (Or.inl ⟨by kernel_rfl, by intro w; kernel_rfl⟩) ?_
            refine wpAny_take (i := 11) (v := .bool true) rfl (by kernel_rfl) (by kernel_rfl) (by kernel_rfl) (fun _ _ _ h => h) (Or.inl ⟨by kernel_rfl, by intro w; kernel_rfl⟩) ?_
            refine wpAny_done (by kernel_rfl) ?_ _
            clear hkp hkb hbs hown5 hsrc hone hrm hB5 hcA hcB hown7 hgrow hat
            go_wp2_with fail
            exact bodyPost_ret (v := .bool true) (by kernel_rfl) (by kernel_rfl) ⟨rfl, hall⟩
          · refine ready_convert rfl (by kernel_rfl) 28 9 (.tmp 101) rfl (by kernel_rfl) hcB ?_ AllReady.nil
            refine wpAny_ready (rs := [6]) (by kernel_rfl) (by simp) ?_
            refine ready_convert rfl (by kernel_rfl) 28 9 (.tmp 99) rfl (by kernel_rfl) hcA ?_ AllReady.nil
            refine wpAny_take (i := 9) (v := .bool true) rfl (by kernel_rfl) (by kernel_rfl) (by kernel_rfl) (fun _ _ _ h => h) (yields_eql (by kernel_rfl) (.tmp 100) (.tmp 102) 9 rfl (s := ⟨l.toArray⟩) (by kernel_rfl) (by kernel_rfl)) ?_
            refine wpAny_take (i := 10) (v := .bool true) rfl (by kernel_rfl) (by kernel_rfl) (by kernel_rfl) (fun _ _ _ h => h) (Or.inl ⟨by kernel_rfl, by intro w; kernel_rfl⟩) ?_
            refine wpAny_take (i := 11) (v := .bool true) rfl (by kernel_rfl) (by kernel_rfl) (by kernel_rfl) (fun _ _ _ h => h) (Or.inl ⟨by kernel_rfl, by intro w; kernel_rfl⟩) ?_
            refine wpAny_done (by kernel_rfl) ?_ _
            clear hkp hkb hbs hown5 hsrc hone hrm hB5 hcA hcB hown7 hgrow hat
            go_wp2_with fail
            exact bodyPost_ret (v := .bool true) (by kernel_rfl) (by kernel_rfl) ⟨rfl, hall⟩
        · refine ready_convert rfl (by kernel_rfl) 28 9 (.tmp 101) rfl (by kernel_rfl) hbs ?_ AllReady.nil
          refine wpAny_ready (rs := [5]) (by kernel_rfl) (by simp) ?_
          refine ready_append (c := c4) rfl (by kernel_rfl) (.tmp 97) (.tmp 98) 28 rfl w2.heap.size 1 1 Tryd.underlying28 hi0 hz0 hz1 hz2 rfl (Nat.zero_lt_one) hown5 (by kernel_rfl) hsrc (by kernel_rfl) hone hrm (Nat.zero_lt_one) hB5 ?_ AllReady.nil
          intro A7 c7 w7 hown7 hgrow hat
          have hcA := app_string hown7 HEQ.out
          have hall := hkp w7 hgrow
          have hcB := holds_string c (hkb w7 hall)
          refine wpAny_ready (rs := [6]) (by kernel_rfl) (by simp) ?_
          refine ready_convert rfl (by kernel_rfl) 28 9 (.tmp 99) rfl (by kernel_rfl) hcA ?_ AllReady.nil
          refine wpAny_take (i := 9) (v := .bool true) rfl (by kernel_rfl) (by kernel_rfl) (by kernel_rfl) (fun _ _ _ h => h) (yields_eql (by kernel_rfl) (.tmp 100) (.tmp 102) 9 rfl (s := ⟨l.toArray⟩) (by kernel_rfl) (by kernel_rfl)) ?_
          refine wpAny_take (i := 10) (v := .bool true) rfl (by kernel_rfl) (by kernel_rfl) (by kernel_rfl) (fun _ _ _ h => h) (Or.inl ⟨by kernel_rfl, by intro w; kernel_rfl⟩) ?_
          refine wpAny_take (i := 11) (v := .bool true) rfl (by kernel_rfl) (by kernel_rfl) (by kernel_rfl) (fun _ _ _ h => h) (Or.inl ⟨by kernel_rfl, by intro w; kernel_rfl⟩) ?_
          refine wpAny_done (by kernel_rfl) ?_ _
          clear hkp hkb hbs hown5 hsrc hone hrm hB5 hcA hcB hown7 hgrow hat
          go_wp2_with fail
          exact bodyPost_ret (v := .bool true) (by kernel_rfl) (by kernel_rfl) ⟨rfl, hall⟩

set_option maxRecDepth 100000 in
theorem lifted (os : Os) (started : os.Started) (H : Type) (enc : TypeId × Value → H) :
    ReturnsInHanded {} Tryd.checked os 5 .any (fun w args => (Rows.base64BackSpec.pre enc Tryd.prog Tryd.f5 [] false w args ∧ laidMetH Tryd.prog laidB w) ∧ sizedMet enc Tryd.prog Tryd.f5 (OpenSpec.ofChange Rows.base64BackSpec) false w args)
      (Rows.base64BackSpec.post enc Tryd.prog Tryd.f5 false true false false) := by
  refine returnsInHanded_of_change_and (C := Tryd.checked) (X := fun w _ => laidMetH Tryd.prog laidB w) (fun _ _ _ hh h => h.of_heap hh) own_knob started (by kernel_rfl) Tryd.func5
    (ChangeSpec.witness_shaped (enc := enc) (C := Tryd.checked) (os := os) (X := fun w _ => laidMetH Tryd.prog laidB w) false (World.doorLaid Tryd.prog 400 os) #[.slice none 0 0, .slice none 0 0, .bool false] 8 rfl (World.shaped_of_RefB (by kernel_rfl) (by kernel_rfl)) (by kernel_rfl) (by kernel_rfl) (by kernel_rfl) (door_met os _)) ?_
  intro W base args ds gs before hval0 hW _ _ hL _
  have hval : ∀ (j : Nat) t v, Tryd.f5.params[j]? = some t → args[j]? = some v → Value.okWide Tryd.prog W .any base t v := hval0
  have hW' := hW
  obtain ⟨p, q, hA0, hV, rfl, hfz, hnd⟩ := hW
  have hA : DataW.TrodAll enc Tryd.prog W 0 (fun _ => true) true Tryd.f5.params.toList args.toList ds p := hA0
  rw [Tryd.params5] at hA hval
  obtain ⟨v0, vs0, d0, ds0, p0, q0, hargs, rfl, rfl, h0, r0⟩ := trodAll_cons hA
  obtain ⟨v1, vs1, d1, ds1, p1, q1, rfl, rfl, rfl, h1, r1⟩ := trodAll_cons r0
  obtain ⟨v2, vs2, d2, ds2, p2, q2, rfl, rfl, rfl, h2, r2⟩ := trodAll_cons r1
  obtain ⟨rfl, rfl, rfl⟩ := trodAll_nil r2
  obtain rfl : args = #[v0, v1, v2] := by cases args; simp_all
  obtain ⟨A, n, c, l, rfl, nc, cm, _, hn, hb⟩ := open_bytes Tryd.underlying28 Tryd.underlying5 (by kernel_rfl) (hval 0 28 v0 rfl rfl) h0
  obtain ⟨C, m, d, zs, rfl, md, dm, _, hm, hz, hwf⟩ := open_nums Tryd.underlying43 Tryd.underlying3 (by kernel_rfl) (hval 1 43 v1 rfl rfl) h1
  obtain ⟨bb, rfl, rfl, rfl⟩ := open_bool Tryd.underlying4 (hval 2 4 v2 rfl rfl) h2
  unfold maxLen at cm dm
  refine (core A C n c m d bb l zs W (tab_of_laid hL) hb hn nc hz hm hwf (by omega) (by omega)).mono fun e W' ⟨he, ho⟩ => ?_
  subst he
  exact ⟨_, rfl, law_post rfl hW' (by intro t ht; revert t; exact of_decide_eq_true (by kernel_rfl)) rfl rfl ho⟩

theorem holds : Rows.Base64BackSaid :=
  OpenClaim.holds_of_wide 5 Tryd.f5 rfl rfl rfl rfl rfl rfl rfl ⟨rfl, rfl, rfl, rfl, rfl⟩ rfl rfl rfl rfl rfl (by kernel_rfl) Tryd.func5 (by kernel_rfl)
    (of_decide_eq_true (by kernel_rfl)) (by unfold Func.isWrapper; first | (rw [if_pos (by decide +kernel)]; kernel_rfl) | (rw [if_neg (by decide +kernel)]; exact ⟨rfl, rfl⟩))
    (fun os started H enc _ => lifted os started H enc)

theorem proved : Rows.Base64BackCardSaid :=
  Claim7.holds_tied_plain_at .later [] Rows.base64BackCard.laidKinds true Rows.base64BackCard.stood.harness false
    holds (fun _ h => by cases h) (by kernel_rfl) (fun _ h => by cases h) base64Back_row_tie rfl ⟨rfl, rfl⟩ (by kernel_rfl) rfl
    (fun f fn hf hfn => by
      obtain rfl : f = 5 := Option.some.inj ((show Tryd.prog.funcNamed "phosphor/phosphorlaw3.Base64Back" = some 5 by kernel_rfl).symm.trans hf) |>.symm
      obtain rfl : fn = Tryd.f5 := (Option.some.inj (Tryd.func5.symm.trans hfn)).symm
      exact ⟨by kernel_rfl, fun j t ht => by
        rw [Tryd.params5] at ht
        have hm : t ∈ [28, 43, 4] := by simpa using Array.mem_of_getElem? ht
        have hall : ([28, 43, 4].all fun u => !Tryd.prog.wantsStandIn u) = true := by kernel_rfl
        exact (show Tryd.prog.wantsStandIn t = false by simpa using List.all_eq_true.1 hall t hm)⟩)
    (by kernel_rfl)
end Go.Proofs.YtibbaeelgihmgaaDoor.back
