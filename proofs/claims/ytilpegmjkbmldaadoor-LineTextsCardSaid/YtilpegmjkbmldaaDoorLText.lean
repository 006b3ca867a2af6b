/-
  LineTexts: narrow characters, put one behind the other on a new line, are its text, without what is blank at the end. (Of what comes in nothing is asked.)
-/
import Derived.Test.YtilpegmjkbmldaaDoorLnO
import Derived.Test.YtilpegmjkbmldaaDoorLnN
import Derived.Test.YtilpegmjkbmldaaDoorStr
import Derived.BigRegion
namespace Go.Proofs.YtilpegmjkbmldaaDoor.ltext
open Go Go.RowKit Go.ChangeShapes Go.WideShapes Go.ChangeAt

/-- The sign that a byte stands for; the line, and the text, when i bytes have been put. -/
def dB (t : UInt8) : UInt8 := 32 + t % 95
def dC (t : UInt8) : Ce := ⟨((dB t).toNat : Nat), 0, Lk.zero⟩
def lnT (z : Nat) (l : List UInt8) (i : Nat) : List Ce := List.replicate z (blankC Lk.zero) ++ (l.take i).map dC ++ List.replicate (240 - z - i) (blankC Lk.zero)
def wnT (z : Nat) (l : List UInt8) (i : Nat) : List UInt8 := List.replicate z 32 ++ (l.take i).map dB
theorem dB_nat (t : UInt8) : (dB t).toNat = 32 + t.toNat % 95 := by
  unfold dB
  rw [UInt8.toNat_add, UInt8.toNat_mod]
  show (32 + t.toNat % 95) % 256 = _
  omega
theorem lnT_narrow (z : Nat) (l : List UInt8) (i : Nat) : ∀ c ∈ lnT z l i, c.k = 0 := by
  intro c hc
  unfold lnT at hc
  rcases List.mem_append.1 hc with hc | hc
  · rcases List.mem_append.1 hc with hc | hc
    · exact narrow_rep _ _ c hc
    · obtain ⟨t, _, rfl⟩ := List.mem_map.1 hc; rfl
  · exact narrow_rep _ _ c hc
theorem lnT_len (z : Nat) (l : List UInt8) (i : Nat) (hi : i ≤ l.length) (hz : z + i ≤ 240) : (lnT z l i).length = 240 := by
  unfold lnT; simp; omega
theorem lnT_zero (z : Nat) (l : List UInt8) (hz : z ≤ 240) : lnT z l 0 = newL 240 Lk.zero := by
  unfold lnT newL
  rw [if_pos (by omega), List.take_zero, List.map_nil, List.append_nil, List.replicate_append_replicate]
  congr 1; omega
theorem lnT_put (z : Nat) (l : List UInt8) (i : Nat) (t : UInt8) (ht : l[i]? = some t) (hz : z + i < 240) : putL (lnT z l i) (z + i) ((dB t).toNat : Nat) false Lk.zero = lnT z l (i + 1) := by
  obtain ⟨hi, rfl⟩ := List.getElem?_eq_some_iff.1 ht
  unfold putL
  rw [mendL_narrow _ (lnT_narrow z l i)]
  have e : (lnT z l i).set (z + i) ⟨((dB l[i]).toNat : Nat), 0, Lk.zero⟩ = lnT z l (i + 1) := by
    unfold lnT
    have hl : (List.replicate z (blankC Lk.zero) ++ (l.take i).map dC).length = z + i := by simp; omega
    rw [List.set_append_right _ _ (by omega), hl, Nat.sub_self, show 240 - z - i = (240 - z - (i + 1)) + 1 by omega, List.replicate_succ, List.set_cons_zero, List.take_add_one, List.getElem?_eq_getElem hi]
    rw [List.map_append]
    simp only [Option.toList_some, List.map_cons, List.map_nil, List.append_assoc, List.cons_append, List.nil_append]
    rfl
  show mendL (if false = true then _ else (lnT z l i).set (z + i) _) = _
  rw [if_neg (by decide), e, mendL_narrow _ (lnT_narrow z l (i + 1))]
theorem wnT_len (z : Nat) (l : List UInt8) (i : Nat) (hi : i ≤ l.length) : (wnT z l i).length = z + i := by unfold wnT; simp; omega
theorem wnT_succ (z : Nat) (l : List UInt8) (i : Nat) (t : UInt8) (ht : l[i]? = some t) : wnT z l (i + 1) = wnT z l i ++ [dB t] := by
  unfold wnT
  rw [List.take_add_one, ht, List.map_append]
  simp
theorem str_app (a b : List UInt8) : (⟨a.toArray⟩ : ByteArray) ++ ⟨b.toArray⟩ = ⟨(a ++ b).toArray⟩ := by
  apply ByteArray.ext
  simp [ByteArray.data_append]
theorem trim_same (l : List UInt8) : Lib.trimRightB (l ++ [32]) 32 = Lib.trimRightB l 32 := by simp [Lib.trimRightB]
theorem trim_sign (l : List UInt8) (d : UInt8) (h : d ≠ 32) : Lib.trimRightB (l ++ [d]) 32 = l ++ [d] := by simp [Lib.trimRightB, h]
theorem trim_rep (l : List UInt8) (n : Nat) : Lib.trimRightB (l ++ List.replicate n 32) 32 = Lib.trimRightB l 32 := by
  induction n with
  | zero => simp
  | succ n ih => rw [List.replicate_succ', ← List.append_assoc, trim_same, ih]
/-- The text's end, when i bytes have been put. -/
def EndAt (z : Nat) (l : List UInt8) (i e : Nat) : Prop := e ≤ z + i ∧ Lib.trimRightB (wnT z l i) 32 = (wnT z l i).take e
theorem EndAt.zero (z : Nat) (l : List UInt8) : EndAt z l 0 0 := by
  refine ⟨Nat.zero_le _, ?_⟩
  unfold wnT
  rw [List.take_zero, List.map_nil, List.append_nil, List.take_zero]
  exact (trim_rep [] z).trans rfl
theorem EndAt.same {z : Nat} {l : List UInt8} {i e : Nat} {t : UInt8} (h : EndAt z l i e) (ht : l[i]? = some t) (hd : dB t = 32) : EndAt z l (i + 1) e := by
  have hi := (List.getElem?_eq_some_iff.1 ht).1
  refine ⟨by have := h.1; omega, ?_⟩
  rw [wnT_succ z l i t ht, hd, trim_same, h.2, List.take_append_of_le_length (by rw [wnT_len z l i (by omega)]; exact h.1)]
theorem EndAt.sign {z : Nat} {l : List UInt8} {i e : Nat} {t : UInt8} (_h : EndAt z l i e) (ht : l[i]? = some t) (hd : dB t ≠ 32) : EndAt z l (i + 1) (z + (i + 1)) := by
  have hi := (List.getElem?_eq_some_iff.1 ht).1
  refine ⟨Nat.le_refl _, ?_⟩
  have hl := wnT_len z l (i + 1) (by omega)
  rw [List.take_of_length_le (by omega), wnT_succ z l i t ht, trim_sign _ _ hd]
theorem ch_blank : chB (blankC Lk.zero) = [32] := by decide
theorem ch_sign (t : UInt8) : chB (dC t) = [dB t] := by
  have h := dB_nat t
  unfold chB dC
  simp only
  rw [if_neg (by omega), if_neg (by omega)]
  have := encR_ascii (r := ((dB t).toNat : Nat)) (by omega) (by omega)
  rw [this.1]
  simp
theorem flat_rep (n : Nat) : (List.replicate n (blankC Lk.zero)).flatMap chB = List.replicate n 32 := by
  induction n with
  | zero => rfl
  | succ n ih => rw [List.replicate_succ, List.flatMap_cons, ih, ch_blank, List.replicate_succ]; rfl
theorem flat_map (l : List UInt8) : (l.map dC).flatMap chB = l.map dB := by
  induction l with
  | nil => rfl
  | cons t l ih => rw [List.map_cons, List.flatMap_cons, ih, ch_sign, List.map_cons]; rfl
theorem textL_lnT {z : Nat} {l : List UInt8} {e : Nat} (h : EndAt z l l.length e) : textL (lnT z l l.length) = (wnT z l l.length).take e := by
  unfold textL textB
  rw [mendL_narrow _ (lnT_narrow z l l.length), ← h.2]
  have e1 : (lnT z l l.length).flatMap chB = wnT z l l.length ++ List.replicate (240 - z - l.length) 32 := by
    unfold lnT wnT
    rw [List.flatMap_append, List.flatMap_append, flat_rep, flat_rep, flat_map]
  rw [e1, trim_rep]
theorem signs_lnT (z : Nat) (l : List UInt8) (i : Nat) : Signs (mendL (lnT z l i)) := by
  rw [mendL_narrow _ (lnT_narrow z l i)]
  intro c hc _ h0
  unfold lnT at hc
  rcases List.mem_append.1 hc with hc | hc
  · rcases List.mem_append.1 hc with hc | hc
    · rw [(List.mem_replicate.1 hc).2] at h0; exact absurd rfl h0
    · obtain ⟨t, _, rfl⟩ := List.mem_map.1 hc
      have := dB_nat t
      refine .inl ⟨?_, ?_⟩ <;> (show _ ; unfold dC; simp only; omega)
  · rw [(List.mem_replicate.1 hc).2] at h0; exact absurd rfl h0

set_option maxRecDepth 100000 in
theorem out (A : Option Addr) (n c : Nat) (z : Int) (w : World) (hm : n ≤ 9223372036854775807) (h : 120 < n ∨ z < 0 ∨ 120 < z) :
    Calls Tryd.prog 5 #[.slice A n c, .int .i64 z] w fun e w' => e = .returned (.bool true) ∧ Only [] w w' := by
  have HK := hide (known_any w)
  have h : 120 < (n : Int) ∨ (¬ 120 < (n : Int) ∧ z < 0) ∨ (¬ 120 < (n : Int) ∧ ¬ z < 0 ∧ 120 < z) := by omega
  rcases h with k1 | ⟨k1, k2⟩ | ⟨k1, k2, k3⟩
  all_goals
    go_enter Tryd.func5, Tryd.ntmps5
    go_wp2_with fail
    refine (HK.out).mono ?_
    rintro e w1 ⟨rfl, ho⟩
    go_wp2_with fail
    go_ret
    exact ⟨rfl, ho⟩

set_option maxRecDepth 100000 in
set_option maxHeartbeats 8000000 in
theorem main (A : Option Addr) (n c : Nat) (l : List UInt8) (z : Nat) (w : World) (hb : Holds w 1 A n (bvals l)) (hl : l.length = n) (hc : n ≤ c) (hn : n ≤ 120) (hz : z ≤ 120) :
    Calls Tryd.prog 5 #[.slice A n c, .int .i64 z] w fun e w' => e = .returned (.bool true) ∧ Only [] w w' := by
  have HK := hide (known_any w)
  have HN : Hid (∀ w1, Calls Tryd.prog 8 #[.int .i64 240, .agg #[.int .i64 0, .int .i64 0, .int .i64 0]] w1 fun e w' => ∃ A, e = .returned (.slice A 240 240) ∧ LineAt w' A 240 240 (lnT z l 0) ∧ Only [] w1 w') := hide (fun w1 => by
    have h := new_any 240 Lk.zero w1
    rw [← lnT_zero z l (by omega)] at h
    have hl0 : (lnT z l 0).length = 240 := lnT_len z l 0 (Nat.zero_le _) (by omega)
    rw [hl0] at h
    exact h)
  have HO := hide (And.intro hb (And.intro hl (And.intro hc (And.intro hn hz))))
  have k1 : ¬ (120 : Int) < (n : Int) := by omega
  have k2 : ¬ (z : Int) < 0 := by omega
  have k3 : ¬ (120 : Int) < (z : Int) := by omega
  clear hb hl hc hn hz
  go_enter Tryd.func5, Tryd.ntmps5
  go_wp2_with fail
  refine (HK.out).mono ?_
  rintro e w1 ⟨rfl, ho1⟩
  have H1 := hide ho1
  clear ho1 HK
  go_wp2_with fail
  refine (HN.out _).mono ?_
  rintro e w2 ⟨A2, rfl, l2, ho2⟩
  have H2 := hide (And.intro (H1.out.trans ho2 (S := []) (by simp)) l2)
  clear ho2 l2 HN H1
  go_wp2_with fail
  go_loopw [6, 8] (fun s i wr => ∃ (k : Nat) (W : List UInt8), k ≤ z ∧ Hid (W = List.replicate k 32) ∧ s = .string ⟨W.toArray⟩ ∧ i = .int .i64 k ∧ wr = w2) (fun _ i _ => z - (intOf i).toNat)
  case atStart => exact ⟨0, [], Nat.zero_le _, hide rfl, rfl, rfl, rfl⟩
  case round =>
    obtain ⟨k, W, hk, hW, rfl, rfl, rfl⟩ := hrel
    obtain ⟨hb, hl, hc, hn, hz⟩ := HO.out
    by_cases hlt : k < z
    · have hkk : (k : Int) < (z : Int) := by omega
      have hw1 : IntKind.i64.wrap ((k : Int) + 1) = (k : Int) + 1 := IntWalk.i64_in _ ⟨by omega, by omega⟩
      have hWs : W.length ≤ 120 := by rw [hW.out, List.length_replicate]; omega
      clear hb hl hc hn hz
      go_wp2_with fail
      go_roundw
      case rel => exact ⟨k + 1, W ++ [32], by omega, hide (by rw [hW.out, List.replicate_succ']), by rw [← str_app], by go_num, trivial⟩
      case measure => simp [intOf]; omega
    · obtain rfl : k = z := by omega
      have hW2 : W = wnT k l 0 := by rw [hW.out]; unfold wnT; rw [List.take_zero, List.map_nil, List.append_nil]
      have HW := hide hW2
      clear hb hl hc hn hz hW hW2
      go_wp2_with fail
      go_loopw [5, 6, 7, 9] (fun v s e i wr => ∃ (q : Nat) (W : List UInt8) (A1 : Option Addr) (x : Nat), q ≤ n ∧ Hid (W = wnT k l q ∧ EndAt k l q x) ∧ v = .slice A1 240 240 ∧ s = .string ⟨W.toArray⟩ ∧ e = .int .i64 x ∧ i = .int .i64 q ∧ LineAt wr A1 240 240 (lnT k l q) ∧ Only [] w wr) (fun _ _ _ i _ => n - (intOf i).toNat)
      case atStart => exact ⟨0, W, A2, 0, Nat.zero_le _, hide ⟨HW.out, EndAt.zero k l⟩, rfl, rfl, rfl, rfl, H2.out.2, H2.out.1⟩
      case round =>
        obtain ⟨q, W', A1, x, hq, hWx, rfl, rfl, rfl, rfl, hln, ho⟩ := hrel
        obtain ⟨hb, hl, hc, hn, hz⟩ := HO.out
        by_cases hqn : q < n
        · obtain ⟨t, ht⟩ : ∃ t, l[q]? = some t := ⟨l[q]'(by omega), List.getElem?_eq_getElem (by omega)⟩
          obtain ⟨b, o, rfl, hcell⟩ := hb.addr (by rw [bvals_length]; omega)
          have c0 := hcell q _ (bvals_get l q (by omega))
          have ht2 : l[q]'(by omega) = t := (List.getElem?_eq_some_iff.1 ht).2
          rw [ht2] at c0
          have c1 : wr.cell? ⟨b, o + q, none⟩ = some (.int .u8 (t.toNat : Int)) := by rw [ho.cell (World.block_lt_of_cell? _ _ c0) (by simp)]; exact c0
          have hqq : (q : Int) < (n : Int) := by omega
          have hw1 : IntKind.i64.wrap ((q : Int) + 1) = (q : Int) + 1 := IntWalk.i64_in _ ⟨by omega, by omega⟩
          have hw2 : IntKind.i64.wrap ((k : Int) + (q : Int)) = ((k + q : Nat) : Int) := by rw [IntWalk.i64_in _ ⟨by omega, by omega⟩]; omega
          have hll : (lnT k l q).length = 240 := lnT_len k l q (by omega) (by omega)
          have hP := put_one A1 240 240 (lnT k l q) (k + q) ((dB t).toNat : Nat) Lk.zero
          rw [lnT_put k l q t ht (by omega)] at hP
          have HP := hide (fun w1 h => hP w1 h (by omega) (by omega))
          have hW1 : wnT k l q ++ [dB t] = wnT k l (q + 1) := (wnT_succ k l q t ht).symm
          have hWl : W'.length ≤ 240 := by rw [hWx.out.1, wnT_len k l q (by omega)]; omega
          have HE := hide (And.intro hW1 (And.intro (fun h => EndAt.same hWx.out.2 ht h) (fun h => EndAt.sign hWx.out.2 ht h)))
          have HL := hide (And.intro hln ho)
          have hd : ((dB t).toNat : Int) = 32 + (t.toNat : Int) % 95 := by rw [dB_nat]; omega
          have hdl : (dB t).toNat < 128 := by rw [dB_nat]; omega
          clear hb hl hc hn hz ht ht2 hcell c0 hll hP hW1 hln ho
          go_upto_region 16 with fail
          rw [← hd]
          clear hd c1
          generalize dB t = d at *
          have hi32 : IntKind.i32.wrap (d.toNat : Int) = (d.toNat : Int) := IntWalk.i32_in _ ⟨by omega, by omega⟩
          have hst : ∀ w : World, (convert 43 9 (.slice (some ⟨w.heap.size, 0, none⟩) 1 1)).run Tryd.prog (w.alloc (.cells #[.int .u8 (d.toNat : Int)] 5)) = .ok (.string ⟨[d].toArray⟩) (w.alloc (.cells #[.int .u8 (d.toNat : Int)] 5)) := fun w =>
            run_string_of (l := [d]) (Holds.lit w #[.int .u8 (d.toNat : Int)] 5) 1 43 5 9 Tryd.underlying43 Tryd.underlying5 Tryd.underlying9
          generalize hkq : k + q = kq at *
          unfold Lk.val Lk.cells at HP
          go_wp2_with fail
          refine (HP.out _ HL.out.1).mono ?_
          rintro e w3 ⟨g, rfl, N⟩
          have hl3 : LineAt w3 (some ⟨g, 0, none⟩) 240 240 (lnT k l (q + 1)) := by
            have := N.at
            rw [lnT_len k l (q + 1) (by have := HO.out; omega) (by have := HO.out; omega)] at this
            exact this
          have H3 := hide (And.intro hl3 ((HL.out.2.trans N.only (S := []) (by simp)).alloc (.cells #[.int .u8 (d.toNat : Int)] 5)))
          clear hl3 N HP
          by_cases hd32 : d.toNat = 32
          · have hd2 : ((d.toNat : Int) != 32) = false := by rw [hd32]; rfl
            have H32 := hide (UInt8.toNat_inj.1 (show d.toNat = (32 : UInt8).toNat from hd32))
            clear hd32
            go_wp2_with fail
            go_roundw
            case rel =>
              refine ⟨q + 1, W' ++ [d], some ⟨g, 0, none⟩, x, by omega, hide ⟨by rw [hWx.out.1]; exact HE.out.1, HE.out.2.1 H32.out⟩, rfl, by rw [← str_app], rfl, by go_num, H3.out.1.keep ((Only.refl [] w3).alloc _), H3.out.2⟩
            case measure => simp [intOf]; omega
          · have hd2 : ((d.toNat : Int) != 32) = true := by simp; omega
            have H32 := hide (show d ≠ 32 from fun h => hd32 (by rw [h]; rfl))
            clear hd32
            go_wp2_with fail
            go_roundw
            case rel =>
              refine ⟨q + 1, W' ++ [d], some ⟨g, 0, none⟩, k + (q + 1), by omega, hide ⟨by rw [hWx.out.1]; exact HE.out.1, HE.out.2.2 H32.out⟩, rfl, by rw [← str_app], ?_, by go_num, H3.out.1.keep ((Only.refl [] w3).alloc _), H3.out.2⟩
              have h1 := wnT_len k l q (by have := HO.out; omega)
              rw [← hWx.out.1] at h1
              congr 1
              omega
            case measure => simp [intOf]; omega
        · obtain rfl : q = n := by omega
          have hE : EndAt k l l.length x := by rw [hl]; exact hWx.out.2
          have hT := text_any A1 240 240 (lnT k l q)
          have hWl : W'.length = k + q := by rw [hWx.out.1, wnT_len k l q (by omega)]
          have hx : x ≤ W'.length := by rw [hWl]; exact hWx.out.2.1
          have hfin : textL (lnT k l q) = W'.take x := by rw [hWx.out.1, ← hl]; exact textL_lnT hE
          rw [hfin] at hT
          have HT := hide (fun X : Later wr => hT X.val (hln.keep X.only) (by omega) (signs_lnT k l q))
          have HF := hide (And.intro hln ho)
          have hsl : ∀ w : World, (Instr.slice 9 (.string ⟨W'.toArray⟩) none (some (.int .i64 (x : Int))) none).run Tryd.prog w = .ok (.string ⟨(W'.take x).toArray⟩) w := fun w => by
            rw [run_slice_string_h (w := w) 9 ⟨W'.toArray⟩ Tryd.underlying9 .i64 x (by omega) (by show (x : Int) ≤ (W'.toArray.size : Int); simp; omega)]
            have e : (⟨W'.toArray⟩ : ByteArray).extract 0 ((x : Int)).toNat = ⟨(W'.take x).toArray⟩ := by
              apply ByteArray.ext
              rw [ByteArray.data_extract]
              apply Array.ext'
              simp
            rw [e]
          generalize W'.take x = U at *
          clear hb hl hc hn hz hE hT hfin hln ho
          go_upto_region 23 with fail
          refine region_later (by kernel_rfl) (by kernel_rfl) ?_
          iterate 1 (go_big_quiet_step (fail))
          go_big_quiet_step ((go_at_call 20; refine later_of (HT.out _)))
          iterate 5 (go_big_quiet_step (fail))
          refine wpQuiet_nil ?_
          rintro _ ⟨X, rfl⟩
          go_wp2_with fail
          go_ret
          exact ⟨by simp, HF.out.2.trans X.only (by simp)⟩

theorem core (A : Option Addr) (n c : Nat) (l : List UInt8) (z : Int) (w : World) (hb : Holds w 1 A n (bvals l)) (hl : l.length = n) (hc : n ≤ c) (hm : n ≤ 9223372036854775807) :
    Calls Tryd.prog 5 #[.slice A n c, .int .i64 z] w fun e w' => e = .returned (.bool true) ∧ Only [] w w' := by
  by_cases h : 120 < n ∨ z < 0 ∨ 120 < z
  · exact out A n c z w hm h
  · obtain ⟨k, rfl⟩ : ∃ k : Nat, z = k := ⟨z.toNat, by omega⟩
    exact main A n c l k w hb hl hc (by omega) (by omega)

set_option maxRecDepth 100000 in
theorem lifted (os : Os) (started : os.Started) (H : Type) (enc : TypeId × Value → H) :
    ReturnsInHanded {} Tryd.checked os 5 .any (fun w args => (Rows.lineTextsSpec.pre enc Tryd.prog Tryd.f5 [] false w args ∧ laidMetH Tryd.prog laidB w) ∧ sizedMet enc Tryd.prog Tryd.f5 (OpenSpec.ofChange Rows.lineTextsSpec) false w args)
      (Rows.lineTextsSpec.post enc Tryd.prog Tryd.f5 false true false false) := by
  refine returnsInHanded_of_change_and (C := Tryd.checked) (X := fun w _ => laidMetH Tryd.prog laidB w) (fun _ _ _ hh h => h.of_heap hh) own_knob started (by kernel_rfl) Tryd.func5
    (ChangeSpec.witness_shaped (enc := enc) (C := Tryd.checked) (os := os) (X := fun w _ => laidMetH Tryd.prog laidB w) false (World.laidAll Tryd.prog os laidB) #[.slice none 0 0, .int .i64 0] 8 (World.laidAll_os _ _ _) (World.shaped_of_ZipB (by kernel_rfl) (by kernel_rfl)) (by kernel_rfl) (by kernel_rfl) (by kernel_rfl) (start_met os _)) ?_
  intro W base args ds gs before hval0 hW _ _ hL _
  have hval : ∀ (j : Nat) t v, Tryd.f5.params[j]? = some t → args[j]? = some v → Value.okWide Tryd.prog W .any base t v := hval0
  have hW' := hW
  obtain ⟨p, q, hA0, hV, rfl, hfz, hnd⟩ := hW
  have hA : DataW.TrodAll enc Tryd.prog W 0 (fun _ => true) true Tryd.f5.params.toList args.toList ds p := hA0
  rw [Tryd.params5] at hA hval
  obtain ⟨v0, vs0, d0, ds0, p0, q0, hargs, rfl, rfl, h0, r0⟩ := trodAll_cons hA
  obtain ⟨v1, vs1, d1, ds1, p1, q1, rfl, rfl, rfl, h1, r1⟩ := trodAll_cons r0
  obtain ⟨rfl, rfl, rfl⟩ := trodAll_nil r1
  obtain rfl : args = #[v0, v1] := by cases args; simp_all
  obtain ⟨A0, n0, c0, l0, rfl, hc0, cm0, _, hl0, hb0⟩ := open_bytes Tryd.underlying43 Tryd.underlying5 (by kernel_rfl) (hval 0 43 v0 rfl rfl) h0
  obtain ⟨z1, rfl, rfl, rfl, _⟩ := open_int Tryd.underlying3 (hval 1 3 v1 rfl rfl) h1
  unfold maxLen at *
  refine (core A0 n0 c0 l0 z1 W hb0 hl0 hc0 (by omega)).mono fun e W' ⟨he, ho⟩ => ?_
  subst he
  exact ⟨_, rfl, law_post rfl hW' (by intro t ht; revert t; exact of_decide_eq_true (by kernel_rfl)) rfl rfl ho⟩

theorem holds : Rows.LineTextsSaid :=
  OpenClaim.holds_of_wide 5 Tryd.f5 rfl rfl rfl rfl rfl rfl rfl ⟨rfl, rfl, rfl, rfl, rfl⟩ rfl rfl rfl rfl rfl (by kernel_rfl) Tryd.func5 (by kernel_rfl)
    (of_decide_eq_true (by kernel_rfl)) (by unfold Func.isWrapper; first | (rw [if_pos (by decide +kernel)]; kernel_rfl) | (rw [if_neg (by decide +kernel)]; exact ⟨rfl, rfl⟩))
    (fun os started H enc _ => lifted os started H enc)

theorem proved : Rows.LineTextsCardSaid :=
  Claim7.holds_tied_plain_at .later [] Rows.lineTextsCard.laidKinds true Rows.lineTextsCard.stood.harness false
    holds (fun _ h => by cases h) (by kernel_rfl) (fun _ h => by cases h) lineTexts_row_tie rfl ⟨rfl, rfl⟩ (by kernel_rfl) rfl
    (fun f fn hf hfn => by
      obtain rfl : f = 5 := Option.some.inj ((show Tryd.prog.funcNamed "phosphor/phosphorlaw13.LineTexts" = some 5 by kernel_rfl).symm.trans hf) |>.symm
      obtain rfl : fn = Tryd.f5 := (Option.some.inj (Tryd.func5.symm.trans hfn)).symm
      exact ⟨by kernel_rfl, fun j t ht => by
        rw [Tryd.params5] at ht
        have hm : t ∈ [43, 3] := by simpa using Array.mem_of_getElem? ht
        have hall : ([43, 3].all fun u => !Tryd.prog.wantsStandIn u) = true := by kernel_rfl
        exact (show Tryd.prog.wantsStandIn t = false by simpa using List.all_eq_true.1 hall t hm)⟩)
    (by kernel_rfl)
end Go.Proofs.YtilpegmjkbmldaaDoor.ltext
