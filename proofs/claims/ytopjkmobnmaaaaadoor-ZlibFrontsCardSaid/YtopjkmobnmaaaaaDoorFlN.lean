/-
  Package inflate, all streams: bytes from so far back, once more.
-/
import Derived.Test.YtopjkmobnmaaaaaDoorMFlJ
namespace Go.Proofs.YtopjkmobnmaaaaaDoor
open Go Go.RowKit

set_option maxRecDepth 100000 in
set_option maxHeartbeats 2000000 in
theorem ringback_any (g gf gw : Nat) (K : List Nat) (f : DF) (rp vo : Value) (all x : List UInt8) (d : Nat) (w : World) (h : On w g gf gw K f rp vo all x) (hd1 : 1 ≤ d) (hd2 : d ≤ all.length) (hd3 : d ≤ 32768) (hn : all.length ≤ 1073741824) :
    Calls Tryd.prog 86 #[.pointer (some ⟨g, 5, none⟩), .int .i64 (d : Int)] w fun e w' => e = .returned (.int .u8 ((all.getD (all.length - d) 0).toNat : Int)) ∧ ∃ m, w' = w.drewN m := by
  obtain ⟨ws, hW, hs, hr⟩ := h.ring
  have c5 : w.cell? ⟨g, 5, none⟩ = some (.slice (some ⟨gw, 0, none⟩) 32768 32768) := by rw [← h.wb]; exact h.dec.wb
  have c6 : w.cell? ⟨g, 6, none⟩ = some (.int .i64 (all.length : Int)) := by rw [← h.wn]; exact h.dec.wn
  have hi : all.length - d < all.length := by omega
  have hb : all.getD (all.length - d) 0 = all[all.length - d] := by rw [List.getD_eq_getElem?_getD, List.getElem?_eq_getElem hi]; rfl
  have cw : w.cell? ⟨gw, (all.length - d) % 32768, none⟩ = some (.int .u8 (all[all.length - d].toNat : Int)) := by rw [hW.cell]; exact hr _ hi (by omega)
  rw [hb]
  generalize all[all.length - d] = b at *
  obtain ⟨i, hi2⟩ : ∃ i, i = all.length - d := ⟨_, rfl⟩
  rw [← hi2] at cw
  have e1 : (all.length : Int) - (d : Int) = (i : Int) := by omega
  have e2 : (i : Int).tmod 32768 = ((i % 32768 : Nat) : Int) := rfl
  have e3 : i % 32768 < 32768 := by omega
  have e4 : i % 32768 * 1 = i % 32768 := Nat.mul_one _
  have e5 : all.length ≤ 1073741824 := hn
  have hie : i ≤ 1073741824 := by omega
  clear h hW hs hr hd1 hd2 hd3 hn hb hi hi2
  generalize all.length = n at *
  generalize i % 32768 = j at *
  go_enter Tryd.func86, Tryd.ntmps86
  go_wp2_with fail
  go_region
  all_goals
    go_wp2_with fail
    go_ret
    exact ⟨rfl, _, rfl⟩

def BackP (f f' : DF) (t : GSt) : Prop := f'.k = f.k ∧ t.k = 7
def BackQ (f f' : DF) (t : GSt) : Prop := f'.k = f.k ∧ t.k = 10

theorem dst_le : ∀ y, y < 30 → dstM y + (2 ^ dstB y - 1) ≤ 32768 ∧ dstM y ≤ 30000 ∧ dstB y ≤ 13 ∧ 1 ≤ dstM y := by decide

set_option maxRecDepth 100000 in
set_option maxHeartbeats 2000000 in
theorem back_bad (g gf : Nat) (f : DF) (w : World) (h : Dc w g f) (hs : 30 ≤ f.sy) :
    Calls Tryd.prog 84 #[.pointer (some ⟨g, 0, none⟩), .pointer (some ⟨gf, 0, none⟩)] w fun e w' => e = .returned (.int .i64 3) ∧ w = w' := by
  have c := h.sy
  have hs2 : (30 : Int) ≤ (f.sy : Int) := by omega
  generalize f.sy = y at *
  clear h hs
  go_enter Tryd.func84, Tryd.ntmps84
  go_wp2_with fail
  go_ret
  exact ⟨rfl, rfl⟩

set_option maxRecDepth 100000 in
set_option maxHeartbeats 8000000 in
theorem back_step (B : List UInt8) (a o : Nat) (l : List UInt8) (hs : Src B a o l) (g gf gw gr : Nat) (K : List Nat) (f : DF) (v vo : Value) (q : Nat) (x : List UInt8) (s : GSt) (w : World) (h : Rn w g gf gw gr K f v vo l q s.out x) (hk : s.k = 10)
    (hm : Md w f s) (hwf : s.Wf) (hp : s.p = 8 * o + q) (hl : s.out.length ≤ f.most) (hmost : f.most ≤ 1073741824) (hx : x.length ≤ s.out.length) :
    Calls Tryd.prog 84 #[.pointer (some ⟨g, 0, none⟩), .pointer (some ⟨gf, 0, none⟩)] w (fun e w' => ∃ c : Nat, e = .returned (.int .i64 (c : Int)) ∧ Went B a o l g gf gw gr K f v vo x s (BackP f) (BackQ f) w c w') := by
  have hsy := hm.sy (.inr hk)
  have hle := hm.le (by omega) (by omega)
  have h29 := hwf.sym10 hk
  have hlen := hwf.len (by omega) (by omega)
  have hdl := dst_le s.sym (by omega)
  obtain ⟨y, hy⟩ : ∃ y, y = s.sym := ⟨_, rfl⟩
  obtain ⟨m, hmm⟩ : ∃ m, m = dstM s.sym := ⟨_, rfl⟩
  obtain ⟨n, hnn⟩ : ∃ n, n = dstB s.sym := ⟨_, rfl⟩
  have cs : w.cell? ⟨g, 355, none⟩ = some (.int .i64 (y : Int)) := by have := h.on.dec.sy; rw [hsy, ← hy] at this; exact this
  have ct := hm.tab.dst s.sym (by omega)
  rw [← hy] at ct
  have ct0 : w.cell? ⟨2, y * 2, none⟩ = some (.int .u16 (m : Int)) := by rw [hmm, ← hy, Nat.mul_comm]; exact ct.1
  have ct1 : w.cell? ⟨2, y * 2 + 1, none⟩ = some (.int .u8 (n : Int)) := by rw [hnn, ← hy, Nat.mul_comm]; exact ct.2
  have hy30 : y < 30 := by omega
  have hyI : ¬ (30 : Int) ≤ (y : Int) := by omega
  have hnx := GSt.nx_10 (L0 := fixedL) (D0 := fixedD2) (N := num B) (most := f.most) (show 9 < s.k by omega)
  rw [← hmm, ← hnn] at hnx hdl
  have hadd := addF_any B a o l hs g gf gw gr K f v vo q s.out x w h m n hdl.2.1 hdl.2.2.1
  have h11 : s.k ≠ 11 := by omega
  have HH := hide (And.intro h (And.intro hm (And.intro hp (And.intro hl (And.intro h11 (And.intro hk (And.intro hnx (And.intro hmost (And.intro hx (And.intro hle hlen))))))))))
  have HD := hide (And.intro hdl (And.intro hmm hnn))
  rw [← hp] at hadd
  clear hs h hm hwf hl hk hnx hmost hx hle hlen hdl hmm hnn hsy h29 ct hy h11
  rcases hadd with ⟨hfar, hA⟩ | ⟨hnear, hA⟩
  · have HA := hide (And.intro hA hfar)
    clear hA hfar hp
    go_enter Tryd.func84, Tryd.ntmps84
    go_wp2_with fail
    refine (HA.out.1).mono ?_
    rintro e w1 ⟨rfl, h1, ho1⟩
    have H1 := hide (And.intro h1 ho1)
    clear h1 ho1
    go_wp2_with fail
    go_ret
    have hH := HH.out
    exact ⟨2, rfl, q, [], vo, f, by simpa using H1.out.1, (Since.refl _ _ _).step (H1.out.2.weak (by simp)), Same.refl f, by simpa using hH.2.2.2.1, .inr (.inl ⟨rfl, s, .short s hH.2.2.2.2.1 (by rw [hH.2.2.2.2.2.2.1]; exact HA.out.2), by simp, hH.1.mdr hH.2.1 H1.out.2, .of hH.2.2.1 (by have := hH.2.2.2.2.2.1; omega), rfl, hH.2.2.2.2.2.1⟩)⟩
  · obtain ⟨fr, hfr⟩ : ∃ fr, fr = m + num B / 2 ^ s.p % 2 ^ n := ⟨_, rfl⟩
    have hfr1 : 1 ≤ fr ∧ fr ≤ 32768 := by
      have h1 := Nat.mod_lt (num B / 2 ^ s.p) (Nat.two_pow_pos n)
      have h2 := HD.out.1
      omega
    rw [← hfr] at hA
    have hnx := HH.out.2.2.2.2.2.2.1
    dsimp only at hnx
    rw [← hfr] at hnx
    obtain ⟨n0, hn0⟩ : ∃ n0, n0 = s.out.length := ⟨_, rfl⟩
    have HF := hide (And.intro hfr1 (And.intro hn0 hnear))
    rw [← hn0] at hnx
    have HA := hide hA
    clear hfr hA hnear hp
    by_cases hlt : n0 < fr
    · rw [if_pos hlt] at hnx
      have HN := hide hnx
      have hli : (n0 : Int) < (fr : Int) := by omega
      clear hnx hlt hn0 hfr1
      go_enter Tryd.func84, Tryd.ntmps84
      go_wp2_with fail
      refine (HA.out).mono ?_
      rintro e w1 ⟨rfl, h1, ho1⟩
      have c6 : w1.cell? ⟨g, 6, none⟩ = some (.int .i64 (n0 : Int)) := by have := h1.on.dec.wn; rw [h1.on.wn, ← HF.out.2.1] at this; exact this
      have H1 := hide (And.intro h1 ho1)
      clear h1 ho1
      go_wp2_with fail
      go_ret
      exact ⟨3, rfl, q + n, [], vo, f, by simpa using H1.out.1, (Since.refl _ _ _).step (H1.out.2.weak (by simp)), Same.refl f, by simpa using HH.out.2.2.2.1, .inr (.inr ⟨.inl rfl, s, (Steps.refl s).bad HH.out.2.2.2.2.1 HN.out HF.out.2.2⟩)⟩
    · rw [if_neg hlt] at hnx
      have hli : ¬ (n0 : Int) < (fr : Int) := by omega
      obtain ⟨le, hle⟩ : ∃ le, le = s.len := ⟨_, rfl⟩
      have hle2 : le ≤ 258 := by rw [hle]; exact HH.out.2.2.2.2.2.2.2.2.2.2
      have hn02 : n0 ≤ f.most := by rw [hn0]; exact HH.out.2.2.2.1
      have hmost : f.most ≤ 1073741824 := HH.out.2.2.2.2.2.2.2.1
      rw [← hle] at hnx
      by_cases hlong : f.most < n0 + le
      · rw [if_pos hlong] at hnx
        have HN := hide hnx
        have hli2 : (f.most : Int) - (n0 : Int) < (le : Int) := by omega
        have HLE := hide hle
        clear hnx hlt hn0 hfr1 hlong hle
        go_enter Tryd.func84, Tryd.ntmps84
        go_wp2_with fail
        refine (HA.out).mono ?_
        rintro e w1 ⟨rfl, h1, ho1⟩
        have c6 : w1.cell? ⟨g, 6, none⟩ = some (.int .i64 (n0 : Int)) := by have := h1.on.dec.wn; rw [h1.on.wn, ← HF.out.2.1] at this; exact this
        have c356 : w1.cell? ⟨g, 356, none⟩ = some (.int .i64 (le : Int)) := by have := h1.on.dec.le; rw [HH.out.2.2.2.2.2.2.2.2.2.1, ← HLE.out] at this; exact this
        have c00 := h1.on.dec.most
        have H1 := hide (And.intro h1 ho1)
        clear h1 ho1
        go_wp2_with fail
        go_region
        all_goals
          go_wp2_with fail
          go_ret
          exact ⟨5, rfl, q + n, [], vo, f, by simpa using H1.out.1.still ((Only.refl [] w1).drew), (Since.refl _ _ _).step ((H1.out.2.weak (by simp)).drew), Same.refl f, by simpa using HH.out.2.2.2.1, .inr (.inr ⟨.inr rfl, s, (Steps.refl s).bad HH.out.2.2.2.2.1 HN.out HF.out.2.2⟩)⟩
      · rw [if_neg hlong] at hnx
        have HN := hide hnx
        have hli2 : ¬ (f.most : Int) - (n0 : Int) < (le : Int) := by omega
        have HLE := hide (And.intro hle (And.intro hlt hlong))
        clear hnx hlt hn0 hlong hle
        go_enter Tryd.func84, Tryd.ntmps84
        go_wp2_with fail
        refine (HA.out).mono ?_
        rintro e w1 ⟨rfl, h1, ho1⟩
        have c6 : w1.cell? ⟨g, 6, none⟩ = some (.int .i64 (n0 : Int)) := by have := h1.on.dec.wn; rw [h1.on.wn, ← HF.out.2.1] at this; exact this
        have c356 : w1.cell? ⟨g, 356, none⟩ = some (.int .i64 (le : Int)) := by have := h1.on.dec.le; rw [HH.out.2.2.2.2.2.2.2.2.2.1, ← HLE.out.1] at this; exact this
        have c00 := h1.on.dec.most
        have H1 := hide (And.intro h1 ho1)
        clear h1 ho1
        go_wp2_with fail
        go_region
        all_goals
          go_wp2_with fail
          clear c6 c00 hli hli2
          try generalize decide (n0 < fr) = b1
          try generalize decide ((f.most : Int) - (n0 : Int) < (le : Int)) = b2
          go_loopw [52] (fun i wr => ∃ (j : Nat) (y : List UInt8) (vo' : Value), i = .int .i64 (j : Int) ∧ j ≤ le ∧ again s.out fr j = s.out ++ y ∧ y.length = j ∧ Rn wr g gf gw gr K { f with wn := f.wn + j } v vo' l (q + n) (s.out ++ y) (x ++ y) ∧ Since [g, gf, gw, gr] w vo wr vo') (fun i _ => le - (intOf i).toNat)
          case atStart => exact ⟨0, [], vo, rfl, Nat.zero_le _, by simp [again], rfl, by simpa using H1.out.1.still ((Only.refl [] w1).drew), (Since.refl _ _ _).step ((H1.out.2.weak (by simp)).drew)⟩
          case round =>
            obtain ⟨j, z, vo', rfl, hj, hag, hzl, hR, hS⟩ := hrel
            by_cases hjl : j < le
            · have hji : (j : Int) < (le : Int) := by omega
              have hall : (s.out ++ z).length = n0 + j := by rw [List.length_append, hzl, HF.out.2.1]
              have hb1 := ringback_any g gf gw K { f with wn := f.wn + j } _ vo' (s.out ++ z) (x ++ z) fr wr hR.on hfr1.1 (by rw [hall]; have := HLE.out.2.1; omega) hfr1.2 (by rw [hall]; have := HLE.out.2.2; omega)
              have hsucc := again_succ fr j s.out
              rw [hag] at hsucc
              obtain ⟨b, hb⟩ : ∃ b, b = (s.out ++ z).getD ((s.out ++ z).length - fr) 0 := ⟨_, rfl⟩
              rw [← hb] at hb1 hsucc
              have hLay := fun k => lay_any g gf gw K _ _ vo' _ _ b (wr.drewN k) (hR.drewN k).on (by rw [hall]; have := HLE.out.2.2; omega) (by rw [List.length_append]; have := HH.out.2.2.2.2.2.2.2.2.1; have := HF.out.2.1; have := HLE.out.2.2; omega)
              have HJ := hide (And.intro hR (And.intro hS (And.intro hsucc (And.intro hzl (And.intro hb1 hLay)))))
              clear hR hS hsucc hzl hb1 hLay hag hall hb hj hjl
              go_wp2_with fail
              refine (HJ.out.2.2.2.2.1).mono ?_
              rintro e w2 ⟨rfl, mm, rfl⟩
              go_wp2_with fail
              refine (HJ.out.2.2.2.2.2 mm).mono ?_
              rintro e w3 ⟨rfl, vo3, hon3, hs3⟩
              have hR3 := (HJ.out.1.drewN mm).lay hon3 hs3 rfl
              rw [List.append_assoc, List.append_assoc] at hR3
              have hS3 := (HJ.out.2.1.step ((Only.refl _ wr).drewN mm)).trans hs3 (fun i hi _ => by simp only [List.mem_cons, List.not_mem_nil, or_false] at hi ⊢; omega)
              have H3 := hide (And.intro hR3 hS3)
              clear hR3 hS3 hon3 hs3
              go_wp2_with fail
              go_roundw
              case rel => exact ⟨j + 1, z ++ [b], vo3, by go_num, by omega, by rw [HJ.out.2.2.1, List.append_assoc], by rw [List.length_append, HJ.out.2.2.2.1]; rfl, by exact H3.out.1, H3.out.2⟩
              case measure => simp [intOf]; omega
            · obtain rfl : j = le := by omega
              have HJ := hide (And.intro hR (And.intro hS (And.intro hag hzl)))
              clear hR hS hag hzl
              go_wp2_with fail
              go_ret
              have hH := HH.out
              have hnx := HN.out
              rw [HJ.out.2.2.1] at hnx
              have hMe := hH.1.mds hH.2.1 HJ.out.2.1
              refine ⟨0, rfl, q + n, z, vo', _, HJ.out.1, HJ.out.2.1, ⟨rfl, rfl, rfl, rfl, rfl, rfl, rfl, rfl, rfl⟩, by rw [HJ.out.2.2.2]; have := HLE.out.2.2; have := HF.out.2.1; omega, .inl ⟨rfl, _, .one hH.2.2.2.2.1 hnx HF.out.2.2, rfl, ?_, .of (by show s.p + n = _; rw [hH.2.2.1]; omega) (by show (7 : Nat) ≠ 1; decide), rfl, rfl⟩⟩
              exact ⟨hMe.last, fun h => absurd (show (7 : Nat) = 2 from h) (by decide), fun _ _ => hMe.co (by omega) (by omega), fun h => absurd (show (7 : Nat) = 8 ∨ (7 : Nat) = 10 from h) (by decide), fun h => absurd (show (9 : Nat) ≤ 7 from h) (by decide), fun _ h => absurd (show (7 : Nat) ≤ 6 from h) (by decide), hMe.tab⟩
end Go.Proofs.YtopjkmobnmaaaaaDoor
