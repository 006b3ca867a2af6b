/-
  Package zlib: bytes wait till there are some. | Package zlib: whether a header may begin so.
-/
import Derived.Test.YtopjkmobnmaaaaaDoorMFlWr
namespace Go.Proofs.YtopjkmobnmaaaaaDoor
open Go Go.RowKit

theorem DF.cells_splice (f : DF) (j : Nat) (cs : List Value) :
    (f.cells.toList.take (357 + j) ++ cs ++ f.cells.toList.drop (357 + j + cs.length)).toArray = { f with tail := f.tail.take j ++ cs ++ f.tail.drop (j + cs.length) }.cells := by
  have h1 : f.cells.toList = (List.range 357).map f.at ++ f.tail := by simp [DF.cells]
  have h2 : ((List.range 357).map f.at).length = 357 := by simp
  show _ = ((List.range 357).map f.at ++ (f.tail.take j ++ cs ++ f.tail.drop (j + cs.length))).toArray
  congr 1
  rw [h1, List.take_append, List.drop_append, h2, List.take_of_length_le (by omega), List.drop_eq_nil_of_le (by omega), show 357 + j - 357 = j by omega, show 357 + j + cs.length - 357 = j + cs.length by omega, List.nil_append]
  simp only [List.append_assoc]
theorem tailZ_splice (sm : Value) (part : Nat) (wb cs : List UInt8) (k n : Nat) (hk : k + cs.length ≤ wb.length) :
    (tailZ sm part wb n).take (2 + k) ++ bvals cs ++ (tailZ sm part wb n).drop (2 + k + (bvals cs).length) = tailZ sm part (wb.take k ++ cs ++ wb.drop (k + cs.length)) n := by
  have h2 : ([sm, Value.int .i64 (part : Int)]).length = 2 := rfl
  unfold tailZ
  rw [bvals_length, List.take_append, List.drop_append, h2, List.take_of_length_le (by rw [h2]; omega), List.drop_eq_nil_of_le (by rw [h2]; omega), show 2 + k - 2 = k by omega, show 2 + k + cs.length - 2 = k + cs.length by omega, List.nil_append,
    List.take_append_of_le_length (by rw [bvals_length]; omega), List.drop_append_of_le_length (by rw [bvals_length]; omega), bvals_append, bvals_append, ← bvals_take, ← bvals_drop]
  simp only [List.append_assoc]
theorem tailZ_length (sm : Value) (part : Nat) (wb : List UInt8) (n : Nat) : (tailZ sm part wb n).length = wb.length + 3 := by unfold tailZ; simp [bvals]
theorem tailZ_n (sm : Value) (part : Nat) (wb : List UInt8) (n : Nat) (h : wb.length = 4) : (tailZ sm part wb n)[6]? = some (.int .i64 (n : Int)) := by
  unfold tailZ
  rw [List.getElem?_append_right (by show 2 ≤ 6; decide), List.getElem?_append_right (by rw [bvals_length]; show wb.length ≤ 6 - 2; omega), bvals_length]
  show [Value.int .i64 (n : Int)][6 - 2 - wb.length]? = _
  rw [h]; rfl
theorem tailZ_set_n (sm : Value) (part : Nat) (wb : List UInt8) (n m : Nat) (h : wb.length = 4) : (tailZ sm part wb n).set 6 (.int .i64 (m : Int)) = tailZ sm part wb m := by
  unfold tailZ
  rw [List.set_append_right _ _ (by show 2 ≤ 6; decide), List.set_append_right _ _ (by rw [bvals_length]; show wb.length ≤ 6 - 2; omega), bvals_length]
  show _ ++ (_ ++ [Value.int .i64 (n : Int)].set (6 - 2 - wb.length) _) = _
  rw [h]; rfl

theorem step_copy_none {P : Program} (w : World) {ops : Array Oper} {o : Oper} {a : Act} {K : Act → World → Prop} {Q : Exit → Act → World → Prop} {E : Prop} (hgd : o.guard = none) (d s : Operand) (t : TypeId) (hop : o.op = .call { callee := .builtin .copy, args := #[d, s], argTypes := #[t, t] })
    (elem : TypeId) (dA sA : Option Addr) (dLen dCap sCap : Nat) (hu : P.underlying t = some (.slice elem)) (hs : (P.info? elem).map (·.size) = some 1)
    (hd : a.eval d = .slice dA dLen dCap) (hse : a.eval s = .slice sA 0 sCap)
    (h : K (a.put o.dst (.int .i64 0)) w) : if Region.wanted o (yielded ops a.tmps) = true then Oper.wp P o a w K Q else E := by
  rw [if_pos (by simp [Region.wanted, hgd])]
  have hrun := run_copy_none (P := P) w t t o.type elem dA sA dLen dCap 0 sCap hu hs (by simp)
  unfold Oper.wp execOp
  simp only [hop, resolve, invoke, builtin, Sem.run_bind, Sem.run_pure, Result.andThen_ok, List.map_toArray, List.map_cons, List.map_nil, hd, hse, hrun]
  exact h

set_option maxRecDepth 100000 in
set_option maxHeartbeats 8000000 in
theorem gather_any (g : Nat) (f : DF) (sm : Value) (part k n m cb : Nat) (wb b : List UInt8) (ad : Addr) (w : World) (hd : Dc w g f) (ht : f.tail = tailZ sm part wb k) (hw : wb.length = 4) (hk : k < n) (hn : n ≤ 4)
    (hb : Holds w 1 (some ad) m (bvals b)) (hbl : b.length = m) (hcb : m ≤ cb) (hA : 0 < m → ad.block ≠ g) (hm : m ≤ 1000000000) (c : Nat) (hc : c = min m (n - k)) :
    Calls Tryd.prog 36 #[.pointer (some ⟨g, 0, none⟩), .slice (some ad) m cb, .int .i64 (n : Int)] w fun e w' =>
      ∃ A' c', e = .returned (.slice A' (m - c) c') ∧ Dc w' g { f with tail := tailZ sm part (wb.take k ++ b.take c ++ wb.drop (k + c)) (k + c) } ∧ Only [g] w w' ∧ Holds w' 1 A' (m - c) (bvals (b.drop c)) ∧ m - c ≤ c' ∧ (∀ ad', A' = some ad' → ad'.block = ad.block) ∧ A' ≠ none := by
  have hcl : (b.take c).length = c := by rw [List.length_take]; omega
  have c363 : w.cell? ⟨g, 363, none⟩ = some (.int .i64 (k : Int)) := by have := hd.tail 6; rw [ht, tailZ_n _ _ _ _ hw] at this; exact this
  have hs1 := run_arr4_lh g 359 k n (by omega) (by omega) hn
  have hcell : ∀ j v, (bvals (b.take c))[j]? = some v → w.drew.cell? (ad.add j) = some v := fun j v hv => by
    show w.cell? (ad.add j) = some v
    refine hb.at_ ad rfl j v ?_
    rw [bvals_take, List.getElem?_take] at hv
    split at hv
    · exact hv
    · cases hv
  have hsz : (Tryd.prog.info? 5).map (·.size) = some 1 := by kernel_rfl
  have hlen : (bvals (b.take c)).length = Nat.min m (n - k) := by rw [bvals_length, hcl, hc]
  have hfit : 359 + k + (bvals (b.take c)).length ≤ f.cells.size := by rw [bvals_length, hcl, DF.cells_size, ht, tailZ_length, hw]; omega
  have hone := bvals_one (b.take c)
  have hdd : Has w.drew g f.ty f.cells := hd
  have hI := hide (And.intro hd (And.intro ht (And.intro hw (And.intro hb (And.intro hbl (And.intro hcl (And.intro hc hA)))))))
  have hcm : c ≤ m ∧ c ≤ 4 := by omega
  have hkc : k + c ≤ 8 := by omega
  have hlc : (bvals (b.take c)).length = c := by rw [bvals_length, hcl]
  clear hd ht hw hb hbl hcl hc hA
  go_enter Tryd.func36, Tryd.ntmps36
  go_wp2_with fail
  go_region_law ((refine step_copy _ rfl (.tmp 16) (.tmp 17) 22 rfl 5 g (359 + k) (n - k) (4 - k) ad m cb _ f.ty (bvals (b.take c)) Tryd.underlying22 hsz hdd hlen hcell hfit hone (by kernel_rfl) (by kernel_rfl) ?_; intro w3 hR3 hO3; have H3 := hide (And.intro hR3 hO3); clear hR3 hO3 hlen hcell hfit hone hdd; rw [hlc]))
  all_goals
    have hd := hI.out.1
    have ht := hI.out.2.1
    have hw := hI.out.2.2.1
    have hcl := hI.out.2.2.2.2.2.1
    have hcc := hI.out.2.2.2.2.2.2.1
    have hd3 : Dc w3 g { f with tail := tailZ sm part (wb.take k ++ b.take c ++ wb.drop (k + c)) k } := by
      have h1 := H3.out.1
      rw [show 359 + k = 357 + (2 + k) by omega, DF.cells_splice, ht, tailZ_splice _ _ _ _ _ _ (by rw [hcl, hw]; omega), hcl] at h1
      exact h1
    have hw3 : (wb.take k ++ b.take c ++ wb.drop (k + c)).length = 4 := by
      rw [List.length_append, List.length_append, hcl, List.length_take, List.length_drop, hw]; omega
    have o3 : Only [g] w w3 := ((Only.refl [g] w).drew).trans H3.out.2 (by simp)
    have k363 : w3.cell? ⟨g, 363, none⟩ = some (.int .i64 (k : Int)) := by have := hd3.tail 6; rw [tailZ_n _ _ _ _ hw3] at this; exact this
    have q363 : w3.frozen? ⟨g, 363, none⟩ = false := Has.free hd3 363
    have hb3 : ∀ m2 : Nat, Holds ((w3.setCell ⟨g, 363, none⟩ (.int .i64 (((k + c : Nat) : Int)))).drewN m2) 1 (some ad) m (bvals b) := fun m2 =>
      hI.out.2.2.2.1.keepPos (o3.trans (((Only.refl [g] w3).setCell (by simp) _).drewN m2) (by simp)) (fun h0 ad' ha _ hm => by
        injection ha with ha; subst ha
        exact hI.out.2.2.2.2.2.2.2 h0 (by simpa using hm))
    obtain ⟨A', c', hsl, hhl, hc', hblk⟩ := run_from (hb3 0) hI.out.2.2.2.2.1 hcb c hcm.1
    have hd4 : Dc (w3.setCell ⟨g, 363, none⟩ (.int .i64 ((k + c : Nat) : Int))) g { f with tail := tailZ sm part (wb.take k ++ b.take c ++ wb.drop (k + c)) (k + c) } := by
      have h1 := Dc.set_tail hd3 6 (.int .i64 ((k + c : Nat) : Int))
      rw [tailZ_set_n _ _ _ _ _ hw3] at h1
      exact h1
    have hnn : A' ≠ none := fun h => by
      have h1 := hsl w
      rw [run_slice_l (w := w) 22 (some ad) m cb bytes_elem .i64 c (by omega) (by omega), bytes_size, h] at h1
      by_cases hcc : cb = c <;> simp [sliced, Result.andThen, hcc] at h1
    have HSN := hide hnn
    clear hnn
    have H4 := hide (And.intro hd4 (And.intro o3 (And.intro hhl (And.intro hc' hblk))))
    have e1 : (k : Int) + (c : Int) = ((k + c : Nat) : Int) := by omega
    obtain ⟨kc, hkc2⟩ : ∃ kc, kc = k + c := ⟨_, rfl⟩
    rw [← hkc2] at e1 H4
    have HKC := hide hkc2
    clear hd ht hw hcl hcc hd3 hw3 o3 hb3 hhl hc' hblk hd4 hkc2
    go_wp2_with fail
    go_ret
    rw [← HKC.out]
    exact ⟨A', c', rfl, H4.out.1, H4.out.2.1.trans ((Only.refl [g] w3).setCell (by simp) _) (by simp), H4.out.2.2.1, H4.out.2.2.2.1, fun ad' ha => by
      obtain ⟨ad2, h1, h2⟩ := H4.out.2.2.2.2 ad' ha
      injection h1 with h1
      rw [h2, h1], HSN.out⟩

set_option maxRecDepth 100000 in
set_option maxHeartbeats 8000000 in
theorem gather_none (g : Nat) (f : DF) (sm : Value) (part k n : Nat) (wb : List UInt8) (w : World) (hd : Dc w g f) (ht : f.tail = tailZ sm part wb k) (hw : wb.length = 4) (hk : k < n) (hn : n ≤ 4) :
    Calls Tryd.prog 36 #[.pointer (some ⟨g, 0, none⟩), .slice none 0 0, .int .i64 (n : Int)] w fun e w' => e = .returned (.slice none 0 0) ∧ Dc w' g f ∧ Only [g] w w' := by
  have c363 : w.cell? ⟨g, 363, none⟩ = some (.int .i64 (k : Int)) := by have := hd.tail 6; rw [ht, tailZ_n _ _ _ _ hw] at this; exact this
  have q363 : w.drew.frozen? ⟨g, 363, none⟩ = false := Has.free hd 363
  have d363 : w.drew.cell? ⟨g, 363, none⟩ = some (.int .i64 (k : Int)) := c363
  have hs1 := run_arr4_lh g 359 k n (by omega) (by omega) hn
  have hsz : (Tryd.prog.info? 5).map (·.size) = some 1 := by kernel_rfl
  have hsl : ∀ w' : World, (Instr.slice 22 (.slice none 0 0) (some (.int .i64 0)) none none).run Tryd.prog w' = .ok (.slice none 0 0) w' := fun w' => by
    rw [run_slice_l (w := w') 22 none 0 0 bytes_elem .i64 0 (by omega) (by omega), bytes_size]
    simp [sliced, Result.andThen]
  have hI := hide (And.intro hd (And.intro ht hw))
  clear hd ht hw
  go_enter Tryd.func36, Tryd.ntmps36
  go_wp2_with fail
  go_region_law ((refine step_copy_none _ rfl (.tmp 16) (.tmp 17) 22 rfl 5 (some ⟨g, 359 + k, none⟩) none (n - k) (4 - k) 0 Tryd.underlying22 hsz (by kernel_rfl) (by kernel_rfl) ?_))
  all_goals
    go_wp2_with fail
    go_ret
    have h1 := Dc.set_tail (w := w.drew) (g := g) hI.out.1 6 (.int .i64 (k : Int))
    rw [hI.out.2.1, tailZ_set_n _ _ _ _ _ hI.out.2.2, ← hI.out.2.1] at h1
    exact ⟨rfl, h1, ((Only.refl [g] w).drew).setCell (by simp) _⟩
end Go.Proofs.YtopjkmobnmaaaaaDoor


namespace Go.Proofs.YtopjkmobnmaaaaaDoor
open Go Go.RowKit

theorem u8_and15 (x : Nat) (h : x < 256) : bits .and .u8 (x : Int) 15 = ((x % 16 : Nat) : Int) := by
  have := u8_and_nat x 15 h (by omega)
  rw [show (15 : Nat) = 2 ^ 4 - 1 from rfl, Nat.and_two_pow_sub_one_eq_mod] at this
  exact this
set_option maxRecDepth 100000 in
theorem and32 : ∀ x, x < 256 → ((x &&& 32 : Nat) = 0 ↔ x / 32 % 2 = 0) := by decide
theorem i64_or8 (a b : Nat) (hb : b < 256) (h : a < 256) : bits .or .i64 ((a : Int) * 256) (b : Int) = ((a * 256 + b : Nat) : Int) := by
  have h1 : (BitVec.ofInt 64 ((a : Int) * 256)).toNat = a * 2 ^ 8 := by rw [BitVec.toNat_ofInt]; omega
  have h2 : (BitVec.ofInt 64 (b : Int)).toNat = b := by rw [BitVec.toNat_ofInt]; omega
  have key : (BitVec.ofInt 64 ((a : Int) * 256) ||| BitVec.ofInt 64 (b : Int)).toNat = a * 256 + b := by
    rw [BitVec.toNat_or, h1, h2, Nat.or_comm, or_of_lt (by omega)]; omega
  show IntKind.i64.wrap ((BitVec.ofInt 64 ((a : Int) * 256) ||| BitVec.ofInt 64 (b : Int)).toNat : Nat) = _
  rw [key, IntKind.wrap_i64]
  omega

set_option maxRecDepth 100000 in
set_option maxHeartbeats 4000000 in
theorem mayBegin_any (g n x y : Nat) (w : World) (hx : x < 256) (hy : y < 256) (hn : n ≤ 2) (c0 : w.cell? ⟨g, 359, none⟩ = some (.int .u8 (x : Int))) (c1 : w.cell? ⟨g, 360, none⟩ = some (.int .u8 (y : Int))) (r : Bool)
    (hr : r = (decide (n = 0) || ((decide (x % 16 = 8) && decide (x / 16 ≤ 7)) && (decide (n = 1) || (decide ((x * 256 + y) % 31 = 0) && decide (y / 32 % 2 = 0)))))) :
    Calls Tryd.prog 37 #[.slice (some ⟨g, 359, none⟩) n 4] w fun e w' => e = .returned (.bool r) ∧ ∃ m, w' = w.drewN m := by
  obtain ⟨m1, hm1⟩ : ∃ m, m = x % 16 := ⟨_, rfl⟩
  obtain ⟨d1, hd1⟩ : ∃ d, d = x / 16 := ⟨_, rfl⟩
  obtain ⟨z, hz⟩ : ∃ z, z = x * 256 + y := ⟨_, rfl⟩
  obtain ⟨q, hq⟩ : ∃ q, q = z % 31 := ⟨_, rfl⟩
  obtain ⟨v, hv⟩ : ∃ v, v = (y &&& 32 : Nat) := ⟨_, rfl⟩
  have hv0 : v = 0 ↔ y / 32 % 2 = 0 := by rw [hv]; exact and32 y hy
  have e1 : bits .and .u8 (x : Int) 15 = (m1 : Int) := by rw [hm1]; exact u8_and15 x hx
  have e2 : (x : Int) / 16 = (d1 : Int) := by omega
  have e3 : bits .or .i64 ((x : Int) * 256) (y : Int) = (z : Int) := by rw [hz]; exact i64_or8 x y hy hx
  have e4 : (z : Int).tmod 31 = (q : Int) := by rw [hq]; rfl
  have e5 : bits .and .u8 (y : Int) 32 = (v : Int) := by rw [hv]; exact u8_and_nat y 32 hy (by decide)
  rw [← hm1, ← hd1, ← hz, ← hq, (show decide (y / 32 % 2 = 0) = decide (v = 0) from by congr 1; exact propext hv0.symm)] at hr
  have b1 : m1 < 16 := by omega
  have b2 : d1 < 16 := by omega
  have w1 : IntKind.i64.wrap (x : Int) = (x : Int) := Go.Proofs.YtopjkmobnmaaaaaDoor.wrap64 rfl (by omega)
  have w2 : IntKind.i64.wrap (y : Int) = (y : Int) := Go.Proofs.YtopjkmobnmaaaaaDoor.wrap64 rfl (by omega)
  have w3 : IntKind.i64.wrap ((x : Int) * 256) = (x : Int) * 256 := Go.Proofs.YtopjkmobnmaaaaaDoor.wrap64 (n := x * 256) (by omega) (by omega)
  have w4 : (x : Int) * 256 = ((x * 256 : Nat) : Int) := by omega
  have HN := hide (And.intro hr (And.intro hn (And.intro b1 b2)))
  clear hm1 hd1 hz hq hv hv0 b1 b2 hx hy hr w4
  generalize (x : Int) = X at *
  generalize (y : Int) = Y at *
  generalize (z : Int) = Z at *
  rcases (show n = 0 ∨ n = 1 ∨ n = 2 by omega) with rfl | rfl | rfl
  · obtain rfl : r = true := HN.out.1
    clear HN
    go_enter Tryd.func37, Tryd.ntmps37
    go_wp2_with fail
    all_goals
      go_ret
      first | exact ⟨rfl, 0, rfl⟩ | (exfalso; omega)
  · clear hn
    by_cases hA : m1 = 8 ∧ d1 ≤ 7
    · have hA1 : (m1 : Int) = 8 := by omega
      have hA2 : ¬ (7 : Int) < (d1 : Int) := by omega
      obtain rfl : r = true := by rw [HN.out.1]; simp [hA.1, hA.2]
      clear hA
      clear HN
      go_enter Tryd.func37, Tryd.ntmps37
      go_wp2_with fail
      all_goals
        go_ret
        first | exact ⟨rfl, 0, rfl⟩ | (exfalso; omega)
    · obtain rfl : r = false := by
        rw [HN.out.1]
        rcases Decidable.em (m1 = 8) with h | h
        · simp [h]; omega
        · simp [h]
      have hA2 : ¬ ((m1 : Int) = 8 ∧ (d1 : Int) ≤ 7) := by omega
      clear hA
      clear HN
      go_enter Tryd.func37, Tryd.ntmps37
      go_wp2_with fail
      all_goals
        go_ret
        first | exact ⟨rfl, 0, rfl⟩ | (exfalso; omega)
  · clear hn
    by_cases hA : m1 = 8 ∧ d1 ≤ 7
    · have hA1 : (m1 : Int) = 8 := by omega
      have hA2 : ¬ (7 : Int) < (d1 : Int) := by omega
      have hr2 : r = (decide (q = 0) && decide (v = 0)) := by rw [HN.out.1]; simp [hA.1, hA.2]
      clear hA
      by_cases hq : q = 0
      · by_cases hv : v = 0
        · subst hq hv
          obtain rfl : r = true := hr2
          clear HN
          go_enter Tryd.func37, Tryd.ntmps37
          go_wp2_with fail
          go_region
          all_goals
            go_wp2_with fail
            go_ret
            first | exact ⟨rfl, _, rfl⟩ | (exfalso; omega)
        · subst hq
          have hv2 : ¬ (v : Int) = 0 := by omega
          have hv3 : ((v : Int) == 0) = false := by simpa using hv
          obtain rfl : r = false := by rw [hr2]; simp [hv]
          clear hv hr2
          clear HN
          go_enter Tryd.func37, Tryd.ntmps37
          go_wp2_with fail
          go_region
          all_goals
            go_wp2_with fail
            go_ret
            first | exact ⟨rfl, _, rfl⟩ | (exfalso; omega)
      · have hq2 : ¬ (q : Int) = 0 := by omega
        have hq3 : ((q : Int) == 0) = false := by simpa using hq
        obtain rfl : r = false := by rw [hr2]; simp [hq]
        clear hq hr2
        clear HN
        go_enter Tryd.func37, Tryd.ntmps37
        go_wp2_with fail
        go_region
        all_goals
          go_wp2_with fail
          go_ret
          first | exact ⟨rfl, _, rfl⟩ | (exfalso; omega)
    · obtain rfl : r = false := by
        rw [HN.out.1]
        rcases Decidable.em (m1 = 8) with h | h
        · simp [h]; omega
        · simp [h]
      have hA2 : ¬ ((m1 : Int) = 8 ∧ (d1 : Int) ≤ 7) := by omega
      clear hA
      clear HN
      go_enter Tryd.func37, Tryd.ntmps37
      go_wp2_with fail
      all_goals
        go_ret
        first | exact ⟨rfl, 0, rfl⟩ | (exfalso; omega)
end Go.Proofs.YtopjkmobnmaaaaaDoor

