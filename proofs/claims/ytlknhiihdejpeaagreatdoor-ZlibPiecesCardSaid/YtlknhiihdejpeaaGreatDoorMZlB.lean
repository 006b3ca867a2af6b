/-
  Package zlib: bytes wait till there are some. | Package zlib: whether a header may begin so. | Numbers of sums: CRC-32, bit by bit, and Adler-32, as functions of a list of bytes. Nothing of a program in it. | Contracts of package sums: new sums, and what they tell.
-/
import Derived.Test.YtlknhiihdejpeaaGreatDoorMFlWr
import Derived.Test.YtlknhiihdejpeaaGreatDoorMNum
import Derived.Test.YtlknhiihdejpeaaGreatDoorProg
import Derived.Test.YtlknhiihdejpeaaGreatDoorMMem
import Derived.Deep.QuietTactic
import Derived.BigQuiet
import Derived.StillTailTactics
namespace Go.Proofs.YtlknhiihdejpeaaGreatDoor
open Go Go.RowKit

theorem DF.cells_splice (f : DF) (j : Nat) (cs : List Value) :
    (f.cells.toList.take (357 + j) ++ cs ++ f.cells.toList.drop (357 + j + cs.length)).toArray = { f with tail := f.tail.take j ++ cs ++ f.tail.drop (j + cs.length) }.cells := by
  have h1 : f.cells.toList = (List.range 357).map f.at ++ f.tail := by simp [DF.cells]
  have h2 : ((List.range 357).map f.at).length = 357 := by simp
  show _ = ((List.range 357).map f.at ++ (f.tail.take j ++ cs ++ f.tail.drop (j + cs.length))).toArray
  congr 1
  rw [h1, List.take_append, List.drop_append, h2, List.take_of_length_le (by omega), List.drop_eq_nil_of_le (by omega), show 357 + j - 357 = j by omega, show 357 + j + cs.length - 357 = j + cs.length by omega, List.nil_append]
  simp only [List.append_assoc]
theorem tailZ_splice (sm : Value) (part : Nat) (wb cs : List UInt8) (k n : Nat) (hk : k + cs.length ≤ wb.length) :
    (tailZ sm part wb n).take (2 + k) ++ bvals cs ++ (tailZ sm part wb n).drop (2 + k + (bvals cs).length) = tailZ sm part (wb.take k ++ cs ++ wb.drop (k + cs.length)) n := by
  have h2 : ([sm, Value.int .i64 (part : Int)]).length = 2 := rfl
  unfold tailZ
  rw [bvals_length, List.take_append, List.drop_append, h2, List.take_of_length_le (by rw [h2]; omega), List.drop_eq_nil_of_le (by rw [h2]; omega), show 2 + k - 2 = k by omega, show 2 + k + cs.length - 2 = k + cs.length by omega, List.nil_append,
    List.take_append_of_le_length (by rw [bvals_length]; omega), List.drop_append_of_le_length (by rw [bvals_length]; omega), bvals_append, bvals_append, ← bvals_take, ← bvals_drop]
  simp only [List.append_assoc]
theorem tailZ_length (sm : Value) (part : Nat) (wb : List UInt8) (n : Nat) : (tailZ sm part wb n).length = wb.length + 3 := by unfold tailZ; simp [bvals]
theorem tailZ_n (sm : Value) (part : Nat) (wb : List UInt8) (n : Nat) (h : wb.length = 4) : (tailZ sm part wb n)[6]? = some (.int .i64 (n : Int)) := by
  unfold tailZ
  rw [List.getElem?_append_right (by show 2 ≤ 6; decide), List.getElem?_append_right (by rw [bvals_length]; show wb.length ≤ 6 - 2; omega), bvals_length]
  show [Value.int .i64 (n : Int)][6 - 2 - wb.length]? = _
  rw [h]; rfl
theorem tailZ_set_n (sm : Value) (part : Nat) (wb : List UInt8) (n m : Nat) (h : wb.length = 4) : (tailZ sm part wb n).set 6 (.int .i64 (m : Int)) = tailZ sm part wb m := by
  unfold tailZ
  rw [List.set_append_right _ _ (by show 2 ≤ 6; decide), List.set_append_right _ _ (by rw [bvals_length]; show wb.length ≤ 6 - 2; omega), bvals_length]
  show _ ++ (_ ++ [Value.int .i64 (n : Int)].set (6 - 2 - wb.length) _) = _
  rw [h]; rfl

theorem step_copy_none {P : Program} (w : World) {ops : Array Oper} {o : Oper} {a : Act} {K : Act → World → Prop} {Q : Exit → Act → World → Prop} {E : Prop} (hgd : o.guard = none) (d s : Operand) (t : TypeId) (hop : o.op = .call { callee := .builtin .copy, args := #[d, s], argTypes := #[t, t] })
    (elem : TypeId) (dA sA : Option Addr) (dLen dCap sCap : Nat) (hu : P.underlying t = some (.slice elem)) (hs : (P.info? elem).map (·.size) = some 1)
    (hd : a.eval d = .slice dA dLen dCap) (hse : a.eval s = .slice sA 0 sCap)
    (h : K (a.put o.dst (.int .i64 0)) w) : if Region.wanted o (yielded ops a.tmps) = true then Oper.wp P o a w K Q else E := by
  rw [if_pos (by simp [Region.wanted, hgd])]
  have hrun := run_copy_none (P := P) w t t o.type elem dA sA dLen dCap 0 sCap hu hs (by simp)
  unfold Oper.wp execOp
  simp only [hop, resolve, invoke, builtin, Sem.run_bind, Sem.run_pure, Result.andThen_ok, List.map_toArray, List.map_cons, List.map_nil, hd, hse, hrun]
  exact h

set_option maxRecDepth 100000 in
set_option maxHeartbeats 8000000 in
theorem gather_any (g : Nat) (f : DF) (sm : Value) (part k n m cb : Nat) (wb b : List UInt8) (ad : Addr) (w : World) (hd : Dc w g f) (ht : f.tail = tailZ sm part wb k) (hw : wb.length = 4) (hk : k < n) (hn : n ≤ 4)
    (hb : Holds w 1 (some ad) m (bvals b)) (hbl : b.length = m) (hcb : m ≤ cb) (hA : 0 < m → ad.block ≠ g) (hm : m ≤ 1000000000) (c : Nat) (hc : c = min m (n - k)) :
    Calls Tryz.prog 45 #[.pointer (some ⟨g, 0, none⟩), .slice (some ad) m cb, .int .i64 (n : Int)] w fun e w' =>
      ∃ A' c', e = .returned (.slice A' (m - c) c') ∧ Dc w' g { f with tail := tailZ sm part (wb.take k ++ b.take c ++ wb.drop (k + c)) (k + c) } ∧ Only [g] w w' ∧ Holds w' 1 A' (m - c) (bvals (b.drop c)) ∧ m - c ≤ c' ∧ (∀ ad', A' = some ad' → ad'.block = ad.block) ∧ A' ≠ none := by
  have hcl : (b.take c).length = c := by rw [List.length_take]; omega
  have c363 : w.cell? ⟨g, 363, none⟩ = some (.int .i64 (k : Int)) := by have := hd.tail 6; rw [ht, tailZ_n _ _ _ _ hw] at this; exact this
  have hs1 := run_arr4_lh g 359 k n (by omega) (by omega) hn
  have hcell : ∀ j v, (bvals (b.take c))[j]? = some v → w.drew.cell? (ad.add j) = some v := fun j v hv => by
    show w.cell? (ad.add j) = some v
    refine hb.at_ ad rfl j v ?_
    rw [bvals_take, List.getElem?_take] at hv
    split at hv
    · exact hv
    · cases hv
  have hsz : (Tryz.prog.info? 5).map (·.size) = some 1 := by kernel_rfl
  have hlen : (bvals (b.take c)).length = Nat.min m (n - k) := by rw [bvals_length, hcl, hc]
  have hfit : 359 + k + (bvals (b.take c)).length ≤ f.cells.size := by rw [bvals_length, hcl, DF.cells_size, ht, tailZ_length, hw]; omega
  have hone := bvals_one (b.take c)
  have hdd : Has w.drew g f.ty f.cells := hd
  have hI := hide (And.intro hd (And.intro ht (And.intro hw (And.intro hb (And.intro hbl (And.intro hcl (And.intro hc hA)))))))
  have hcm : c ≤ m ∧ c ≤ 4 := by omega
  have hkc : k + c ≤ 8 := by omega
  have hlc : (bvals (b.take c)).length = c := by rw [bvals_length, hcl]
  clear hd ht hw hb hbl hcl hc hA
  go_enter Tryz.func45, Tryz.ntmps45
  go_wp2_with fail
  go_region_law ((refine step_copy _ rfl (.tmp 16) (.tmp 17) 22 rfl 5 g (359 + k) (n - k) (4 - k) ad m cb _ f.ty (bvals (b.take c)) Tryz.underlying22 hsz hdd hlen hcell hfit hone (by kernel_rfl) (by kernel_rfl) ?_; intro w3 hR3 hO3; have H3 := hide (And.intro hR3 hO3); clear hR3 hO3 hlen hcell hfit hone hdd; rw [hlc]))
  all_goals
    have hd := hI.out.1
    have ht := hI.out.2.1
    have hw := hI.out.2.2.1
    have hcl := hI.out.2.2.2.2.2.1
    have hcc := hI.out.2.2.2.2.2.2.1
    have hd3 : Dc w3 g { f with tail := tailZ sm part (wb.take k ++ b.take c ++ wb.drop (k + c)) k } := by
      have h1 := H3.out.1
      rw [show 359 + k = 357 + (2 + k) by omega, DF.cells_splice, ht, tailZ_splice _ _ _ _ _ _ (by rw [hcl, hw]; omega), hcl] at h1
      exact h1
    have hw3 : (wb.take k ++ b.take c ++ wb.drop (k + c)).length = 4 := by
      rw [List.length_append, List.length_append, hcl, List.length_take, List.length_drop, hw]; omega
    have o3 : Only [g] w w3 := ((Only.refl [g] w).drew).trans H3.out.2 (by simp)
    have k363 : w3.cell? ⟨g, 363, none⟩ = some (.int .i64 (k : Int)) := by have := hd3.tail 6; rw [tailZ_n _ _ _ _ hw3] at this; exact this
    have q363 : w3.frozen? ⟨g, 363, none⟩ = false := Has.free hd3 363
    have hb3 : ∀ m2 : Nat, Holds ((w3.setCell ⟨g, 363, none⟩ (.int .i64 (((k + c : Nat) : Int)))).drewN m2) 1 (some ad) m (bvals b) := fun m2 =>
      hI.out.2.2.2.1.keepPos (o3.trans (((Only.refl [g] w3).setCell (by simp) _).drewN m2) (by simp)) (fun h0 ad' ha _ hm => by
        injection ha with ha; subst ha
        exact hI.out.2.2.2.2.2.2.2 h0 (by simpa using hm))
    obtain ⟨A', c', hsl, hhl, hc', hblk⟩ := run_from (hb3 0) hI.out.2.2.2.2.1 hcb c hcm.1
    have hd4 : Dc (w3.setCell ⟨g, 363, none⟩ (.int .i64 ((k + c : Nat) : Int))) g { f with tail := tailZ sm part (wb.take k ++ b.take c ++ wb.drop (k + c)) (k + c) } := by
      have h1 := Dc.set_tail hd3 6 (.int .i64 ((k + c : Nat) : Int))
      rw [tailZ_set_n _ _ _ _ _ hw3] at h1
      exact h1
    have hnn : A' ≠ none := fun h => by
      have h1 := hsl w
      rw [run_slice_l (w := w) 22 (some ad) m cb bytes_elem .i64 c (by omega) (by omega), bytes_size, h] at h1
      by_cases hcc : cb = c <;> simp [sliced, Result.andThen, hcc] at h1
    have HSN := hide hnn
    clear hnn
    have H4 := hide (And.intro hd4 (And.intro o3 (And.intro hhl (And.intro hc' hblk))))
    have e1 : (k : Int) + (c : Int) = ((k + c : Nat) : Int) := by omega
    obtain ⟨kc, hkc2⟩ : ∃ kc, kc = k + c := ⟨_, rfl⟩
    rw [← hkc2] at e1 H4
    have HKC := hide hkc2
    clear hd ht hw hcl hcc hd3 hw3 o3 hb3 hhl hc' hblk hd4 hkc2
    go_wp2_with fail
    go_ret
    rw [← HKC.out]
    exact ⟨A', c', rfl, H4.out.1, H4.out.2.1.trans ((Only.refl [g] w3).setCell (by simp) _) (by simp), H4.out.2.2.1, H4.out.2.2.2.1, fun ad' ha => by
      obtain ⟨ad2, h1, h2⟩ := H4.out.2.2.2.2 ad' ha
      injection h1 with h1
      rw [h2, h1], HSN.out⟩

set_option maxRecDepth 100000 in
set_option maxHeartbeats 8000000 in
theorem gather_none (g : Nat) (f : DF) (sm : Value) (part k n : Nat) (wb : List UInt8) (w : World) (hd : Dc w g f) (ht : f.tail = tailZ sm part wb k) (hw : wb.length = 4) (hk : k < n) (hn : n ≤ 4) :
    Calls Tryz.prog 45 #[.pointer (some ⟨g, 0, none⟩), .slice none 0 0, .int .i64 (n : Int)] w fun e w' => e = .returned (.slice none 0 0) ∧ Dc w' g f ∧ Only [g] w w' := by
  have c363 : w.cell? ⟨g, 363, none⟩ = some (.int .i64 (k : Int)) := by have := hd.tail 6; rw [ht, tailZ_n _ _ _ _ hw] at this; exact this
  have q363 : w.drew.frozen? ⟨g, 363, none⟩ = false := Has.free hd 363
  have d363 : w.drew.cell? ⟨g, 363, none⟩ = some (.int .i64 (k : Int)) := c363
  have hs1 := run_arr4_lh g 359 k n (by omega) (by omega) hn
  have hsz : (Tryz.prog.info? 5).map (·.size) = some 1 := by kernel_rfl
  have hsl : ∀ w' : World, (Instr.slice 22 (.slice none 0 0) (some (.int .i64 0)) none none).run Tryz.prog w' = .ok (.slice none 0 0) w' := fun w' => by
    rw [run_slice_l (w := w') 22 none 0 0 bytes_elem .i64 0 (by omega) (by omega), bytes_size]
    simp [sliced, Result.andThen]
  have hI := hide (And.intro hd (And.intro ht hw))
  clear hd ht hw
  go_enter Tryz.func45, Tryz.ntmps45
  go_wp2_with fail
  go_region_law ((refine step_copy_none _ rfl (.tmp 16) (.tmp 17) 22 rfl 5 (some ⟨g, 359 + k, none⟩) none (n - k) (4 - k) 0 Tryz.underlying22 hsz (by kernel_rfl) (by kernel_rfl) ?_))
  all_goals
    go_wp2_with fail
    go_ret
    have h1 := Dc.set_tail (w := w.drew) (g := g) hI.out.1 6 (.int .i64 (k : Int))
    rw [hI.out.2.1, tailZ_set_n _ _ _ _ _ hI.out.2.2, ← hI.out.2.1] at h1
    exact ⟨rfl, h1, ((Only.refl [g] w).drew).setCell (by simp) _⟩
end Go.Proofs.YtlknhiihdejpeaaGreatDoor


namespace Go.Proofs.YtlknhiihdejpeaaGreatDoor
open Go Go.RowKit

theorem u8_and15 (x : Nat) (h : x < 256) : bits .and .u8 (x : Int) 15 = ((x % 16 : Nat) : Int) := by
  have := u8_and_nat x 15 h (by omega)
  rw [show (15 : Nat) = 2 ^ 4 - 1 from rfl, Nat.and_two_pow_sub_one_eq_mod] at this
  exact this
set_option maxRecDepth 100000 in
theorem and32 : ∀ x, x < 256 → ((x &&& 32 : Nat) = 0 ↔ x / 32 % 2 = 0) := by decide
theorem i64_or8 (a b : Nat) (hb : b < 256) (h : a < 256) : bits .or .i64 ((a : Int) * 256) (b : Int) = ((a * 256 + b : Nat) : Int) := by
  have h1 : (BitVec.ofInt 64 ((a : Int) * 256)).toNat = a * 2 ^ 8 := by rw [BitVec.toNat_ofInt]; omega
  have h2 : (BitVec.ofInt 64 (b : Int)).toNat = b := by rw [BitVec.toNat_ofInt]; omega
  have key : (BitVec.ofInt 64 ((a : Int) * 256) ||| BitVec.ofInt 64 (b : Int)).toNat = a * 256 + b := by
    rw [BitVec.toNat_or, h1, h2, Nat.or_comm, or_of_lt (by omega)]; omega
  show IntKind.i64.wrap ((BitVec.ofInt 64 ((a : Int) * 256) ||| BitVec.ofInt 64 (b : Int)).toNat : Nat) = _
  rw [key, IntKind.wrap_i64]
  omega

set_option maxRecDepth 100000 in
set_option maxHeartbeats 4000000 in
theorem mayBegin_any (g n x y : Nat) (w : World) (hx : x < 256) (hy : y < 256) (hn : n ≤ 2) (c0 : w.cell? ⟨g, 359, none⟩ = some (.int .u8 (x : Int))) (c1 : w.cell? ⟨g, 360, none⟩ = some (.int .u8 (y : Int))) (r : Bool)
    (hr : r = (decide (n = 0) || ((decide (x % 16 = 8) && decide (x / 16 ≤ 7)) && (decide (n = 1) || (decide ((x * 256 + y) % 31 = 0) && decide (y / 32 % 2 = 0)))))) :
    Calls Tryz.prog 46 #[.slice (some ⟨g, 359, none⟩) n 4] w fun e w' => e = .returned (.bool r) ∧ ∃ m, w' = w.drewN m := by
  obtain ⟨m1, hm1⟩ : ∃ m, m = x % 16 := ⟨_, rfl⟩
  obtain ⟨d1, hd1⟩ : ∃ d, d = x / 16 := ⟨_, rfl⟩
  obtain ⟨z, hz⟩ : ∃ z, z = x * 256 + y := ⟨_, rfl⟩
  obtain ⟨q, hq⟩ : ∃ q, q = z % 31 := ⟨_, rfl⟩
  obtain ⟨v, hv⟩ : ∃ v, v = (y &&& 32 : Nat) := ⟨_, rfl⟩
  have hv0 : v = 0 ↔ y / 32 % 2 = 0 := by rw [hv]; exact and32 y hy
  have e1 : bits .and .u8 (x : Int) 15 = (m1 : Int) := by rw [hm1]; exact u8_and15 x hx
  have e2 : (x : Int) / 16 = (d1 : Int) := by omega
  have e3 : bits .or .i64 ((x : Int) * 256) (y : Int) = (z : Int) := by rw [hz]; exact i64_or8 x y hy hx
  have e4 : (z : Int).tmod 31 = (q : Int) := by rw [hq]; rfl
  have e5 : bits .and .u8 (y : Int) 32 = (v : Int) := by rw [hv]; exact u8_and_nat y 32 hy (by decide)
  rw [← hm1, ← hd1, ← hz, ← hq, (show decide (y / 32 % 2 = 0) = decide (v = 0) from by congr 1; exact propext hv0.symm)] at hr
  have b1 : m1 < 16 := by omega
  have b2 : d1 < 16 := by omega
  have w1 : IntKind.i64.wrap (x : Int) = (x : Int) := Go.Proofs.YtlknhiihdejpeaaGreatDoor.wrap64 rfl (by omega)
  have w2 : IntKind.i64.wrap (y : Int) = (y : Int) := Go.Proofs.YtlknhiihdejpeaaGreatDoor.wrap64 rfl (by omega)
  have w3 : IntKind.i64.wrap ((x : Int) * 256) = (x : Int) * 256 := Go.Proofs.YtlknhiihdejpeaaGreatDoor.wrap64 (n := x * 256) (by omega) (by omega)
  have w4 : (x : Int) * 256 = ((x * 256 : Nat) : Int) := by omega
  have HN := hide (And.intro hr (And.intro hn (And.intro b1 b2)))
  clear hm1 hd1 hz hq hv hv0 b1 b2 hx hy hr w4
  generalize (x : Int) = X at *
  generalize (y : Int) = Y at *
  generalize (z : Int) = Z at *
  rcases (show n = 0 ∨ n = 1 ∨ n = 2 by omega) with rfl | rfl | rfl
  · obtain rfl : r = true := HN.out.1
    clear HN
    go_enter Tryz.func46, Tryz.ntmps46
    go_wp2_with fail
    all_goals
      go_ret
      first | exact ⟨rfl, 0, rfl⟩ | (exfalso; omega)
  · clear hn
    by_cases hA : m1 = 8 ∧ d1 ≤ 7
    · have hA1 : (m1 : Int) = 8 := by omega
      have hA2 : ¬ (7 : Int) < (d1 : Int) := by omega
      obtain rfl : r = true := by rw [HN.out.1]; simp [hA.1, hA.2]
      clear hA
      clear HN
      go_enter Tryz.func46, Tryz.ntmps46
      go_wp2_with fail
      all_goals
        go_ret
        first | exact ⟨rfl, 0, rfl⟩ | (exfalso; omega)
    · obtain rfl : r = false := by
        rw [HN.out.1]
        rcases Decidable.em (m1 = 8) with h | h
        · simp [h]; omega
        · simp [h]
      have hA2 : ¬ ((m1 : Int) = 8 ∧ (d1 : Int) ≤ 7) := by omega
      clear hA
      clear HN
      go_enter Tryz.func46, Tryz.ntmps46
      go_wp2_with fail
      all_goals
        go_ret
        first | exact ⟨rfl, 0, rfl⟩ | (exfalso; omega)
  · clear hn
    by_cases hA : m1 = 8 ∧ d1 ≤ 7
    · have hA1 : (m1 : Int) = 8 := by omega
      have hA2 : ¬ (7 : Int) < (d1 : Int) := by omega
      have hr2 : r = (decide (q = 0) && decide (v = 0)) := by rw [HN.out.1]; simp [hA.1, hA.2]
      clear hA
      by_cases hq : q = 0
      · by_cases hv : v = 0
        · subst hq hv
          obtain rfl : r = true := hr2
          clear HN
          go_enter Tryz.func46, Tryz.ntmps46
          go_wp2_with fail
          go_region
          all_goals
            go_wp2_with fail
            go_ret
            first | exact ⟨rfl, _, rfl⟩ | (exfalso; omega)
        · subst hq
          have hv2 : ¬ (v : Int) = 0 := by omega
          have hv3 : ((v : Int) == 0) = false := by simpa using hv
          obtain rfl : r = false := by rw [hr2]; simp [hv]
          clear hv hr2
          clear HN
          go_enter Tryz.func46, Tryz.ntmps46
          go_wp2_with fail
          go_region
          all_goals
            go_wp2_with fail
            go_ret
            first | exact ⟨rfl, _, rfl⟩ | (exfalso; omega)
      · have hq2 : ¬ (q : Int) = 0 := by omega
        have hq3 : ((q : Int) == 0) = false := by simpa using hq
        obtain rfl : r = false := by rw [hr2]; simp [hq]
        clear hq hr2
        clear HN
        go_enter Tryz.func46, Tryz.ntmps46
        go_wp2_with fail
        go_region
        all_goals
          go_wp2_with fail
          go_ret
          first | exact ⟨rfl, _, rfl⟩ | (exfalso; omega)
    · obtain rfl : r = false := by
        rw [HN.out.1]
        rcases Decidable.em (m1 = 8) with h | h
        · simp [h]; omega
        · simp [h]
      have hA2 : ¬ ((m1 : Int) = 8 ∧ (d1 : Int) ≤ 7) := by omega
      clear hA
      clear HN
      go_enter Tryz.func46, Tryz.ntmps46
      go_wp2_with fail
      all_goals
        go_ret
        first | exact ⟨rfl, 0, rfl⟩ | (exfalso; omega)
end Go.Proofs.YtlknhiihdejpeaaGreatDoor


namespace Go.Proofs.YtlknhiihdejpeaaGreatDoor

/-- The polynomial, reflected. -/
def crcP : Nat := 3988292384

/-- One bit of the sum. -/
def crcBit (r : Nat) : Nat := if r % 2 = 1 then (r / 2) ^^^ crcP else r / 2

def crcIt : Nat → Nat → Nat
  | 0, r => r
  | k + 1, r => crcIt k (crcBit r)

/-- One byte of the sum. -/
def crcByte (r b : Nat) : Nat := crcIt 8 (r ^^^ b)

/-- A list of bytes. -/
def crcList (r : Nat) : List UInt8 → Nat
  | [] => r
  | b :: l => crcList (crcByte r b.toNat) l

theorem crcList_append (r : Nat) (l m : List UInt8) : crcList r (l ++ m) = crcList (crcList r l) m := by
  induction l generalizing r with
  | nil => rfl
  | cons b l ih => exact ih _

theorem crcBit_lt {r : Nat} (h : r < 4294967296) : crcBit r < 4294967296 := by
  unfold crcBit
  split
  · exact Nat.xor_lt_two_pow (n := 32) (by omega) (by decide)
  · omega

theorem crcIt_lt (k : Nat) {r : Nat} (h : r < 4294967296) : crcIt k r < 4294967296 := by
  induction k generalizing r with
  | zero => exact h
  | succ k ih => exact ih (crcBit_lt h)

theorem crcByte_lt {r b : Nat} (h : r < 4294967296) (hb : b < 256) : crcByte r b < 4294967296 :=
  crcIt_lt 8 (Nat.xor_lt_two_pow (n := 32) h (by omega))

theorem crcList_lt {r : Nat} (h : r < 4294967296) (l : List UInt8) : crcList r l < 4294967296 := by
  induction l generalizing r with
  | nil => exact h
  | cons b l ih => exact ih (crcByte_lt h b.toNat_lt)

theorem xor_left_comm' (a b c : Nat) : a ^^^ (b ^^^ c) = b ^^^ (a ^^^ c) := by rw [← Nat.xor_assoc, Nat.xor_comm a b, Nat.xor_assoc]
theorem xor_cancel_r {a b c : Nat} (h : a ^^^ c = b ^^^ c) : a = b := by
  have h2 : (a ^^^ c) ^^^ c = (b ^^^ c) ^^^ c := by rw [h]
  rwa [Nat.xor_assoc, Nat.xor_self, Nat.xor_zero, Nat.xor_assoc, Nat.xor_self, Nat.xor_zero] at h2
theorem xor_cancel_l {a b c : Nat} (h : c ^^^ a = c ^^^ b) : a = b := by
  rw [Nat.xor_comm c a, Nat.xor_comm c b] at h; exact xor_cancel_r h

theorem xor_half (x y : Nat) : (x ^^^ y) / 2 = (x / 2) ^^^ (y / 2) := by
  apply Nat.eq_of_testBit_eq
  intro i
  rw [Nat.testBit_xor, Nat.testBit_div_two, Nat.testBit_div_two, Nat.testBit_div_two, Nat.testBit_xor]

theorem xor_par (x y : Nat) : (x ^^^ y) % 2 = (x % 2 + y % 2) % 2 := by
  have h := Nat.testBit_xor x y 0
  simp only [Nat.testBit_zero] at h
  rcases Nat.mod_two_eq_zero_or_one x with hx | hx <;> rcases Nat.mod_two_eq_zero_or_one y with hy | hy <;> rcases Nat.mod_two_eq_zero_or_one (x ^^^ y) with hz | hz <;> simp_all

/-- The sum is linear. -/
theorem crcBit_xor (x y : Nat) : crcBit (x ^^^ y) = crcBit x ^^^ crcBit y := by
  unfold crcBit
  rw [xor_half, xor_par]
  rcases Nat.mod_two_eq_zero_or_one x with hx | hx <;> rcases Nat.mod_two_eq_zero_or_one y with hy | hy <;> rw [hx, hy]
  · simp
  · simp [Nat.xor_assoc]
  · simp; rw [Nat.xor_assoc, Nat.xor_assoc, Nat.xor_comm crcP]
  · simp
    rw [Nat.xor_assoc, xor_left_comm' crcP, Nat.xor_self, Nat.xor_zero]

theorem crcIt_xor (k x y : Nat) : crcIt k (x ^^^ y) = crcIt k x ^^^ crcIt k y := by
  induction k generalizing x y with
  | zero => rfl
  | succ k ih => rw [crcIt, crcBit_xor, ih]; rfl

theorem crcIt_pow (k y : Nat) : crcIt k (2 ^ k * y) = y := by
  induction k with
  | zero => simp [crcIt]
  | succ k ih =>
    rw [crcIt]
    have e : crcBit (2 ^ (k + 1) * y) = 2 ^ k * y := by
      unfold crcBit
      rw [Nat.pow_succ, Nat.mul_comm (2 ^ k) 2, Nat.mul_assoc, if_neg (by omega), Nat.mul_div_cancel_left _ (by omega)]
    rw [e, ih]

theorem split_xor (k x : Nat) : (x % 2 ^ k) ^^^ (2 ^ k * (x / 2 ^ k)) = x := by
  apply Nat.eq_of_testBit_eq
  intro i
  rw [Nat.testBit_xor, Nat.testBit_mod_two_pow, Nat.testBit_two_pow_mul, Nat.testBit_div_two_pow]
  by_cases h : i < k
  · simp [h, Nat.not_le.2 h]
  · simp [h, Nat.le_of_not_lt h, Nat.sub_add_cancel (Nat.le_of_not_lt h)]

/-- A table's step: of the low bits alone, and the others moved down. -/
theorem crcIt_table (k x : Nat) : crcIt k x = crcIt k (x % 2 ^ k) ^^^ (x / 2 ^ k) := by
  have h := crcIt_xor k (x % 2 ^ k) (2 ^ k * (x / 2 ^ k))
  rw [split_xor, crcIt_pow] at h
  exact h

theorem crcByte_table (r b : Nat) (hb : b < 256) : crcByte r b = crcIt 8 ((r ^^^ b) % 256) ^^^ (r / 256) := by
  unfold crcByte
  rw [crcIt_table]
  congr 1
  apply Nat.eq_of_testBit_eq
  intro i
  rw [Nat.testBit_div_two_pow, show (256 : Nat) = 2 ^ 8 from rfl, Nat.testBit_div_two_pow, Nat.testBit_xor, Nat.testBit_lt_two_pow (x := b) (i := i + 8)]
  · simp
  · exact Nat.lt_of_lt_of_le hb (Nat.pow_le_pow_right (n := 2) (i := 8) (by omega) (by omega))

/-- It can be undone. -/
theorem crcBit_inj {x y : Nat} (hx : x < 4294967296) (hy : y < 4294967296) (h : crcBit x = crcBit y) : x = y := by
  have key : ∀ z, z < 4294967296 → (crcBit z).testBit 31 = decide (z % 2 = 1) := by
    intro z hz
    have hh : (z / 2).testBit 31 = false := Nat.testBit_lt_two_pow (by omega)
    unfold crcBit
    rcases Nat.mod_two_eq_zero_or_one z with h | h
    · rw [if_neg (by omega), hh]; simp [h]
    · rw [if_pos h, Nat.testBit_xor, hh]; simp [h]; decide
  have h1 := key x hx
  rw [h, key y hy] at h1
  unfold crcBit at h
  rcases Nat.mod_two_eq_zero_or_one x with h2 | h2 <;> rcases Nat.mod_two_eq_zero_or_one y with h3 | h3 <;> rw [h2, h3] at h h1 <;> simp at h h1
  · omega
  · have := xor_cancel_r h
    omega

theorem crcIt_inj (k : Nat) {x y : Nat} (hx : x < 4294967296) (hy : y < 4294967296) (h : crcIt k x = crcIt k y) : x = y := by
  induction k generalizing x y with
  | zero => exact h
  | succ k ih => exact crcBit_inj hx hy (ih (crcBit_lt hx) (crcBit_lt hy) h)

theorem crcList_inj {x y : Nat} (hx : x < 4294967296) (hy : y < 4294967296) (l : List UInt8) (h : crcList x l = crcList y l) : x = y := by
  induction l generalizing x y with
  | nil => exact h
  | cons b l ih =>
    have h1 := ih (crcByte_lt hx b.toNat_lt) (crcByte_lt hy b.toNat_lt) h
    have hb := b.toNat_lt
    have h2 := crcIt_inj 8 (Nat.xor_lt_two_pow (n := 32) hx (by omega)) (Nat.xor_lt_two_pow (n := 32) hy (by omega)) h1
    exact xor_cancel_r h2

/-- One byte is another one: so is the sum. -/
theorem crcList_set {r : Nat} (hr : r < 4294967296) (l : List UInt8) (i : Nat) (b : UInt8) (hi : i < l.length) (hb : b ≠ l[i]) : crcList r (l.set i b) ≠ crcList r l := by
  induction l generalizing r i with
  | nil => simp at hi
  | cons a l ih =>
    cases i with
    | zero =>
      intro h
      have ha := a.toNat_lt
      have hb' := b.toNat_lt
      have h1 := crcList_inj (crcByte_lt hr hb') (crcByte_lt hr ha) l h
      have h2 := crcIt_inj 8 (Nat.xor_lt_two_pow (n := 32) hr (by omega)) (Nat.xor_lt_two_pow (n := 32) hr (by omega)) h1
      exact hb (UInt8.toNat_inj.1 (xor_cancel_l h2))
    | succ i => exact ih (crcByte_lt hr a.toNat_lt) i (by simpa using hi) (by simpa using hb)

/-- Adler's two numbers behind a list of bytes. -/
def adList (p : Nat × Nat) : List UInt8 → Nat × Nat
  | [] => p
  | b :: l => adList ((p.1 + b.toNat) % 65521, (p.2 + (p.1 + b.toNat) % 65521) % 65521) l

theorem adList_append (p : Nat × Nat) (l m : List UInt8) : adList p (l ++ m) = adList (adList p l) m := by
  induction l generalizing p with
  | nil => rfl
  | cons b l ih => exact ih _

theorem adList_lt {p : Nat × Nat} (h : p.1 < 65521 ∧ p.2 < 65521) (l : List UInt8) : (adList p l).1 < 65521 ∧ (adList p l).2 < 65521 := by
  induction l generalizing p with
  | nil => exact h
  | cons b l ih => exact ih ⟨Nat.mod_lt _ (by decide), Nat.mod_lt _ (by decide)⟩

/-- The same, with nothing taken away on the way. -/
def adFree (p : Nat × Nat) : List UInt8 → Nat × Nat
  | [] => p
  | b :: l => adFree (p.1 + b.toNat, p.2 + (p.1 + b.toNat)) l

theorem adFree_append (p : Nat × Nat) (l m : List UInt8) : adFree p (l ++ m) = adFree (adFree p l) m := by
  induction l generalizing p with
  | nil => rfl
  | cons b l ih => exact ih _

theorem adList_free (p : Nat × Nat) (l : List UInt8) : adList (p.1 % 65521, p.2 % 65521) l = ((adFree p l).1 % 65521, (adFree p l).2 % 65521) := by
  induction l generalizing p with
  | nil => rfl
  | cons b l ih =>
    rw [adList, adFree, ← ih]
    congr 1
    refine Prod.ext ?_ ?_
    · show (p.1 % 65521 + b.toNat) % 65521 = (p.1 + b.toNat) % 65521
      omega
    · show (p.2 % 65521 + (p.1 % 65521 + b.toNat) % 65521) % 65521 = (p.2 + (p.1 + b.toNat)) % 65521
      omega

theorem adFree_le (p : Nat × Nat) (l : List UInt8) : (adFree p l).1 ≤ p.1 + 255 * l.length ∧ (adFree p l).2 ≤ p.2 + l.length * (p.1 + 255 * l.length) := by
  induction l generalizing p with
  | nil => simp [adFree]
  | cons b l ih =>
    have hb := b.toNat_lt
    obtain ⟨h1, h2⟩ := ih (p.1 + b.toNat, p.2 + (p.1 + b.toNat))
    rw [adFree, List.length_cons]
    refine ⟨by omega, Nat.le_trans h2 ?_⟩
    show p.2 + (p.1 + b.toNat) + l.length * (p.1 + b.toNat + 255 * l.length) ≤ p.2 + (l.length + 1) * (p.1 + 255 * (l.length + 1))
    have h3 : l.length * (p.1 + b.toNat + 255 * l.length) ≤ l.length * (p.1 + 255 * (l.length + 1)) := Nat.mul_le_mul_left _ (by omega)
    rw [Nat.add_mul l.length 1, Nat.one_mul]
    omega

/-- All bytes together. -/
def sumOf : List UInt8 → Nat
  | [] => 0
  | b :: l => b.toNat + sumOf l

theorem adFree_fst (p : Nat × Nat) (l : List UInt8) : (adFree p l).1 = p.1 + sumOf l := by
  induction l generalizing p with
  | nil => rfl
  | cons b l ih => rw [adFree, ih, sumOf, Nat.add_assoc]

theorem sumOf_set (l : List UInt8) (i : Nat) (b : UInt8) (hi : i < l.length) : sumOf (l.set i b) + l[i].toNat = sumOf l + b.toNat := by
  induction l generalizing i with
  | nil => simp at hi
  | cons a l ih =>
    cases i with
    | zero => simp [sumOf]; omega
    | succ i =>
      have := ih i (by simpa using hi)
      simp [sumOf]; omega

theorem adList_set (p : Nat × Nat) (hp : p.1 < 65521 ∧ p.2 < 65521) (l : List UInt8) (i : Nat) (b : UInt8) (hi : i < l.length) (hb : b ≠ l[i]) : (adList p (l.set i b)).1 ≠ (adList p l).1 := by
  have e : p = (p.1 % 65521, p.2 % 65521) := Prod.ext (by show p.1 = p.1 % 65521; omega) (by show p.2 = p.2 % 65521; omega)
  rw [e, adList_free, adList_free]
  show (adFree p _).1 % 65521 ≠ (adFree p l).1 % 65521
  rw [adFree_fst, adFree_fst]
  have h := sumOf_set l i b hi
  have h1 : b.toNat ≠ l[i].toNat := fun h => hb (UInt8.toNat_inj.1 h)
  have h2 := b.toNat_lt
  have h3 := l[i].toNat_lt
  omega

/-- Both in one word. -/
def adWord (p : Nat × Nat) : Nat := p.2 * 65536 + p.1
theorem adWord_ne {p q : Nat × Nat} (hp : p.1 < 65521) (hq : q.1 < 65521) (h : p.1 ≠ q.1) : adWord p ≠ adWord q := by
  unfold adWord; omega
theorem adWord_or {s t : Nat} (hs : s < 65536) : (t * 65536) ||| s = adWord (s, t) := by
  unfold adWord
  rw [Nat.mul_comm, show (65536 : Nat) = 2 ^ 16 from rfl]
  exact (Nat.two_pow_add_eq_or_of_lt (i := 16) hs t).symm

/-- A bit that is turned makes another byte. -/
theorem flip_ne (b : UInt8) (k : Nat) (hk : k < 8) : UInt8.ofNat (b.toNat ^^^ 2 ^ k) ≠ b := by
  intro h
  have h2 := congrArg UInt8.toNat h
  have hb := b.toNat_lt
  have hp : 2 ^ k < 256 := Nat.pow_lt_pow_right (a := 2) (by omega) (n := 8) hk
  have hx : b.toNat ^^^ 2 ^ k < 256 := Nat.xor_lt_two_pow (n := 8) hb hp
  rw [UInt8.toNat_ofNat'] at h2
  rw [Nat.mod_eq_of_lt (by simpa using hx)] at h2
  have h3 : 2 ^ k = 0 := by
    have h4 : b.toNat ^^^ 2 ^ k = b.toNat ^^^ 0 := by rw [h2, Nat.xor_zero]
    exact xor_cancel_l h4
  have := Nat.two_pow_pos k
  omega

/-- The word that is told: all bits turned. -/
theorem not_inj {x y : Nat} (hx : x < 4294967296) (hy : y < 4294967296) (h : 4294967295 - x = 4294967295 - y) : x = y := by omega
end Go.Proofs.YtlknhiihdejpeaaGreatDoor


namespace Go.Proofs.YtlknhiihdejpeaaGreatDoor
open Go Go.RowKit

theorem nat_not32 (n : Nat) (h : n < 4294967296) : 4294967295 ^^^ n = 4294967295 - n := by
  have h1 : (BitVec.allOnes 32 ^^^ BitVec.ofNat 32 n) = ~~~ BitVec.ofNat 32 n := BitVec.allOnes_xor
  have h2 := congrArg BitVec.toNat h1
  rw [BitVec.toNat_xor, BitVec.toNat_not, BitVec.toNat_allOnes, BitVec.toNat_ofNat, Nat.mod_eq_of_lt (by omega)] at h2
  exact h2
/-- All bits turned, as the walk spells it. -/
theorem u32_not (n : Nat) (h : n < 4294967296) : bits .xor .u32 IntKind.u32.max (n : Int) = ((4294967295 - n : Nat) : Int) := by
  have := u32_xor_nat 4294967295 n (by omega) h
  rw [nat_not32 n h] at this
  exact this
theorem u32_not_not (n : Nat) (h : n < 4294967296) : bits .xor .u32 IntKind.u32.max ((4294967295 - n : Nat) : Int) = (n : Int) := by
  rw [u32_not _ (by omega)]; congr 1; omega

/-- An Adler's two numbers. -/
def adOf (l : List UInt8) : Nat × Nat := adList (1, 0) l
/-- An Adler at block g of which l has been written: its low number is kept less one. -/
def Adl (w : World) (g : Nat) (l : List UInt8) : Prop := ∃ a : Nat, a < 65521 ∧ (a + 1) % 65521 = (adOf l).1 ∧ Has w g 90 #[.int .u32 (a : Int), .int .u32 ((adOf l).2 : Int)]


theorem newAdler_any (w : World) : Calls Tryz.prog 20 #[] w fun e w' => ∃ g, e = .returned (.pointer (some ⟨g, 0, none⟩)) ∧ w.heap.size ≤ g ∧ Adl w' g [] ∧ Only [] w w' := by
  go_enter Tryz.func20, Tryz.ntmps20
  go_wp2
  go_ret
  exact ⟨_, rfl, Nat.le_refl _, ⟨0, by omega, rfl, Has.new w _ _⟩, (Only.refl [] w).alloc _⟩


theorem adOf_lt (l : List UInt8) : (adOf l).1 < 65521 ∧ (adOf l).2 < 65521 := adList_lt (by decide) l

theorem adlerSum_any (g : Nat) (l : List UInt8) (w : World) (h : Adl w g l) :
    Calls Tryz.prog 134 #[.pointer (some ⟨g, 0, none⟩)] w fun e w' => e = .returned (.int .u32 ((adWord (adOf l) : Nat) : Int)) ∧ ∃ m, w' = w.drewN m := by
  obtain ⟨a, ha, ha2, h⟩ := h
  have c0 : w.cell? ⟨g, 0, none⟩ = some (.int .u32 (a : Int)) := h.cell 0
  have c1 : w.cell? ⟨g, 1, none⟩ = some (.int .u32 ((adOf l).2 : Int)) := h.cell 1
  have hl := adOf_lt l
  have hw : adWord (adOf l) = (adOf l).2 * 65536 + (adOf l).1 := rfl
  rw [hw, ← ha2]
  clear h hw ha2
  obtain ⟨_, hl⟩ := hl
  generalize (adOf l).2 = t at *
  go_enter Tryz.func134, Tryz.ntmps134
  go_wp2
  go_quiet (fail)
  go_wp2
  go_ret
  refine ⟨ret_int ?_, _, rfl⟩
  have h2 : (a + 1) % 65521 < 2 ^ 16 := by omega
  have e := u32_join ((a + 1) % 65521) t 16 h2 (by omega)
  rw [u32_or_nat _ _ (by omega) (by omega)] at e
  have e1 : ((t : Int) * 65536) = ((t * 2 ^ 16 : Nat) : Int) := by omega
  have e2 : ((a : Int) + 1) % 65521 = (((a + 1) % 65521 : Nat) : Int) := by omega
  rw [e1, e2, u32_or_nat _ _ (by omega) (by omega), Nat.or_comm, e]
  omega
end Go.Proofs.YtlknhiihdejpeaaGreatDoor

