/-
  What every law's proof ends with: true is told, every argument reads as it did, of what was there nothing has turned. | Arguments opened: slices of bytes and of ints that came in, nil or not. | Plain facts on bytes as one number, the first byte the lowest. | Plain facts on the model's integers: masks, shifts, joins. |  | 
-/
import Derived.Test.YtopjkmobnmaaaaaDoorRows
import Derived.Test.YtopjkmobnmaaaaaDoorMem
import Derived.ProofKit
import Derived.OpenShut
import Derived.Laws.Bits64b
import Derived.Laws.BitsAllLaws
import Derived.Laws.Bits128
import Derived.IntWalk
import Derived.Test.YtopjkmobnmaaaaaDoorProg
import Derived.Deep.QuietTactic
import Derived.BigQuiet
namespace Go.Proofs.YtopjkmobnmaaaaaDoor
open Go Go.RowKit Go.ChangeShapes Go.WideShapes Go.ChangeAt

theorem own_knob : ownKnob Tryd.prog.godebug = none := by kernel_rfl
theorem laid_out : laidOutB Tryd.prog = true := by kernel_rfl

section
variable {H : Type} {enc : TypeId × Value → H}

/-- All arguments at once: they read as they did. -/
theorem all_stay {W W' : World} (hb : Below W.heap.size W W') : ∀ (ts : List TypeId) (vs : List Value) (ds : List (DataW H)) (ps : List MemPlace),
    (∀ t ∈ ts, Tryd.prog.readableRec t = true ∧ t < Tryd.prog.types.size) → DataW.TrodAll enc Tryd.prog W 0 (fun _ => true) true ts vs ds ps → (∀ x ∈ ps, x.block < W.heap.size) →
    DataW.TrodAll enc Tryd.prog W' 0 (fun b => decide (b < W.heap.size)) true ts vs ds ps
  | [], vs, ds, ps, _, h, _ => by
    obtain ⟨rfl, rfl, rfl⟩ := trodAll_nil h
    exact trodAll_mk0
  | t :: ts, vs, ds, ps, hr, h, hlt => by
    obtain ⟨v, vs', d, ds', p, q, rfl, rfl, rfl, h0, h1⟩ := trodAll_cons h
    have ht := hr t (by simp)
    exact trodAll_cons_mk (Below.trod laid_out ht.1 ht.2 h0 hb (fun x hx => hlt x (by simp [hx])))
      (all_stay hb ts vs' ds' q (fun t ht => hr t (by simp [ht])) h1 (fun x hx => hlt x (by simp [hx])))

theorem law_post {f : Func} {s : ChangeSpec} {W W' : World} {args : Array Value} {ds gs : List (DataW H)} {before : List MemPlace} (hvars : s.vars = [])
    (hW : DataW.Whole enc Tryd.prog f.params.toList s.vars false W args.toList ds gs before) (hr : ∀ t ∈ f.params.toList, Tryd.prog.readableRec t = true ∧ t < Tryd.prog.types.size)
    (hspec : s.fn H (ds ++ []) = { results := [.lit (.bool true)], args := ds }) (hres : f.resultTypes = #[4]) (ho : Only [] W W') :
    s.post enc Tryd.prog f false true false false W args (.bool true) W' := by
  have hb := ho.below
  have hW' := hW
  obtain ⟨p, q, hA, hV, rfl, hfz, hnd⟩ := hW
  rw [hvars] at hV
  obtain ⟨rfl, rfl⟩ := trodVars_none hV
  refine ⟨ds, [], p ++ [], [], p, [], hW', ?_, ?_, ?_, hb.frame _, fun h => by cases h⟩
  · rw [hspec, hres]
    exact trodAll_mk1 (shut_bool Tryd.underlying4 true)
  · rw [hspec]
    refine all_stay hb _ _ _ _ hr hA (fun x hx => hW'.lt x (by simp [hx]))
  · rw [hspec, hvars]
    rfl
end
end Go.Proofs.YtopjkmobnmaaaaaDoor


namespace Go.Proofs.YtopjkmobnmaaaaaDoor
open Go Go.RowKit Go.ChangeShapes Go.WideShapes Go.ChangeAt

section
variable {H : Type} {enc : TypeId × Value → H} {W : World}

theorem wf_i64 {z : Int} (h : (Lit.int .i64 z).wf = true) : -9223372036854775808 ≤ z ∧ z ≤ 9223372036854775807 := by
  simpa [Lit.wf, IntKind.min, IntKind.max, IntKind.signed, IntKind.bits] using h
theorem wf_u8 {z : Int} (h : (Lit.int .u8 z).wf = true) : 0 ≤ z ∧ z ≤ 255 := by
  simpa [Lit.wf, IntKind.min, IntKind.max, IntKind.signed, IntKind.bits] using h
theorem wf_u32 {z : Int} (h : (Lit.int .u32 z).wf = true) : 0 ≤ z ∧ z ≤ 4294967295 := by
  simpa [Lit.wf, IntKind.min, IntKind.max, IntKind.signed, IntKind.bits] using h

set_option maxRecDepth 100000 in
/-- A slice of one kind of integers that came in. -/
theorem open_nums {t e : TypeId} {k : IntKind} {r : Reach} {b0 : Nat} {v : Value} {d : DataW H} {p : List MemPlace} (ht : Tryd.prog.underlying t = some (.slice e)) (he : Tryd.prog.underlying e = some (.int k)) (hc : Tryd.prog.cellsOf e = 1)
    (hval : Value.okWide Tryd.prog W r b0 t v) (h : DataW.Trod enc Tryd.prog W 0 (fun _ => true) true t v d p) :
    ∃ (A : Option Addr) (n c : Nat) (zs : List Int), v = .slice A n c ∧ n ≤ c ∧ c ≤ maxLen ∧ (A = none → c = 0 ∧ n = 0) ∧ zs.length = n ∧ Holds W 1 A n (zs.map (Value.int k)) ∧ ∀ z ∈ zs, (Lit.int k z).wf = true := by
  obtain ⟨a0, len, cap, rfl⟩ := okWide_slice ht hval
  obtain ⟨fuel, hf⟩ := h
  rcases open_ints ht he hc hf with ⟨hcs, hx⟩ | ⟨a, len', cap', zs, hcs, _, hl, hm, hz, hx, hcell, hwz⟩
  · simp [Value.cells] at hcs
    obtain ⟨rfl, rfl, rfl⟩ := hcs
    exact ⟨none, 0, 0, [], rfl, Nat.le_refl _, by simp [maxLen], fun _ => ⟨rfl, rfl⟩, rfl, Holds.empty _ _ _, by simp⟩
  · simp [Value.cells] at hcs
    obtain ⟨rfl, rfl, rfl⟩ := hcs
    have hzl : zs.length = cap := by simpa using hz
    refine ⟨some a, len, cap, zs.take len, rfl, hl, hm, by simp, by rw [List.length_take]; omega, ⟨by simp; omega, fun hp => ⟨a, rfl, ?_, fun j u hu => ?_⟩⟩, fun z hz => hwz z (List.mem_of_mem_take hz)⟩
    · have h0 := hcell 0 (by omega)
      have := World.block_lt_of_cell? W (a.add 0) h0
      rwa [add_block] at this
    · have hj : j < len := by
        have := (List.getElem?_eq_some_iff.1 hu).1
        simp at this; omega
      rw [hcell j (by omega)]
      rw [← hu]
      simp [hj, List.getElem?_eq_getElem (show j < zs.length by omega)]

set_option maxRecDepth 100000 in
theorem open_bytes {t e : TypeId} {r : Reach} {b0 : Nat} {v : Value} {d : DataW H} {p : List MemPlace} (ht : Tryd.prog.underlying t = some (.slice e)) (he : Tryd.prog.underlying e = some (.int .u8)) (hc : Tryd.prog.cellsOf e = 1)
    (hval : Value.okWide Tryd.prog W r b0 t v) (h : DataW.Trod enc Tryd.prog W 0 (fun _ => true) true t v d p) :
    ∃ (A : Option Addr) (n c : Nat) (l : List UInt8), v = .slice A n c ∧ n ≤ c ∧ c ≤ maxLen ∧ (A = none → c = 0 ∧ n = 0) ∧ l.length = n ∧ Holds W 1 A n (bvals l) := by
  obtain ⟨A, n, c, zs, rfl, h1, h2, h3, h4, h5, h6⟩ := open_nums ht he hc hval h
  refine ⟨A, n, c, zs.map fun z => UInt8.ofNat z.toNat, rfl, h1, h2, h3, by simpa using h4, ?_⟩
  have e : bvals (zs.map fun z => UInt8.ofNat z.toNat) = zs.map (Value.int .u8) := by
    unfold bvals
    rw [List.map_map]
    refine List.map_congr_left fun z hz => ?_
    have := wf_u8 (h6 z hz)
    simp; omega
  rw [e]; exact h5
end
end Go.Proofs.YtopjkmobnmaaaaaDoor


namespace Go.Proofs.YtopjkmobnmaaaaaDoor
open Go

def num : List UInt8 → Nat
  | [] => 0
  | b :: r => b.toNat + 256 * num r

theorem num_lt (l : List UInt8) : num l < 256 ^ l.length := by
  induction l with
  | nil => simp [num]
  | cons b r ih =>
    have hb := b.toNat_lt
    rw [num, List.length_cons, Nat.pow_succ]
    omega

theorem num_append (l m : List UInt8) : num (l ++ m) = num l + 256 ^ l.length * num m := by
  induction l with
  | nil => simp [num]
  | cons b r ih =>
    rw [List.cons_append, num, ih, num, List.length_cons, Nat.pow_succ, Nat.mul_add, Nat.mul_comm (256 ^ r.length) 256, Nat.mul_assoc]
    omega

theorem num_drop (l : List UInt8) (k : Nat) : num (l.drop k) = num l / 256 ^ k := by
  induction l generalizing k with
  | nil => simp [num]
  | cons b r ih =>
    have hb := b.toNat_lt
    cases k with
    | zero => simp
    | succ k =>
      rw [List.drop_succ_cons, ih, num, Nat.pow_succ, Nat.mul_comm (256 ^ k) 256, ← Nat.div_div_eq_div_mul]
      congr 1; omega

theorem num_take (l : List UInt8) (k : Nat) : num (l.take k) = num l % 256 ^ k := by
  induction l generalizing k with
  | nil => simp [num]
  | cons b r ih =>
    have hb := b.toNat_lt
    cases k with
    | zero => simp [num, Nat.mod_one]
    | succ k =>
      rw [List.take_succ_cons, num, ih, num, Nat.pow_succ, Nat.mul_comm (256 ^ k) 256, Nat.mod_mul]
      have h1 : (b.toNat + 256 * num r) % 256 = b.toNat := by omega
      have h2 : (b.toNat + 256 * num r) / 256 = num r := by omega
      rw [h1, h2]

theorem num_inj {l m : List UInt8} (h : l.length = m.length) (hn : num l = num m) : l = m := by
  induction l generalizing m with
  | nil => cases m with
    | nil => rfl
    | cons _ _ => simp at h
  | cons b r ih => cases m with
    | nil => simp at h
    | cons c s =>
      have hb := b.toNat_lt
      have hc := c.toNat_lt
      simp only [num] at hn
      have h1 : b.toNat = c.toNat := by omega
      have h2 : num r = num s := by omega
      rw [ih (by simpa using h) h2, UInt8.toNat_inj.1 h1]

theorem num_snoc (l : List UInt8) (b : UInt8) : num (l ++ [b]) = num l + 256 ^ l.length * b.toNat := by
  rw [num_append]; simp [num]

theorem pow_256 (k : Nat) : 256 ^ k = 2 ^ (8 * k) := by rw [Nat.pow_mul]

theorem num_get (l : List UInt8) (i : Nat) (h : i < l.length) : l[i].toNat = num l / 256 ^ i % 256 := by
  have h1 := num_take (l.drop i) 1
  rw [num_drop] at h1
  rw [List.drop_eq_getElem_cons h, List.take_succ_cons, List.take_zero] at h1
  simpa [num] using h1

/-- One bit of the bytes. -/
theorem num_bit (l : List UInt8) (i : Nat) (h : i / 8 < l.length) : l[i / 8].toNat / 2 ^ (i % 8) % 2 = num l / 2 ^ i % 2 := by
  have e : 2 ^ i = 256 ^ (i / 8) * 2 ^ (i % 8) := by
    rw [pow_256, ← Nat.pow_add]; congr 1; omega
  have h8 : 256 = 2 ^ (i % 8) * 2 ^ (8 - i % 8) := by
    rw [← Nat.pow_add, show i % 8 + (8 - i % 8) = 8 from by omega]
  have h9 : 2 ^ (8 - i % 8) = 2 * 2 ^ (7 - i % 8) := by
    rw [show 8 - i % 8 = (7 - i % 8) + 1 from by omega, Nat.pow_succ]; omega
  rw [num_get l _ h, e, ← Nat.div_div_eq_div_mul]
  generalize num l / 256 ^ (i / 8) = x
  rw [h8, Nat.mod_mul_right_div_self, h9, Nat.mod_mul_right_mod]

theorem mod_div_mod (x a r n : Nat) (h : r + n ≤ a) : x % 2 ^ a / 2 ^ r % 2 ^ n = x / 2 ^ r % 2 ^ n := by
  have e : 2 ^ a = 2 ^ r * 2 ^ (a - r) := by rw [← Nat.pow_add]; congr 1; omega
  have e2 : 2 ^ (a - r) = 2 ^ n * 2 ^ (a - r - n) := by rw [← Nat.pow_add]; congr 1; omega
  rw [e, Nat.mod_mul_right_div_self, e2, Nat.mod_mul_right_mod]

/-- The n bits from place k on. -/
def bitsOf (N k n : Nat) : Nat := N / 2 ^ k % 2 ^ n

theorem bitsOf_lt (N k n : Nat) : bitsOf N k n < 2 ^ n := Nat.mod_lt _ (Nat.two_pow_pos n)
theorem bitsOf_lt32 (N k n : Nat) (h : n ≤ 32) : bitsOf N k n < 4294967296 :=
  Nat.lt_of_lt_of_le (bitsOf_lt N k n) (Nat.pow_le_pow_right (n := 2) (by decide) h)
theorem bitsOf_zero (N k : Nat) : bitsOf N k 0 = 0 := by simp [bitsOf, Nat.mod_one]
theorem bitsOf_succ (N k n : Nat) : bitsOf N k (n + 1) = bitsOf N k n + 2 ^ n * (N / 2 ^ (k + n) % 2) := by
  unfold bitsOf
  rw [Nat.pow_succ, Nat.mod_mul, Nat.div_div_eq_div_mul, ← Nat.pow_add]

/-- The bits as they stand in the bytes that hold them. -/
theorem bitsOf_cut (l : List UInt8) (k n f p : Nat) (hf : f = k / 8) (hp : p = (k + n + 7) / 8) :
    bitsOf (num ((l.drop f).take (p - f))) (k % 8) n = bitsOf (num l) k n := by
  have e : 2 ^ k = 256 ^ f * 2 ^ (k % 8) := by rw [pow_256, ← Nat.pow_add]; congr 1; omega
  unfold bitsOf
  rw [num_take, num_drop, e, ← Nat.div_div_eq_div_mul, pow_256 (p - f), mod_div_mod _ _ _ _ (by omega)]

theorem or_of_lt {a k : Nat} (h : a < 2 ^ k) (b : Nat) : a ||| b * 2 ^ k = a + b * 2 ^ k := by
  rw [Nat.mul_comm b, Nat.or_comm, ← Nat.two_pow_add_eq_or_of_lt h, Nat.add_comm]

end Go.Proofs.YtopjkmobnmaaaaaDoor


namespace Go.Proofs.YtopjkmobnmaaaaaDoor
open Go

theorem i64_and7 (n : Int) : bits .and .i64 n 7 = n % 8 := by
  have h7 : (BitVec.ofInt 64 7).toNat = 2 ^ 3 - 1 := by decide
  have key : (BitVec.ofInt 64 n &&& BitVec.ofInt 64 7).toNat = (n % ((2 ^ 64 : Nat) : Int)).toNat % 2 ^ 3 := by
    rw [BitVec.toNat_and, BitVec.toNat_ofInt, h7, Nat.and_two_pow_sub_one_eq_mod]
  show IntKind.i64.wrap ((BitVec.ofInt 64 n &&& BitVec.ofInt 64 7).toNat : Nat) = n % 8
  rw [key, IntKind.wrap_i64]
  omega

theorem two_pow_cast (n : Nat) : ((2 ^ n : Nat) : Int) = 2 ^ n := Int.natCast_pow 2 n

theorem pow_le32 {n : Nat} (h : n ≤ 32) : 2 ^ n ≤ 4294967296 := Nat.pow_le_pow_right (n := 2) (by decide) h
theorem pow_le63 {n : Nat} (h : n ≤ 63) : 2 ^ n ≤ 9223372036854775808 := Nat.pow_le_pow_right (n := 2) (by decide) h

theorem u64_low (v n : Nat) (hv : v < 18446744073709551616) (hn : n ≤ 32) :
    bits .and .u64 (v : Int) (IntKind.u64.wrap (IntKind.u64.wrap (2 ^ n) - 1)) = ((v % 2 ^ n : Nat) : Int) := by
  have hp := pow_le32 hn
  have h1 : 1 ≤ 2 ^ n := Nat.one_le_two_pow
  have e : IntKind.u64.wrap (IntKind.u64.wrap (2 ^ n) - 1) = ((2 ^ n - 1 : Nat) : Int) := by
    rw [← two_pow_cast]
    have e1 : IntKind.u64.wrap ((2 ^ n : Nat) : Int) = ((2 ^ n : Nat) : Int) := IntWalk.u64_in _ ⟨by omega, by omega⟩
    rw [e1, IntWalk.u64_in _ ⟨by omega, by omega⟩]
    omega
  rw [e, u64_and_nat _ _ hv (by omega), Nat.and_two_pow_sub_one_eq_mod]

theorem u32_low (v n : Nat) (hv : v < 4294967296) (hn : n < 32) :
    bits .and .u32 (v : Int) (IntKind.u32.wrap (IntKind.u32.wrap (2 ^ n) - 1)) = ((v % 2 ^ n : Nat) : Int) := by
  have hp : 2 ^ n ≤ 2147483648 := Nat.pow_le_pow_right (n := 2) (i := n) (j := 31) (by omega) (by omega)
  have h1 : 1 ≤ 2 ^ n := Nat.one_le_two_pow
  have e : IntKind.u32.wrap (IntKind.u32.wrap (2 ^ n) - 1) = ((2 ^ n - 1 : Nat) : Int) := by
    rw [← two_pow_cast]
    have e1 : IntKind.u32.wrap ((2 ^ n : Nat) : Int) = ((2 ^ n : Nat) : Int) := IntWalk.u32_in _ ⟨by omega, by omega⟩
    rw [e1, IntWalk.u32_in _ ⟨by omega, by omega⟩]
    omega
  rw [e, u32_and_nat _ _ hv (by omega), Nat.and_two_pow_sub_one_eq_mod]

theorem u32_low' (v n : Nat) (hv : v < 4294967296) (hn : n < 32) :
    bits .and .u32 (v : Int) ((2 ^ n - 1) % 4294967296) = ((v % 2 ^ n : Nat) : Int) := by
  have hp : 2 ^ n ≤ 2147483648 := Nat.pow_le_pow_right (n := 2) (i := n) (j := 31) (by omega) (by omega)
  have h1 : 1 ≤ 2 ^ n := Nat.one_le_two_pow
  have e : ((2 : Int) ^ n - 1) % 4294967296 = ((2 ^ n - 1 : Nat) : Int) := by
    rw [← two_pow_cast]; omega
  rw [e, u32_and_nat _ _ hv (by omega), Nat.and_two_pow_sub_one_eq_mod]

/-- A number laid above another: or is plus. -/
theorem u64_join (a b k : Nat) (ha : a < 2 ^ k) (hs : a + b * 2 ^ k < 18446744073709551616) :
    bits .or .u64 (a : Int) ((b * 2 ^ k : Nat) : Int) = ((a + b * 2 ^ k : Nat) : Int) := by
  rw [u64_or_nat _ _ (by omega) (by omega), or_of_lt ha]
theorem u32_join (a b k : Nat) (ha : a < 2 ^ k) (hs : a + b * 2 ^ k < 4294967296) :
    bits .or .u32 (a : Int) ((b * 2 ^ k : Nat) : Int) = ((a + b * 2 ^ k : Nat) : Int) := by
  rw [u32_or_nat _ _ (by omega) (by omega), or_of_lt ha]

theorem pow_le40 {n : Nat} (h : n ≤ 40) : 2 ^ n ≤ 1099511627776 := Nat.pow_le_pow_right (n := 2) (by decide) h

/-- One byte more laid above the bytes so far. -/
theorem u64_byte (l : List UInt8) (j : Nat) (hj : j < 5) (hl : j < l.length) :
    bits .or .u64 (num (l.take j) : Nat) (IntKind.u64.wrap (IntKind.u64.wrap (l[j].toNat : Int) * 2 ^ (8 * j))) = (num (l.take (j + 1)) : Nat) := by
  have hb := l[j].toNat_lt
  have hp : 2 ^ (8 * (j + 1)) ≤ 1099511627776 := pow_le40 (by omega)
  have hq : 2 ^ (8 * (j + 1)) = 256 * 2 ^ (8 * j) := by rw [show 8 * (j + 1) = 8 * j + 8 from by omega, Nat.pow_add]; omega
  have hlen : (l.take j).length = j := by simp; omega
  have hn : num (l.take j) < 2 ^ (8 * j) := by have := num_lt (l.take j); rwa [hlen, pow_256] at this
  have hm : l[j].toNat * 2 ^ (8 * j) ≤ 255 * 2 ^ (8 * j) := Nat.mul_le_mul_right _ (by omega)
  have hs : num (l.take (j + 1)) = num (l.take j) + l[j].toNat * 2 ^ (8 * j) := by
    rw [List.take_succ_eq_append_getElem hl, num_snoc, hlen, pow_256, Nat.mul_comm]
  have e1 : IntKind.u64.wrap (l[j].toNat : Int) = (l[j].toNat : Int) := IntWalk.u64_in _ ⟨by omega, by omega⟩
  have e2 : IntKind.u64.wrap ((l[j].toNat : Int) * 2 ^ (8 * j)) = ((l[j].toNat * 2 ^ (8 * j) : Nat) : Int) := by
    rw [← two_pow_cast, ← Int.natCast_mul]; exact IntWalk.u64_in _ ⟨by omega, by omega⟩
  rw [e1, e2, u64_join _ _ _ hn (by omega), hs]

theorem ret_int {k : IntKind} {a b : Int} (h : a = b) : Ending.returned (.int k a) = .returned (.int k b) := by rw [h]
theorem ret_int_bool {k : IntKind} {a b : Int} {c d : Bool} (h : a = b) (h' : c = d) :
    Ending.returned (.tuple #[.int k a, .bool c]) = .returned (.tuple #[.int k b, .bool d]) := by rw [h, h']
theorem ret_bool {a b : Bool} (h : a = b) : Ending.returned (.bool a) = .returned (.bool b) := by rw [h]

end Go.Proofs.YtopjkmobnmaaaaaDoor


namespace Go.Proofs.YtopjkmobnmaaaaaDoor
open Go Go.RowKit

set_option maxHeartbeats 400000 in
theorem lowest_any (v : Int) (V n : Nat) (w : World) (hV : v = V) (hv : V < 18446744073709551616) (hn : n ≤ 32) :
    Calls Tryd.prog 34 #[.int .u64 v, .int .i64 n] w fun e w' => e = .returned (.int .u64 ((V % 2 ^ n : Nat) : Int)) ∧ w = w' := by
  subst hV
  go_enter Tryd.func34, Tryd.ntmps34
  go_wp2
  go_ret
  exact ⟨ret_int (u64_low V n hv hn), rfl⟩

set_option maxHeartbeats 400000 in
theorem at_any (g : Nat) (v : Value) (k : Int) (w : World) (h : Has w g 133 #[v, .int .i64 k]) :
    Calls Tryd.prog 59 #[.pointer (some ⟨g, 0, none⟩)] w fun e w' => e = .returned (.int .i64 k) ∧ w = w' := by
  have c1 : w.cell? ⟨g, 1, none⟩ = some (.int .i64 k) := h.cell 1
  have c0 : w.cell? ⟨g, 0, none⟩ = some v := h.cell 0
  clear h
  go_enter Tryd.func59, Tryd.ntmps59
  go_wp2
  go_ret
  exact ⟨rfl, rfl⟩

set_option maxHeartbeats 400000 in
theorem left_any (g n c : Nat) (A : Option Addr) (k : Nat) (w : World) (h : Has w g 133 #[.slice A n c, .int .i64 k]) (hn : n ≤ 140737488355328) (hk : k ≤ 8 * n) :
    Calls Tryd.prog 63 #[.pointer (some ⟨g, 0, none⟩)] w fun e w' => e = .returned (.int .i64 ((8 * n - k : Nat) : Int)) ∧ ∃ m, w' = w.drewN m := by
  have c1 : w.cell? ⟨g, 1, none⟩ = some (.int .i64 (k : Int)) := h.cell 1
  have c0 : w.cell? ⟨g, 0, none⟩ = some (.slice A n c) := h.cell 0
  clear h
  go_enter Tryd.func63, Tryd.ntmps63
  go_wp2
  go_quiet (fail)
  go_wp2
  go_ret
  exact ⟨ret_int (by omega), _, rfl⟩

set_option maxHeartbeats 400000 in
/-- Peek, where it answers no. -/
theorem peek_no (g len c : Nat) (A : Option Addr) (k : Nat) (n : Int) (w : World) (h : Has w g 133 #[.slice A len c, .int .i64 k]) (hl : len ≤ 140737488355328) (hk : k ≤ 8 * len)
    (hn : n < 0 ∨ 32 < n ∨ (8 * len - k : Nat) < n) :
    Calls Tryd.prog 61 #[.pointer (some ⟨g, 0, none⟩), .int .i64 n] w fun e w' => e = .returned (.tuple #[.int .u32 0, .bool false]) ∧ ∃ m, w' = w.drewN m := by
  by_cases h1 : n < 0
  · go_enter Tryd.func61, Tryd.ntmps61
    go_wp2
    go_ret2
    exact ⟨rfl, 0, rfl⟩
  · by_cases h2 : 32 < n
    · go_enter Tryd.func61, Tryd.ntmps61
      go_wp2
      go_ret2
      exact ⟨rfl, 0, rfl⟩
    · have h3 : ((8 * len - k : Nat) : Int) < n := by omega
      go_enter Tryd.func61, Tryd.ntmps61
      go_wp2_with fail
      refine (left_any g len c A k _ h hl hk).mono ?_
      rintro e w' ⟨rfl, m, rfl⟩
      go_wp2
      go_ret2
      exact ⟨rfl, m, rfl⟩
end Go.Proofs.YtopjkmobnmaaaaaDoor


namespace Go.Proofs.YtopjkmobnmaaaaaDoor
open Go Go.RowKit

set_option maxHeartbeats 1000000 in
theorem peek_yes (g len c gb off : Nat) (l : List UInt8) (k n : Nat) (w : World) (h : Has w g 133 #[.slice (some ⟨gb, off, none⟩) len c, .int .i64 k])
    (hlen : l.length = len) (hl : len ≤ 140737488355328) (hc : len ≤ c)
    (hcell : ∀ i, (hi : i < l.length) → w.cell? ⟨gb, off + i, none⟩ = some (.int .u8 (l[i].toNat : Int)))
    (hn : n ≤ 32) (hk : k + n ≤ 8 * len) (hz : ¬ (k + n + 7) / 8 = k / 8) :
    Calls Tryd.prog 61 #[.pointer (some ⟨g, 0, none⟩), .int .i64 n] w fun e w' =>
      e = .returned (.tuple #[.int .u32 (bitsOf (num l) k n : Nat), .bool true]) ∧ ∃ m, w' = w.drewN m := by
  have c1 : w.cell? ⟨g, 1, none⟩ = some (.int .i64 (k : Int)) := h.cell 1
  have c0 : w.cell? ⟨g, 0, none⟩ = some (.slice (some ⟨gb, off, none⟩) len c) := h.cell 0
  have h3 : ¬ ((8 * len - k : Nat) : Int) < n := by omega
  clear h3
  go_enter Tryd.func61, Tryd.ntmps61
  go_wp2_with fail
  refine (left_any g len c _ k _ h hl (by omega)).mono ?_
  rintro e w' ⟨rfl, m, rfl⟩
  go_wp2
  go_quiet (fail)
  go_wp2
  go_loop [8, 9, 10, 45] (fun v _ _ i => ∃ j : Nat, j ≤ (k + n + 7) / 8 - k / 8 ∧ i = .int .i64 j ∧ v = .int .u64 (num ((l.drop (k / 8)).take j) : Nat)) (fun _ _ _ i => (k + n + 7) / 8 - k / 8 - (intOf i).toNat)
  case atStart => exact ⟨0, Nat.zero_le _, rfl, rfl⟩
  case round =>
    obtain ⟨j, hj, rfl, rfl⟩ := hrel
    by_cases hlt : j < (k + n + 7) / 8 - k / 8
    · have hce : w.cell? ⟨gb, off + k / 8 + j, none⟩ = some (.int .u8 ((l[k / 8 + j]'(by omega)).toNat : Int)) := by
        rw [Nat.add_assoc]; exact hcell _ (by omega)
      have hst := u64_byte (l.drop (k / 8)) j (by omega) (by rw [List.length_drop]; omega)
      rw [List.getElem_drop] at hst
      have Hst := hide hst
      clear hst
      go_wp2
      go_round
      case rel => exact ⟨j + 1, hlt, by go_num, by rw [Hst.out]⟩
      case measure => simp [intOf]; omega
    · obtain rfl : j = (k + n + 7) / 8 - k / 8 := by omega
      clear hlt
      have e7 : bits BinOp.and IntKind.i64 (k : Int) 7 = ((k % 8 : Nat) : Int) := by rw [i64_and7]; rfl
      have hb := num_lt ((l.drop (k / 8)).take ((k + n + 7) / 8 - k / 8))
      have hl5 : ((l.drop (k / 8)).take ((k + n + 7) / 8 - k / 8)).length ≤ 5 := by rw [List.length_take]; omega
      have hb5 : num ((l.drop (k / 8)).take ((k + n + 7) / 8 - k / 8)) < 1099511627776 :=
        Nat.lt_of_lt_of_le hb (by rw [pow_256]; exact pow_le40 (by omega))
      have hd := Nat.div_le_self (num ((l.drop (k / 8)).take ((k + n + 7) / 8 - k / 8))) (2 ^ (k % 8))
      obtain ⟨X, hX⟩ : ∃ X, X = bitsOf (num l) k n := ⟨_, rfl⟩
      have hlt : X < 4294967296 := by rw [hX]; exact bitsOf_lt32 _ _ _ hn
      have hcut : num ((l.drop (k / 8)).take ((k + n + 7) / 8 - k / 8)) / 2 ^ (k % 8) % 2 ^ n = X := by
        rw [hX]; exact bitsOf_cut l k n (k / 8) ((k + n + 7) / 8) rfl rfl
      have HX := hide hX
      clear hX
      generalize num ((l.drop (k / 8)).take ((k + n + 7) / 8 - k / 8)) = V at *
      have Hcut := hide hcut
      clear hcut hb hl5
      go_wp2_with fail
      refine (lowest_any _ (V / 2 ^ (k % 8)) n _ (by simp) (by omega) hn).mono ?_
      rintro e w' ⟨rfl, rfl⟩
      rw [Hcut.out]
      go_wp2
      go_ret2
      exact ⟨ret_int_bool (by rw [HX.out]) rfl, _, rfl⟩

set_option maxHeartbeats 1000000 in
theorem peek_zero (g len c : Nat) (A : Option Addr) (k : Nat) (w : World) (h : Has w g 133 #[.slice A len c, .int .i64 k])
    (hl : len ≤ 140737488355328) (hc : len ≤ c) (hA : A = none → c = 0) (hk : k ≤ 8 * len) (h8 : k % 8 = 0) :
    Calls Tryd.prog 61 #[.pointer (some ⟨g, 0, none⟩), .int .i64 0] w fun e w' =>
      e = .returned (.tuple #[.int .u32 0, .bool true]) ∧ ∃ m, w' = w.drewN m := by
  have c1 : w.cell? ⟨g, 1, none⟩ = some (.int .i64 (k : Int)) := h.cell 1
  have c0 : w.cell? ⟨g, 0, none⟩ = some (.slice A len c) := h.cell 0
  have hz : (k + 7) / 8 = k / 8 := by omega
  have e7 : bits BinOp.and IntKind.i64 (k : Int) 7 = 0 := by rw [i64_and7]; omega
  rcases A with _ | ad
  · obtain rfl := hA rfl
    obtain rfl : len = 0 := by omega
    obtain rfl : k = 0 := by omega
    clear hA e7
    have e7 : bits BinOp.and IntKind.i64 0 7 = 0 := i64_and7 0
    go_enter Tryd.func61, Tryd.ntmps61
    go_wp2_with fail
    refine (left_any g 0 0 none 0 _ h hl (by omega)).mono ?_
    rintro e w' ⟨rfl, m, rfl⟩
    go_wp2
    go_quiet (fail)
    go_wp2
    go_loop [8, 9, 10, 45] (fun v _ _ i => v = .int .u64 0 ∧ i = .int .i64 0) (fun _ _ _ _ => 0)
    case atStart => exact ⟨rfl, rfl⟩
    case round =>
      obtain ⟨rfl, rfl⟩ := hrel
      go_wp2_with fail
      refine (lowest_any _ 0 0 _ (by simp) (by omega) (by omega)).mono ?_
      rintro e w' ⟨rfl, rfl⟩
      go_wp2
      go_ret2
      exact ⟨rfl, _, rfl⟩
  · clear hA
    go_enter Tryd.func61, Tryd.ntmps61
    go_wp2_with fail
    refine (left_any g len c (some ad) k _ h hl (by omega)).mono ?_
    rintro e w' ⟨rfl, m, rfl⟩
    go_wp2
    go_quiet (fail)
    go_wp2
    go_loop [8, 9, 10, 45] (fun v _ _ i => v = .int .u64 0 ∧ i = .int .i64 0) (fun _ _ _ _ => 0)
    case atStart => exact ⟨rfl, rfl⟩
    case round =>
      obtain ⟨rfl, rfl⟩ := hrel
      go_wp2_with fail
      refine (lowest_any _ 0 0 _ (by simp) (by omega) (by omega)).mono ?_
      rintro e w' ⟨rfl, rfl⟩
      go_wp2
      go_ret2
      exact ⟨rfl, _, rfl⟩
end Go.Proofs.YtopjkmobnmaaaaaDoor

