/-
  What grows: a row of bytes of the call's own, and which blocks may have changed. | Symbols laid by their codes are read again, plainly. | Streams, plainly: where one stands in a stream, how it goes on, what a stored block says and one in fixed codes.
-/
import Derived.Test.YtlknhiihdejpeaaGreatDoorProg
import Derived.Test.YtlknhiihdejpeaaGreatDoorMMem
import Derived.Test.YtlknhiihdejpeaaGreatDoorMHufG
import Derived.Test.YtlknhiihdejpeaaGreatDoorMNum
namespace Go.Proofs.YtlknhiihdejpeaaGreatDoor
open Go Go.RowKit

/-- From w to w' only the blocks of S and v's own may have changed; v' is at v's block or at a new one. -/
structure Since (S : List Nat) (w : World) (v : Value) (w' : World) (v' : Value) : Prop where
  only : Only (S ++ v.ownBlock.toList) w w'
  own : ∀ b, v'.ownBlock = some b → v.ownBlock = some b ∨ w.heap.size ≤ b
namespace Since
variable {S : List Nat} {w w' w'' : World} {v v' v'' : Value}
theorem refl (S : List Nat) (w : World) (v : Value) : Since S w v w v := ⟨Only.refl _ _, fun _ h => .inl h⟩
theorem trans {T : List Nat} (h : Since S w v w' v') (k : Since T w' v' w'' v'') (hT : ∀ i, i ∈ T → i < w.heap.size → i ∈ S) : Since S w v w'' v'' := by
  refine ⟨h.only.trans k.only ?_, fun b hb => ?_⟩
  · intro i hi hlt
    rcases List.mem_append.1 hi with hi | hi
    · exact List.mem_append.2 (.inl (hT i hi hlt))
    · have hv : v'.ownBlock = some i := by cases hv : v'.ownBlock with
        | none => rw [hv] at hi; simp at hi
        | some j => rw [hv] at hi; simp at hi; rw [hi]
      rcases h.own i hv with h1 | h1
      · rw [h1]; simp
      · omega
  · rcases k.own b hb with h1 | h1
    · exact h.own b h1
    · exact .inr (Nat.le_trans h.only.size h1)
theorem step (h : Since S w v w' v') (ho : Only S w' w'') : Since S w v w'' v' :=
  h.trans (T := S) ⟨ho.weak (fun _ hk _ => List.mem_append.2 (.inl hk)), fun _ h => .inl h⟩ (fun _ h _ => h)
/-- The new row's world, by what append says. -/
theorem grown {o : Obj} (h : Since S w v w' v') (hg : (w'.alloc o).grownBy w'' v'.ownBlock) (hat : v''.ownBlock = v'.ownBlock ∨ v''.ownBlock = some (w'.alloc o).heap.size) : Since S w v w'' v'' := by
  refine h.trans (T := []) ⟨(((Only.refl _ w').alloc o).grown hg (fun _ hk _ => by simp [hk])), fun b hb => ?_⟩ (by simp)
  rcases hat with h | h
  · rw [h] at hb; exact .inl hb
  · rw [h] at hb; injection hb with hb; subst hb; right; simp
theorem grown0 (h : Since S w v w' v') (hg : w'.grownBy w'' v'.ownBlock) (hat : v''.ownBlock = v'.ownBlock ∨ v''.ownBlock = some w'.heap.size) : Since S w v w'' v'' := by
  refine h.trans (T := []) ⟨((Only.refl _ w').grown hg (fun _ hk _ => by simp [hk])), fun b hb => ?_⟩ (by simp)
  rcases hat with h | h
  · rw [h] at hb; exact .inl hb
  · rw [h] at hb; injection hb with hb; subst hb; right; simp
end Since


/-- 'append(s, b)' of one byte: the new row, what may have changed. -/
structure Pushed (wr : World) (B : Nat) (v : Value) (q : List UInt8) (b : UInt8) (w' : World) (v' : Value) : Prop where
  own : w'.ownsRow B 5 1 v' (q.length + 1) (bvals (q ++ [b]))
  since : ∀ S w0 v0, Since S w0 v0 wr v → Since S w0 v0 w' v'
  only : Only v.ownBlock.toList wr w'
theorem Pushed.has {wr w' : World} {B g : Nat} {v v' : Value} {q : List UInt8} {b : UInt8} {t : TypeId} {cs : Array Value} (h : Pushed wr B v q b w' v') (hg : Has wr g t cs) (hn : some g ≠ v.ownBlock) : Has w' g t cs :=
  hg.only h.only (fun hm => hn (by cases hv : v.ownBlock with
    | none => rw [hv] at hm; simp at hm
    | some k => rw [hv] at hm; simp at hm; rw [hm]))

theorem push_made {w w' : World} {A1 A2 : Option Addr} {n cc1 c2 B : Nat} {q : List UInt8} {b : UInt8} (hq : q.length = n)
    (hown : w'.ownsRow B 5 1 (.slice A2 (n + 1) c2) (n + 1) (bvals q ++ [.int .u8 (b.toNat : Int)])) {o : Obj} (hg : (w.alloc o).grownBy w' (Value.slice A1 n cc1).ownBlock)
    (hat : (Value.slice A2 (n + 1) c2).ownBlock = (Value.slice A1 n cc1).ownBlock ∨ (Value.slice A2 (n + 1) c2).ownBlock = some (w.alloc o).heap.size) :
    Pushed w B (.slice A1 n cc1) q b w' (.slice A2 (n + 1) c2) := by
  subst hq
  refine ⟨?_, fun S w0 v0 h => h.grown hg hat, ((Only.refl _ w).alloc o).grown hg (fun _ hk _ => by simp [hk])⟩
  rw [bvals_append]
  exact hown

/-- In a plain region's list. -/
theorem list_push {ops : Array Oper} {rest : List Oper} {o : Oper} {a : Act} {Q : Exit → Act → World → Prop} (hgd : o.guard = none) (s x : Operand)
    (ho : o.op = .call { callee := .builtin .append, args := #[s, x], argTypes := #[22, 22] }) (wr : World) {B : Nat} (hB : B ≤ wr.heap.size) {A1 : Option Addr} {n cc1 : Nat} {q : List UInt8} (b : UInt8) (hq : q.length = n)
    (hown : wr.ownsRow B 5 1 (.slice A1 n cc1) n (bvals q)) (hn : n + 1 ≤ 140737488355328) (g : Nat) (hg : g = wr.heap.size) (hs : a.eval s = .slice A1 n cc1) (hx : a.eval x = .slice (some ⟨g, 0, none⟩) 1 1)
    (h : ∀ A2 c2 w', Pushed wr B (.slice A1 n cc1) q b w' (.slice A2 (n + 1) c2) → wpList Tryz.prog ops Q rest (a.put o.dst (.slice A2 (n + 1) c2)) w') :
    wpList Tryz.prog ops Q (o :: rest) a (wr.alloc (.cells #[.int .u8 (b.toNat : Int)] 5)) := by
  subst hg
  obtain ⟨i0, hi0, hz0, hz1, hz2⟩ := info_of u8_info
  exact list_append _ hgd s x 22 ho B 1 1 Tryz.underlying22 hi0 hz0 hz1 hz2 rfl (Nat.zero_lt_one) (hown.alloc _) hs (Holds.lit wr #[.int .u8 (b.toNat : Int)] 5) hx (by simp [Value.oneCell']) (by simpa using hn) (Nat.zero_lt_one) (by simp; omega)
    fun A' c' w' h1 h2 h3 => h A' c' w' (push_made hq h1 h2 h3)
/-- At a step of a region that draws its order. -/
theorem step_push {ops : Array Oper} {o : Oper} {a : Act} {K : Act → World → Prop} {Q : Exit → Act → World → Prop} {E : Prop} (hgd : o.guard = none) (s x : Operand)
    (ho : o.op = .call { callee := .builtin .append, args := #[s, x], argTypes := #[22, 22] }) (wr : World) {B : Nat} (hB : B ≤ wr.heap.size) {A1 : Option Addr} {n cc1 : Nat} {q : List UInt8} (b : UInt8) (hq : q.length = n)
    (hown : wr.ownsRow B 5 1 (.slice A1 n cc1) n (bvals q)) (hn : n + 1 ≤ 140737488355328) (g : Nat) (hg : g = wr.heap.size) (hs : a.eval s = .slice A1 n cc1) (hx : a.eval x = .slice (some ⟨g, 0, none⟩) 1 1)
    (h : ∀ A2 c2 w', Pushed wr B (.slice A1 n cc1) q b w' (.slice A2 (n + 1) c2) → K (a.put o.dst (.slice A2 (n + 1) c2)) w') :
    if Region.wanted o (yielded ops a.tmps) = true then Oper.wp Tryz.prog o a (wr.alloc (.cells #[.int .u8 (b.toNat : Int)] 5)).drew K Q else E := by
  subst hg
  obtain ⟨i0, hi0, hz0, hz1, hz2⟩ := info_of u8_info
  exact step_append _ hgd s x 22 ho B 1 1 Tryz.underlying22 hi0 hz0 hz1 hz2 rfl (Nat.zero_lt_one) (hown.alloc _) hs (Holds.lit wr #[.int .u8 (b.toNat : Int)] 5) hx (by simp [Value.oneCell']) (by simpa using hn) (Nat.zero_lt_one) (by simp; omega)
    fun A' c' w' h1 h2 h3 => h A' c' w' (push_made hq h1 (o := .cells #[.int .u8 (b.toNat : Int)] 5) ⟨h2.os, h2.tape, h2.output, h2.size, h2.block⟩ h3)
end Go.Proofs.YtlknhiihdejpeaaGreatDoor


namespace Go.Proofs.YtlknhiihdejpeaaGreatDoor

theorem bc_div (N k j d : Nat) : bc N k (j + d) / 2 ^ d = bc N k j := by
  induction d with
  | zero => simp
  | succ d ih =>
    rw [← Nat.add_assoc, bc_succ, Nat.pow_succ, Nat.mul_comm (2 ^ d) 2, ← Nat.div_div_eq_div_mul]
    have h : N / 2 ^ (k + (j + d)) % 2 < 2 := Nat.mod_lt _ (by omega)
    rw [show (2 * bc N k (j + d) + N / 2 ^ (k + (j + d)) % 2) / 2 = bc N k (j + d) by omega, ih]
theorem rev_low_bits (v n : Nat) : rev (v % 2 ^ n) n = rev v n := by
  have h := rev_add_high (v % 2 ^ n) (v / 2 ^ n) n (Nat.mod_lt _ (Nat.two_pow_pos n))
  rw [← h]
  congr 1
  rw [Nat.mul_comm]
  exact Nat.mod_add_div v (2 ^ n)

theorem read_back {l : List UInt8} (hS : Sm (cn l) 16 ≤ 32768) (h15 : ∀ i, ln l i ≤ 15) {i N p left : Nat} (hi : ln l i ≠ 0) (hl : ln l i ≤ left) (hb : N / 2 ^ p % 2 ^ ln l i = rev (cd l i) (ln l i)) :
    readM l N p left = (i, 0, ln l i) := by
  have hcd := cd_lt hS hi (h15 i)
  have hrk := rk_lt hi
  have hc : cd l i = Fs (cn l) (ln l i) + rk l i (ln l i) := rfl
  have hpos : 0 < cn l (ln l i) := by omega
  have hL := Lg_ge (cn l) (n := 15) (by omega) (h15 i) hpos
  have hbc : bc N p (ln l i) = cd l i := by
    rw [bc_rev, ← rev_low_bits, hb, rev_rev, Nat.mod_eq_of_lt hcd]
  have hsy := sy_eq hi
  generalize ln l i = n at *
  have key : ∀ d j, j + d + 1 = n → scan l N p left (Lg (cn l) 15 - j) (j + 1) = (i, 0, n) := by
    intro d
    induction d with
    | zero =>
      intro j hj
      obtain ⟨r, hr⟩ : ∃ r, Lg (cn l) 15 - j = r + 1 := ⟨Lg (cn l) 15 - j - 1, by omega⟩
      have e : j + 1 = n := by omega
      rw [hr, e, scan_hit (by omega) (by rw [hbc]; omega), hbc, hc, Nat.add_sub_cancel_left, hsy]
    | succ d ih =>
      intro j hj
      obtain ⟨r, hr⟩ : ∃ r, Lg (cn l) 15 - j = r + 1 := ⟨Lg (cn l) 15 - j - 1, by omega⟩
      have hfar := Fs_far (cn l) (j + 1) d
      have e : j + 1 + d + 1 = n := by omega
      rw [e] at hfar
      have hdv := bc_div N p (j + 1) (d + 1)
      rw [← Nat.add_assoc, e, hbc] at hdv
      have hge : Fs (cn l) (j + 1) + cn l (j + 1) ≤ bc N p (j + 1) := by
        rw [← hdv, Nat.le_div_iff_mul_le (Nat.two_pow_pos _)]
        omega
      rw [hr, scan_next (by omega) (by omega)]
      have := ih (j + 1) (by omega)
      rw [show Lg (cn l) 15 - (j + 1) = r by omega] at this
      exact this
  have := key (n - 1) 0 (by omega)
  rw [Nat.sub_zero] at this
  exact this

/-- How many bits these symbols take. -/
def bitsL (l : List UInt8) : List Nat → Nat
  | [] => 0
  | k :: r => bitsL l r + ln l k
/-- Their bits as a number; the list's head is the last. -/
def bitsN (l : List UInt8) : List Nat → Nat
  | [] => 0
  | k :: r => bitsN l r + rev (cd l k) (ln l k) * 2 ^ bitsL l r
theorem bitsN_lt (l : List UInt8) (r : List Nat) : bitsN l r < 2 ^ bitsL l r := by
  induction r with
  | nil => exact Nat.one_pos
  | cons k r ih =>
    show bitsN l r + rev (cd l k) (ln l k) * 2 ^ bitsL l r < 2 ^ (bitsL l r + ln l k)
    have h := rev_lt (cd l k) (ln l k)
    rw [Nat.pow_add]
    have h2 : (rev (cd l k) (ln l k) + 1) * 2 ^ bitsL l r ≤ 2 ^ ln l k * 2 ^ bitsL l r := Nat.mul_le_mul_right _ h
    rw [Nat.add_mul, Nat.one_mul, Nat.mul_comm (2 ^ ln l k)] at h2
    omega
theorem bitsL_le {l : List UInt8} (h15 : ∀ i, ln l i ≤ 15) (r : List Nat) : bitsL l r ≤ 15 * r.length := by
  induction r with
  | nil => exact Nat.le_refl _
  | cons k r ih => show bitsL l r + ln l k ≤ _; have := h15 k; rw [List.length_cons]; omega
theorem bitsL_append (l : List UInt8) (a b : List Nat) : bitsL l (a ++ b) = bitsL l b + bitsL l a := by
  induction a with
  | nil => rfl
  | cons k a ih => show bitsL l (a ++ b) + ln l k = bitsL l b + (bitsL l a + ln l k); rw [ih]; omega
theorem bitsN_append (l : List UInt8) (a b : List Nat) : ∃ q, bitsN l (a ++ b) = bitsN l b + q * 2 ^ bitsL l b := by
  induction a with
  | nil => exact ⟨0, by simp⟩
  | cons k a ih =>
    obtain ⟨q, hq⟩ := ih
    refine ⟨q + rev (cd l k) (ln l k) * 2 ^ bitsL l a, ?_⟩
    show bitsN l (a ++ b) + rev (cd l k) (ln l k) * 2 ^ bitsL l (a ++ b) = _
    rw [hq, bitsL_append, Nat.pow_add, Nat.add_mul, Nat.add_assoc]
    congr 2
    rw [Nat.mul_assoc, Nat.mul_comm (2 ^ bitsL l a)]
/-- Of all symbols that were laid the next one stands where those ahead of it end. -/
theorem laid_next {l : List UInt8} (hS : Sm (cn l) 16 ≤ 32768) (h15 : ∀ i, ln l i ≤ 15) (a b : List Nat) (k left : Nat) (hk : ln l k ≠ 0) (hl : ln l k ≤ left) :
    readM l (bitsN l (a ++ k :: b)) (bitsL l b) left = (k, 0, ln l k) := by
  refine read_back hS h15 hk hl ?_
  obtain ⟨q, hq⟩ := bitsN_append l a (k :: b)
  have hlt := bitsN_lt l b
  have hr := rev_lt (cd l k) (ln l k)
  have e1 : bitsN l (k :: b) = bitsN l b + rev (cd l k) (ln l k) * 2 ^ bitsL l b := rfl
  have e2 : bitsL l (k :: b) = bitsL l b + ln l k := rfl
  rw [hq, e1, e2, Nat.pow_add]
  generalize rev (cd l k) (ln l k) = R at *
  have e3 : bitsN l b + R * 2 ^ bitsL l b + q * (2 ^ bitsL l b * 2 ^ ln l k) = bitsN l b + 2 ^ bitsL l b * (R + q * 2 ^ ln l k) := by
    rw [Nat.mul_add, Nat.mul_comm R, Nat.add_assoc, Nat.mul_left_comm q]
  rw [e3, Nat.add_mul_div_left _ _ (Nat.two_pow_pos _), Nat.div_eq_of_lt hlt, Nat.zero_add, Nat.add_mul_mod_self_right, Nat.mod_eq_of_lt hr]
end Go.Proofs.YtlknhiihdejpeaaGreatDoor


namespace Go.Proofs.YtlknhiihdejpeaaGreatDoor

/-- What is next (0 a block, 1 a size, 2 stored bytes, 7 symbols, 11 nothing), whether the block is the last, how many stored bytes are to come, how many bits were taken, what was told. -/
structure St where
  k : Nat
  last : Bool
  left : Nat
  p : Nat
  out : List UInt8

def behindK (last : Bool) : Nat := if last then 11 else 0
def stK (last : Bool) (n : Nat) : Nat := if n = 0 then behindK last else 2
theorem stK_zero (last : Bool) : stK last 0 = behindK last := rfl
theorem stK_pos (last : Bool) {n : Nat} (h : 0 < n) : stK last n = 2 := if_neg (by omega)

/-- One step, in the bits of N, literals by the lengths T. -/
inductive Mv (T : List UInt8) (N : Nat) : St → St → Prop
  | stored (l0 last : Bool) (p p' : Nat) (out : List UInt8) (h : N / 2 ^ p % 8 = last.toNat) (hp : p' = (p + 10) / 8 * 8) : Mv T N ⟨0, l0, 0, p, out⟩ ⟨1, last, 0, p', out⟩
  | fixed (l0 last : Bool) (p : Nat) (out : List UInt8) (h : N / 2 ^ p % 8 = last.toNat + 2) : Mv T N ⟨0, l0, 0, p, out⟩ ⟨7, last, 0, p + 3, out⟩
  | size (last : Bool) (n p : Nat) (out : List UInt8) (hn : n < 65536) (h8 : p % 8 = 0) (h : N / 2 ^ p % 4294967296 = n + (65535 - n) * 65536) : Mv T N ⟨1, last, 0, p, out⟩ ⟨stK last n, last, n, p + 32, out⟩
  | byte (last : Bool) (n p : Nat) (out : List UInt8) (h8 : p % 8 = 0) : Mv T N ⟨2, last, n + 1, p, out⟩ ⟨stK last n, last, n, p + 8, out ++ [UInt8.ofNat (N / 2 ^ p)]⟩
  | lit (last : Bool) (i p : Nat) (out : List UInt8) (hi : i < 256) (h0 : ln T i ≠ 0) (h : N / 2 ^ p % 2 ^ ln T i = rev (cd T i) (ln T i)) : Mv T N ⟨7, last, 0, p, out⟩ ⟨7, last, 0, p + ln T i, out ++ [UInt8.ofNat i]⟩
  | eob (last : Bool) (p : Nat) (out : List UInt8) (h0 : ln T 256 ≠ 0) (h : N / 2 ^ p % 2 ^ ln T 256 = rev (cd T 256) (ln T 256)) : Mv T N ⟨7, last, 0, p, out⟩ ⟨behindK last, last, 0, p + ln T 256, out⟩

/-- Some steps. -/
inductive Way (T : List UInt8) (N : Nat) : St → St → Prop
  | stop (s : St) : Way T N s s
  | go {s t e : St} (h : Mv T N s t) (r : Way T N t e) : Way T N s e

variable {T : List UInt8} {N : Nat}

theorem Mv.grow {s t : St} (h : Mv T N s t) : s.p < t.p ∧ ∃ x, t.out = s.out ++ x := by
  cases h with
  | stored l0 last p p' out h hp => exact ⟨by show p < p'; omega, [], by simp⟩
  | fixed l0 last p out h => exact ⟨by show p < p + 3; omega, [], by simp⟩
  | size last n p out hn h8 h => exact ⟨by show p < p + 32; omega, [], by simp⟩
  | byte last n p out h8 => exact ⟨by show p < p + 8; omega, _, rfl⟩
  | lit last i p out hi h0 h => exact ⟨by show p < p + ln T i; omega, _, rfl⟩
  | eob last p out h0 h => exact ⟨by show p < p + ln T 256; omega, [], by simp⟩
theorem Way.grow {s e : St} (h : Way T N s e) : s.p ≤ e.p ∧ ∃ x, e.out = s.out ++ x := by
  induction h with
  | stop s => exact ⟨Nat.le_refl _, [], by simp⟩
  | go h r ih =>
    obtain ⟨h1, x, hx⟩ := h.grow
    obtain ⟨h2, y, hy⟩ := ih
    exact ⟨by omega, x ++ y, by rw [hy, hx, List.append_assoc]⟩
theorem Way.out_le {s e : St} (h : Way T N s e) : s.out.length ≤ e.out.length := by
  obtain ⟨_, x, hx⟩ := h.grow
  rw [hx, List.length_append]; omega
theorem Way.next {s e : St} (h : Way T N s e) (hs : s.k ≠ 11) (he : e.k = 11) : ∃ t, Mv T N s t ∧ Way T N t e := by
  cases h with
  | stop => exact absurd he hs
  | go h r => exact ⟨_, h, r⟩

/-- The bytes from bit p on. -/
def bytesAt (N p n : Nat) : List UInt8 := (List.range n).map fun i => UInt8.ofNat (N / 2 ^ (p + 8 * i))
theorem bytesAt_length (N p n : Nat) : (bytesAt N p n).length = n := by simp [bytesAt]
theorem bytesAt_succ (N p n : Nat) : bytesAt N p (n + 1) = bytesAt N p n ++ [UInt8.ofNat (N / 2 ^ (p + 8 * n))] := by
  unfold bytesAt; rw [List.range_succ, List.map_append]; rfl
theorem bytesAt_num (B : List UInt8) (j n : Nat) (h : j + n ≤ B.length) : bytesAt (num B) (8 * j) n = (B.drop j).take n := by
  apply List.ext_getElem
  · rw [bytesAt_length, List.length_take, List.length_drop]; omega
  · intro i h1 h2
    rw [bytesAt_length] at h1
    simp only [bytesAt, List.getElem_map, List.getElem_range, List.getElem_take, List.getElem_drop]
    apply UInt8.toNat_inj.1
    rw [UInt8.toNat_ofNat', num_get B _ (by omega), pow_256]
    congr 3
    omega

/-- Some of a stored block's bytes at once. -/
theorem Way.bytes {last : Bool} {c p : Nat} {out : List UInt8} {e : St} (h : Way T N ⟨2, last, c, p, out⟩ e) (he : e.k = 11) (n : Nat) (hn : n ≤ c) :
    p % 8 = 0 ∧ 0 < c ∧ Way T N ⟨stK last (c - n), last, c - n, p + 8 * n, out ++ bytesAt N p n⟩ e := by
  have h8 : p % 8 = 0 ∧ 0 < c := by
    obtain ⟨t, ht, _⟩ := h.next (show (2 : Nat) ≠ 11 by decide) he
    cases ht with
    | byte _ n _ _ h8 => exact ⟨h8, by omega⟩
  refine ⟨h8.1, h8.2, ?_⟩
  induction n with
  | zero => rw [stK_pos last (by omega)]; simpa [bytesAt] using h
  | succ n ih =>
    have h1 := ih (by omega)
    obtain ⟨m, hm⟩ : ∃ m, c - n = m + 1 := ⟨c - n - 1, by omega⟩
    rw [hm, stK_pos last (by omega)] at h1
    obtain ⟨t, ht, hr⟩ := h1.next (show (2 : Nat) ≠ 11 by decide) he
    cases ht with
    | byte _ _ _ _ _ =>
      rw [bytesAt_succ, ← List.append_assoc, show c - (n + 1) = m by omega, show p + 8 * (n + 1) = p + 8 * n + 8 by omega]
      exact hr

theorem way_bytes (last : Bool) : ∀ (bs : List UInt8) (j : Nat) (out : List UInt8), N / 2 ^ (8 * j) % 256 ^ bs.length = num bs → ∀ e, Way T N ⟨behindK last, last, 0, 8 * (j + bs.length), out ++ bs⟩ e →
    Way T N ⟨stK last bs.length, last, bs.length, 8 * j, out⟩ e
  | [], j, out, _, e, h => by simpa [stK_zero] using h
  | b :: bs, j, out, hN, e, h => by
    have hb := b.toNat_lt
    rw [List.length_cons, stK_pos last (by omega)]
    rw [List.length_cons, num, Nat.pow_succ, Nat.mul_comm (256 ^ bs.length) 256, Nat.mod_mul] at hN
    have e1 : N / 2 ^ (8 * (j + 1)) = N / 2 ^ (8 * j) / 256 := by rw [Nat.div_div_eq_div_mul, show 8 * (j + 1) = 8 * j + 8 by omega, Nat.pow_add]
    have h0 : N / 2 ^ (8 * j) % 256 = b.toNat := by omega
    have h1 : N / 2 ^ (8 * (j + 1)) % 256 ^ bs.length = num bs := by rw [e1]; omega
    have hbb : UInt8.ofNat (N / 2 ^ (8 * j)) = b := by
      apply UInt8.toNat_inj.1
      rw [UInt8.toNat_ofNat', ← h0]
    refine .go (.byte last bs.length (8 * j) out (by omega)) ?_
    rw [hbb, show 8 * j + 8 = 8 * (j + 1) by omega]
    refine way_bytes last bs (j + 1) (out ++ [b]) h1 e ?_
    rw [List.append_assoc, show j + 1 + bs.length = j + (bs.length + 1) by omega]
    exact h

/-- The five bytes ahead of a stored block's. -/
def hdr (last : Bool) (n : Nat) : List UInt8 := [UInt8.ofNat last.toNat, UInt8.ofNat n, UInt8.ofNat (n / 256), UInt8.ofNat (255 - n % 256), UInt8.ofNat (255 - n / 256)]
theorem num_hdr (last : Bool) (n : Nat) (hn : n < 65536) : num (hdr last n) = last.toNat + 256 * (n + 65536 * (65535 - n)) := by
  have hl : last.toNat < 2 := by cases last <;> decide
  simp only [hdr, num, UInt8.toNat_ofNat']
  omega

theorem way_stored (l0 last : Bool) (bs : List UInt8) (j M : Nat) (out : List UInt8) (hn : bs.length < 65536) (h : N / 2 ^ (8 * j) = num (hdr last bs.length ++ bs) + 256 ^ (5 + bs.length) * M) (e : St)
    (he : Way T N ⟨behindK last, last, 0, 8 * (j + 5 + bs.length), out ++ bs⟩ e) : Way T N ⟨0, l0, 0, 8 * j, out⟩ e := by
  have hl : last.toNat < 2 := by cases last <;> decide
  have hb := num_lt bs
  rw [num_append, num_hdr _ _ hn, show (hdr last bs.length).length = 5 from rfl, Nat.pow_add, Nat.mul_assoc, Nat.add_assoc, ← Nat.mul_add] at h
  have e1 : N / 2 ^ (8 * (j + 1)) = N / 2 ^ (8 * j) / 256 := by rw [Nat.div_div_eq_div_mul, show 8 * (j + 1) = 8 * j + 8 by omega, Nat.pow_add]
  have e5 : N / 2 ^ (8 * (j + 5)) = N / 2 ^ (8 * j) / 1099511627776 := by rw [Nat.div_div_eq_div_mul, show 8 * (j + 5) = 8 * j + 40 by omega, Nat.pow_add]
  have hz : N / 2 ^ (8 * (j + 5)) % 256 ^ bs.length = num bs := by
    rw [e5]
    have : N / 2 ^ (8 * j) / 1099511627776 = num bs + 256 ^ bs.length * M := by omega
    rw [this, Nat.add_mul_mod_self_left, Nat.mod_eq_of_lt hb]
  generalize num bs + 256 ^ bs.length * M = Z at h
  refine .go (.stored l0 last (8 * j) (8 * (j + 1)) out (by omega) (by omega)) ?_
  refine .go (.size last bs.length _ out hn (by omega) (by omega)) ?_
  rw [show 8 * (j + 1) + 32 = 8 * (j + 5) by omega]
  exact way_bytes last bs (j + 5) out hz e he

theorem way_syms (last : Bool) (p : Nat) (out : List UInt8) : ∀ (r : List Nat), (∀ i ∈ r, i < 256 ∧ ln T i ≠ 0) → N / 2 ^ p % 2 ^ bitsL T r = bitsN T r → ∀ e, Way T N ⟨7, last, 0, p + bitsL T r, out ++ r.reverse.map UInt8.ofNat⟩ e →
    Way T N ⟨7, last, 0, p, out⟩ e
  | [], _, _, e, h => by simpa [bitsL] using h
  | k :: r, hr, hN, e, h => by
    have hlt := bitsN_lt T r
    have hk := hr k (by simp)
    have hL : bitsL T (k :: r) = bitsL T r + ln T k := rfl
    have hB : bitsN T (k :: r) = bitsN T r + rev (cd T k) (ln T k) * 2 ^ bitsL T r := rfl
    rw [hL, hB, Nat.pow_add, Nat.mod_mul, Nat.mul_comm (rev _ _)] at hN
    have h1 : N / 2 ^ p % 2 ^ bitsL T r = bitsN T r := by
      have := congrArg (· % 2 ^ bitsL T r) hN
      simpa [Nat.add_mul_mod_self_left, Nat.mod_eq_of_lt hlt] using this
    have h2 : N / 2 ^ p / 2 ^ bitsL T r % 2 ^ ln T k = rev (cd T k) (ln T k) := by
      rw [h1] at hN
      exact Nat.eq_of_mul_eq_mul_left (Nat.two_pow_pos _) (Nat.add_left_cancel hN)
    refine way_syms last p out r (fun i hi => hr i (by simp [hi])) h1 e ?_
    refine .go (.lit last k _ _ hk.1 hk.2 (by rw [Nat.pow_add, ← Nat.div_div_eq_div_mul]; exact h2)) ?_
    rw [List.append_assoc, show p + bitsL T r + ln T k = p + bitsL T (k :: r) by rw [hL]; omega]
    simpa using h

theorem way_fixed (l0 last : Bool) (p M : Nat) (r : List Nat) (out : List UInt8) (hr : ∀ i ∈ r, i < 256 ∧ ln T i ≠ 0) (h0 : ln T 256 ≠ 0) (h : N / 2 ^ p = last.toNat + 2 + 8 * (bitsN T (256 :: r) + 2 ^ bitsL T (256 :: r) * M)) (e : St)
    (he : Way T N ⟨behindK last, last, 0, p + 3 + bitsL T (256 :: r), out ++ r.reverse.map UInt8.ofNat⟩ e) : Way T N ⟨0, l0, 0, p, out⟩ e := by
  have hl : last.toNat < 2 := by cases last <;> decide
  have hlt := bitsN_lt T r
  have hlt2 := bitsN_lt T (256 :: r)
  have hL : bitsL T (256 :: r) = bitsL T r + ln T 256 := rfl
  have hB : bitsN T (256 :: r) = bitsN T r + rev (cd T 256) (ln T 256) * 2 ^ bitsL T r := rfl
  have e3 : N / 2 ^ (p + 3) = bitsN T (256 :: r) + 2 ^ bitsL T (256 :: r) * M := by
    rw [Nat.pow_add, ← Nat.div_div_eq_div_mul]; omega
  have h1 : N / 2 ^ (p + 3) % 2 ^ bitsL T r = bitsN T r := by
    rw [e3, hL, hB, Nat.pow_add, Nat.mul_assoc, Nat.mul_comm (rev _ _), Nat.add_assoc, ← Nat.mul_add, Nat.add_mul_mod_self_left, Nat.mod_eq_of_lt hlt]
  have h2 : N / 2 ^ (p + 3 + bitsL T r) % 2 ^ ln T 256 = rev (cd T 256) (ln T 256) := by
    rw [Nat.pow_add 2 (p + 3), ← Nat.div_div_eq_div_mul, e3, hL, hB, Nat.pow_add, Nat.mul_assoc, Nat.mul_comm (rev _ _), Nat.add_assoc, ← Nat.mul_add, Nat.add_mul_div_left _ _ (Nat.two_pow_pos _), Nat.div_eq_of_lt hlt, Nat.zero_add,
      Nat.add_mul_mod_self_left, Nat.mod_eq_of_lt (rev_lt _ _)]
  refine .go (.fixed l0 last p out (by omega)) ?_
  refine way_syms last (p + 3) out r hr h1 e ?_
  refine .go (.eob last _ _ h0 h2) ?_
  rw [Nat.add_assoc (p + 3), ← hL]
  exact he

/-- What is read within a part of the bytes. -/
theorem part_bits (B : List UInt8) (a o k n : Nat) (h : 8 * o + k + n ≤ 8 * a) : bitsOf (num ((B.take a).drop o)) k n = bitsOf (num B) (8 * o + k) n := by
  unfold bitsOf
  rw [num_drop, num_take, pow_256, pow_256, Nat.div_div_eq_div_mul, ← Nat.pow_add, mod_div_mod _ _ _ _ h]
theorem readM_congr (T : List UInt8) (N N' p p' left : Nat) (h : ∀ n, n ≤ left → bitsOf N p n = bitsOf N' p' n) : readM T N p left = readM T N' p' left := by
  have hb : ∀ n, n ≤ left → bc N p n = bc N' p' n := fun n hn => by
    have := h n hn
    unfold bitsOf at this
    rw [bc_rev, bc_rev, ← rev_low_bits, this, rev_low_bits]
  unfold readM
  generalize Lg (cn T) 15 = r
  have key : ∀ r n, scan T N p left r n = scan T N' p' left r n := by
    intro r
    induction r with
    | zero => intro n; rfl
    | succ r ih =>
      intro n
      unfold scan
      by_cases hn : left < n
      · rw [if_pos hn, if_pos hn]
      · rw [if_neg hn, if_neg hn, hb n (by omega), ih]
  exact key r 1
theorem part_read (T B : List UInt8) (a o k : Nat) (ho : o ≤ a) (hk : 8 * o + k ≤ 8 * a) : readM T (num ((B.take a).drop o)) k (8 * (a - o) - k) = readM T (num B) (8 * o + k) (8 * a - (8 * o + k)) := by
  rw [show 8 * (a - o) - k = 8 * a - (8 * o + k) by omega]
  exact readM_congr _ _ _ _ _ _ (fun n hn => part_bits B a o k n (by omega))
theorem part_length (B : List UInt8) (a o : Nat) (ha : a ≤ B.length) : ((B.take a).drop o).length = a - o := by
  rw [List.length_drop, List.length_take]; omega

/-- A code of which the end is missing. -/
theorem read_short {l : List UInt8} (_ : Sm (cn l) 16 ≤ 32768) (h15 : ∀ i, ln l i ≤ 15) {i N p left : Nat} (hi : ln l i ≠ 0) (hl : left < ln l i) (hb : N / 2 ^ p % 2 ^ ln l i = rev (cd l i) (ln l i)) (hcd : cd l i < 2 ^ ln l i) :
    readM l N p left = (0, 2, 0) := by
  have hrk := rk_lt hi
  have hc : cd l i = Fs (cn l) (ln l i) + rk l i (ln l i) := rfl
  have hpos : 0 < cn l (ln l i) := by omega
  have hL := Lg_ge (cn l) (n := 15) (by omega) (h15 i) hpos
  have hbc : bc N p (ln l i) = cd l i := by
    rw [bc_rev, ← rev_low_bits, hb, rev_rev, Nat.mod_eq_of_lt hcd]
  generalize ln l i = n at *
  have key : ∀ d j, j + d = left → scan l N p left (Lg (cn l) 15 - j) (j + 1) = (0, 2, 0) := by
    intro d
    induction d with
    | zero =>
      intro j hj
      obtain ⟨r, hr⟩ : ∃ r, Lg (cn l) 15 - j = r + 1 := ⟨Lg (cn l) 15 - j - 1, by omega⟩
      rw [hr, scan_short (by omega)]
    | succ d ih =>
      intro j hj
      obtain ⟨r, hr⟩ : ∃ r, Lg (cn l) 15 - j = r + 1 := ⟨Lg (cn l) 15 - j - 1, by omega⟩
      obtain ⟨q, hq⟩ : ∃ q, n = j + 1 + q + 1 := ⟨n - j - 2, by omega⟩
      have hfar := Fs_far (cn l) (j + 1) q
      rw [← hq] at hfar
      have hdv := bc_div N p (j + 1) (q + 1)
      rw [← Nat.add_assoc, ← hq, hbc] at hdv
      have hge : Fs (cn l) (j + 1) + cn l (j + 1) ≤ bc N p (j + 1) := by
        rw [← hdv, Nat.le_div_iff_mul_le (Nat.two_pow_pos _)]
        omega
      rw [hr, scan_next (by omega) (by omega)]
      have := ih (j + 1) (by omega)
      rw [show Lg (cn l) 15 - (j + 1) = r by omega] at this
      exact this
  have := key left 0 (by omega)
  rw [Nat.sub_zero] at this
  exact this
end Go.Proofs.YtlknhiihdejpeaaGreatDoor

