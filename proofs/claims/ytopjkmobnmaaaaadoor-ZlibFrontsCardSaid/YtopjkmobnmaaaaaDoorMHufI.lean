/-
  Package huff: Read. | What grows: a row of bytes of the call's own, and which blocks may have changed.
-/
import Derived.Test.YtopjkmobnmaaaaaDoorMHufF
import Derived.Test.YtopjkmobnmaaaaaDoorProg
import Derived.Test.YtopjkmobnmaaaaaDoorMem
import Derived.Test.YtopjkmobnmaaaaaDoorMReadC
namespace Go.Proofs.YtopjkmobnmaaaaaDoor
open Go Go.RowKit

theorem i64_or1 (a b : Nat) (hb : b < 2) (h : a < 1073741824) : bits .or .i64 ((a : Int) * 2) (b : Int) = 2 * (a : Int) + (b : Int) := by
  have h1 : (BitVec.ofInt 64 ((a : Int) * 2)).toNat = a * 2 ^ 1 := by rw [BitVec.toNat_ofInt]; omega
  have h2 : (BitVec.ofInt 64 (b : Int)).toNat = b := by rw [BitVec.toNat_ofInt]; omega
  have key : (BitVec.ofInt 64 ((a : Int) * 2) ||| BitVec.ofInt 64 (b : Int)).toNat = 2 * a + b := by
    rw [BitVec.toNat_or, h1, h2, Nat.or_comm, or_of_lt (by omega)]; omega
  show IntKind.i64.wrap ((BitVec.ofInt 64 ((a : Int) * 2) ||| BitVec.ofInt 64 (b : Int)).toNat : Nat) = _
  rw [key, IntKind.wrap_i64]
  omega

theorem Has.ne {w : World} {g g' : Nat} {t t' : TypeId} {cs cs' : Array Value} (h : Has w g t cs) (h' : Has w g' t' cs') (ht : t ≠ t') : g ≠ g' := by
  rintro rfl
  unfold Has at h h'
  rw [h] at h'
  injection h' with h'
  injection h' with _ h'
  exact ht h'

/-- What the loop of Read has when it has seen j bits. -/
structure Seen (l : List UInt8) (N k left j : Nat) (R : Nat × Nat × Nat) : Prop where
  le : j ≤ Lg (cn l) 15
  have_ : j ≤ left
  all : scan l N k left (Lg (cn l) 15 - j) (j + 1) = R
  past : Fs (cn l) j + cn l j ≤ bc N k j

theorem Seen.start (l : List UInt8) (N k left : Nat) : Seen l N k left 0 (readM l N k left) := ⟨Nat.zero_le _, Nat.zero_le _, rfl, Nat.le_refl _⟩

theorem Seen.done {l : List UInt8} {N k left : Nat} {R : Nat × Nat × Nat} (h : Seen l N k left (Lg (cn l) 15) R) : R = (0, 3, 0) := by
  have := h.all
  rw [Nat.sub_self] at this
  exact this.symm
theorem Seen.short {l : List UInt8} {N k left j : Nat} {R : Nat × Nat × Nat} (h : Seen l N k left j R) (h1 : j < Lg (cn l) 15) (h2 : left < j + 1) : R = (0, 2, 0) := by
  have := h.all
  obtain ⟨r, hr⟩ : ∃ r, Lg (cn l) 15 - j = r + 1 := ⟨Lg (cn l) 15 - j - 1, by omega⟩
  rw [hr, scan_short h2] at this
  exact this.symm
theorem Seen.hit {l : List UInt8} {N k left j : Nat} {R : Nat × Nat × Nat} (h : Seen l N k left j R) (h1 : j < Lg (cn l) 15) (h2 : ¬ left < j + 1) (h3 : bc N k (j + 1) < Fs (cn l) (j + 1) + cn l (j + 1)) : R = (sy l (j + 1) (bc N k (j + 1) - Fs (cn l) (j + 1)), 0, j + 1) := by
  have := h.all
  obtain ⟨r, hr⟩ : ∃ r, Lg (cn l) 15 - j = r + 1 := ⟨Lg (cn l) 15 - j - 1, by omega⟩
  rw [hr, scan_hit h2 h3] at this
  exact this.symm
theorem Seen.next {l : List UInt8} {N k left j : Nat} {R : Nat × Nat × Nat} (h : Seen l N k left j R) (h1 : j < Lg (cn l) 15) (h2 : ¬ left < j + 1) (h3 : ¬ bc N k (j + 1) < Fs (cn l) (j + 1) + cn l (j + 1)) : Seen l N k left (j + 1) R := by
  refine ⟨h1, by omega, ?_, by omega⟩
  have := h.all
  obtain ⟨r, hr⟩ : ∃ r, Lg (cn l) 15 - j = r + 1 := ⟨Lg (cn l) 15 - j - 1, by omega⟩
  rw [hr, scan_next h2 h3] at this
  rw [show Lg (cn l) 15 - (j + 1) = r by omega]
  exact this
theorem Seen.ge {l : List UInt8} {N k left j : Nat} {R : Nat × Nat × Nat} (h : Seen l N k left j R) : Fs (cn l) (j + 1) ≤ bc N k (j + 1) := by
  have := h.past
  rw [Fs_succ, bc_succ]; omega

/-- The symbol that was dealt there. -/
theorem dealt_sy {l : List UInt8} {S : Nat → Nat} (h : Dealt l l.length S) {n j : Nat} (hn : n ≠ 0) (hj : j < cn l n) : S (Bf (cn l) n + j) = sy l n j ∧ sy l n j < l.length ∧ Bf (cn l) n + j < l.length := by
  obtain ⟨i, hi, rfl, rfl⟩ := rk_sur hn hj
  have h1 := h i hi hn
  have h2 := sy_eq hn
  unfold pl at h1
  rw [h1, h2]
  exact ⟨rfl, hi, pl_lt hn⟩

set_option maxRecDepth 100000 in
set_option maxHeartbeats 4000000 in
theorem read_any (g gr : Nat) (v : Value) (l b : List UInt8) (k : Nat) (w : World) (hT : Tb w g l) (hR : Rd w gr v b k) (hn : l.length ≤ 320) (_ : ∀ i, ln l i ≤ 15) (_ : Sm (cn l) 16 ≤ 32768) (x e n : Nat) (hs : readM l (num b) k (8 * b.length - k) = (x, e, n)) :
    Calls Tryd.prog 78 #[.pointer (some ⟨g, 0, none⟩), .pointer (some ⟨gr, 0, none⟩)] w fun o w' => o = .returned (.tuple #[.int .i64 x, .int .i64 e]) ∧ Only [gr] w w' ∧ Rd w' gr v b (k + n) := by
  have hk := hR.2.2.2
  have hbl := hR.2.2.1
  obtain ⟨A, c, rfl, hc, hA⟩ := own_shape hR.2.1
  have HL := hide (left_any gr b.length c A k w hR.1 hbl hk)
  obtain ⟨left, hleft⟩ : ∃ q, q = 8 * b.length - k := ⟨_, rfl⟩
  rw [← hleft] at hs HL
  have HLE := hide hleft
  have h0 := Seen.start l (num b) k left
  rw [hs] at h0
  obtain ⟨S, hD, hTT⟩ := hT
  obtain ⟨L, hLg⟩ : ∃ L, L = Lg (cn l) 15 := ⟨_, rfl⟩
  have hL15 : L ≤ 15 := by rw [hLg]; exact Lg_le _ _
  have cL : ∀ w1, Only [gr] w w1 → w1.cell? ⟨g, 1008, none⟩ = some (.int .i64 (L : Int)) := fun w1 ho => by
    rw [(hTT.only ho (by simpa using Has.ne hTT hR.1 (by decide))).cell (by omega), TF.at_lng, hLg]; rfl
  have HLL := hide hLg
  have HC := hide cL
  have HT := hide (And.intro hD (And.intro hTT (And.intro hR h0)))
  obtain ⟨m, hm1, hm4, hm2, hm3⟩ : ∃ m : Nat, (if L < left then (L : Int) else (left : Int)) = (m : Int) ∧ (if L < left then Value.int .i64 (L : Int) else Value.int .i64 (left : Int)) = Value.int .i64 (m : Int) ∧ (m ≤ L ∧ m ≤ left) ∧ (m = L ∨ m = left) := by
    by_cases h : L < left
    · exact ⟨L, by rw [if_pos h], by rw [if_pos h], by omega, by omega⟩
    · exact ⟨left, by rw [if_neg h], by rw [if_neg h], by omega, by omega⟩
  have hleq : (8 * b.length - k : Nat) = left := hleft.symm
  have HP := hide (fun w1 (h : Rd w1 gr (.slice A b.length c) b k) => peek_any gr _ b k (m : Int) w1 h)
  have hok : okBits b.length k (m : Int) = true := by unfold okBits; rw [decide_eq_true_eq, hleq]; omega
  have hgot : gotBits b k (m : Int) = bitsOf (num b) k m := by unfold gotBits; rw [if_pos hok, Int.toNat_natCast]
  rw [hok, hgot] at HP
  have HM := hide (And.intro hm2 hm3)
  clear hD hTT hR h0 cL hLg hs hm2 hm3 hok hgot hleq hleft
  have c0 := HC.out w (Only.refl _ _)
  go_enter Tryd.func78, Tryd.ntmps78
  go_wp2_with fail
  refine (HL.out).mono ?_
  rintro o w1 ⟨rfl, m1, rfl⟩
  go_wp2_with fail
  refine (HP.out _ (HT.out.2.2.1.drewN m1)).mono ?_
  rintro o w1 ⟨rfl, m2, rfl⟩
  obtain ⟨m3, h3⟩ := drews w m1 m2
  rw [h3]
  have HD : Tbl (w.drewN m3) g (TF.dl l l.length S) ∧ Rd (w.drewN m3) gr (.slice A b.length c) b k ∧ Only [] w (w.drewN m3) := ⟨HT.out.2.1.only ((Only.refl [] w).drewN m3) (by simp), HT.out.2.2.1.drewN m3, (Only.refl [] w).drewN m3⟩
  have HW := hide HD
  have hT1 := HD.1
  clear h3 HL HP c0 HD
  generalize w.drewN m3 = W at *
  have cL : W.cell? ⟨g, 1008, none⟩ = some (.int .i64 (L : Int)) := by rw [hT1.cell (by omega), TF.at_lng, HLL.out]; rfl
  have HT1 := hide hT1
  clear hT1 hm1 hm4
  obtain ⟨y0, hy0⟩ : ∃ y, y = bitsOf (num b) k m := ⟨_, rfl⟩
  rw [← hy0]
  have HY := hide hy0
  have hy32 : y0 < 4294967296 := by rw [hy0]; exact bitsOf_lt32 _ _ _ (by have := HM.out.1; omega)
  clear hy0
  go_wp2_with fail
  go_loop [7, 9, 10] (fun v7 v9 v10 => ∃ j : Nat, Seen l (num b) k left j (x, e, n) ∧ v7 = .int .u32 ((y0 / 2 ^ j : Nat) : Int) ∧ v9 = .int .i64 (bc (num b) k j : Nat) ∧ v10 = .int .i64 ((j + 1 : Nat) : Int)) (fun _ _ v10 => 17 - (intOf v10).toNat)
  case atStart => exact ⟨0, HT.out.2.2.2, by simp, rfl, rfl⟩
  case round =>
    obtain ⟨j, hSn, rfl, rfl, rfl⟩ := hrel
    have hjL := hSn.le
    rw [← HLL.out] at hjL
    by_cases hlt : j < L
    · have hlt' : j < Lg (cn l) 15 := by rw [← HLL.out]; exact hlt
      have HS := hide hSn
      by_cases hsh : left < j + 1
      · have hR := hSn.short hlt' hsh
        injection hR with hx hR
        injection hR with he hn0
        subst hx he hn0
        have hnL : j + 1 ≤ L := hlt
        clear hSn hlt'
        generalize hnn : j + 1 = nn at *
        clear hnn
        go_wp2_with fail
        go_ret2
        exact ⟨rfl, HW.out.2.2.of_nil, HW.out.2.1⟩
      · have hjm : j < m := by rcases HM.out.2 with h | h <;> omega
        have hge := hSn.ge
        have hzl := bc_lt (num b) k j
        have hz15 : 2 ^ j ≤ 2 ^ 15 := Nat.pow_le_pow_right (by decide) (by omega)
        have hbs := bc_succ (num b) k j
        obtain ⟨y, hy⟩ : ∃ y, y = y0 / 2 ^ j := ⟨_, rfl⟩
        have hyl : y < 4294967296 := by rw [hy]; exact Nat.lt_of_le_of_lt (Nat.div_le_self _ _) hy32
        have hbit : y % 2 = num b / 2 ^ (k + j) % 2 := by
          have h1 := mod_div_mod (num b / 2 ^ k) m j 1 (by omega)
          rw [Nat.pow_one] at h1
          rw [hy, HY.out]
          unfold bitsOf
          rw [h1, Nat.div_div_eq_div_mul, ← Nat.pow_add]
        have hy2 : y / 2 = y0 / 2 ^ (j + 1) := by rw [hy, Nat.div_div_eq_div_mul, Nat.pow_succ]
        rw [← hbit] at hbs
        obtain ⟨C, hC⟩ : ∃ C, C = bc (num b) k (j + 1) := ⟨_, rfl⟩
        rw [← hC] at hbs hge
        obtain ⟨F, hF⟩ : ∃ F, F = Fs (cn l) (j + 1) := ⟨_, rfl⟩
        rw [← hF] at hge
        obtain ⟨K, hK⟩ : ∃ K, K = cn l (j + 1) := ⟨_, rfl⟩
        obtain ⟨I, hI⟩ : ∃ I, I = C - F := ⟨_, rfl⟩
        have cF : W.cell? ⟨g, 976 + (j + 1), none⟩ = some (.int .i64 (F : Int)) := by
          rw [HT1.out.cell (by omega), TF.at_fst _ (by omega)]
          show some (Value.int .i64 ((if j + 1 ≤ 15 then Fs (cn l) (j + 1) else 0 : Nat) : Int)) = _
          rw [if_pos (by omega), hF]
        have cK : W.cell? ⟨g, 960 + (j + 1), none⟩ = some (.int .i64 (K : Int)) := by
          rw [HT1.out.cell (by omega), TF.at_cnt _ (by omega), hK]; rfl
        obtain ⟨z, hz⟩ : ∃ z, z = bc (num b) k j := ⟨_, rfl⟩
        rw [← hz] at hbs hzl ⊢
        rw [← hy]
        obtain ⟨t, ht⟩ : ∃ t, t = y % 2 := ⟨_, rfl⟩
        have ht2 : t < 2 := by omega
        have eA := u32_and1 y hyl
        rw [← ht] at eA hbs
        have eW : IntKind.i64.wrap (t : Int) = (t : Int) := wrap64 rfl (by omega)
        have eO := i64_or1 z t ht2 (by omega)
        have eC : 2 * (z : Int) + (t : Int) = (C : Int) := by omega
        rw [eC] at eO
        have eI : (C : Int) - (F : Int) = (I : Int) := by omega
        obtain ⟨Y2, hY2⟩ : ∃ q, q = y / 2 := ⟨_, rfl⟩
        rw [← hY2] at hy2
        have eH : (y : Int) / 2 = (Y2 : Int) := by omega
        have hz64 : z < 32768 := by omega
        have q1 : ((j + 1 : Nat) : Int) < 16 := by omega
        have q0 : (0 : Int) ≤ ((j + 1 : Nat) : Int) := by omega
        have hnL : j + 1 ≤ L := hlt
        have hnl : j + 1 ≤ left := by omega
        have hn0 : j + 1 ≠ 0 := by omega
        have hI63 : I < 65536 := by omega
        have hC63 : C < 65536 := by omega
        by_cases hhit : I < K
        · have hR := hSn.hit hlt' hsh (by rw [← hC, ← hF, ← hK]; omega)
          rw [← hC, ← hF, ← hI] at hR
          obtain ⟨d1, d2, d3⟩ := dealt_sy HT.out.1 (n := j + 1) (by omega) (show I < cn l (j + 1) by omega)
          have hok : okBits b.length k ((j + 1 : Nat) : Int) = true := by unfold okBits; rw [decide_eq_true_eq]; have := HLE.out; omega
          have HB := hide (bits_any gr _ b k ((j + 1 : Nat) : Int) W HW.out.2.1)
          rw [hok, if_pos rfl, Int.toNat_natCast] at HB
          injection hR with hx hR
          injection hR with he hn0'
          obtain ⟨B, hB⟩ : ∃ B, B = Bf (cn l) (j + 1) := ⟨_, rfl⟩
          rw [← hB] at d1 d3
          rw [← hx] at d1 d2
          subst he hn0'
          have HZ := hide (And.intro hB (And.intro d1 hn0))
          have hj15 : j + 1 ≤ 15 := by omega
          clear hSn hlt' hsh hy hbit hy2 hC hF hK hI hz hbs hge ht hzl hz15 hjm hok hx hB d1 eC hn0 hlt hjL hY2
          generalize hnn : j + 1 = nn at *
          have HNN := hide hnn
          clear hnn
          go_wp2_with fail
          refine (HB.out).mono ?_
          rintro o w5 ⟨rfl, ho5, hR5⟩
          have hT5 : Tbl w5 g (TF.dl l l.length S) := HT1.out.only ho5 (by simpa using Has.ne HT1.out HW.out.2.1.1 (by decide))
          have a1 : w5.cell? ⟨g, 992 + nn, none⟩ = some (.int .i64 (B : Int)) := by
            rw [hT5.cell (by omega), TF.at_bef _ (by omega)]
            show some (Value.int .i64 ((if nn ≤ 15 then Bf (cn l) nn else 0 : Nat) : Int)) = _
            rw [if_pos hj15, HZ.out.1]
          have a2 : w5.cell? ⟨g, 640 + (B + I), none⟩ = some (.int .i16 (x : Int)) := by
            rw [hT5.cell (by omega), TF.at_sym _ (by omega)]
            show some (Value.int .i16 ((S (B + I) : Nat) : Int)) = _
            rw [HZ.out.2.1]
          have H5 := hide (And.intro hR5 ho5)
          clear hR5 ho5 hT5
          have k1 : IntKind.i64.wrap ((B : Int) + (I : Int)) = (B : Int) + (I : Int) := by have := wrap64 (z := (B : Int) + (I : Int)) (n := B + I) (by omega) (by omega); omega
          have k2 : IntKind.i64.wrap (x : Int) = (x : Int) := wrap64 rfl (by omega)
          have k3 : (0 : Int) ≤ (B : Int) + (I : Int) := by omega
          have k4 : (B : Int) + (I : Int) < 320 := by omega
          go_wp2_with fail
          go_quiet (fail)
          go_wp2_with fail
          go_ret2
          rw [HNN.out]
          exact ⟨rfl, (HW.out.2.2.of_nil.trans H5.out.2 (fun i hi _ => hi)).drewN nq, H5.out.1.drewN nq⟩
        · have hnx := hSn.next hlt' hsh (by rw [← hC, ← hF, ← hK]; omega)
          have HX := hide (And.intro hnx (And.intro hC (And.intro hy2 hz)))
          clear hSn hnx hlt' hsh hy hbit hy2 hC hF hK hI hz hbs hge ht hzl hz15 hjm eC hlt hY2
          generalize hnn : j + 1 = nn at *
          have HNN := hide hnn
          clear hnn
          go_wp2_with fail
          go_round
          case rel =>
            exact ⟨nn, HX.out.1, by rw [← HX.out.2.2.1], by rw [← HX.out.2.1], by go_num⟩
          case measure => simp [intOf]; omega
    · obtain rfl : j = L := by omega
      rw [HLL.out] at hSn
      have hR := hSn.done
      injection hR with hx hR
      injection hR with he hn0
      subst hx he hn0
      clear hSn hlt
      generalize y0 / 2 ^ j = y at *
      generalize bc (num b) k j = z at *
      go_wp2_with fail
      go_ret2
      exact ⟨rfl, HW.out.2.2.of_nil, HW.out.2.1⟩
end Go.Proofs.YtopjkmobnmaaaaaDoor


namespace Go.Proofs.YtopjkmobnmaaaaaDoor
open Go Go.RowKit

/-- From w to w' only the blocks of S and v's own may have changed; v' is at v's block or at a new one. -/
structure Since (S : List Nat) (w : World) (v : Value) (w' : World) (v' : Value) : Prop where
  only : Only (S ++ v.ownBlock.toList) w w'
  own : ∀ b, v'.ownBlock = some b → v.ownBlock = some b ∨ w.heap.size ≤ b
namespace Since
variable {S : List Nat} {w w' w'' : World} {v v' v'' : Value}
theorem refl (S : List Nat) (w : World) (v : Value) : Since S w v w v := ⟨Only.refl _ _, fun _ h => .inl h⟩
theorem trans {T : List Nat} (h : Since S w v w' v') (k : Since T w' v' w'' v'') (hT : ∀ i, i ∈ T → i < w.heap.size → i ∈ S) : Since S w v w'' v'' := by
  refine ⟨h.only.trans k.only ?_, fun b hb => ?_⟩
  · intro i hi hlt
    rcases List.mem_append.1 hi with hi | hi
    · exact List.mem_append.2 (.inl (hT i hi hlt))
    · have hv : v'.ownBlock = some i := by cases hv : v'.ownBlock with
        | none => rw [hv] at hi; simp at hi
        | some j => rw [hv] at hi; simp at hi; rw [hi]
      rcases h.own i hv with h1 | h1
      · rw [h1]; simp
      · omega
  · rcases k.own b hb with h1 | h1
    · exact h.own b h1
    · exact .inr (Nat.le_trans h.only.size h1)
theorem step (h : Since S w v w' v') (ho : Only S w' w'') : Since S w v w'' v' :=
  h.trans (T := S) ⟨ho.weak (fun _ hk _ => List.mem_append.2 (.inl hk)), fun _ h => .inl h⟩ (fun _ h _ => h)
/-- The new row's world, by what append says. -/
theorem grown {o : Obj} (h : Since S w v w' v') (hg : (w'.alloc o).grownBy w'' v'.ownBlock) (hat : v''.ownBlock = v'.ownBlock ∨ v''.ownBlock = some (w'.alloc o).heap.size) : Since S w v w'' v'' := by
  refine h.trans (T := []) ⟨(((Only.refl _ w').alloc o).grown hg (fun _ hk _ => by simp [hk])), fun b hb => ?_⟩ (by simp)
  rcases hat with h | h
  · rw [h] at hb; exact .inl hb
  · rw [h] at hb; injection hb with hb; subst hb; right; simp
theorem grown0 (h : Since S w v w' v') (hg : w'.grownBy w'' v'.ownBlock) (hat : v''.ownBlock = v'.ownBlock ∨ v''.ownBlock = some w'.heap.size) : Since S w v w'' v'' := by
  refine h.trans (T := []) ⟨((Only.refl _ w').grown hg (fun _ hk _ => by simp [hk])), fun b hb => ?_⟩ (by simp)
  rcases hat with h | h
  · rw [h] at hb; exact .inl hb
  · rw [h] at hb; injection hb with hb; subst hb; right; simp
end Since


/-- 'append(s, b)' of one byte: the new row, what may have changed. -/
structure Pushed (wr : World) (B : Nat) (v : Value) (q : List UInt8) (b : UInt8) (w' : World) (v' : Value) : Prop where
  own : w'.ownsRow B 5 1 v' (q.length + 1) (bvals (q ++ [b]))
  since : ∀ S w0 v0, Since S w0 v0 wr v → Since S w0 v0 w' v'
  only : Only v.ownBlock.toList wr w'
theorem Pushed.has {wr w' : World} {B g : Nat} {v v' : Value} {q : List UInt8} {b : UInt8} {t : TypeId} {cs : Array Value} (h : Pushed wr B v q b w' v') (hg : Has wr g t cs) (hn : some g ≠ v.ownBlock) : Has w' g t cs :=
  hg.only h.only (fun hm => hn (by cases hv : v.ownBlock with
    | none => rw [hv] at hm; simp at hm
    | some k => rw [hv] at hm; simp at hm; rw [hm]))

theorem push_made {w w' : World} {A1 A2 : Option Addr} {n cc1 c2 B : Nat} {q : List UInt8} {b : UInt8} (hq : q.length = n)
    (hown : w'.ownsRow B 5 1 (.slice A2 (n + 1) c2) (n + 1) (bvals q ++ [.int .u8 (b.toNat : Int)])) {o : Obj} (hg : (w.alloc o).grownBy w' (Value.slice A1 n cc1).ownBlock)
    (hat : (Value.slice A2 (n + 1) c2).ownBlock = (Value.slice A1 n cc1).ownBlock ∨ (Value.slice A2 (n + 1) c2).ownBlock = some (w.alloc o).heap.size) :
    Pushed w B (.slice A1 n cc1) q b w' (.slice A2 (n + 1) c2) := by
  subst hq
  refine ⟨?_, fun S w0 v0 h => h.grown hg hat, ((Only.refl _ w).alloc o).grown hg (fun _ hk _ => by simp [hk])⟩
  rw [bvals_append]
  exact hown

/-- In a plain region's list. -/
theorem list_push {ops : Array Oper} {rest : List Oper} {o : Oper} {a : Act} {Q : Exit → Act → World → Prop} (hgd : o.guard = none) (s x : Operand)
    (ho : o.op = .call { callee := .builtin .append, args := #[s, x], argTypes := #[22, 22] }) (wr : World) {B : Nat} (hB : B ≤ wr.heap.size) {A1 : Option Addr} {n cc1 : Nat} {q : List UInt8} (b : UInt8) (hq : q.length = n)
    (hown : wr.ownsRow B 5 1 (.slice A1 n cc1) n (bvals q)) (hn : n + 1 ≤ 140737488355328) (g : Nat) (hg : g = wr.heap.size) (hs : a.eval s = .slice A1 n cc1) (hx : a.eval x = .slice (some ⟨g, 0, none⟩) 1 1)
    (h : ∀ A2 c2 w', Pushed wr B (.slice A1 n cc1) q b w' (.slice A2 (n + 1) c2) → wpList Tryd.prog ops Q rest (a.put o.dst (.slice A2 (n + 1) c2)) w') :
    wpList Tryd.prog ops Q (o :: rest) a (wr.alloc (.cells #[.int .u8 (b.toNat : Int)] 5)) := by
  subst hg
  obtain ⟨i0, hi0, hz0, hz1, hz2⟩ := info_of u8_info
  exact list_append _ hgd s x 22 ho B 1 1 Tryd.underlying22 hi0 hz0 hz1 hz2 rfl (Nat.zero_lt_one) (hown.alloc _) hs (Holds.lit wr #[.int .u8 (b.toNat : Int)] 5) hx (by simp [Value.oneCell']) (by simpa using hn) (Nat.zero_lt_one) (by simp; omega)
    fun A' c' w' h1 h2 h3 => h A' c' w' (push_made hq h1 h2 h3)
/-- At a step of a region that draws its order. -/
theorem step_push {ops : Array Oper} {o : Oper} {a : Act} {K : Act → World → Prop} {Q : Exit → Act → World → Prop} {E : Prop} (hgd : o.guard = none) (s x : Operand)
    (ho : o.op = .call { callee := .builtin .append, args := #[s, x], argTypes := #[22, 22] }) (wr : World) {B : Nat} (hB : B ≤ wr.heap.size) {A1 : Option Addr} {n cc1 : Nat} {q : List UInt8} (b : UInt8) (hq : q.length = n)
    (hown : wr.ownsRow B 5 1 (.slice A1 n cc1) n (bvals q)) (hn : n + 1 ≤ 140737488355328) (g : Nat) (hg : g = wr.heap.size) (hs : a.eval s = .slice A1 n cc1) (hx : a.eval x = .slice (some ⟨g, 0, none⟩) 1 1)
    (h : ∀ A2 c2 w', Pushed wr B (.slice A1 n cc1) q b w' (.slice A2 (n + 1) c2) → K (a.put o.dst (.slice A2 (n + 1) c2)) w') :
    if Region.wanted o (yielded ops a.tmps) = true then Oper.wp Tryd.prog o a (wr.alloc (.cells #[.int .u8 (b.toNat : Int)] 5)).drew K Q else E := by
  subst hg
  obtain ⟨i0, hi0, hz0, hz1, hz2⟩ := info_of u8_info
  exact step_append _ hgd s x 22 ho B 1 1 Tryd.underlying22 hi0 hz0 hz1 hz2 rfl (Nat.zero_lt_one) (hown.alloc _) hs (Holds.lit wr #[.int .u8 (b.toNat : Int)] 5) hx (by simp [Value.oneCell']) (by simpa using hn) (Nat.zero_lt_one) (by simp; omega)
    fun A' c' w' h1 h2 h3 => h A' c' w' (push_made hq h1 (o := .cells #[.int .u8 (b.toNat : Int)] 5) ⟨h2.os, h2.tape, h2.output, h2.size, h2.block⟩ h3)
end Go.Proofs.YtopjkmobnmaaaaaDoor

