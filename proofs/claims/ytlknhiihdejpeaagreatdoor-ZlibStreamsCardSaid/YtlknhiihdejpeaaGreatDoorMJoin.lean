/-
  'append(append([]byte{}, x...), y...)': a new row of bytes, and more behind it. | Bytes packed, by the program and by the document: the same.
-/
import Derived.Test.YtlknhiihdejpeaaGreatDoorMMem
import Derived.Test.YtlknhiihdejpeaaGreatDoorMGrow
import Derived.Test.YtlknhiihdejpeaaGreatDoorMTWrite
import Derived.Test.YtlknhiihdejpeaaGreatDoorMZlP
import Derived.Test.YtlknhiihdejpeaaGreatDoorMSumD
namespace Go.Proofs.YtlknhiihdejpeaaGreatDoor
open Go Go.RowKit

/-- Onto the empty row that was made just now. -/
theorem list_fresh {ops : Array Oper} {rest : List Oper} {o : Oper} {a : Act} {Q : Exit → Act → World → Prop} (hgd : o.guard = none) (s x : Operand)
    (ho : o.op = .call { callee := .builtin .append, args := #[s, x], argTypes := #[22, 22] }) (w : World) {A : Option Addr} {n c : Nat} {l : List UInt8} (hl : l.length = n) (hb : Holds w 1 A n (bvals l)) (hn : n ≤ 140737488355328)
    (g : Nat) (hg : g = w.heap.size) (hs : a.eval s = .slice (some ⟨g, 0, none⟩) 0 0) (hx : a.eval x = .slice A n c)
    (h : ∀ A' c' w', w'.ownsRow w.heap.size 5 1 (.slice A' n c') n (bvals l) → Only [] w w' → wpList Tryz.prog ops Q rest (a.put o.dst (.slice A' n c')) w') :
    wpList Tryz.prog ops Q (o :: rest) a (w.alloc (.cells #[] 5)) := by
  subst hg
  obtain ⟨i0, hi0, hz0, hz1, hz2⟩ := info_of u8_info
  have hol : (w.alloc (.cells #[] 5)).ownsRow w.heap.size 5 1 (.slice (some ⟨w.heap.size, 0, none⟩) 0 0) 0 [] :=
    ⟨rfl, .inr ⟨w.heap.size, 0, #[], rfl, Nat.le_refl _, Has.new w _ _, Nat.le_refl _, by unfold maxLen; omega, rfl, rfl⟩⟩
  have oa : Only [] w (w.alloc (.cells #[] 5)) := (Only.refl [] w).alloc _
  refine list_append _ hgd s x 22 ho w.heap.size 1 1 Tryz.underlying22 hi0 hz0 hz1 hz2 rfl (Nat.zero_lt_one) hol hs (hb.keep oa (by simp)) hx (bvals_one l) (by omega) (Nat.zero_lt_one) oa.size fun A' c' w' h1 h2 _ => ?_
  rw [Nat.zero_add] at h1 ⊢
  exact h A' c' w' (by simpa using h1) (oa.grown h2 (fun k hk hlt => by injection hk with hk; subst hk; exact absurd hlt (Nat.lt_irrefl _)))

/-- Onto a row that was made since w0. -/
theorem list_more {ops : Array Oper} {rest : List Oper} {o : Oper} {a : Act} {Q : Exit → Act → World → Prop} (hgd : o.guard = none) (s x : Operand)
    (ho : o.op = .call { callee := .builtin .append, args := #[s, x], argTypes := #[22, 22] }) (w0 w : World) {A A1 : Option Addr} {n c n1 c1 : Nat} {l l1 : List UInt8} (_ : l.length = n) (hb : Holds w 1 A n (bvals l)) (hn : n1 + n ≤ 140737488355328)
    (hown : w.ownsRow w0.heap.size 5 1 (.slice A1 n1 c1) n1 (bvals l1)) (ho0 : Only [] w0 w) (hs : a.eval s = .slice A1 n1 c1) (hx : a.eval x = .slice A n c)
    (h : ∀ A' c' w', w'.ownsRow w0.heap.size 5 1 (.slice A' (n1 + n) c') (n1 + n) (bvals (l1 ++ l)) → Only [] w0 w' → wpList Tryz.prog ops Q rest (a.put o.dst (.slice A' (n1 + n) c')) w') :
    wpList Tryz.prog ops Q (o :: rest) a w := by
  obtain ⟨i0, hi0, hz0, hz1, hz2⟩ := info_of u8_info
  refine list_append _ hgd s x 22 ho w0.heap.size 1 1 Tryz.underlying22 hi0 hz0 hz1 hz2 rfl (Nat.zero_lt_one) hown hs hb hx (bvals_one l) (by omega) (Nat.zero_lt_one) ho0.size fun A' c' w' h1 h2 _ => ?_
  exact h A' c' w' (by rw [bvals_append]; exact h1) (ho0.grown h2 (fun k hk hlt => by have := (hown.lt k hk).1; omega))
end Go.Proofs.YtlknhiihdejpeaaGreatDoor


namespace Go.Proofs.YtlknhiihdejpeaaGreatDoor
open Go Go.RowKit

/-- s is b as a stream, packed so. -/
def PackIs (fx : Bool) (b s : List UInt8) : Prop := ∃ bs, (if fx = true then IsFixed b bs else bs = storeB true b) ∧ s = [0x78, 0x01] ++ bs ++ bigN (adWord (adOf b))
theorem PackIs.inj {fx : Bool} {b s s' : List UInt8} (h : PackIs fx b s) (h' : PackIs fx b s') : s = s' := by
  obtain ⟨bs, h1, rfl⟩ := h
  obtain ⟨bs', h1', rfl⟩ := h'
  cases fx with
  | true => rw [if_pos rfl] at h1 h1'; rw [h1.inj h1']
  | false => rw [if_neg (by decide)] at h1 h1'; rw [h1, h1']
theorem PackIs.packed {fx : Bool} {b s : List UInt8} (h : PackIs fx b s) (hn : b.length ≤ 4096) : Packed b s := by
  obtain ⟨bs, h1, rfl⟩ := h
  cases fx with
  | true => rw [if_pos rfl] at h1; exact ⟨bs, .inr h1, rfl⟩
  | false => rw [if_neg (by decide)] at h1; exact ⟨bs, .inl ⟨h1, by omega⟩, rfl⟩
theorem PackIs.le {fx : Bool} {b s : List UInt8} (h : PackIs fx b s) (hn : b.length ≤ 4096) : s.length ≤ 9000 := by
  obtain ⟨bs, h2, rfl⟩ := h.packed hn
  have := h2.len_le
  simp [bigN]
  omega

/-- What a packing tells. -/
def PkR (fx : Bool) (b : List UInt8) (w : World) (e : Ending) (w' : World) : Prop := ∃ v s, e = .returned v ∧ PackIs fx b s ∧ w'.ownsRow w.heap.size 5 1 v s.length (bvals s) ∧ Only [] w w'

theorem packP (fx : Bool) (A : Option Addr) (n c : Nat) (b : List UInt8) (w : World) (hb : Holds w 1 A n (bvals b)) (hl : b.length = n) (hc : n ≤ c) (hn : n ≤ 4096) :
    Calls Tryz.prog 8 #[.slice A n c, .bool fx] w (PkR fx b w) := by
  cases fx with
  | true =>
    refine (pack_fixed A n c b w hb hl hc (by omega) (IsFixed b) (fun bs h => by have := (show IsStream b bs from .inr h).len_le; omega) fun w1 ho => ?_).mono ?_
    · refine (fixedP_any A n c b w1 (hb.keep ho (by simp)) hl (by omega)).mono ?_
      rintro e w' ⟨v, bs, rfl, h1, h2, h3⟩
      exact ⟨v, bs, rfl, h1, h2, h3⟩
    · rintro e w' ⟨v, bs, h1, h2, h3, h4⟩
      exact ⟨v, _, h1, ⟨bs, by rw [if_pos rfl]; exact h2, rfl⟩, h3, h4⟩
  | false =>
    refine (pack_store A n c b w hb hl hc (by omega) (fun bs => bs = storeB true b) (fun bs h => by rw [h, storeB_length]; omega) fun w1 ho => ?_).mono ?_
    · refine (store_any A n c b w1 (hb.keep ho (by simp)) hl (by omega)).mono ?_
      rintro e w' ⟨v, rfl, h1, h2⟩
      exact ⟨v, _, rfl, rfl, h1, h2⟩
    · rintro e w' ⟨v, bs, h1, h2, h3, h4⟩
      exact ⟨v, _, h1, ⟨bs, by rw [if_neg (by decide)]; exact h2, rfl⟩, h3, h4⟩

theorem own_lit2 (w : World) : (w.alloc (.cells #[.int .u8 120, .int .u8 1] 5)).ownsRow w.heap.size 5 1 (.slice (some ⟨w.heap.size, 0, none⟩) 2 2) 2 (bvals [0x78, 0x01]) :=
  ⟨rfl, .inr ⟨w.heap.size, 2, _, rfl, Nat.le_refl _, Has.new w _ _, Nat.le_refl _, by unfold maxLen; omega, rfl, rfl⟩⟩

set_option maxRecDepth 100000 in
set_option maxHeartbeats 8000000 in
theorem packR (fx : Bool) (A : Option Addr) (n c : Nat) (b : List UInt8) (w : World) (hb : Holds w 1 A n (bvals b)) (hl : b.length = n) (hc : n ≤ c) (hn : n ≤ 4096) :
    Calls Tryz.prog 9 #[.slice A n c, .bool fx] w (PkR fx b w) := by
  have hl32 : adWord (adOf b) < 4294967296 := by have := adOf_lt b; unfold adWord; omega
  obtain ⟨s, hsum⟩ : ∃ s, s = adWord (adOf b) := ⟨_, rfl⟩
  have HST : Hid (∀ w1, Only [] w w1 → _) := hide (fun w1 (ho : Only [] w w1) => tStore_any A n c b w1 (hb.keep ho (by simp)) hl (by omega) hc)
  have HFX : Hid (∀ w1, Only [] w w1 → _) := hide (fun w1 (ho : Only [] w w1) => tFixedP_any A n c b w1 (hb.keep ho (by simp)) hl (by omega))
  have HAD : Hid (∀ w1, Only [] w w1 → _) := hide (fun w1 (ho : Only [] w w1) => refAdler_any A n c b w1 (hb.keep ho (by simp)) hl (by omega))
  rw [← hsum] at HAD hl32
  obtain ⟨y0, hy0⟩ : ∃ a, a = s / 16777216 := ⟨_, rfl⟩
  obtain ⟨d1, hd1⟩ : ∃ a, a = s / 65536 := ⟨_, rfl⟩
  obtain ⟨d2, hd2⟩ : ∃ a, a = s / 256 := ⟨_, rfl⟩
  obtain ⟨y1, hy1⟩ : ∃ a, a = d1 % 256 := ⟨_, rfl⟩
  obtain ⟨y2, hy2⟩ : ∃ a, a = d2 % 256 := ⟨_, rfl⟩
  obtain ⟨y3, hy3⟩ : ∃ a, a = s % 256 := ⟨_, rfl⟩
  have hbig : bvals (bigN s) = [.int .u8 (y0 : Int), .int .u8 (y1 : Int), .int .u8 (y2 : Int), .int .u8 (y3 : Int)] := by
    unfold bigN bvals
    simp only [List.map_cons, List.map_nil, u8of_int]
    rw [show ((s / 16777216 : Nat) : Int) % 256 = (y0 : Int) by omega, show ((s / 65536 : Nat) : Int) % 256 = (y1 : Int) by omega, show ((s / 256 : Nat) : Int) % 256 = (y2 : Int) by omega, show (s : Int) % 256 = (y3 : Int) by omega]
  have e1 : (s : Int) / 16777216 = (y0 : Int) := by omega
  have e1' : (y0 : Int) % 256 = (y0 : Int) := by omega
  have e2 : (s : Int) / 65536 = (d1 : Int) := by omega
  have e2' : (d1 : Int) % 256 = (y1 : Int) := by omega
  have e3 : (s : Int) / 256 = (d2 : Int) := by omega
  have e3' : (d2 : Int) % 256 = (y2 : Int) := by omega
  have e4' : (s : Int) % 256 = (y3 : Int) := by omega
  have HBG := hide (And.intro hbig (And.intro hsum (And.intro hl hn)))
  clear hb hl hc hn hsum hy0 hd1 hd2 hy1 hy2 hy3 hbig
  cases fx
  · go_enter Tryz.func9, Tryz.ntmps9
    go_wp2_with fail
    refine (HST.out w (Only.refl _ _)).mono ?_
    rintro e w2 ⟨v, rfl, how, ho2⟩
    have hlen : (storeB true b).length ≤ 8197 := by rw [storeB_length]; have := HBG.out.2.2.1; have := HBG.out.2.2.2; omega
    have hpk : PackIs false b ([0x78, 0x01] ++ storeB true b ++ bigN s) := ⟨_, by rw [if_neg (by decide)], by rw [HBG.out.2.1]⟩
    generalize storeB true b = bs at *
    obtain ⟨Av, cv, rfl, _, _⟩ := own_shape how
    obtain ⟨m, hm⟩ : ∃ m, m = bs.length := ⟨_, rfl⟩
    rw [← hm] at how hlen ⊢
    have H2 := hide (And.intro ho2 (And.intro hpk hm))
    have hb2 := Holds.of_own how
    have hm' := hm.symm
    have hr1 : 2 + m ≤ 140737488355328 := by omega
    have hr2 : 2 + m + 4 ≤ 140737488355328 := by omega
    clear ho2 how hpk hm
    go_wp2_with fail
    refine (HAD.out w2 H2.out.1).mono ?_
    rintro e w3 ⟨rfl, rfl⟩
    have oa : Only [] w2 (w2.alloc (.cells #[.int .u8 120, .int .u8 1] 5)) := (Only.refl [] w2).alloc _
    have hol := own_lit2 w2
    have hb3 := hb2.keep oa (by simp)
    clear hlen
    go_wp2_with (first
      | (at_builtin; refine list_more rfl (.tmp 15) (.tmp 16) rfl w2 (w2.alloc (.cells #[.int .u8 120, .int .u8 1] 5)) hm' hb3 hr1 hol oa rfl rfl ?_; intro A5 c5 w5 hown5 ho5
         have hb6 := Holds.lit w5 #[.int .u8 (y0 : Int), .int .u8 (y1 : Int), .int .u8 (y2 : Int), .int .u8 (y3 : Int)] 5
         have hown6 := own_keep hown5 ((Only.refl [] w5).alloc (.cells #[.int .u8 (y0 : Int), .int .u8 (y1 : Int), .int .u8 (y2 : Int), .int .u8 (y3 : Int)] 5)) (by simp)
         have ho6 := ho5.alloc (.cells #[.int .u8 (y0 : Int), .int .u8 (y1 : Int), .int .u8 (y2 : Int), .int .u8 (y3 : Int)] 5)
         rw [show (#[Value.int .u8 (y0 : Int), .int .u8 (y1 : Int), .int .u8 (y2 : Int), .int .u8 (y3 : Int)] : Array Value).toList = bvals (bigN s) from HBG.out.1.symm] at hb6)
      | (at_builtin; refine list_more rfl (.tmp 18) (.tmp 30) rfl w2 _ (l := bigN s) rfl hb6 hr2 hown6 ho6 rfl rfl ?_; intro A7 c7 w7 hown7 ho7))
    have hlen7 : ([0x78, 0x01] ++ bs ++ bigN s).length = 2 + m + 4 := by rw [List.length_append, List.length_append, ← H2.out.2.2]; rfl
    have H7 := hide (And.intro (H2.out.1.trans ho7 (S := []) (by simp)) (own_mono (base' := w.heap.size) hown7 H2.out.1.size))
    clear hown5 ho5 hb6 hown6 ho6 hown7 ho7
    go_ret
    exact ⟨_, _, rfl, H2.out.2.1, by rw [hlen7]; exact H7.out.2, H7.out.1⟩
  · go_enter Tryz.func9, Tryz.ntmps9
    go_wp2_with fail
    refine (HST.out w (Only.refl _ _)).mono ?_
    rintro e w1 ⟨v0, rfl, _, ho1⟩
    have H1 := hide ho1
    clear ho1
    go_wp2_with fail
    refine (HFX.out w1 H1.out).mono ?_
    rintro e w2 ⟨v, bs, rfl, hfx, how, ho12⟩
    have hlen : bs.length ≤ 8197 := by have := (show IsStream b bs from .inr hfx).len_le; have := HBG.out.2.2.1; have := HBG.out.2.2.2; omega
    have ho2 : Only [] w w2 := H1.out.trans ho12 (S := []) (by simp)
    have hpk : PackIs true b ([0x78, 0x01] ++ bs ++ bigN s) := ⟨_, by rw [if_pos rfl]; exact hfx, by rw [HBG.out.2.1]⟩
    obtain ⟨Av, cv, rfl, _, _⟩ := own_shape how
    obtain ⟨m, hm⟩ : ∃ m, m = bs.length := ⟨_, rfl⟩
    rw [← hm] at how hlen ⊢
    have H2 := hide (And.intro ho2 (And.intro hpk hm))
    have hb2 := Holds.of_own how
    have hm' := hm.symm
    have hr1 : 2 + m ≤ 140737488355328 := by omega
    have hr2 : 2 + m + 4 ≤ 140737488355328 := by omega
    clear ho2 how hpk hm ho12 hfx
    go_wp2_with fail
    refine (HAD.out w2 H2.out.1).mono ?_
    rintro e w3 ⟨rfl, rfl⟩
    have oa : Only [] w2 (w2.alloc (.cells #[.int .u8 120, .int .u8 1] 5)) := (Only.refl [] w2).alloc _
    have hol := own_lit2 w2
    have hb3 := hb2.keep oa (by simp)
    clear hlen
    go_wp2_with (first
      | (at_builtin; refine list_more rfl (.tmp 15) (.tmp 16) rfl w2 (w2.alloc (.cells #[.int .u8 120, .int .u8 1] 5)) hm' hb3 hr1 hol oa rfl rfl ?_; intro A5 c5 w5 hown5 ho5
         have hb6 := Holds.lit w5 #[.int .u8 (y0 : Int), .int .u8 (y1 : Int), .int .u8 (y2 : Int), .int .u8 (y3 : Int)] 5
         have hown6 := own_keep hown5 ((Only.refl [] w5).alloc (.cells #[.int .u8 (y0 : Int), .int .u8 (y1 : Int), .int .u8 (y2 : Int), .int .u8 (y3 : Int)] 5)) (by simp)
         have ho6 := ho5.alloc (.cells #[.int .u8 (y0 : Int), .int .u8 (y1 : Int), .int .u8 (y2 : Int), .int .u8 (y3 : Int)] 5)
         rw [show (#[Value.int .u8 (y0 : Int), .int .u8 (y1 : Int), .int .u8 (y2 : Int), .int .u8 (y3 : Int)] : Array Value).toList = bvals (bigN s) from HBG.out.1.symm] at hb6)
      | (at_builtin; refine list_more rfl (.tmp 18) (.tmp 30) rfl w2 _ (l := bigN s) rfl hb6 hr2 hown6 ho6 rfl rfl ?_; intro A7 c7 w7 hown7 ho7))
    have hlen7 : ([0x78, 0x01] ++ bs ++ bigN s).length = 2 + m + 4 := by rw [List.length_append, List.length_append, ← H2.out.2.2]; rfl
    have H7 := hide (And.intro (H2.out.1.trans ho7 (S := []) (by simp)) (own_mono (base' := w.heap.size) hown7 H2.out.1.size))
    clear hown5 ho5 hb6 hown6 ho6 hown7 ho7
    go_ret
    exact ⟨_, _, rfl, H2.out.2.1, by rw [hlen7]; exact H7.out.2, H7.out.1⟩
end Go.Proofs.YtlknhiihdejpeaaGreatDoor

