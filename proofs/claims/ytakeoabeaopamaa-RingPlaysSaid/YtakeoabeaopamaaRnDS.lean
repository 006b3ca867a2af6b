/-
  Package ring, of texts: Push.
-/
import Derived.Test.YtakeoabeaopamaaRnCS
namespace Go.Proofs.Ytakeoabeaopamaa
open Go Go.RowKit

theorem str_info : (Try.prog.info? 9).map (fun i => (i.zero, i.size, i.bytes)) = some (some (.string ByteArray.empty), 1, 16) := by kernel_rfl

set_option maxRecDepth 100000 in
set_option maxHeartbeats 4000000 in
/-- Where there is no room at all. -/
theorem push_rs0 {w : World} {B g n c f k : Nat} {A : Option Addr} {xs l : List Value} (h : Rg 57 9 w B g 0 n c A f xs l k) (x : ByteArray) (hk : k ≤ 1000000) :
    Calls Try.prog 20 #[.pointer (some ⟨g, 0, none⟩), (Value.string x)] w fun e w' => e = .returned (.tuple #[(Value.string x), .bool true]) ∧ Rg 57 9 w' B g 0 n c A f xs l (k + 1) ∧ Tn [g] w (.slice A n c) w' (.slice A n c) := by
  have c0 : w.cell? ⟨g, 0, none⟩ = some (.int .i64 (0 : Nat)) := h.box.cell 0
  have c4 : w.cell? ⟨g, 4, none⟩ = some (.int .i64 k) := h.box.cell 4
  have z4 := h.box.free 4
  have kw : IntKind.i64.wrap ((k : Int) + 1) = (k : Int) + 1 := IntWalk.i64_in _ ⟨by omega, by omega⟩
  have hb3 := h.box.set 4 (.int .i64 (k + 1 : Nat))
  have hS3 : Only [g] w (w.setCell ⟨g, 4, none⟩ (.int .i64 (k + 1 : Nat))) := (Only.refl [g] w).setCell (p := ⟨g, 4, none⟩) (by simp) _
  have hne : ∀ b', (Value.slice A n c).ownBlock = some b' → b' ∉ [g] := by
    intro b' hb' hm
    simp at hm
    exact own_ne h.own h.box (by decide) (by rw [hb', hm])
  have ho3 := own_keep h.own hS3 hne
  have HF := hide (And.intro h (And.intro hb3 (And.intro ho3 hS3)))
  clear h hb3 ho3 hS3 hne
  go_enter Try.func20, Try.ntmps20
  go_wp2_with fail
  go_ret2
  obtain ⟨h, hb3, ho3, hO3⟩ := HF.out
  exact ⟨rfl, ⟨hb3, ho3, h.base, h.most, h.top, h.cnt, h.first, h.back, h.spot⟩, ⟨hO3.weak (fun _ hm _ => List.mem_append.2 (.inl hm)), fun b h => .inl h⟩⟩

set_option maxRecDepth 100000 in
set_option maxHeartbeats 4000000 in
/-- Where it is full. -/
theorem push_rs1 {w : World} {B g M n c f k : Nat} {A : Option Addr} {xs l : List Value} (h : Rg 57 9 w B g M n c A f xs l k) (x : ByteArray) (y : Value) (hl : l.length = M) (hM : 0 < M) (hy : l[0]? = some y) (hk : k ≤ 1000000) :
    Calls Try.prog 20 #[.pointer (some ⟨g, 0, none⟩), (Value.string x)] w fun e w' => e = .returned (.tuple #[y, .bool true]) ∧ Rg 57 9 w' B g M n c A ((f + 1) % n) (xs.set f (Value.string x)) (l ++ [(Value.string x)]).tail (k + 1) ∧ Tn [g] w (.slice A n c) w' (.slice A n c) := by
  have c0 : w.cell? ⟨g, 0, none⟩ = some (.int .i64 (M : Nat)) := h.box.cell 0
  have c3 : w.cell? ⟨g, 3, none⟩ = some (.int .i64 (l.length : Nat)) := h.box.cell 3
  have HP := hide (pushOut_rs (h.only ((Only.refl [] w).drew) (by simp) (by simp)) x y (by have := h.cnt; have := h.most; omega) (by have := h.cnt; have := h.most; omega) hy hk)
  have kM : ¬ (M : Int) = 0 := by omega
  rw [hl] at c3
  clear h
  go_enter Try.func20, Try.ntmps20
  go_wp2_with fail
  go_region
  go_wp2_with fail
  refine (HP.out).mono ?_
  rintro e w2 ⟨rfl, hR, hT⟩
  have HF := hide (And.intro hR hT)
  clear hR hT
  go_wp2_with fail
  go_ret2
  exact ⟨rfl, HF.out.1, HF.out.2.of_drew⟩

set_option maxRecDepth 100000 in
set_option maxHeartbeats 4000000 in
/-- Where a slot is free. -/
theorem push_rs2 {w : World} {B g M n c f k : Nat} {A : Option Addr} {xs l : List Value} (h : Rg 57 9 w B g M n c A f xs l k) (x : ByteArray) (hl : l.length < n) :
    Calls Try.prog 20 #[.pointer (some ⟨g, 0, none⟩), (Value.string x)] w fun e w' => e = .returned (.tuple #[(.string ByteArray.empty : Value), .bool false]) ∧ Rg 57 9 w' B g M n c A f (xs.set ((f + l.length) % n) (Value.string x)) (l ++ [(Value.string x)]) k ∧ Tn [g] w (.slice A n c) w' (.slice A n c) := by
  have hn : 0 < n := by omega
  have hf : f < n := by have := h.first; omega
  obtain ⟨b, rfl, hB, hlt, hfr, hc⟩ := own_open h.own hn
  have hbg : b ≠ g := fun e => own_ne h.own h.box (by decide) (by rw [e]; rfl)
  have c0 : w.cell? ⟨g, 0, none⟩ = some (.int .i64 (M : Nat)) := h.box.cell 0
  have c1 : w.cell? ⟨g, 1, none⟩ = some (.slice (some ⟨b, 0, none⟩) n c) := h.box.cell 1
  have c2 : w.cell? ⟨g, 2, none⟩ = some (.int .i64 f) := h.box.cell 2
  have c3 : w.cell? ⟨g, 3, none⟩ = some (.int .i64 (l.length : Nat)) := h.box.cell 3
  have hn6 : n ≤ 65536 := by have := h.most; have := h.top; omega
  have kM : ¬ (M : Int) = 0 := by have := h.most; omega
  have k1 : ¬ ((l.length : Nat) : Int) = (M : Int) := by have := h.most; omega
  have k2 : ¬ ((l.length : Nat) : Int) = (n : Int) := by omega
  have HS := hide (fun (x : Later w.drew.drew) => slot_rs (later_cell (w := w.drew.drew) c1 x) (later_cell (w := w.drew.drew) c2 x) (by omega) hn6 l.length (by omega) hn)
  have hs : (f + l.length) % n < n := Nat.mod_lt _ hn
  have hsp := spot_in (Value.string x) (by have := h.own.1; omega) hl hf h.spot
  have hll : l.length ≤ 65536 := by omega
  have hfr := hfr ((f + l.length) % n)
  obtain ⟨u, hu⟩ : ∃ u, xs[(f + l.length) % n]? = some u := ⟨_, List.getElem?_eq_getElem (by have := h.own.1; omega)⟩
  have hu := hc _ _ hu
  generalize hsv : (f + l.length) % n = s at *
  have k3 : (s : Int) < (n : Int) := by omega
  have HH := hide (And.intro h (And.intro hbg (And.intro hsp hl)))
  have d1 := later_cell (w := w.drew.drew) c1
  have d3 := later_cell (w := w.drew.drew) c3
  clear h hB hlt hc hbg hsp hl hsv
  go_enter Try.func20, Try.ntmps20
  go_wp2_with fail
  go_region
  go_wp2_with fail
  go_region
  go_wp2_with fail
  refine region_later_tail 12 (by kernel_rfl) (by kernel_rfl) ?_
  simp only [List.take_succ_cons, List.take_zero, List.drop_succ_cons, List.drop_zero]
  iterate 9 (go_big_quiet_step (fail))
  go_big_quiet_step ((go_at_call 28; refine later_of (HS.out _)))
  iterate 2 (go_big_quiet_step (fail))
  refine wpQuiet_nil ?_
  rintro _ ⟨X, rfl⟩
  change wpList _ _ _ _ _ X.val
  have hx := X.only.of_drew.of_drew
  obtain ⟨h, hbg, hsp, hl⟩ := HH.out
  have q1 : X.val.cell? ⟨b, s, none⟩ = some u := by rw [hx.cell (World.block_lt_of_cell? w _ hu) (by simp)]; exact hu
  have q2 : X.val.frozen? ⟨b, s, none⟩ = false := by rw [hx.frozen (World.block_lt_of_cell? w _ hu) (by simp)]; exact hfr
  have hb1 := (h.box.only hx (by simp)).other (p := ⟨b, s, none⟩) (fun e => hbg e.symm) (Value.string x)
  have ho1 := own_set (own_keep h.own hx (by simp)) s (Value.string x)
  have r3 : (X.val.setCell ⟨b, s, none⟩ (Value.string x)).cell? ⟨g, 3, none⟩ = some (.int .i64 (l.length : Nat)) := hb1.cell 3
  have r4 : (X.val.setCell ⟨b, s, none⟩ (Value.string x)).frozen? ⟨g, 3, none⟩ = false := hb1.free 3
  have hO1 : Only [g, b] w (X.val.setCell ⟨b, s, none⟩ (Value.string x)) := hx.of_nil.setCell (by simp) _
  have kw : IntKind.i64.wrap (((l.length : Nat) : Int) + 1) = ((l.length : Nat) : Int) + 1 := IntWalk.i64_in _ ⟨by omega, by omega⟩
  have hb3 := hb1.set 3 (.int .i64 (l.length + 1 : Nat))
  have hne : ∀ b', (Value.slice (some ⟨b, 0, none⟩) n c).ownBlock = some b' → b' ∉ [g] := by
    intro b' hb'
    have : b = b' := by simpa [Value.ownBlock] using hb'
    subst this
    simp [hbg]
  have hS3 : Only [g] (X.val.setCell ⟨b, s, none⟩ (Value.string x)) ((X.val.setCell ⟨b, s, none⟩ (Value.string x)).setCell ⟨g, 3, none⟩ (.int .i64 (l.length + 1 : Nat))) := (Only.refl [g] _).setCell (p := ⟨g, 3, none⟩) (by simp) _
  have ho3 := own_keep ho1 hS3 hne
  have hO3 := hO1.trans hS3 (S := [g, b]) (by simp)
  have HF := hide (And.intro hb3 (And.intro ho3 hO3))
  clear h hb1 ho1 hO1 hb3 ho3 hO3 hS3 hne hsp hl hx hu hfr
  go_wp2_with fail
  go_ret2
  obtain ⟨h, hbg, hsp, hl⟩ := HH.out
  obtain ⟨hb3, ho3, hO3⟩ := HF.out
  refine ⟨rfl, ⟨?_, ho3, h.base, h.most, h.top, ?_, h.first, h.back, hsp⟩, ⟨hO3, fun b h => .inl h⟩⟩
  · rw [List.length_append]; exact hb3
  · rw [List.length_append]; exact hl

set_option maxRecDepth 100000 in
set_option maxHeartbeats 4000000 in
/-- Where there is room for a slot more. -/
theorem push_rs3 {w : World} {B g M c f k : Nat} {A : Option Addr} {xs l : List Value} (h : Rg 57 9 w B g M l.length c A f xs l k) (x : ByteArray) (hl : l.length < M) :
    Calls Try.prog 20 #[.pointer (some ⟨g, 0, none⟩), (Value.string x)] w fun e w' => ∃ c' A', e = .returned (.tuple #[(.string ByteArray.empty : Value), .bool false]) ∧ Rg 57 9 w' B g M (l.length + 1) c' A' f (xs ++ [(Value.string x)]) (l ++ [(Value.string x)]) k ∧ Tn [g] w (.slice A l.length c) w' (.slice A' (l.length + 1) c') := by
  obtain ⟨i0, hi0, hz0, hz1, hz2⟩ := info_of str_info
  obtain rfl := h.back hl
  have hsp := spot_more (Value.string x) (by have := h.own.1; omega) rfl h.spot
  have hM := h.top
  have hll : l.length ≤ 65536 := by omega
  have c0 : w.cell? ⟨g, 0, none⟩ = some (.int .i64 (M : Nat)) := h.box.cell 0
  have c1 : w.cell? ⟨g, 1, none⟩ = some (.slice A l.length c) := h.box.cell 1
  have c3 : w.cell? ⟨g, 3, none⟩ = some (.int .i64 (l.length : Nat)) := h.box.cell 3
  have kM : ¬ (M : Int) = 0 := by omega
  have k1 : ¬ ((l.length : Nat) : Int) = (M : Int) := by omega
  have hD := h.only (((Only.refl [] w).drew).drew) (by simp) (by simp)
  obtain ⟨wd, hwd⟩ : ∃ wd, wd = w.drew.drew := ⟨_, rfl⟩
  rw [← hwd] at hD
  have d1 : wd.cell? ⟨g, 1, none⟩ = some (.slice A l.length c) := hD.box.cell 1
  have hoD : Only [g] w wd := by rw [hwd]; exact ((Only.refl [g] w).drew).drew
  have hown := (hD.own.alloc (.cells #[(Value.string x)] 9))
  have hne := own_ne hD.own hD.box (by decide)
  have hsrc : Holds (wd.alloc (.cells #[(Value.string x)] 9)) 1 (some ⟨wd.heap.size, 0, none⟩) 1 [(Value.string x)] := Holds.lit wd #[(Value.string x)] 9
  have hB : B ≤ (wd.alloc (.cells #[(Value.string x)] 9)).heap.size := by have := hD.base; have := hD.box.lt; simp; omega
  have hT : Tn [g] w (.slice A l.length c) (wd.alloc (.cells #[(Value.string x)] 9)) (.slice A l.length c) := Tn.nil (hoD.alloc _)
  have hbx := hD.box.alloc (.cells #[(Value.string x)] 9)
  obtain ⟨n, hn⟩ : ∃ n, l.length = n := ⟨_, rfl⟩
  have HH := hide (And.intro h (And.intro hn (And.intro hsp hT)))
  have hn8 : (n + 1) * 16 ≤ 140737488355328 := by omega
  rw [hn] at hown c1 c3 k1 d1 hbx hne
  have HB := hide (And.intro hbx hne)
  have HO := hide (And.intro hown (And.intro hsrc (And.intro hB hn8)))
  have h1c : ∀ u ∈ [Value.string x], u.oneCell' = true := by intro u hu; simp at hu; subst hu; rfl
  have HW := hide hwd
  have HL := hide hll
  have kw : IntKind.i64.wrap ((n : Int) + 1) = (n : Int) + 1 := IntWalk.i64_in _ ⟨by omega, by omega⟩
  clear h hsp hown hsrc hB hT hbx hne hn8 hM hn hll hl hD hoD hwd
  go_enter Try.func20, Try.ntmps20
  go_wp2_with fail
  go_region
  go_wp2_with fail
  go_region
  rw [← HW.out]
  go_wp2_with (at_builtin; refine list_append _ rfl (.tmp 46) (.tmp 48) 55 rfl B 1 16 Try.underlying55 hi0 hz0 hz1 hz2 rfl (by decide) HO.out.1 rfl HO.out.2.1 rfl h1c HO.out.2.2.2 (by decide) HO.out.2.2.1 ?_; intro A2 c2 w2 hown2 hg2 hat2; have HG := hide (And.intro hown2 (And.intro hg2 hat2)); have hbx2 := HB.out.1.grown hg2 HB.out.2; have e1 : w2.cell? ⟨g, 1, none⟩ = some (.slice A n c) := hbx2.cell 1; have e2 : w2.frozen? ⟨g, 1, none⟩ = false := hbx2.free 1; have e3 : w2.cell? ⟨g, 3, none⟩ = some (.int .i64 n) := hbx2.cell 3; have e4 : w2.frozen? ⟨g, 3, none⟩ = false := hbx2.free 3; have HB2 := hide hbx2; clear hown2 hg2 hat2 hbx2)
  go_ret2
  obtain ⟨h, hn, hsp, hT⟩ := HH.out
  obtain ⟨hbx, hne⟩ := HB.out
  rw [hn] at hT
  have hbx2 := HB2.out
  have hT2 := hT.grown0 HG.out.2.1 HG.out.2.2
  have hb3 := (hbx2.set 1 (.slice A2 (n + 1) c2)).set 3 (.int .i64 (n + 1 : Nat))
  have hnew : some g ≠ (Value.slice A2 (n + 1) c2).ownBlock := own_ne HG.out.1 hbx2 (by decide)
  have hne3 : ∀ b', (Value.slice A2 (n + 1) c2).ownBlock = some b' → b' ∉ [g] := by
    intro b' hb' hm
    simp at hm
    exact hnew (by rw [hb', hm])
  have hS3 : Only [g] w2 ((w2.setCell ⟨g, 1, none⟩ (.slice A2 (n + 1) c2)).setCell ⟨g, 3, none⟩ (.int .i64 (n + 1 : Nat))) := ((Only.refl [g] w2).setCell (p := ⟨g, 1, none⟩) (by simp) _).setCell (p := ⟨g, 3, none⟩) (by simp) _
  have ho3 := own_keep HG.out.1 hS3 hne3
  have hT3 := hT2.step hS3
  subst hn
  refine ⟨c2, A2, rfl, ⟨?_, ho3, h.base, by have := h.most; omega, h.top, by simp, .inr rfl, fun _ => rfl, hsp⟩, hT3⟩
  rw [List.length_append]
  exact hb3
end Go.Proofs.Ytakeoabeaopamaa
