/-
  Package ring: All: the numbers and things, copied.
-/
import Derived.Test.YtakeoabeaopamaaRnU
import Derived.Test.YtakeoabeaopamaaRdIn
import Derived.Test.YtakeoabeaopamaaAdd
import Derived.Laws.MakeOwn
namespace Go.Proofs.Ytakeoabeaopamaa
open Go Go.RowKit Go.Shelf
attribute [local go_sem] Oper.semAt_some

theorem has0 {w : World} (ta : TypeId) (ca : Array Value) (o2 o3 : Obj) : Has (((w.alloc (.cells ca ta)).alloc o2).alloc o3).drew w.heap.size ta ca := (((Has.new w ta ca).alloc o2).alloc o3).drew
theorem has1 {w : World} (o1 : Obj) (ta : TypeId) (ca : Array Value) (o3 : Obj) : Has (((w.alloc o1).alloc (.cells ca ta)).alloc o3).drew (w.heap.size + 1) ta ca := by
  have h := Has.new (w.alloc o1) ta ca
  rw [World.size_alloc] at h
  exact (h.alloc o3).drew
theorem has2 {w : World} (o1 o2 : Obj) (ta : TypeId) (ca : Array Value) : Has (((w.alloc o1).alloc o2).alloc (.cells ca ta)).drew (w.heap.size + 1 + 1) ta ca := by
  have h := Has.new ((w.alloc o1).alloc o2) ta ca
  rw [World.size_alloc, World.size_alloc] at h
  exact h.drew
/-- What All has laid ahead of its copying. -/
structure AllP (w : World) (k n : Nat) (cs0 : Array Value) (gt gg gm : Nat) (X : World) : Prop where
  there : Has X gt 37 #[.slice (some ⟨gm, 0, none⟩) 0 n]
  gone : Has X gg 2 #[.int .i64 k]
  row : Has X gm 3 cs0
  b1 : w.heap.size ≤ gt
  b2 : w.heap.size ≤ gg
  b3 : w.heap.size ≤ gm
  only : Only [] w X

theorem make_emp (c : Nat) (hc : c ≤ 65536) : ∃ cs : Array Value, cs.size = c ∧ ∀ W : World, (Instr.makeSlice 37 (.int .i64 0) (.int .i64 (c : Int))).run Try.prog W = .ok (.slice (some ⟨W.heap.size, 0, none⟩) 0 c) (W.alloc (.cells cs 3)) := by
  obtain ⟨i0, hi0, hz0, hz1, hz2⟩ := info_of int_info
  refine ⟨madeCells (Value.int .i64 0).cells ((c : Int).toNat * i0.size), ?_, fun W => run_make W 37 3 i0 (.int .i64 0) Try.underlying37 hi0 hz0 .i64 .i64 0 (c : Int) (by decide) (by omega) (by rw [hz2]; omega) (by omega)⟩
  rw [size_madeCells, hz1]
  simp

/-- What All has copied. -/
structure AllI (w : World) (k gt gg : Nat) (pre : List Value) (W : World) : Prop where
  ex : ∃ A c, Has W gt 37 #[.slice A pre.length c] ∧ W.ownsRow w.heap.size 3 1 (.slice A pre.length c) pre.length pre
  gone : Has W gg 2 #[.int .i64 k]
  only : Only [] w W
theorem ownFrom_allI {w : World} {k gt gg B : Nat} (hB : w.heap.size ≤ B) : OwnFrom B (AllI w k gt gg) := fun s X Y row hs hg hr => by
  have hO : Only row.toList X Y := (Only.refl row.toList X).grown hg (fun k hk _ => by simp [hk])
  have hne : ∀ g t cs, Has X g t cs → g ∉ row.toList := fun g t cs hh hm => by
    cases row with
    | none => simp at hm
    | some r =>
      simp at hm
      subst hm
      obtain ⟨_, o, ho, hc⟩ := hr g rfl
      unfold Has at hh
      rw [ho] at hh
      injection hh with hh
      subst hh
      cases hc
  obtain ⟨A, c, h1, h2⟩ := hs.ex
  refine ⟨⟨A, c, h1.only hO (hne _ _ _ h1), own_keep h2 hO (fun b hb => ?_)⟩, hs.gone.only hO (hne _ _ _ hs.gone), ownFrom_only (β := Unit) hB () X Y row hs.only hg hr⟩
  rcases h2.2 with ⟨hv, _⟩ | ⟨gb, cap, cur, hv, _, hh, _⟩
  · rw [hv] at hb; simp [Value.ownBlock] at hb
  · rw [hv] at hb
    have e : gb = b := by simpa [Value.ownBlock] using hb
    subst e
    exact hne _ _ cur hh

set_option maxRecDepth 100000 in
set_option maxHeartbeats 8000000 in
theorem all_v {w : World} {B g M k : Nat} {v : Value} {l : List Value} (R : RgV_ri w B g M v l k) (hone : ∀ u ∈ l, ∃ z, u = .int .i64 z) :
    Calls Try.prog 26 #[.pointer (some ⟨g, 0, none⟩)] w fun e w' => ∃ gt gg A c, e = .returned (.func (.func 30) #[] #[.pointer (some ⟨gt, 0, none⟩), .pointer (some ⟨gg, 0, none⟩)]) ∧
      w.heap.size ≤ gt ∧ w.heap.size ≤ gg ∧ Has w' gt 37 #[.slice A l.length c] ∧ Has w' gg 2 #[.int .i64 k] ∧ w'.ownsRow w.heap.size 3 1 (.slice A l.length c) l.length l ∧ Only [] w w' := by
  have hlen := R.len
  have c3 : w.cell? ⟨g, 3, none⟩ = some (.int .i64 (l.length : Nat)) := by obtain ⟨n, c, A, f, xs, rfl, h⟩ := R; exact h.box.cell 3
  have c4 : w.cell? ⟨g, 4, none⟩ = some (.int .i64 k) := by obtain ⟨n, c, A, f, xs, rfl, h⟩ := R; exact h.box.cell 4
  have hlt : g < w.heap.size := R.has.1
  have hpv : ∀ b, v.ownBlock = some b → b < w.heap.size := by obtain ⟨n, c, A, f, xs, rfl, h⟩ := R; exact fun b hb => (own_lt h.own hb).1
  obtain ⟨cs0, hcs0, hmk⟩ := make_emp l.length (by omega)
  have e1 : ∀ o, (w.alloc o).cell? ⟨g, 3, none⟩ = some (.int .i64 (l.length : Nat)) := fun o => by rw [((Only.refl [] w).alloc o).cell hlt (by simp)]; exact c3
  have e2 : ∀ o o2, ((w.alloc o).alloc o2).cell? ⟨g, 3, none⟩ = some (.int .i64 (l.length : Nat)) := fun o o2 => by rw [(((Only.refl [] w).alloc o).alloc o2).cell hlt (by simp)]; exact c3
  have e3 : ∀ o o2 o3, (((w.alloc o).alloc o2).alloc o3).cell? ⟨g, 3, none⟩ = some (.int .i64 (l.length : Nat)) := fun o o2 o3 => by rw [((((Only.refl [] w).alloc o).alloc o2).alloc o3).cell hlt (by simp)]; exact c3
  have f1 : ∀ o, (w.alloc o).cell? ⟨g, 4, none⟩ = some (.int .i64 k) := fun o => by rw [((Only.refl [] w).alloc o).cell hlt (by simp)]; exact c4
  have f2 : ∀ o o2, ((w.alloc o).alloc o2).cell? ⟨g, 4, none⟩ = some (.int .i64 k) := fun o o2 => by rw [(((Only.refl [] w).alloc o).alloc o2).cell hlt (by simp)]; exact c4
  have f3 : ∀ o o2 o3, (((w.alloc o).alloc o2).alloc o3).cell? ⟨g, 4, none⟩ = some (.int .i64 k) := fun o o2 o3 => by rw [((((Only.refl [] w).alloc o).alloc o2).alloc o3).cell hlt (by simp)]; exact c4
  have n0 : ¬ g = w.heap.size := by omega
  have n1 : ¬ g = w.heap.size + 1 := by omega
  have n2 : ¬ g = w.heap.size + 1 + 1 := by omega
  have HR := hide (And.intro R hone)
  have HCs := hide hcs0
  clear R hone hcs0
  refine (callsIn_wide (n := 5)).1 ?_
  refine callsIn_of_wp_marks Try.func26 rfl trivial ?_ rfl
  simp only [Try.ntmps26, List.size_toArray, List.length_cons, List.length_nil, Nat.reduceAdd, Nat.reduceSub, Array.replicate_succ, Array.replicate_zero, List.push_toArray, List.append_toArray, List.nil_append, List.cons_append]
  gi_wp2
  refine wpIn_wide.2 ?_
  refine Code.wp_mono (Q := fun e a X => e = .normal ∧ ∃ gt gg gm, a = { tmps := #[.pointer (some ⟨g, 0, none⟩), undef, .nilFunc, .pointer (some ⟨gg, 0, none⟩), .pointer (some ⟨gt, 0, none⟩), undef, .pointer (some ⟨g, 0, none⟩), .pointer (some ⟨g, 0, none⟩), .pointer (some ⟨g, 4, none⟩), .int .i64 k, .pointer (some ⟨g, 0, none⟩), .pointer (some ⟨g, 0, none⟩), .pointer (some ⟨g, 3, none⟩), .int .i64 (l.length : Nat), .slice (some ⟨gm, 0, none⟩) 0 l.length, undef, undef, undef, undef, undef, undef, undef, undef], defers := [] } ∧ AllP w k l.length cs0 gt gg gm X) ?later ?reg
  case reg =>
    go_region
    all_goals
      refine ⟨rfl, _, _, _, rfl, ?_⟩
      refine ⟨?_, ?_, ?_, ?_, ?_, ?_, ?_⟩
      iterate 3 (first | exact has0 _ _ _ _ | exact has1 _ _ _ _ | exact has2 _ _ _ _)
      iterate 3 omega
      exact ((((Only.refl [] w).alloc _).alloc _).alloc _).drew
  case later =>
    rintro e a X ⟨rfl, gt, gg, gm, rfl, P⟩
    clear hmk e1 e2 e3 f1 f2 f3 n0 n1 n2 c3 c4
    have HP := hide P
    clear P
    gi_wp2
    obtain ⟨i0, hi0, hz0, hz1, hz2⟩ := info_of int_info
    have HZ := hide (And.intro hi0 (And.intro hz0 (And.intro hz1 hz2)))
    clear hi0 hz0 hz1 hz2
    have HE := hide (each_ps (fun b => b < w.heap.size) (HR.out.1.only HP.out.only) hlt hpv)
    have I0 : AllI w k gt gg [] X := ⟨⟨_, _, HP.out.there, ⟨rfl, .inr ⟨gm, l.length, cs0, rfl, HP.out.b3, HP.out.row, Nat.zero_le _, by unfold maxLen; omega, by rw [HCs.out, Nat.mul_one], rfl⟩⟩⟩, HP.out.gone, HP.out.only⟩
    refine range_ps (gf := 29) (bb := #[.pointer (some ⟨g, 0, none⟩)]) (lb := #[]) rfl (enters_of Try.func29 (by kernel_rfl) rfl) HE.out (fun _ => rfl) (Below.refl _ _) (fun h k => KeepP.trans h k) (fun W l o o' h ho => KeepP.put W l o o' h ho)
      (AllI w k gt gg) (fun _ _ _ => False) (ownFrom_allI HP.out.only.size) (fun _ => ownFrom_const _) I0
      (fun x a' _ => a' = { tmps := #[.pointer (some ⟨g, 0, none⟩), undef, .nilFunc, .pointer (some ⟨gg, 0, none⟩), .pointer (some ⟨gt, 0, none⟩), x, .pointer (some ⟨g, 0, none⟩), .pointer (some ⟨g, 0, none⟩), .pointer (some ⟨g, 4, none⟩), .int .i64 k, .pointer (some ⟨g, 0, none⟩), .pointer (some ⟨g, 0, none⟩), .pointer (some ⟨g, 3, none⟩), .int .i64 (l.length : Nat), .slice (some ⟨gm, 0, none⟩) 0 l.length, .pointer (some ⟨g, 0, none⟩), .func (.func 29) #[.pointer (some ⟨g, 0, none⟩)] #[], x, undef, undef, undef, undef, undef], defers := [] })
      (fun x a' => ownFrom_const _) ?assign ?body ?done ?stop
    case assign =>
      intro la pre x W K hpre hi hK
      gi_wp2
      exact hK _ _ (keepsFrom_only (Only.refl [] W) (by simp)) (KeepP.only (Only.refl [] W) (by simp)) hi rfl
    case body =>
      rintro la pre x a' W hpre hi rfl
      obtain ⟨z, rfl⟩ := HR.out.2 x (hpre.subset (by simp))
      obtain ⟨A, c, h1, h2⟩ := hi.ex
      have hlen1 := hpre.length_le
      rw [List.length_append, List.length_singleton] at hlen1
      obtain ⟨n, hn⟩ : ∃ n, pre.length = n := ⟨_, rfl⟩
      rw [hn] at h1 h2 hlen1
      have b1 := HP.out.b1
      have hW := h1.lt
      have c1 : W.cell? ⟨gt, 0, none⟩ = some (.slice A n c) := h1.cell 0
      have hown := h2.alloc (.cells #[.int .i64 z] 3)
      have hne := own_ne h2 h1 (by decide)
      have hsrc : Holds (W.alloc (.cells #[.int .i64 z] 3)) 1 (some ⟨W.heap.size, 0, none⟩) 1 (ivals [z]) := Holds.lit W #[.int .i64 z] 3
      have hB : w.heap.size ≤ (W.alloc (.cells #[.int .i64 z] 3)).heap.size := by rw [World.size_alloc]; omega
      have hbx := h1.alloc (.cells #[.int .i64 z] 3)
      have hn8 : (n + 1) * 8 ≤ 140737488355328 := by omega
      have h1c := ivals_one [z]
      have hsz := HP.out.only.size
      have hown0 : ∀ b, (Value.slice A n c).ownBlock = some b → w.heap.size ≤ b ∧ ∃ cs t, Has W b t cs := fun b hb => by
        refine ⟨(own_lt h2 hb).2, ?_⟩
        rcases h2.2 with ⟨hv, _⟩ | ⟨gb, cap, cur, hv, _, hh, _⟩
        · rw [hv] at hb; simp [Value.ownBlock] at hb
        · rw [hv] at hb
          have e : gb = b := by simpa [Value.ownBlock] using hb
          subst e
          exact ⟨cur, _, hh⟩
      have HB := hide (And.intro hbx (And.intro hne (And.intro h1 hown0)))
      have HO := hide (And.intro hown (And.intro hsrc (And.intro hn8 hB)))
      have HI := hide (And.intro hi.gone (And.intro hi.only (And.intro hn (And.intro b1 hW))))
      clear hbx hne h1 h2 hown0 hown hsrc hn8 hB hi hW
      obtain ⟨hi0, hz0, hz1, hz2⟩ := HZ.out
      refine wpIn_block ?_
      refine region_in_round (by kernel_rfl) (fun ⟨_, _, h⟩ => h.2) ?_
      go_wp2_with (at_builtin; refine list_append _ rfl (.tmp 18) (.tmp 20) 37 rfl w.heap.size 1 8 Try.underlying37 hi0 hz0 hz1 hz2 rfl (by decide) HO.out.1 rfl HO.out.2.1 rfl h1c HO.out.2.2.1 (by decide) HO.out.2.2.2 ?_; intro A2 c2 w2 hown2 hg2 hat2; have HG := hide (And.intro hown2 (And.intro hg2 hat2)); have hbx2 := HB.out.1.grown hg2 HB.out.2.1; have e1 : w2.cell? ⟨gt, 0, none⟩ = some (.slice A n c) := hbx2.cell 0; have e2 : w2.frozen? ⟨gt, 0, none⟩ = false := hbx2.free 0; have HB2 := hide hbx2; clear hown2 hg2 hat2 hbx2)
      obtain ⟨hown2, hg2, _⟩ := HG.out
      obtain ⟨hgone, hon, hn, b1, hW⟩ := HI.out
      have hb3 := HB2.out.set 0 (.slice A2 (n + 1) c2)
      have hnew : some gt ≠ (Value.slice A2 (n + 1) c2).ownBlock := own_ne hown2 HB2.out (by decide)
      have ho3 := own_keep hown2 ((Only.refl [gt] w2).setCell (p := ⟨gt, 0, none⟩) (by simp) (.slice A2 (n + 1) c2)) (fun b hb hm => by simp at hm; exact hnew (by rw [hb, hm]))
      have hos : Only (gt :: (Value.slice A n c).ownBlock.toList) W (w2.setCell ⟨gt, 0, none⟩ (.slice A2 (n + 1) c2)) :=
        ((((Only.refl _ W).alloc (.cells #[.int .i64 z] 3)).grown hg2 (fun k hk _ => by simp [hk]))).setCell (by simp) _
      have hmem : ∀ b, b ∈ gt :: (Value.slice A n c).ownBlock.toList → w.heap.size ≤ b ∧ ∃ cs t, Has W b t cs := fun b hb => by
        rcases List.mem_cons.1 hb with rfl | hb
        · exact ⟨b1, _, _, HB.out.2.2.1⟩
        · exact HB.out.2.2.2 b (by cases hv : (Value.slice A n c).ownBlock with
            | none => rw [hv] at hb; simp at hb
            | some j => rw [hv] at hb; simp at hb; rw [hb])
      have hgb : some gg ≠ (Value.slice A n c).ownBlock ∧ gg ≠ gt := by
        refine ⟨fun he => ?_, fun he => ?_⟩
        · obtain ⟨_, cs, t, hh⟩ := HB.out.2.2.2 gg he.symm
          have := own_ne HO.out.1 (hgone.alloc (.cells #[.int .i64 z] 3)) (by decide)
          exact this he
        · subst he
          have h5 := HB.out.2.2.1
          unfold Has at h5 hgone
          rw [h5] at hgone
          injection hgone with hgone
          injection hgone with _ ht
          exact absurd ht (by decide)
      refine ⟨keepsFrom_only hos (fun k hk => (hmem k hk).2), KeepP.only hos (fun b hb => by have := (hmem b hb).1; omega), ⟨⟨A2, c2, ?_, ?_⟩, hgone.only hos (fun hm => ?_), hon.trans hos (fun b hb hlt => absurd (hmem b hb).1 (by omega))⟩⟩
      · rw [List.length_append, hn]; exact hb3
      · rw [List.length_append, hn]; exact ho3
      · rcases List.mem_cons.1 hm with h | h
        · exact hgb.2 h
        · exact hgb.1 (by cases hv : (Value.slice A n c).ownBlock with
            | none => rw [hv] at h; simp at h
            | some j => rw [hv] at h; simp at h; rw [h])
    case done =>
      rintro D W hD hi hK
      obtain ⟨A, c, h1, h2⟩ := hi.ex
      have HF := hide (And.intro h1 (And.intro h2 (And.intro hi.gone (And.intro hi.only hD))))
      have b1 := HP.out.b1
      have b2 := HP.out.b2
      have hsz := HP.out.only.size
      clear h1 h2 hi HE I0
      gi_wp2
      refine ⟨by simp, .inl ⟨_, _, rfl, run_takeDeferred hK, ?_⟩⟩
      obtain ⟨h1, h2, hg, ho, hD⟩ := HF.out
      have hO : ∀ o, Only [D] W (W.putObj D o) := fun o => (Only.refl [D] W).grown (grownBy_putObj' W D o) (fun k e _ => by cases e; simp)
      have hne : ∀ b, (Value.slice A l.length c).ownBlock = some b → b ∉ [D] := fun b hb hm => by
        rw [List.mem_singleton] at hm
        subst hm
        rcases h2.2 with ⟨hv, _⟩ | ⟨gb, cap, cur, hv, _, hh, _⟩
        · rw [hv] at hb; simp [Value.ownBlock] at hb
        · rw [hv] at hb
          have e : gb = b := by simpa [Value.ownBlock] using hb
          subst e
          rw [hh] at hK
          cases hK
      exact ⟨_, results_tmp rfl _ _ _, gt, gg, A, c, rfl, b1, b2, KeepP.put (p := fun _ => True) W D _ _ hK rfl _ _ _ trivial h1, KeepP.put (p := fun _ => True) W D _ _ hK rfl _ _ _ trivial hg, own_keep h2 (hO _) hne, ho.put (by omega) _⟩
    case stop =>
      rintro D c2 pre W _ _ h _
      exact h.elim
end Go.Proofs.Ytakeoabeaopamaa
