/-
  The law's looks: both tell the same.
-/
import Derived.Test.YtakeoabeaopamaaRnX
import Derived.Test.YtakeoabeaopamaaRdTl
namespace Go.Proofs.Ytakeoabeaopamaa
open Go Go.RowKit Go.Shelf
attribute [local go_sem] Oper.semAt_some

/-- What both rings are. -/
structure Two (w : World) (B g h M : Nat) (v v2 : Value) (L : List Int) (k : Nat) : Prop where
  ring : RgV_ri w B g M v (ivals L) k
  ref : RfV w B h M v2 L k
  ne : g ≠ h
  apart : ∀ b, v.ownBlock = some b → v2.ownBlock ≠ some b ∧ b ≠ h
  apart2 : ∀ b, v2.ownBlock = some b → b ≠ g
theorem Two.only {w w' : World} {B g h M k : Nat} {v v2 : Value} {L : List Int} (T : Two w B g h M v v2 L k) (ho : Only [] w w') : Two w' B g h M v v2 L k :=
  ⟨T.ring.only ho, T.ref.only ho (by simp) (by simp), T.ne, T.apart, T.apart2⟩

/-- What the law's range has counted. -/
structure LkI (w : World) (bt br bk h : Nat) (pre : List Nat) (W : World) : Prop where
  cnt : Has W bk 3 #[.int .i64 (pre.length : Nat)]
  res : Has W br 4 #[.bool false]
  box : Has W bt 28 #[.pointer (some ⟨h, 0, none⟩)]
  only : Only [] w W

theorem own_open' {w : World} {base e n c b : Nat} {xs : List Value} (h : w.ownsRow base e 1 (.slice (some ⟨b, 0, none⟩) n c) n xs) :
    True ∧ True ∧ True ∧ True ∧ ∀ j u, xs[j]? = some u → w.cell? ⟨b, j, none⟩ = some u := by
  refine ⟨trivial, trivial, trivial, trivial, fun j u hu => ?_⟩
  have hn : 0 < n := by
    have h1 := h.1
    have := (List.getElem?_eq_some_iff.1 hu).1
    omega
  obtain ⟨g, hg, _, _, _, hc⟩ := own_open h hn
  injection hg with hg
  injection hg with hg
  subst hg
  exact hc j u hu

theorem results_cell1 {fn : Func} {p : Tmp} (h : fn.results = #[.cell p 4]) (tmps : Array Value) (w : World) (g : Nat) (b : Bool) (hp : tmps.getD p undef = .pointer (some ⟨g, 0, none⟩)) (hc : w.cell? ⟨g, 0, none⟩ = some (.bool b)) :
    (results fn tmps).run Try.prog w = .ok (.bool b) w := by
  have hp' : tmps[p]?.getD undef = .pointer (some ⟨g, 0, none⟩) := by simpa using hp
  have hl : (loadVar 4 ⟨g, 0, none⟩).run Try.prog w = .ok (.bool b) w := by go_simp
  simp [results, h, hp', asAddr, hl]
theorem pre_range {n x : Nat} {pre : List Nat} (h : pre ++ [x] <+: List.range n) : x = pre.length ∧ pre.length < n := by
  have hl := h.length_le
  rw [List.length_append, List.length_singleton, List.length_range] at hl
  obtain ⟨t, ht⟩ := h
  have := congrArg (fun l => l[pre.length]?) ht
  simp only [List.append_assoc] at this
  rw [List.getElem?_append_right (Nat.le_refl _), Nat.sub_self, List.getElem?_range (by omega)] at this
  simp at this
  exact ⟨this, by omega⟩
theorem ownFrom_lkI {w : World} {bt br bk h B : Nat} (hB : w.heap.size ≤ B) : OwnFrom B (LkI w bt br bk h) := fun _ X Y row hs hg hr =>
  ⟨ownFrom_has (β := Unit) (fun _ => bk) (fun _ => _) (fun _ => _) () X Y row hs.cnt hg hr, ownFrom_has (β := Unit) (fun _ => br) (fun _ => _) (fun _ => _) () X Y row hs.res hg hr,
    ownFrom_has (β := Unit) (fun _ => bt) (fun _ => _) (fun _ => _) () X Y row hs.box hg hr, ownFrom_only (β := Unit) hB () X Y row hs.only hg hr⟩

set_option maxRecDepth 100000 in
set_option maxHeartbeats 8000000 in
theorem looks_in {w : World} {B g h M k : Nat} {v v2 : Value} {L : List Int} (T : Two w B g h M v v2 L k) (hk : k ≤ 1000000) (j : Nat) (hj : j < L.length) :
    Calls Try.prog 15 #[.pointer (some ⟨g, 0, none⟩), .pointer (some ⟨h, 0, none⟩), .int .i64 (j : Int)] w fun e w' => e = .returned (.bool true) ∧ Only [] w w' := by
  have hb := (Has.new w 28 #[.pointer (some ⟨h, 0, none⟩)]).alloc (.cells #[.bool false] 4)
  have hr := Has.new (w.alloc (.cells #[.pointer (some ⟨h, 0, none⟩)] 28)) 4 #[.bool false]
  have hO := ((Only.refl [] w).alloc (.cells #[.pointer (some ⟨h, 0, none⟩)] 28)).alloc (.cells #[.bool false] 4)
  rw [World.size_alloc] at hr
  have T0 := T.only hO
  obtain ⟨n2, cc2, A2, rfl, R2⟩ := T.ref
  have hl2 := R2.len
  have hf2 := R2.few
  have HRf := hide (fun (X : World) (hX : Only [] w X) => R2.only hX (by simp) (by simp))
  have hj2 : (j : Int) < (n2 : Int) := by omega
  have hj0 : (j : Int) ≥ 0 := by omega
  obtain ⟨x, hx⟩ : ∃ x, x = L[j] := ⟨_, rfl⟩
  have hu := ivals_some (L := L) (i := j) hj
  rw [← hx] at hu
  have HXx := hide hx
  clear hx HXx
  have HAt := hide (fun X (h : Two X B g h M v (.slice A2 n2 cc2) L k) => at_v h.ring j (.int .i64 x) hu)
  obtain ⟨b, rfl, q1, q2, q3, q4⟩ := own_open R2.own (by omega)
  clear q1 q2 q3 q4
  refine (callsIn_wide (n := 5)).1 ?_
  refine callsIn_of_wp_marks Try.func15 rfl trivial ?_ rfl
  simp only [Try.ntmps15, List.size_toArray, List.length_cons, List.length_nil, Nat.reduceAdd, Nat.reduceSub, Array.replicate_succ, Array.replicate_zero, List.push_toArray, List.append_toArray, List.nil_append, List.cons_append]
  gi_wp2
  generalize (w.alloc (.cells #[.pointer (some ⟨h, 0, none⟩)] 28)).alloc (.cells #[.bool false] 4) = X0 at *
  refine ⟨trivial, (callsIn_wide.2 (HAt.out X0 T0)).mono ?_⟩
  rintro e x2 ⟨rfl, ho2⟩
  have T2 := T0.only ho2
  have hb2 := hb.only ho2 (by simp)
  have hr2 := hr.only ho2 (by simp)
  have o2 := hO.trans ho2 (S := []) (by simp)
  obtain ⟨m2, cm2, B2, he2, Q2⟩ := T2.ref
  injection he2 with e1 e2 e3
  subst e1 e2 e3
  have b0 : x2.cell? ⟨w.heap.size, 0, none⟩ = some (.pointer (some ⟨h, 0, none⟩)) := hb2.cell 0
  have r1 : x2.cell? ⟨h, 1, none⟩ = some (.slice (some ⟨b, 0, none⟩) n2 cc2) := Q2.box.cell 1
  have r2 : x2.cell? ⟨h, 2, none⟩ = some (.int .i64 k) := Q2.box.cell 2
  have H2 := hide (And.intro T2 (And.intro hb2 (And.intro hr2 (And.intro o2 Q2))))
  clear hb hr hO T0 T ho2 T2 hb2 hr2 o2 Q2 R2
  gi_wp2
  have lb0 := later_cell b0
  have lr1 := later_cell r1
  have lr2 := later_cell r2
  have lx : ∀ X : Later x2, X.val.cell? ⟨b, j, none⟩ = some (.int .i64 x) := fun X => by obtain ⟨_, _, _, _, hc⟩ := own_open' (own_keep H2.out.2.2.2.2.own X.only (by simp)); exact hc j _ hu
  have HLn := hide (fun (X : Later x2) => len_v (H2.out.1.only X.only).ring)
  have HGn := hide (fun (X : Later x2) => gone_v (H2.out.1.only X.only).ring)
  rw [ivals_len', hl2] at HLn
  refine wpIn_wide.2 ?_
  refine region_later (by kernel_rfl) (by kernel_rfl) ?_
  iterate 27 (go_big_quiet_step (fail))
  go_big_quiet_step ((go_at_call 16; refine later_of (HLn.out _)))
  iterate 9 (go_big_quiet_step (fail))
  go_big_quiet_step ((go_at_call 18; refine later_of (HGn.out _)))
  iterate 6 (go_big_quiet_step (fail))
  refine wpQuiet_nil ?_
  rintro _ ⟨X3, rfl⟩
  have H3 := hide (And.intro (H2.out.1.only X3.only) (And.intro (H2.out.2.1.only X3.only (by simp)) (And.intro (H2.out.2.2.1.only X3.only (by simp)) (H2.out.2.2.2.1.trans X3.only (S := []) (by simp)))))
  clear lb0 lr1 lr2 b0 r1 r2 HLn HGn H2 HAt lx
  gi_wp2
  have hb4 := H3.out.2.1.alloc (.cells #[.int .i64 0] 3)
  have hr4 := H3.out.2.2.1.alloc (.cells #[.int .i64 0] 3)
  have hk4 := Has.new X3.val 3 #[.int .i64 0]
  have o4 := H3.out.2.2.2.alloc (.cells #[.int .i64 0] 3)
  have T4 := H3.out.1.only ((Only.refl [] X3.val).alloc (.cells #[.int .i64 0] 3))
  have hbk : w.heap.size ≤ X3.val.heap.size := H3.out.2.2.2.size
  have hbr : w.heap.size + 1 < X3.val.heap.size := H3.out.2.2.1.lt
  generalize X3.val.alloc (.cells #[.int .i64 0] 3) = x4 at *
  generalize X3.val.heap.size = bk at *
  clear H3
  refine ⟨trivial, (callsIn_wide.2 (all_v T4.ring (fun u hu => by simp only [ivals, List.mem_map] at hu; obtain ⟨z, _, rfl⟩ := hu; exact ⟨z, rfl⟩))).mono ?_⟩
  rintro e x5 ⟨gt, gg, A5, c5, rfl, g1, g2, h1, h2, h3, ho5⟩
  have hb5 := hb4.only ho5 (by simp)
  have hr5 := hr4.only ho5 (by simp)
  have hk5 := hk4.only ho5 (by simp)
  have o5 := o4.trans ho5 (S := []) (by simp)
  have hklt := hk4.lt
  have hs45 := ho5.size
  rw [ivals_len', hl2] at h1 h3
  have hp3 : ∀ b, (Value.slice A5 n2 c5).ownBlock = some b → x4.heap.size ≤ b := fun b hb => (own_lt h3 hb).2
  have HS := hide (all1_ps (fun b => x4.heap.size ≤ b) h1 h2 h3 hf2 hk g1 g2 hp3)
  have I0 : LkI w w.heap.size (w.heap.size + 1) bk h [] x5 := ⟨hk5, hr5, hb5, o5⟩
  clear hb4 hr4 hk4 o4 T4 h1 h2 h3 ho5 hb5 hr5 hk5 hp3
  gi_wp2
  refine range_at (gf := 30) (bb := #[]) (lb := #[.pointer (some ⟨gt, 0, none⟩), .pointer (some ⟨gg, 0, none⟩)]) rfl (enters_of Try.func30 (by kernel_rfl) rfl) HS.out (fun _ => rfl) (Below.refl _ _) (fun h k => KeepP.trans h k) (fun W l o o' h ho => KeepP.put W l o o' h ho)
    (LkI w w.heap.size (w.heap.size + 1) bk h) (ownFrom_lkI o5.size) I0 (fun t x => (((t.setIfInBounds 76 (.int .i64 (k + x : Nat))).setIfInBounds 77 ((ivals L).getD x undef)).setIfInBounds 11 (.int .i64 (k + x : Nat))).setIfInBounds 12 ((ivals L).getD x undef)) ?assign ?body ?done
  case assign =>
    intro la pre x W K hpre hi hK
    gi_wp2
    exact hK _ (keepsFrom_only (Only.refl [] W) (by simp)) (KeepP.only (Only.refl [] W) (by simp)) hi
  case body =>
    intro la pre x W hpre hi
    obtain ⟨rfl, hxn⟩ := pre_range hpre
    have QW := HRf.out W hi.only
    have hyl : pre.length < L.length := by omega
    have hy := ivals_some hyl
    have hsn : (pre ++ [pre.length]).length = pre.length + 1 := by simp
    have hgd : (ivals L).getD pre.length undef = .int .i64 L[pre.length] := by rw [List.getD_eq_getElem?_getD, hy]; rfl
    rw [hgd]
    have c1 : W.cell? ⟨bk, 0, none⟩ = some (.int .i64 (pre.length : Nat)) := hi.cnt.cell 0
    have c2 : W.cell? ⟨w.heap.size, 0, none⟩ = some (.pointer (some ⟨h, 0, none⟩)) := hi.box.cell 0
    have r1 : W.cell? ⟨h, 1, none⟩ = some (.slice (some ⟨b, 0, none⟩) n2 cc2) := QW.box.cell 1
    have r2 : W.cell? ⟨h, 2, none⟩ = some (.int .i64 k) := QW.box.cell 2
    obtain ⟨b3, hb3, q1, q2, q3, hc⟩ := own_open QW.own (by omega)
    clear q1 q2 q3
    have c3 := hc _ _ hy
    have HI := hide (And.intro hi hsn)
    have HQ := hide hb3
    clear hi QW hc hy hgd hpre hsn
    generalize L[pre.length] = y at *
    generalize hm : pre.length = m at *
    have HM := hide hm
    have kw : IntKind.i64.wrap ((k : Int) + (m : Int)) = ((k + m : Nat) : Int) := by rw [IntWalk.i64_in _ ⟨by omega, by omega⟩]; omega
    have kk : (k : Int) + (m : Int) = ((k + m : Nat) : Int) := by omega
    have kw1 : IntKind.i64.wrap ((m : Int) + 1) = ((m + 1 : Nat) : Int) := by rw [IntWalk.i64_in _ ⟨by omega, by omega⟩]; omega
    generalize hs : k + m = s at *
    first
      | subst hb3
      | (injection hb3 with hb3; injection hb3 with hb3; subst hb3)
    clear hm hs hyl
    have kr : (m : Int) < (n2 : Int) := by omega
    have kd : decide (n2 ≤ m) = false := decide_eq_false (by omega)
    have l1 := later_cell c1
    have l2 := later_cell c2
    have l3 := later_cell r1
    have l4 := later_cell r2
    have l5 := later_cell c3
    gi_wp2
    refine region_later_tail_round 27 (by kernel_rfl) (by kernel_rfl) (by kernel_rfl) (fun ⟨_, _, h⟩ => h.2) ?_
    simp only [List.take_succ_cons, List.take_zero, List.drop_succ_cons, List.drop_zero]
    iterate 27 (go_big_quiet_step (fail))
    refine wpQuiet_nil ?_
    rintro _ ⟨X, rfl⟩
    have hx1 := HI.out.1.cnt.only X.only (by simp)
    have d1 : X.val.cell? ⟨bk, 0, none⟩ = some (.int .i64 (m : Nat)) := by rw [← HM.out]; exact hx1.cell 0
    have d2 := hx1.free 0
    have hset := hx1.set 0 (.int .i64 (m + 1 : Nat))
    have hos : Only [bk] W (X.val.setCell ⟨bk, 0, none⟩ (.int .i64 (m + 1 : Nat))) := (X.only.of_nil).setCell (by simp) _
    have hres : LkI w w.heap.size (w.heap.size + 1) bk h (pre ++ [m]) (X.val.setCell ⟨bk, 0, none⟩ (.int .i64 (m + 1 : Nat))) := by
      have e := HI.out.2
      refine ⟨by rw [e]; exact hset, HI.out.1.res.only hos (by simp; omega), HI.out.1.box.only hos (by simp; omega), HI.out.1.only.trans hos (by intro i hi hlt; simp at hi; omega)⟩
    have hfin : psQ x5.heap.size (KeepP fun b => x4.heap.size ≤ b) (LkI w w.heap.size (w.heap.size + 1) bk h) (fun _ _ _ => False) (pre ++ [m]) W .normal (X.val.setCell ⟨bk, 0, none⟩ (.int .i64 (m + 1 : Nat))) :=
      ⟨keepsFrom_only hos (fun k hk => by simp at hk; subst hk; exact ⟨_, _, HI.out.1.cnt⟩), KeepP.only hos (fun b hb => by simp at hb; omega), hres⟩
    have HF := hide hfin
    clear hfin
    clear hres hset hos hx1 l1 l2 l3 l4 l5 c1 c2 r1 r2 c3
    go_wp2_with fail
    gi_wp2
    exact HF.out
  case done =>
    intro D W hD hi hK
    have QW := HRf.out W hi.only
    have c1 : W.cell? ⟨bk, 0, none⟩ = some (.int .i64 n2) := by have := hi.cnt.cell 0; rw [List.length_range] at this; exact this
    have c2 : W.cell? ⟨w.heap.size, 0, none⟩ = some (.pointer (some ⟨h, 0, none⟩)) := hi.box.cell 0
    have r1 : W.cell? ⟨h, 1, none⟩ = some (.slice (some ⟨b, 0, none⟩) n2 cc2) := QW.box.cell 1
    have l1 := later_cell c1
    have l2 := later_cell c2
    have l3 := later_cell r1
    have HI := hide (And.intro hi hD)
    clear hi QW c1 c2 r1
    gi_wp2
    refine wpIn_wide.2 ?_
    refine region_later_tail 7 (by kernel_rfl) (by kernel_rfl) ?_
    simp only [List.take_succ_cons, List.take_zero, List.drop_succ_cons, List.drop_zero]
    iterate 7 (go_big_quiet_step (fail))
    refine wpQuiet_nil ?_
    rintro _ ⟨X, rfl⟩
    have hr1 := HI.out.1.res.only X.only (by simp)
    have d1 : X.val.cell? ⟨w.heap.size + 1, 0, none⟩ = some (.bool false) := hr1.cell 0
    have d2 := hr1.free 0
    have hset := hr1.set 0 (.bool true)
    have hos : Only [] w (X.val.setCell ⟨w.heap.size + 1, 0, none⟩ (.bool true)) := (HI.out.1.only.trans X.only (S := []) (by simp)).setCell (fun h => absurd h (by simp)) _
    have hDl : D < W.heap.size := by
      rcases Nat.lt_or_ge D W.heap.size with hlt | hge
      · exact hlt
      · rw [Array.getElem?_eq_none hge] at hK; cases hK
    have hK2 : (X.val.setCell ⟨w.heap.size + 1, 0, none⟩ (.bool true)).heap[D]? = some (.deferred (some [])) := by
      rw [Below.heap_setCell _ _ _ _ (by show D ≠ w.heap.size + 1; have := HI.out.2; omega), X.only.block D hDl (by simp)]
      exact hK
    have HF := hide (And.intro hset (And.intro hos hK2))
    clear hset hos hK2 hr1 l1 l2 l3
    go_wp2_with fail
    gi_wp2
    refine ⟨by simp, .inl ⟨_, _, rfl, run_takeDeferred HF.out.2.2, ?_⟩⟩
    have hfin := KeepP.put (p := fun _ => True) _ D _ (.deferred none) HF.out.2.2 rfl _ _ _ trivial HF.out.1
    exact ⟨_, results_cell1 rfl _ _ _ _ rfl (hfin.cell 0), rfl, HF.out.2.1.put (by have := HI.out.2; have := o5.size; omega) _⟩

set_option maxRecDepth 100000 in
set_option maxHeartbeats 8000000 in
theorem looks_neg {w : World} {B g h M k : Nat} {v v2 : Value} {L : List Int} (T : Two w B g h M v v2 L k) (hk : k ≤ 1000000) (i : Int) (hi : i < 0) :
    Calls Try.prog 15 #[.pointer (some ⟨g, 0, none⟩), .pointer (some ⟨h, 0, none⟩), .int .i64 i] w fun e w' => e = .returned (.bool true) ∧ Only [] w w' := by
  have hb := (Has.new w 28 #[.pointer (some ⟨h, 0, none⟩)]).alloc (.cells #[.bool false] 4)
  have hr := Has.new (w.alloc (.cells #[.pointer (some ⟨h, 0, none⟩)] 28)) 4 #[.bool false]
  have hO := ((Only.refl [] w).alloc (.cells #[.pointer (some ⟨h, 0, none⟩)] 28)).alloc (.cells #[.bool false] 4)
  rw [World.size_alloc] at hr
  have T0 := T.only hO
  obtain ⟨n2, cc2, A2, rfl, R2⟩ := T.ref
  have hl2 := R2.len
  have hf2 := R2.few
  have HRf := hide (fun (X : World) (hX : Only [] w X) => R2.only hX (by simp) (by simp))
  have hj0 : ¬ i ≥ 0 := by omega
  have HAt := hide (fun X (h : Two X B g h M v (.slice A2 n2 cc2) L k) => none_v h.ring i (.inl hi))
  refine (callsIn_wide (n := 5)).1 ?_
  refine callsIn_of_wp_marks Try.func15 rfl trivial ?_ rfl
  simp only [Try.ntmps15, List.size_toArray, List.length_cons, List.length_nil, Nat.reduceAdd, Nat.reduceSub, Array.replicate_succ, Array.replicate_zero, List.push_toArray, List.append_toArray, List.nil_append, List.cons_append]
  gi_wp2
  generalize (w.alloc (.cells #[.pointer (some ⟨h, 0, none⟩)] 28)).alloc (.cells #[.bool false] 4) = X0 at *
  refine ⟨trivial, (callsIn_wide.2 (HAt.out X0 T0)).mono ?_⟩
  rintro e x2 ⟨rfl, ho2⟩
  have T2 := T0.only ho2
  have hb2 := hb.only ho2 (by simp)
  have hr2 := hr.only ho2 (by simp)
  have o2 := hO.trans ho2 (S := []) (by simp)
  obtain ⟨m2, cm2, B2, he2, Q2⟩ := T2.ref
  injection he2 with e1 e2 e3
  subst e1 e2 e3
  have b0 : x2.cell? ⟨w.heap.size, 0, none⟩ = some (.pointer (some ⟨h, 0, none⟩)) := hb2.cell 0
  have r1 : x2.cell? ⟨h, 1, none⟩ = some (.slice A2 n2 cc2) := Q2.box.cell 1
  have r2 : x2.cell? ⟨h, 2, none⟩ = some (.int .i64 k) := Q2.box.cell 2
  have H2 := hide (And.intro T2 (And.intro hb2 (And.intro hr2 (And.intro o2 Q2))))
  clear hb hr hO T0 T ho2 T2 hb2 hr2 o2 Q2 R2
  gi_wp2
  have lb0 := later_cell b0
  have lr1 := later_cell r1
  have lr2 := later_cell r2

  have HLn := hide (fun (X : Later x2) => len_v (H2.out.1.only X.only).ring)
  have HGn := hide (fun (X : Later x2) => gone_v (H2.out.1.only X.only).ring)
  rw [ivals_len', hl2] at HLn
  refine wpIn_wide.2 ?_
  refine region_later (by kernel_rfl) (by kernel_rfl) ?_
  iterate 27 (go_big_quiet_step (fail))
  go_big_quiet_step ((go_at_call 16; refine later_of (HLn.out _)))
  iterate 9 (go_big_quiet_step (fail))
  go_big_quiet_step ((go_at_call 18; refine later_of (HGn.out _)))
  iterate 6 (go_big_quiet_step (fail))
  refine wpQuiet_nil ?_
  rintro _ ⟨X3, rfl⟩
  have H3 := hide (And.intro (H2.out.1.only X3.only) (And.intro (H2.out.2.1.only X3.only (by simp)) (And.intro (H2.out.2.2.1.only X3.only (by simp)) (H2.out.2.2.2.1.trans X3.only (S := []) (by simp)))))
  clear lb0 lr1 lr2 b0 r1 r2 HLn HGn H2 HAt 
  gi_wp2
  have hb4 := H3.out.2.1.alloc (.cells #[.int .i64 0] 3)
  have hr4 := H3.out.2.2.1.alloc (.cells #[.int .i64 0] 3)
  have hk4 := Has.new X3.val 3 #[.int .i64 0]
  have o4 := H3.out.2.2.2.alloc (.cells #[.int .i64 0] 3)
  have T4 := H3.out.1.only ((Only.refl [] X3.val).alloc (.cells #[.int .i64 0] 3))
  have hbk : w.heap.size ≤ X3.val.heap.size := H3.out.2.2.2.size
  have hbr : w.heap.size + 1 < X3.val.heap.size := H3.out.2.2.1.lt
  generalize X3.val.alloc (.cells #[.int .i64 0] 3) = x4 at *
  generalize X3.val.heap.size = bk at *
  clear H3
  refine ⟨trivial, (callsIn_wide.2 (all_v T4.ring (fun u hu => by simp only [ivals, List.mem_map] at hu; obtain ⟨z, _, rfl⟩ := hu; exact ⟨z, rfl⟩))).mono ?_⟩
  rintro e x5 ⟨gt, gg, A5, c5, rfl, g1, g2, h1, h2, h3, ho5⟩
  have hb5 := hb4.only ho5 (by simp)
  have hr5 := hr4.only ho5 (by simp)
  have hk5 := hk4.only ho5 (by simp)
  have o5 := o4.trans ho5 (S := []) (by simp)
  have hklt := hk4.lt
  have hs45 := ho5.size
  rw [ivals_len', hl2] at h1 h3
  have hp3 : ∀ b, (Value.slice A5 n2 c5).ownBlock = some b → x4.heap.size ≤ b := fun b hb => (own_lt h3 hb).2
  have HS := hide (all1_ps (fun b => x4.heap.size ≤ b) h1 h2 h3 hf2 hk g1 g2 hp3)
  have I0 : LkI w w.heap.size (w.heap.size + 1) bk h [] x5 := ⟨hk5, hr5, hb5, o5⟩
  clear hb4 hr4 hk4 o4 T4 h1 h2 h3 ho5 hb5 hr5 hk5 hp3
  gi_wp2
  refine range_at (gf := 30) (bb := #[]) (lb := #[.pointer (some ⟨gt, 0, none⟩), .pointer (some ⟨gg, 0, none⟩)]) rfl (enters_of Try.func30 (by kernel_rfl) rfl) HS.out (fun _ => rfl) (Below.refl _ _) (fun h k => KeepP.trans h k) (fun W l o o' h ho => KeepP.put W l o o' h ho)
    (LkI w w.heap.size (w.heap.size + 1) bk h) (ownFrom_lkI o5.size) I0 (fun t x => (((t.setIfInBounds 76 (.int .i64 (k + x : Nat))).setIfInBounds 77 ((ivals L).getD x undef)).setIfInBounds 11 (.int .i64 (k + x : Nat))).setIfInBounds 12 ((ivals L).getD x undef)) ?assign ?body ?done
  case assign =>
    intro la pre x W K hpre hi hK
    gi_wp2
    exact hK _ (keepsFrom_only (Only.refl [] W) (by simp)) (KeepP.only (Only.refl [] W) (by simp)) hi
  case body =>
    intro la pre x W hpre hi
    obtain ⟨rfl, hxn⟩ := pre_range hpre
    have QW := HRf.out W hi.only
    have hyl : pre.length < L.length := by omega
    have hy := ivals_some hyl
    have hsn : (pre ++ [pre.length]).length = pre.length + 1 := by simp
    have hgd : (ivals L).getD pre.length undef = .int .i64 L[pre.length] := by rw [List.getD_eq_getElem?_getD, hy]; rfl
    rw [hgd]
    have c1 : W.cell? ⟨bk, 0, none⟩ = some (.int .i64 (pre.length : Nat)) := hi.cnt.cell 0
    have c2 : W.cell? ⟨w.heap.size, 0, none⟩ = some (.pointer (some ⟨h, 0, none⟩)) := hi.box.cell 0
    have r1 : W.cell? ⟨h, 1, none⟩ = some (.slice A2 n2 cc2) := QW.box.cell 1
    have r2 : W.cell? ⟨h, 2, none⟩ = some (.int .i64 k) := QW.box.cell 2
    obtain ⟨b3, hb3, q1, q2, q3, hc⟩ := own_open QW.own (by omega)
    clear q1 q2 q3
    have c3 := hc _ _ hy
    have HI := hide (And.intro hi hsn)
    have HQ := hide hb3
    clear hi QW hc hy hgd hpre hsn
    generalize L[pre.length] = y at *
    generalize hm : pre.length = m at *
    have HM := hide hm
    have kw : IntKind.i64.wrap ((k : Int) + (m : Int)) = ((k + m : Nat) : Int) := by rw [IntWalk.i64_in _ ⟨by omega, by omega⟩]; omega
    have kk : (k : Int) + (m : Int) = ((k + m : Nat) : Int) := by omega
    have kw1 : IntKind.i64.wrap ((m : Int) + 1) = ((m + 1 : Nat) : Int) := by rw [IntWalk.i64_in _ ⟨by omega, by omega⟩]; omega
    generalize hs : k + m = s at *
    first
      | subst hb3
      | (injection hb3 with hb3; injection hb3 with hb3; subst hb3)
    clear hm hs hyl
    have kr : (m : Int) < (n2 : Int) := by omega
    have kd : decide (n2 ≤ m) = false := decide_eq_false (by omega)
    have l1 := later_cell c1
    have l2 := later_cell c2
    have l3 := later_cell r1
    have l4 := later_cell r2
    have l5 := later_cell c3
    gi_wp2
    refine region_later_tail_round 27 (by kernel_rfl) (by kernel_rfl) (by kernel_rfl) (fun ⟨_, _, h⟩ => h.2) ?_
    simp only [List.take_succ_cons, List.take_zero, List.drop_succ_cons, List.drop_zero]
    iterate 27 (go_big_quiet_step (fail))
    refine wpQuiet_nil ?_
    rintro _ ⟨X, rfl⟩
    have hx1 := HI.out.1.cnt.only X.only (by simp)
    have d1 : X.val.cell? ⟨bk, 0, none⟩ = some (.int .i64 (m : Nat)) := by rw [← HM.out]; exact hx1.cell 0
    have d2 := hx1.free 0
    have hset := hx1.set 0 (.int .i64 (m + 1 : Nat))
    have hos : Only [bk] W (X.val.setCell ⟨bk, 0, none⟩ (.int .i64 (m + 1 : Nat))) := (X.only.of_nil).setCell (by simp) _
    have hres : LkI w w.heap.size (w.heap.size + 1) bk h (pre ++ [m]) (X.val.setCell ⟨bk, 0, none⟩ (.int .i64 (m + 1 : Nat))) := by
      have e := HI.out.2
      refine ⟨by rw [e]; exact hset, HI.out.1.res.only hos (by simp; omega), HI.out.1.box.only hos (by simp; omega), HI.out.1.only.trans hos (by intro i hi hlt; simp at hi; omega)⟩
    have hfin : psQ x5.heap.size (KeepP fun b => x4.heap.size ≤ b) (LkI w w.heap.size (w.heap.size + 1) bk h) (fun _ _ _ => False) (pre ++ [m]) W .normal (X.val.setCell ⟨bk, 0, none⟩ (.int .i64 (m + 1 : Nat))) :=
      ⟨keepsFrom_only hos (fun k hk => by simp at hk; subst hk; exact ⟨_, _, HI.out.1.cnt⟩), KeepP.only hos (fun b hb => by simp at hb; omega), hres⟩
    have HF := hide hfin
    clear hfin
    clear hres hset hos hx1 l1 l2 l3 l4 l5 c1 c2 r1 r2 c3
    go_wp2_with fail
    gi_wp2
    exact HF.out
  case done =>
    intro D W hD hi hK
    have QW := HRf.out W hi.only
    have c1 : W.cell? ⟨bk, 0, none⟩ = some (.int .i64 n2) := by have := hi.cnt.cell 0; rw [List.length_range] at this; exact this
    have c2 : W.cell? ⟨w.heap.size, 0, none⟩ = some (.pointer (some ⟨h, 0, none⟩)) := hi.box.cell 0
    have r1 : W.cell? ⟨h, 1, none⟩ = some (.slice A2 n2 cc2) := QW.box.cell 1
    have l1 := later_cell c1
    have l2 := later_cell c2
    have l3 := later_cell r1
    have HI := hide (And.intro hi hD)
    clear hi QW c1 c2 r1
    gi_wp2
    refine wpIn_wide.2 ?_
    refine region_later_tail 7 (by kernel_rfl) (by kernel_rfl) ?_
    simp only [List.take_succ_cons, List.take_zero, List.drop_succ_cons, List.drop_zero]
    iterate 7 (go_big_quiet_step (fail))
    refine wpQuiet_nil ?_
    rintro _ ⟨X, rfl⟩
    have hr1 := HI.out.1.res.only X.only (by simp)
    have d1 : X.val.cell? ⟨w.heap.size + 1, 0, none⟩ = some (.bool false) := hr1.cell 0
    have d2 := hr1.free 0
    have hset := hr1.set 0 (.bool true)
    have hos : Only [] w (X.val.setCell ⟨w.heap.size + 1, 0, none⟩ (.bool true)) := (HI.out.1.only.trans X.only (S := []) (by simp)).setCell (fun h => absurd h (by simp)) _
    have hDl : D < W.heap.size := by
      rcases Nat.lt_or_ge D W.heap.size with hlt | hge
      · exact hlt
      · rw [Array.getElem?_eq_none hge] at hK; cases hK
    have hK2 : (X.val.setCell ⟨w.heap.size + 1, 0, none⟩ (.bool true)).heap[D]? = some (.deferred (some [])) := by
      rw [Below.heap_setCell _ _ _ _ (by show D ≠ w.heap.size + 1; have := HI.out.2; omega), X.only.block D hDl (by simp)]
      exact hK
    have HF := hide (And.intro hset (And.intro hos hK2))
    clear hset hos hK2 hr1 l1 l2 l3
    go_wp2_with fail
    gi_wp2
    refine ⟨by simp, .inl ⟨_, _, rfl, run_takeDeferred HF.out.2.2, ?_⟩⟩
    have hfin := KeepP.put (p := fun _ => True) _ D _ (.deferred none) HF.out.2.2 rfl _ _ _ trivial HF.out.1
    exact ⟨_, results_cell1 rfl _ _ _ _ rfl (hfin.cell 0), rfl, HF.out.2.1.put (by have := HI.out.2; have := o5.size; omega) _⟩

set_option maxRecDepth 100000 in
set_option maxHeartbeats 8000000 in
theorem looks_far {w : World} {B g h M k : Nat} {v v2 : Value} {L : List Int} (T : Two w B g h M v v2 L k) (hk : k ≤ 1000000) (i : Int) (hi : 0 ≤ i ∧ (L.length : Int) ≤ i) :
    Calls Try.prog 15 #[.pointer (some ⟨g, 0, none⟩), .pointer (some ⟨h, 0, none⟩), .int .i64 i] w fun e w' => e = .returned (.bool true) ∧ Only [] w w' := by
  have hb := (Has.new w 28 #[.pointer (some ⟨h, 0, none⟩)]).alloc (.cells #[.bool false] 4)
  have hr := Has.new (w.alloc (.cells #[.pointer (some ⟨h, 0, none⟩)] 28)) 4 #[.bool false]
  have hO := ((Only.refl [] w).alloc (.cells #[.pointer (some ⟨h, 0, none⟩)] 28)).alloc (.cells #[.bool false] 4)
  rw [World.size_alloc] at hr
  have T0 := T.only hO
  obtain ⟨n2, cc2, A2, rfl, R2⟩ := T.ref
  have hl2 := R2.len
  have hf2 := R2.few
  have HRf := hide (fun (X : World) (hX : Only [] w X) => R2.only hX (by simp) (by simp))
  have hj0 : i ≥ 0 := by omega
  have hj2 : ¬ i < (n2 : Int) := by omega
  have hd2 : decide (i < (n2 : Int)) = false := decide_eq_false hj2
  have HAt := hide (fun X (h : Two X B g h M v (.slice A2 n2 cc2) L k) => none_v h.ring i (.inr (by rw [ivals_len']; omega)))
  refine (callsIn_wide (n := 5)).1 ?_
  refine callsIn_of_wp_marks Try.func15 rfl trivial ?_ rfl
  simp only [Try.ntmps15, List.size_toArray, List.length_cons, List.length_nil, Nat.reduceAdd, Nat.reduceSub, Array.replicate_succ, Array.replicate_zero, List.push_toArray, List.append_toArray, List.nil_append, List.cons_append]
  gi_wp2
  generalize (w.alloc (.cells #[.pointer (some ⟨h, 0, none⟩)] 28)).alloc (.cells #[.bool false] 4) = X0 at *
  refine ⟨trivial, (callsIn_wide.2 (HAt.out X0 T0)).mono ?_⟩
  rintro e x2 ⟨rfl, ho2⟩
  have T2 := T0.only ho2
  have hb2 := hb.only ho2 (by simp)
  have hr2 := hr.only ho2 (by simp)
  have o2 := hO.trans ho2 (S := []) (by simp)
  obtain ⟨m2, cm2, B2, he2, Q2⟩ := T2.ref
  injection he2 with e1 e2 e3
  subst e1 e2 e3
  have b0 : x2.cell? ⟨w.heap.size, 0, none⟩ = some (.pointer (some ⟨h, 0, none⟩)) := hb2.cell 0
  have r1 : x2.cell? ⟨h, 1, none⟩ = some (.slice A2 n2 cc2) := Q2.box.cell 1
  have r2 : x2.cell? ⟨h, 2, none⟩ = some (.int .i64 k) := Q2.box.cell 2
  have H2 := hide (And.intro T2 (And.intro hb2 (And.intro hr2 (And.intro o2 Q2))))
  clear hb hr hO T0 T ho2 T2 hb2 hr2 o2 Q2 R2
  gi_wp2
  have lb0 := later_cell b0
  have lr1 := later_cell r1
  have lr2 := later_cell r2

  have HLn := hide (fun (X : Later x2) => len_v (H2.out.1.only X.only).ring)
  have HGn := hide (fun (X : Later x2) => gone_v (H2.out.1.only X.only).ring)
  rw [ivals_len', hl2] at HLn
  refine wpIn_wide.2 ?_
  refine region_later (by kernel_rfl) (by kernel_rfl) ?_
  iterate 27 (go_big_quiet_step (fail))
  go_big_quiet_step ((go_at_call 16; refine later_of (HLn.out _)))
  iterate 9 (go_big_quiet_step (fail))
  go_big_quiet_step ((go_at_call 18; refine later_of (HGn.out _)))
  iterate 6 (go_big_quiet_step (fail))
  refine wpQuiet_nil ?_
  rintro _ ⟨X3, rfl⟩
  have H3 := hide (And.intro (H2.out.1.only X3.only) (And.intro (H2.out.2.1.only X3.only (by simp)) (And.intro (H2.out.2.2.1.only X3.only (by simp)) (H2.out.2.2.2.1.trans X3.only (S := []) (by simp)))))
  clear lb0 lr1 lr2 b0 r1 r2 HLn HGn H2 HAt 
  gi_wp2
  have hb4 := H3.out.2.1.alloc (.cells #[.int .i64 0] 3)
  have hr4 := H3.out.2.2.1.alloc (.cells #[.int .i64 0] 3)
  have hk4 := Has.new X3.val 3 #[.int .i64 0]
  have o4 := H3.out.2.2.2.alloc (.cells #[.int .i64 0] 3)
  have T4 := H3.out.1.only ((Only.refl [] X3.val).alloc (.cells #[.int .i64 0] 3))
  have hbk : w.heap.size ≤ X3.val.heap.size := H3.out.2.2.2.size
  have hbr : w.heap.size + 1 < X3.val.heap.size := H3.out.2.2.1.lt
  generalize X3.val.alloc (.cells #[.int .i64 0] 3) = x4 at *
  generalize X3.val.heap.size = bk at *
  clear H3
  refine ⟨trivial, (callsIn_wide.2 (all_v T4.ring (fun u hu => by simp only [ivals, List.mem_map] at hu; obtain ⟨z, _, rfl⟩ := hu; exact ⟨z, rfl⟩))).mono ?_⟩
  rintro e x5 ⟨gt, gg, A5, c5, rfl, g1, g2, h1, h2, h3, ho5⟩
  have hb5 := hb4.only ho5 (by simp)
  have hr5 := hr4.only ho5 (by simp)
  have hk5 := hk4.only ho5 (by simp)
  have o5 := o4.trans ho5 (S := []) (by simp)
  have hklt := hk4.lt
  have hs45 := ho5.size
  rw [ivals_len', hl2] at h1 h3
  have hp3 : ∀ b, (Value.slice A5 n2 c5).ownBlock = some b → x4.heap.size ≤ b := fun b hb => (own_lt h3 hb).2
  have HS := hide (all1_ps (fun b => x4.heap.size ≤ b) h1 h2 h3 hf2 hk g1 g2 hp3)
  have I0 : LkI w w.heap.size (w.heap.size + 1) bk h [] x5 := ⟨hk5, hr5, hb5, o5⟩
  clear hb4 hr4 hk4 o4 T4 h1 h2 h3 ho5 hb5 hr5 hk5 hp3
  gi_wp2
  refine range_at (gf := 30) (bb := #[]) (lb := #[.pointer (some ⟨gt, 0, none⟩), .pointer (some ⟨gg, 0, none⟩)]) rfl (enters_of Try.func30 (by kernel_rfl) rfl) HS.out (fun _ => rfl) (Below.refl _ _) (fun h k => KeepP.trans h k) (fun W l o o' h ho => KeepP.put W l o o' h ho)
    (LkI w w.heap.size (w.heap.size + 1) bk h) (ownFrom_lkI o5.size) I0 (fun t x => (((t.setIfInBounds 76 (.int .i64 (k + x : Nat))).setIfInBounds 77 ((ivals L).getD x undef)).setIfInBounds 11 (.int .i64 (k + x : Nat))).setIfInBounds 12 ((ivals L).getD x undef)) ?assign ?body ?done
  case assign =>
    intro la pre x W K hpre hi hK
    gi_wp2
    exact hK _ (keepsFrom_only (Only.refl [] W) (by simp)) (KeepP.only (Only.refl [] W) (by simp)) hi
  case body =>
    intro la pre x W hpre hi
    obtain ⟨rfl, hxn⟩ := pre_range hpre
    have QW := HRf.out W hi.only
    have hyl : pre.length < L.length := by omega
    have hy := ivals_some hyl
    have hsn : (pre ++ [pre.length]).length = pre.length + 1 := by simp
    have hgd : (ivals L).getD pre.length undef = .int .i64 L[pre.length] := by rw [List.getD_eq_getElem?_getD, hy]; rfl
    rw [hgd]
    have c1 : W.cell? ⟨bk, 0, none⟩ = some (.int .i64 (pre.length : Nat)) := hi.cnt.cell 0
    have c2 : W.cell? ⟨w.heap.size, 0, none⟩ = some (.pointer (some ⟨h, 0, none⟩)) := hi.box.cell 0
    have r1 : W.cell? ⟨h, 1, none⟩ = some (.slice A2 n2 cc2) := QW.box.cell 1
    have r2 : W.cell? ⟨h, 2, none⟩ = some (.int .i64 k) := QW.box.cell 2
    obtain ⟨b3, hb3, q1, q2, q3, hc⟩ := own_open QW.own (by omega)
    clear q1 q2 q3
    have c3 := hc _ _ hy
    have HI := hide (And.intro hi hsn)
    have HQ := hide hb3
    clear hi QW hc hy hgd hpre hsn
    generalize L[pre.length] = y at *
    generalize hm : pre.length = m at *
    have HM := hide hm
    have kw : IntKind.i64.wrap ((k : Int) + (m : Int)) = ((k + m : Nat) : Int) := by rw [IntWalk.i64_in _ ⟨by omega, by omega⟩]; omega
    have kk : (k : Int) + (m : Int) = ((k + m : Nat) : Int) := by omega
    have kw1 : IntKind.i64.wrap ((m : Int) + 1) = ((m + 1 : Nat) : Int) := by rw [IntWalk.i64_in _ ⟨by omega, by omega⟩]; omega
    generalize hs : k + m = s at *
    first
      | subst hb3
      | (injection hb3 with hb3; injection hb3 with hb3; subst hb3)
    clear hm hs hyl
    have kr : (m : Int) < (n2 : Int) := by omega
    have kd : decide (n2 ≤ m) = false := decide_eq_false (by omega)
    have l1 := later_cell c1
    have l2 := later_cell c2
    have l3 := later_cell r1
    have l4 := later_cell r2
    have l5 := later_cell c3
    gi_wp2
    refine region_later_tail_round 27 (by kernel_rfl) (by kernel_rfl) (by kernel_rfl) (fun ⟨_, _, h⟩ => h.2) ?_
    simp only [List.take_succ_cons, List.take_zero, List.drop_succ_cons, List.drop_zero]
    iterate 27 (go_big_quiet_step (fail))
    refine wpQuiet_nil ?_
    rintro _ ⟨X, rfl⟩
    have hx1 := HI.out.1.cnt.only X.only (by simp)
    have d1 : X.val.cell? ⟨bk, 0, none⟩ = some (.int .i64 (m : Nat)) := by rw [← HM.out]; exact hx1.cell 0
    have d2 := hx1.free 0
    have hset := hx1.set 0 (.int .i64 (m + 1 : Nat))
    have hos : Only [bk] W (X.val.setCell ⟨bk, 0, none⟩ (.int .i64 (m + 1 : Nat))) := (X.only.of_nil).setCell (by simp) _
    have hres : LkI w w.heap.size (w.heap.size + 1) bk h (pre ++ [m]) (X.val.setCell ⟨bk, 0, none⟩ (.int .i64 (m + 1 : Nat))) := by
      have e := HI.out.2
      refine ⟨by rw [e]; exact hset, HI.out.1.res.only hos (by simp; omega), HI.out.1.box.only hos (by simp; omega), HI.out.1.only.trans hos (by intro i hi hlt; simp at hi; omega)⟩
    have hfin : psQ x5.heap.size (KeepP fun b => x4.heap.size ≤ b) (LkI w w.heap.size (w.heap.size + 1) bk h) (fun _ _ _ => False) (pre ++ [m]) W .normal (X.val.setCell ⟨bk, 0, none⟩ (.int .i64 (m + 1 : Nat))) :=
      ⟨keepsFrom_only hos (fun k hk => by simp at hk; subst hk; exact ⟨_, _, HI.out.1.cnt⟩), KeepP.only hos (fun b hb => by simp at hb; omega), hres⟩
    have HF := hide hfin
    clear hfin
    clear hres hset hos hx1 l1 l2 l3 l4 l5 c1 c2 r1 r2 c3
    go_wp2_with fail
    gi_wp2
    exact HF.out
  case done =>
    intro D W hD hi hK
    have QW := HRf.out W hi.only
    have c1 : W.cell? ⟨bk, 0, none⟩ = some (.int .i64 n2) := by have := hi.cnt.cell 0; rw [List.length_range] at this; exact this
    have c2 : W.cell? ⟨w.heap.size, 0, none⟩ = some (.pointer (some ⟨h, 0, none⟩)) := hi.box.cell 0
    have r1 : W.cell? ⟨h, 1, none⟩ = some (.slice A2 n2 cc2) := QW.box.cell 1
    have l1 := later_cell c1
    have l2 := later_cell c2
    have l3 := later_cell r1
    have HI := hide (And.intro hi hD)
    clear hi QW c1 c2 r1
    gi_wp2
    refine wpIn_wide.2 ?_
    refine region_later_tail 7 (by kernel_rfl) (by kernel_rfl) ?_
    simp only [List.take_succ_cons, List.take_zero, List.drop_succ_cons, List.drop_zero]
    iterate 7 (go_big_quiet_step (fail))
    refine wpQuiet_nil ?_
    rintro _ ⟨X, rfl⟩
    have hr1 := HI.out.1.res.only X.only (by simp)
    have d1 : X.val.cell? ⟨w.heap.size + 1, 0, none⟩ = some (.bool false) := hr1.cell 0
    have d2 := hr1.free 0
    have hset := hr1.set 0 (.bool true)
    have hos : Only [] w (X.val.setCell ⟨w.heap.size + 1, 0, none⟩ (.bool true)) := (HI.out.1.only.trans X.only (S := []) (by simp)).setCell (fun h => absurd h (by simp)) _
    have hDl : D < W.heap.size := by
      rcases Nat.lt_or_ge D W.heap.size with hlt | hge
      · exact hlt
      · rw [Array.getElem?_eq_none hge] at hK; cases hK
    have hK2 : (X.val.setCell ⟨w.heap.size + 1, 0, none⟩ (.bool true)).heap[D]? = some (.deferred (some [])) := by
      rw [Below.heap_setCell _ _ _ _ (by show D ≠ w.heap.size + 1; have := HI.out.2; omega), X.only.block D hDl (by simp)]
      exact hK
    have HF := hide (And.intro hset (And.intro hos hK2))
    clear hset hos hK2 hr1 l1 l2 l3
    go_wp2_with fail
    gi_wp2
    refine ⟨by simp, .inl ⟨_, _, rfl, run_takeDeferred HF.out.2.2, ?_⟩⟩
    have hfin := KeepP.put (p := fun _ => True) _ D _ (.deferred none) HF.out.2.2 rfl _ _ _ trivial HF.out.1
    exact ⟨_, results_cell1 rfl _ _ _ _ rfl (hfin.cell 0), rfl, HF.out.2.1.put (by have := HI.out.2; have := o5.size; omega) _⟩

end Go.Proofs.Ytakeoabeaopamaa
