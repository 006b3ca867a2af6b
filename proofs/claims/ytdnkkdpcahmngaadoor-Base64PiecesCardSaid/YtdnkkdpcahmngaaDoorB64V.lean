/-
  Contracts of the reference's decoder: Write.
-/
import Derived.Test.YtdnkkdpcahmngaaDoorB64U
import Derived.StillTailTactics
import Derived.Deep.RegionLaw
namespace Go.Proofs.YtdnkkdpcahmngaaDoor
open Go Go.RowKit

theorem wait_took {t u : St} {c : UInt8} (h : t.take c = some u) : u.wait = t.wait ++ [c] ∧ u.held = t.held + 1 ∧ u.shut = t.shut ∧ u.bad = t.bad := by
  unfold St.take at h
  split at h
  · cases h
  · split at h
    · rename_i he
      split at h
      · cases h
      · injection h with h
        subst h
        have hc : c = 61 := UInt8.toNat_inj.1 he
        subst hc
        refine ⟨?_, ?_, rfl, rfl⟩
        · show t.cs ++ List.replicate (t.fl + 1) 61 = t.cs ++ List.replicate t.fl 61 ++ [61]
          rw [List.replicate_succ', List.append_assoc]
        · show t.cs.length + (t.fl + 1) = t.cs.length + t.fl + 1
          omega
    · split at h
      · cases h
      · rename_i hn
        injection h with h
        subst h
        have hf : t.fl = 0 := by omega
        refine ⟨?_, ?_, rfl, rfl⟩
        · show (t.cs ++ [c]) ++ List.replicate t.fl 61 = t.cs ++ List.replicate t.fl 61 ++ [c]
          rw [hf]; simp
        · show (t.cs ++ [c]).length + t.fl = t.cs.length + t.fl + 1
          rw [List.length_append, List.length_singleton]; omega

theorem take_61 {t u : St} {c : UInt8} (h : t.take c = some u) : ¬ (c.toNat = 61 ∧ t.cs.length < 2) := by
  rintro ⟨h1, h2⟩
  unfold St.take at h
  simp [h1, h2] at h

theorem Pushed.cell0 {wr w' : World} {B g : Nat} {v v' x y z : Value} {q : List UInt8} {b : UInt8} {t : TypeId} (h : Pushed wr B v q b w' v') (hg : Has wr g t #[x, y, z]) (hn : some g ≠ v.ownBlock) :
    w'.cell? ⟨g, 0, none⟩ = some x ∧ w'.frozen? ⟨g, 0, none⟩ = false := ⟨(h.has hg hn).cell 0, (h.has hg hn).free 0⟩

/-- One sign more waits. -/
theorem Rf.push {B : Nat} {w1 w2 : World} {g n n2 cw cc2 : Nat} {Aw A2 : Option Addr} {a b : Bool} {t u : St} {ch : UInt8} (hh : Has w1 g 30 #[.slice Aw n cw, .bool a, .bool b]) (hp : Pushed w1 B (.slice Aw n cw) t.wait ch w2 (.slice A2 n2 cc2))
    (hne : some g ≠ (Value.slice Aw n cw).ownBlock) (hw : u.wait = t.wait ++ [ch]) (hs : u.shut = a) (hb : u.bad = b) :
    Rf B (w2.setCell ⟨g, 0, none⟩ (.slice A2 n2 cc2)) g (.slice A2 n2 cc2) u := by
  have h2 := hp.has hh hne
  have hl : u.held = t.wait.length + 1 := by rw [← u.wait_length, hw, List.length_append]; rfl
  refine ⟨by rw [hs, hb]; exact h2.set 0 _, ?_⟩
  rw [hw, hl]
  exact ownsRow_setCell_other hp.own (fun h => own_ne hp.own h2 (by decide) h.symm) _

theorem Rf.clear {B : Nat} {w : World} {g : Nat} {x : Value} {a b : Bool} (h : Has w g 30 #[x, .bool a, .bool b]) (c : Bool) :
    Rf B ((w.setCell ⟨g, 1, none⟩ (.bool c)).setCell ⟨g, 0, none⟩ (.slice none 0 0)) g (.slice none 0 0) ⟨[], 0, c, b⟩ :=
  ⟨(h.set 1 _).set 0 _, World.ownsRow_nil _ _ _ _⟩

/-- All that is kept of it, the world behind as one. -/
structure Mid2 (B g : Nat) (w : World) (v : Value) (o : Value) (q : List UInt8) (u : St) (w5 : World) (v5 : Value) : Prop where
  rf : Rf B w5 g v5 u
  since : Since [g] w v w5 v5
  out : w5.ownsRow w.heap.size 5 1 o q.length (bvals q)
  dis : ∀ b, o.ownBlock = some b → v5.ownBlock ≠ some b

theorem mid2 {B : Nat} {w wr w1 w2 : World} {g n n2 cw cc2 : Nat} {Aw A2 : Option Addr} {v o : Value} {q : List UInt8} {a b : Bool} {t u : St} {ch : UInt8} (hh : Has w1 g 30 #[.slice Aw n cw, .bool a, .bool b]) (hp : Pushed w1 B (.slice Aw n cw) t.wait ch w2 (.slice A2 n2 cc2))
    (hne : some g ≠ (Value.slice Aw n cw).ownBlock) (hw : u.wait = t.wait ++ [ch]) (hs : u.shut = a) (hb : u.bad = b) (ho : Only [] wr w1) (hsi : Since [g] w v wr (.slice Aw n cw)) (hout : wr.ownsRow w.heap.size 5 1 o q.length (bvals q))
    (hdis : ∀ b, o.ownBlock = some b → (Value.slice Aw n cw).ownBlock ≠ some b) :
    Mid2 B g w v o q u (w2.setCell ⟨g, 0, none⟩ (.slice A2 n2 cc2)) (.slice A2 n2 cc2) := by
  have h1 := own_keep hout ho (by simp)
  have hog := own_ne h1 hh (by decide)
  refine ⟨Rf.push hh hp hne hw hs hb, (hp.since _ _ _ (hsi.step ho.of_nil)).step ((Only.refl [g] _).setCell (by simp) _), ?_, fun k hk => ?_⟩
  · refine ownsRow_setCell_other (own_keep h1 hp.only (fun k hk hm => ?_)) (fun h => hog h.symm) _
    exact hdis k hk (by cases hx : (Value.slice Aw n cw).ownBlock with
      | none => rw [hx] at hm; simp at hm
      | some z => rw [hx] at hm; simp at hm; rw [hm])
  · intro h2
    rcases (hp.since [] w1 _ (Since.refl _ _ _)).own k h2 with h3 | h3
    · exact hdis k hk h3
    · have := (h1.lt k hk).2
      omega

/-- What the reference's Write tells, and leaves. -/
def TWrote (B g : Nat) (v : Value) (x : List UInt8 × Nat × St) (w : World) (e : Ending) (w' : World) : Prop :=
  ∃ r v', e = .returned (.tuple #[r, .int .i64 (x.2.1 : Nat)]) ∧ w'.ownsRow w.heap.size 5 1 r x.1.length (bvals x.1) ∧ Rf B w' g v' x.2.2 ∧ Since [g] w v w' v'

theorem Rf.store {B : Nat} {w : World} {g : Nat} {v : Value} {s : St} (h : Rf B w g v s) (a b : Bool) :
    Rf B (((w.setCell ⟨g, 0, none⟩ (.slice none 0 0)).setCell ⟨g, 1, none⟩ (.bool a)).setCell ⟨g, 2, none⟩ (.bool b)) g (.slice none 0 0) ⟨[], 0, a, b⟩ :=
  ⟨((h.has.set 0 _).set 1 _).set 2 _, World.ownsRow_nil _ _ _ _⟩
theorem Since.reset {g : Nat} {w w1 : World} {v vw : Value} (h : Since [g] w v w1 vw) (a b c : Value) : Since [g] w v (((w1.setCell ⟨g, 0, none⟩ a).setCell ⟨g, 1, none⟩ b).setCell ⟨g, 2, none⟩ c) (.slice none 0 0) :=
  ⟨(h.step ((((Only.refl [g] w1).setCell (by simp) a).setCell (by simp) b).setCell (by simp) c)).only, fun _ hb => by simp [Value.ownBlock] at hb⟩

set_option maxRecDepth 100000 in
set_option maxHeartbeats 4000000 in
theorem tWrite (B g : Nat) (v : Value) (s : St) (A : Option Addr) (n c : Nat) (l : List UInt8) (w : World) (h : Rf B w g v s) (hs : s.Ok) (hB : B ≤ w.heap.size) (hb : Holds w 1 A n (bvals l)) (hl : l.length = n) (hn : n ≤ 1000000)
    (hA : 0 < n → ∀ ad, A = some ad → ad.block ≠ g ∧ v.ownBlock ≠ some ad.block) :
    Calls Tryd.prog 14 #[.pointer (some ⟨g, 0, none⟩), .slice A n c] w (TWrote B g v (s.write l) w) := by
  subst hl
  have c2 : w.cell? ⟨g, 2, none⟩ = some (.bool s.bad) := h.has.cell 2
  by_cases hbad : s.bad = true
  · have hw : s.write l = ([], 3, s) := by unfold St.write; rw [if_pos hbad]
    rw [hw]
    rw [hbad] at c2
    have H := hide h
    clear h hs hb hA hw hbad
    go_enter Tryd.func14, Tryd.ntmps14
    go_wp2_with fail
    go_ret2
    exact ⟨_, v, rfl, World.ownsRow_nil _ _ _ _, H.out, Since.refl _ _ _⟩
  have hbad : s.bad = false := by simpa using hbad
  rw [hbad] at c2
  have hw : s.write l = match s.run l with
    | none => ([], 3, St.wrong)
    | some (o, t) => (o, 0, t) := by unfold St.write; rw [hbad]; rfl
  have HE := hide (And.intro h (And.intro hs (And.intro hb (And.intro hA (And.intro hw hbad)))))
  clear h hs hb hA hw hbad
  obtain ⟨i0, hi0, hz0, hz1, hz2⟩ := info_of u8_info
  go_enter Tryd.func14, Tryd.ntmps14
  go_wp2_with fail
  go_loopw [6, 7] (fun o i wr => ∃ (j : Nat) (vo vw : Value) (q : List UInt8) (t : St), j ≤ l.length ∧ i = .int .i64 j ∧ o = vo ∧ s.run (l.take j) = some (q, t) ∧ wr.ownsRow w.heap.size 5 1 vo q.length (bvals q) ∧ Rf B wr g vw t ∧ Since [g] w v wr vw ∧ (∀ b, vo.ownBlock = some b → vw.ownBlock ≠ some b)) (fun _ i _ => l.length - (intOf i).toNat)
  case atStart => exact ⟨0, _, v, [], s, Nat.zero_le _, rfl, rfl, run_nil s, World.ownsRow_nil _ _ _ _, HE.out.1, Since.refl _ _ _, by simp [Value.ownBlock]⟩
  case round =>
    obtain ⟨j, vo, vw, q, t, hj, rfl, rfl, hrun, hownr, hrf, hsi, hdis⟩ := hrel
    obtain ⟨htok, htb⟩ := run_ok HE.out.2.1 HE.out.2.2.2.2.2 hrun
    have hqf := run_few HE.out.2.1 HE.out.2.2.2.2.2 hrun
    have hql : q.length ≤ 3 * l.length := by rw [List.length_take] at hqf; omega
    clear hqf
    obtain ⟨A1, cc1, rfl, _, _⟩ := own_shape hownr
    obtain ⟨Aw, cw, rfl, _, _⟩ := own_shape hrf.own
    by_cases hlt : j < l.length
    · have hbk := HE.out.2.2.1.keepPos hsi.only (fun h0 ad ha _ hm => by
        have hx := HE.out.2.2.2.1 h0 ad ha
        rcases List.mem_append.1 hm with hm | hm
        · exact hx.1 (by simpa using hm)
        · exact hx.2 (by simpa using hm))
      obtain ⟨b, o, rfl, hc2⟩ := hbk.addr (by simpa using (show 0 < l.length by omega))
      have hcell : wr.cell? ⟨b, o + j, none⟩ = some (.int .u8 (l[j].toNat : Int)) := hc2 j _ (bvals_get l j hlt)
      have hbl : b < wr.heap.size := World.block_lt_of_cell? wr _ hcell
      have hch := l[j].toNat_lt
      have htk := List.take_succ_eq_append_getElem hlt
      have hdr : l = l.take j ++ l[j] :: l.drop (j + 1) := by rw [← List.drop_eq_getElem_cons hlt, List.take_append_drop]
      have hst := run_snoc hrun l[j]
      have hsn := run_snoc_none hrun l[j] (l.drop (j + 1))
      rw [← hdr] at hsn
      rw [← htk] at hst
      have hmid := fun u (h : t.take l[j] = some u) => take_mid htok htb h
      unfold St.step at hst hsn
      have hfew : t.held < 4 := htok.few
      have hfit := tFits B g (.slice Aw t.held cw) t l[j] wr hrf htok
      have hsig := tSigns B g _ t wr hrf htok.six (by omega)
      have hafter : ∀ w1, Only [] wr w1 → (w1.cell? ⟨g, 0, none⟩ = some (.slice Aw t.held cw) ∧ w1.cell? ⟨g, 1, none⟩ = some (.bool t.shut) ∧ w1.cell? ⟨g, 2, none⟩ = some (.bool t.bad)) ∧ (w1.frozen? ⟨g, 0, none⟩ = false ∧ w1.frozen? ⟨g, 1, none⟩ = false ∧ w1.frozen? ⟨g, 2, none⟩ = false) ∧ w1.cell? ⟨b, o + j, none⟩ = some (.int .u8 (l[j].toNat : Int)) :=
        fun w1 ho => ⟨⟨(hrf.has.only ho (by simp)).cell 0, (hrf.has.only ho (by simp)).cell 1, (hrf.has.only ho (by simp)).cell 2⟩, ⟨(hrf.has.only ho (by simp)).free 0, (hrf.has.only ho (by simp)).free 1, (hrf.has.only ho (by simp)).free 2⟩, by
          rw [ho.cell (p := ⟨b, o + j, none⟩) hbl (by simp)]; exact hcell⟩
      obtain ⟨⟨c0, c1, c2⟩, ⟨f0, f1, f2⟩, _⟩ := hafter wr (Only.refl _ _)
      clear hc2 hbk hdr htk hbl
      generalize l[j] = ch at *
      have hwt := fun u (h : t.take ch = some u) => wait_took h
      have hcases : t.held = 0 ∨ (0 < t.held ∧ ¬ ch.toNat = 61) ∨ (0 < t.held ∧ ch.toNat = 61 ∧ t.cs.length < 2) ∨ (0 < t.held ∧ ch.toNat = 61 ∧ ¬ t.cs.length < 2) := by omega
      cases htake : t.take ch with
      | none =>
        rw [htake] at hfit hsn
        have hrn := hsn rfl
        have hw0 := HE.out.2.2.2.2.1
        rw [hrn] at hw0
        have hfit : Calls Tryd.prog 27 #[.pointer (some ⟨g, 0, none⟩), .int .u8 (ch.toNat : Int)] wr fun e w' => e = .returned (.bool false) ∧ Only [] wr w' := hfit
        have HF := hide (And.intro hfit (And.intro hsig (And.intro hafter (And.intro hw0 (And.intro hsi hrf)))))
        clear hst hsn hmid htake hrun hownr htok htb hw0 hrn hfit hsig hafter hrf hsi hdis hwt
        have hfin : ∀ w1, Only [] wr w1 → Rf B w1 g (.slice Aw t.held cw) t ∧ Since [g] w v w1 (.slice Aw t.held cw) := fun w1 ho => ⟨HF.out.2.2.2.2.2.only ho (by simp) (by simp), HF.out.2.2.2.2.1.step ho.of_nil⟩
        have HFIN := hide hfin
        clear hfin
        generalize t.held = hd at *
        generalize ch.toNat = x at *
        rcases hcases with h0 | ⟨h0, hx⟩ | ⟨h0, hx, hcs⟩ | ⟨h0, hx, hcs⟩
        · subst h0
          go_wp2_with fail
          refine (HF.out.1).mono ?_
          rintro e w1 ⟨rfl, ho1⟩
          obtain ⟨⟨k0, k1, k2⟩, ⟨g0, g1, g2⟩, _⟩ := HF.out.2.2.1 w1 ho1
          have HO := hide ho1
          clear ho1
          go_wp2_with fail
          go_ret2
          rw [HF.out.2.2.2.1]
          exact ⟨_, _, rfl, World.ownsRow_nil _ _ _ _, (HFIN.out w1 HO.out).1.store false true, (HFIN.out w1 HO.out).2.reset _ _ _⟩
        · have hx1 : ((x : Int) == 61) = false := by simp; omega
          clear hx
          go_wp2_with fail
          refine (HF.out.1).mono ?_
          rintro e w1 ⟨rfl, ho1⟩
          obtain ⟨⟨k0, k1, k2⟩, ⟨g0, g1, g2⟩, _⟩ := HF.out.2.2.1 w1 ho1
          have HO := hide ho1
          clear ho1
          go_wp2_with fail
          go_ret2
          rw [HF.out.2.2.2.1]
          exact ⟨_, _, rfl, World.ownsRow_nil _ _ _ _, (HFIN.out w1 HO.out).1.store false true, (HFIN.out w1 HO.out).2.reset _ _ _⟩
        · subst hx
          generalize t.cs.length = m at *
          go_wp2_with fail
          refine (HF.out.2.1).mono ?_
          rintro e w1 ⟨rfl, rfl⟩
          go_wp2_with fail
          go_ret2
          rw [HF.out.2.2.2.1]
          exact ⟨_, _, rfl, World.ownsRow_nil _ _ _ _, (HFIN.out wr (Only.refl _ _)).1.store false true, (HFIN.out wr (Only.refl _ _)).2.reset _ _ _⟩
        · subst hx
          generalize t.cs.length = m at *
          go_wp2_with fail
          refine (HF.out.2.1).mono ?_
          rintro e w1 ⟨rfl, rfl⟩
          go_wp2_with fail
          refine (HF.out.1).mono ?_
          rintro e w1 ⟨rfl, ho1⟩
          obtain ⟨⟨k0, k1, k2⟩, ⟨g0, g1, g2⟩, _⟩ := HF.out.2.2.1 w1 ho1
          have HO := hide ho1
          clear ho1
          go_wp2_with fail
          go_ret2
          rw [HF.out.2.2.2.1]
          exact ⟨_, _, rfl, World.ownsRow_nil _ _ _ _, (HFIN.out w1 HO.out).1.store false true, (HFIN.out w1 HO.out).2.reset _ _ _⟩
      | some u =>
        rw [htake] at hfit hst
        simp only [Option.map_some] at hst
        have hm := hmid u htake
        obtain ⟨hwu, hhu, hsu, hbu⟩ := hwt u htake
        have hfit : Calls Tryd.prog 27 #[.pointer (some ⟨g, 0, none⟩), .int .u8 (ch.toNat : Int)] wr fun e w' => e = .returned (.bool true) ∧ Only [] wr w' := hfit
        have hn3 := take_61 htake
        have hown1 : ∀ w1, Only [] wr w1 → w1.ownsRow B 5 1 (.slice Aw t.held cw) t.held (bvals t.wait) := fun w1 ho => own_keep hrf.own ho (by simp)
        have hhas1 : ∀ w1, Only [] wr w1 → Has w1 g 30 #[.slice Aw t.held cw, .bool t.shut, .bool t.bad] := fun w1 ho => hrf.has.only ho (by simp)
        have hne := own_ne hrf.own hrf.has (by decide)
        have hBw : B ≤ wr.heap.size := by have := hsi.only.size; omega
        have hwl := t.wait_length
        have hrm : t.held + 1 ≤ 140737488355328 := by omega
        have hbl := World.block_lt_of_cell? wr _ hcell
        have HF := hide (And.intro hfit (And.intro hsig (And.intro hafter (And.intro hown1 (And.intro hhas1 (And.intro hne (And.intro hwl (And.intro hBw (And.intro hrm hbl)))))))))
        have HG := hide (And.intro hst (And.intro hm (And.intro hownr (And.intro hsi (And.intro hdis (And.intro hwu (And.intro hhu (And.intro hsu hbu))))))))
        clear hst hsn hmid htake hrun hownr htok htb hfit hsig hafter hrf hsi hdis hwt hown1 hhas1 hne hm hwu hhu hsu hbu hBw hwl hrm hbl
        generalize t.held = hd at *
        generalize t.cs.length = m at *
        rcases hcases with h0 | ⟨h0, hx⟩ | ⟨h0, hx, hcs⟩ | ⟨h0, hx, hcs⟩
        rotate_left 2
        · exact absurd ⟨hx, hcs⟩ hn3
        have hx1 : ((ch.toNat : Int) == 61) = true := by simp; omega
        clear hx hn3
        go_wp2_with fail
        refine (HF.out.2.1).mono ?_
        rintro e w1 ⟨rfl, rfl⟩
        go_wp2_with fail
        refine (HF.out.1).mono ?_
        rintro e w1 ⟨rfl, ho1⟩
        clear hx1
        rotate_left 1
        subst h0
        clear hn3
        go_wp2_with fail
        refine (HF.out.1).mono ?_
        rintro e w1 ⟨rfl, ho1⟩
        rotate_left 1
        have hx1 : ((ch.toNat : Int) == 61) = false := by simp; omega
        clear hx hn3
        go_wp2_with fail
        refine (HF.out.1).mono ?_
        rintro e w1 ⟨rfl, ho1⟩
        clear hx1
        all_goals
          obtain ⟨⟨k0, k1, k2⟩, ⟨g0, g1, g2⟩, kc⟩ := HF.out.2.2.1 w1 ho1
          have HO := hide ho1
          clear ho1
          go_wp2_with fail
          have hown1 := HF.out.2.2.2.1 w1 HO.out
          have hhas1 := HF.out.2.2.2.2.1 w1 HO.out
          have hB1 : B ≤ w1.heap.size := Nat.le_trans HF.out.2.2.2.2.2.2.2.1 HO.out.size
          have hroom := HF.out.2.2.2.2.2.2.2.2.1
          have hne1 := HF.out.2.2.2.2.2.1
          have hwl1 := HF.out.2.2.2.2.2.2.1
          have glt := hhas1.lt
          have blt : b < w1.heap.size := Nat.lt_of_lt_of_le HF.out.2.2.2.2.2.2.2.2.2 HO.out.size
          go_region_law ((refine step_push rfl (.tmp 55) (.tmp 60) rfl w1 hB1 ch hwl1 hown1 hroom w1.heap.size rfl rfl rfl ?_; intro A2 cc2 w2 hp; obtain ⟨cw0, fw0⟩ := hp.cell0 hhas1 hne1; have HP := hide hp; clear hp))
          all_goals
            have hmid := mid2 hhas1 HP.out hne1 HG.out.2.2.2.2.2.1 HG.out.2.2.2.2.2.2.2.1 HG.out.2.2.2.2.2.2.2.2 HO.out HG.out.2.2.2.1 HG.out.2.2.1 HG.out.2.2.2.2.1
            clear HP cw0 fw0 k0 k1 k2 kc g0 g1 g2 hown1 hhas1 hroom hne1 hwl1 glt
            generalize hw5 : w2.setCell _ _ = w5 at hmid ⊢
            rw [← HG.out.2.2.2.2.2.2.1] at hmid
            have hmm := HG.out.2.1
            have hh4 : u.held ≤ 4 := hmm.few
            have hst := HG.out.1
            have c50 : w5.cell? ⟨g, 0, none⟩ = some (.slice A2 u.held cc2) := hmid.rf.has.cell 0
            have c51 : w5.cell? ⟨g, 1, none⟩ = some (.bool u.shut) := hmid.rf.has.cell 1
            have hsg := hide (tSigns B g _ u w5 hmid.rf hmm.six hh4)
            have hcs : u.held = u.cs.length + u.fl := rfl
            clear hw5 HF hfit hcell hch c0 c1 c2 f0 f1 f2 hfew hB1 blt HO
            try clear h0
            by_cases hq4 : u.held = 4
            · have hpo : u.pour = (outOf u.cs, ⟨[], 0, decide (0 < u.fl), u.bad⟩) := by unfold St.pour; exact if_pos hq4
              rw [hpo] at hst
              have hcap : u.held ≤ cc2 := by
                rcases hmid.rf.own.2 with ⟨hv, h0⟩ | ⟨_, _, _, hv, _, _, hc, _⟩
                · omega
                · injection hv with _ _ hv; omega
              have h2c : 2 ≤ u.cs.length := by
                by_cases hf : 0 < u.fl
                · exact (hmm.fl hf).1
                · omega
              have hb0 : beyond u.cs = 0 := by
                by_cases hf : 0 < u.fl
                · exact (hmm.fl hf).2
                · have : u.cs.length = 4 := by omega
                  unfold beyond; rw [this]; simp [Nat.mod_one]
              have hwt := u.wait_take
              have hT := tThreeX A2 u.cs.length cc2 u.cs w5 hmm.six (by
                have := (Holds.of_own hmid.rf.own).upto u.cs.length (by omega)
                rw [hwt] at this; exact this) rfl h2c (by omega) true (by rw [decide_eq_true hb0])
              rw [if_pos hb0] at hT
              have HT := hide hT
              have hup := run_upto A2 u.held cc2 u.cs.length (by omega)
              have hdl : decide ((u.cs.length : Int) < 4) = decide (0 < u.fl) := by
                by_cases hf : 0 < u.fl
                · rw [decide_eq_true hf, decide_eq_true (by omega)]
                · rw [decide_eq_false hf, decide_eq_false (by omega)]
              have HD := hide hdl
              have hool : (outOf u.cs).length ≤ 3 := by rw [outOf, outN_length]; omega
              rw [hq4] at c50 hup
              have HM := hide (And.intro hmid hst)
              clear hmid hst hpo hcap h2c hb0 hwt hT hq4 hcs hmm hdl hh4
              go_wp2_with fail
              refine (hsg.out).mono ?_
              rintro e wx ⟨rfl, rfl⟩
              go_wp2_with fail
              refine (HT.out).mono ?_
              rintro e w6 ⟨A3, m3, c3, rfl, _, hh3, ho3⟩
              have hml : (outOf u.cs).length = m3 := by have := hh3.1; rw [bvals_length] at this; omega
              have hown6 := own_keep HM.out.1.out ho3 (by simp)
              have hhas6 := HM.out.1.rf.has.only ho3 (by simp)
              have hB6 : w.heap.size ≤ w6.heap.size := Nat.le_trans HM.out.1.since.only.size ho3.size
              have hone := bvals_one (outOf u.cs)
              have hrm : (q.length + m3) * 1 ≤ 140737488355328 := by omega
              have hne6 := own_ne hown6 hhas6 (by decide)
              have H6 := hide (And.intro hown6 (And.intro hhas6 (And.intro hB6 (And.intro hone (And.intro hrm (And.intro hne6 (And.intro hh3 (And.intro ho3 hml))))))))
              clear hown6 hhas6 hB6 hone hrm hne6 hh3 ho3 hml
              go_wp2_with (at_builtin; refine list_append _ rfl (.tmp 82) (.tmp 83) 28 rfl w.heap.size 1 1 Tryd.underlying28 hi0 hz0 hz1 hz2 rfl (Nat.zero_lt_one) H6.out.1 rfl H6.out.2.2.2.2.2.2.1 rfl H6.out.2.2.2.1 H6.out.2.2.2.2.1 (Nat.zero_lt_one) H6.out.2.2.1 ?_; intro A7 c7 w7 hown7 hgrow hat; have k0 : w7.cell? ⟨g, 0, none⟩ = _ := (H6.out.2.1.grown hgrow H6.out.2.2.2.2.2.1).cell 0; have k1 : w7.cell? ⟨g, 1, none⟩ = _ := (H6.out.2.1.grown hgrow H6.out.2.2.2.2.2.1).cell 1; have g0 := (H6.out.2.1.grown hgrow H6.out.2.2.2.2.2.1).free 0; have g1 := (H6.out.2.1.grown hgrow H6.out.2.2.2.2.2.1).free 1; have H7 := hide (And.intro hown7 (And.intro hgrow hat)); clear hown7 hgrow hat)
              go_roundw
              case rel =>
                have h7 := H6.out.2.1.grown H7.out.2.1 H6.out.2.2.2.2.2.1
                refine ⟨j + 1, _, _, q ++ outOf u.cs, ⟨[], 0, decide (0 < u.fl), u.bad⟩, hlt, by go_num, rfl, by simpa using HM.out.2, ?_, by rw [HD.out]; exact Rf.clear h7 _, ⟨?_, fun b hb => by simp [Value.ownBlock] at hb⟩, fun b _ hb => by simp [Value.ownBlock] at hb⟩
                · rw [List.length_append, bvals_append, H6.out.2.2.2.2.2.2.2.2]
                  have hn7 := own_ne H7.out.1 h7 (by decide)
                  exact ownsRow_setCell_other (ownsRow_setCell_other H7.out.1 (fun h => hn7 h.symm) _) (fun h => hn7 h.symm) _
                · refine (((HM.out.1.since.only.trans H6.out.2.2.2.2.2.2.2.1 (by simp)).grown H7.out.2.1 (fun k hk hlt => ?_)).setCell (by simp) _).setCell (by simp) _
                  have := (H6.out.1.lt k hk).1
                  omega
              case measure => simp [intOf]; omega
            · have hpo : u.pour = ([], u) := by unfold St.pour; exact if_neg hq4
              rw [hpo] at hst
              have hne4 : ((u.held : Int) == 4) = false := by simp; omega
              have HM := hide (And.intro hmid hst)
              clear hmid hst hpo hq4 hcs hmm
              go_wp2_with fail
              go_roundw
              case rel => exact ⟨j + 1, _, _, q, u, hlt, by go_num, rfl, by simpa using HM.out.2, HM.out.1.out, HM.out.1.rf, HM.out.1.since, HM.out.1.dis⟩
              case measure => simp [intOf]; omega
    · obtain rfl : j = l.length := by omega
      rw [List.take_length] at hrun
      have hw0 := HE.out.2.2.2.2.1
      rw [hrun] at hw0
      have HF := hide (And.intro hw0 (And.intro hownr (And.intro hrf hsi)))
      clear hrun hw0 hownr hrf hsi hdis htok htb hlt
      go_wp2_with fail
      go_ret2
      rw [HF.out.1]
      exact ⟨_, _, rfl, HF.out.2.1, HF.out.2.2.1, HF.out.2.2.2⟩
end Go.Proofs.YtdnkkdpcahmngaaDoor
