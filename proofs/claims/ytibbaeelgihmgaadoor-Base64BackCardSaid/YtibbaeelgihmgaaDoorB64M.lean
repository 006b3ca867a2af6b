/-
  Plain facts on base64: signs, what waits, what comes.
-/
import Derived.Laws.Bits64b
namespace Go.Proofs.YtibbaeelgihmgaaDoor
open Go

/-- What a sign says; 64: it is none. -/
def six (c : Nat) : Nat :=
  if 65 ≤ c ∧ c ≤ 90 then c - 65 else if 97 ≤ c ∧ c ≤ 122 then c - 71 else if 48 ≤ c ∧ c ≤ 57 then c + 4 else if c = 43 then 62 else if c = 47 then 63 else 64

/-- The signs by their numbers. -/
def abcZ : List Int := [65, 66, 67, 68, 69, 70, 71, 72, 73, 74, 75, 76, 77, 78, 79, 80, 81, 82, 83, 84, 85, 86, 87, 88, 89, 90, 97, 98, 99, 100, 101, 102, 103, 104, 105, 106, 107, 108, 109, 110, 111, 112, 113, 114, 115, 116, 117, 118, 119, 120, 121, 122, 48, 49, 50, 51, 52, 53, 54, 55, 56, 57, 43, 47]
/-- The way back. -/
def sixZ : List Int := [62, -1, -1, -1, 63, 52, 53, 54, 55, 56, 57, 58, 59, 60, 61, -1, -1, -1, -1, -1, -1, -1, 0, 1, 2, 3, 4, 5, 6, 7, 8, 9, 10, 11, 12, 13, 14, 15, 16, 17, 18, 19, 20, 21, 22, 23, 24, 25, -1, -1, -1, -1, -1, -1, 26, 27, 28, 29, 30, 31, 32, 33, 34, 35, 36, 37, 38, 39, 40, 41, 42, 43, 44, 45, 46, 47, 48, 49, 50, 51]

def abc (i : Nat) : Nat := (abcZ.getD i 0).toNat

theorem abc_all : ∀ i, i < 64 → six (abc i) = i ∧ abc i < 256 ∧ abc i ≠ 61 ∧ abcZ.getD i 0 = (abc i : Int) := by decide
theorem six_all : ∀ i, i < 80 → sixZ.getD i 0 = if six (i + 43) < 64 then (six (i + 43) : Int) else -1 := by decide
theorem six_out {c : Nat} (h : c < 43 ∨ 123 ≤ c) : six c = 64 := by unfold six; (repeat' split) <;> omega
theorem six_le (c : Nat) : six c ≤ 64 := by unfold six; (repeat' split) <;> omega
theorem six_61 : six 61 = 64 := by decide

/-- The signs as one number. -/
def V (cs : List UInt8) : Nat := cs.foldl (fun v c => v * 64 + six c.toNat) 0
theorem V_snoc (cs : List UInt8) (c : UInt8) : V (cs ++ [c]) = V cs * 64 + six c.toNat := by simp [V]
theorem V_lt : ∀ (cs : List UInt8), (∀ c ∈ cs, six c.toNat < 64) → V cs < 64 ^ cs.length := by
  intro cs
  suffices h : ∀ (r : List UInt8) (v k : Nat), v < 64 ^ k → (∀ c ∈ r, six c.toNat < 64) → r.foldl (fun v c => v * 64 + six c.toNat) v < 64 ^ (k + r.length) by
    intro hc; have := h cs 0 0 (by simp) hc; simpa [V] using this
  intro r
  induction r with
  | nil => intro v k hv _; simpa using hv
  | cons c r ih =>
    intro v k hv hc
    have h1 := hc c (by simp)
    have := ih (v * 64 + six c.toNat) (k + 1) (by rw [Nat.pow_succ]; omega) (fun d hd => hc d (by simp [hd]))
    simpa [Nat.add_assoc, Nat.add_comm 1] using this

/-- The bits behind the last whole byte. -/
def beyond (cs : List UInt8) : Nat := V cs % 2 ^ (6 * cs.length % 8)
/-- The whole bytes. -/
def outN (v n : Nat) : List UInt8 := (List.range (6 * n / 8)).map fun i => UInt8.ofNat (v / 2 ^ (6 * n - 8 * (i + 1)))
def outOf (cs : List UInt8) : List UInt8 := outN (V cs) cs.length
theorem outN_length (v n : Nat) : (outN v n).length = 6 * n / 8 := by simp [outN]

/-- A decoder: the signs that wait, how many = behind them, whether a four with = was whole, whether there was an error. -/
structure St where
  cs : List UInt8
  fl : Nat
  shut : Bool
  bad : Bool

def St.new : St := ⟨[], 0, false, false⟩
def St.wrong : St := ⟨[], 0, false, true⟩

structure St.Ok (s : St) : Prop where
  bad : s.bad = true → s = St.wrong
  shut : s.shut = true → s.cs = [] ∧ s.fl = 0
  few : s.cs.length + s.fl < 4
  fl : 0 < s.fl → 2 ≤ s.cs.length ∧ beyond s.cs = 0
  six : ∀ c ∈ s.cs, six c.toNat < 64

theorem St.Ok.new : St.new.Ok := ⟨fun h => by simp [St.new] at h, fun h => by simp [St.new] at h, by simp [St.new], fun h => by simp [St.new] at h, by simp [St.new]⟩
theorem St.Ok.wrong : St.wrong.Ok := ⟨fun _ => rfl, fun h => by simp [St.wrong] at h, by simp [St.wrong], fun h => by simp [St.wrong] at h, by simp [St.wrong]⟩

/-- One sign more, if it may be there. -/
def St.take (s : St) (c : UInt8) : Option St :=
  if s.shut = true then none
  else if c.toNat = 61 then (if s.cs.length < 2 ∨ beyond s.cs ≠ 0 then none else some { s with fl := s.fl + 1 })
  else if 64 ≤ six c.toNat ∨ 0 < s.fl then none
  else some { s with cs := s.cs ++ [c] }

/-- A four that is whole goes out. -/
def St.pour (s : St) : List UInt8 × St := if s.cs.length + s.fl = 4 then (outOf s.cs, ⟨[], 0, decide (0 < s.fl), s.bad⟩) else ([], s)

def St.step (s : St) (c : UInt8) : Option (List UInt8 × St) := (s.take c).map St.pour

def St.run : St → List UInt8 → Option (List UInt8 × St)
  | s, [] => some ([], s)
  | s, c :: r => (s.step c).bind fun x => (St.run x.2 r).map fun y => (x.1 ++ y.1, y.2)

theorem run_nil (s : St) : s.run [] = some ([], s) := rfl
theorem run_cons (s : St) (c : UInt8) (r : List UInt8) : s.run (c :: r) = (s.step c).bind fun x => (St.run x.2 r).map fun y => (x.1 ++ y.1, y.2) := rfl

theorem run_append (s : St) (l m : List UInt8) : s.run (l ++ m) = (s.run l).bind fun x => (St.run x.2 m).map fun y => (x.1 ++ y.1, y.2) := by
  induction l generalizing s with
  | nil => rw [List.nil_append, run_nil]; cases h : s.run m <;> simp [h]
  | cons c r ih =>
    rw [List.cons_append, run_cons, run_cons]
    cases s.step c with
    | none => rfl
    | some x =>
      simp only [Option.bind_some, ih]
      cases x.2.run r with
      | none => rfl
      | some y =>
        simp only [Option.bind_some, Option.map_some]
        cases y.2.run m with
        | none => rfl
        | some z => simp

theorem run_one (s : St) (c : UInt8) : s.run [c] = s.step c := by
  rw [run_cons]
  cases s.step c with
  | none => rfl
  | some x => simp [run_nil]

theorem run_snoc {s t : St} {l o : List UInt8} (h : s.run l = some (o, t)) (c : UInt8) : s.run (l ++ [c]) = (t.step c).map fun x => (o ++ x.1, x.2) := by
  rw [run_append, h, Option.bind_some, run_one]

theorem run_none {s : St} {l : List UInt8} (h : s.run l = none) (m : List UInt8) : s.run (l ++ m) = none := by rw [run_append, h]; rfl

/-- A front of what goes through goes through. -/
theorem run_front {s t : St} {l m o : List UInt8} (h : s.run (l ++ m) = some (o, t)) : ∃ o1 t1 o2, s.run l = some (o1, t1) ∧ t1.run m = some (o2, t) ∧ o = o1 ++ o2 := by
  rw [run_append] at h
  obtain ⟨⟨o1, t1⟩, h1, h2⟩ := Option.bind_eq_some_iff.1 h
  obtain ⟨⟨o2, t2⟩, h3, h4⟩ := Option.map_eq_some_iff.1 h2
  simp only [Prod.mk.injEq] at h4
  obtain ⟨rfl, rfl⟩ := h4
  exact ⟨o1, t1, o2, h1, h3, rfl⟩

theorem run_snoc_none {s t : St} {l o : List UInt8} (h : s.run l = some (o, t)) (c : UInt8) (r : List UInt8) (hc : t.step c = none) : s.run (l ++ c :: r) = none := by
  have h1 : s.run (l ++ [c]) = none := by rw [run_snoc h, hc]; rfl
  have := run_none h1 r
  simpa using this

/-- A state between: as Ok, but for a four that is whole. -/
structure St.Mid (s : St) : Prop where
  bad : s.bad = false
  shut : s.shut = false
  few : s.cs.length + s.fl ≤ 4
  fl : 0 < s.fl → 2 ≤ s.cs.length ∧ beyond s.cs = 0
  six : ∀ c ∈ s.cs, six c.toNat < 64

theorem take_mid {s t : St} {c : UInt8} (hs : s.Ok) (hb : s.bad = false) (h : s.take c = some t) : t.Mid := by
  obtain ⟨h1, h2, h3, h4, h5⟩ := hs
  unfold St.take at h
  split at h
  · cases h
  · rename_i hsh
    have hsh : s.shut = false := by simpa using hsh
    split at h
    · split at h
      · cases h
      · rename_i hn
        injection h with h
        subst h
        exact ⟨hb, hsh, by simp only; omega, fun _ => by simp only; omega, h5⟩
    · split at h
      · cases h
      · rename_i hn
        injection h with h
        subst h
        refine ⟨hb, hsh, by simp only [List.length_append, List.length_singleton]; omega, fun h0 => ?_, fun d hd => ?_⟩
        · simp only at h0; omega
        · rcases List.mem_append.1 hd with hd | hd
          · exact h5 d hd
          · obtain rfl := List.mem_singleton.1 hd; omega

theorem pour_ok {s : St} (h : s.Mid) : s.pour.2.Ok ∧ s.pour.2.bad = false := by
  obtain ⟨h1, h2, h3, h4, h5⟩ := h
  unfold St.pour
  split
  · exact ⟨⟨(fun h => by simp only at h; rw [h1] at h; cases h), (fun _ => ⟨rfl, rfl⟩), (by simp), (fun h => by simp at h), (by simp)⟩, h1⟩
  · exact ⟨⟨(fun h => by rw [h1] at h; cases h), (fun h => by rw [h2] at h; cases h), (by show s.cs.length + s.fl < 4; omega), h4, h5⟩, h1⟩

theorem step_ok {s t : St} {c : UInt8} {o : List UInt8} (hs : s.Ok) (hb : s.bad = false) (h : s.step c = some (o, t)) : t.Ok ∧ t.bad = false := by
  unfold St.step at h
  cases ht : s.take c with
  | none => rw [ht] at h; cases h
  | some u =>
    rw [ht] at h
    simp only [Option.map_some, Option.some.injEq] at h
    have := pour_ok (take_mid hs hb ht)
    rw [h] at this
    exact this

theorem run_ok {s t : St} {l o : List UInt8} (hs : s.Ok) (hb : s.bad = false) (h : s.run l = some (o, t)) : t.Ok ∧ t.bad = false := by
  induction l generalizing s o with
  | nil =>
    simp only [run_nil, Option.some.injEq, Prod.mk.injEq] at h
    obtain ⟨_, rfl⟩ := h
    exact ⟨hs, hb⟩
  | cons c r ih =>
    rw [run_cons] at h
    obtain ⟨⟨o1, t1⟩, h1, h2⟩ := Option.bind_eq_some_iff.1 h
    obtain ⟨⟨o2, t2⟩, h3, h4⟩ := Option.map_eq_some_iff.1 h2
    simp only [Prod.mk.injEq] at h4
    obtain ⟨_, rfl⟩ := h4
    obtain ⟨k1, k2⟩ := step_ok hs hb h1
    exact ih k1 k2 h3

theorem pour_few {s : St} (_ : s.cs.length + s.fl ≤ 4) : s.pour.1.length ≤ 3 := by
  unfold St.pour
  split
  · show (outOf s.cs).length ≤ 3
    rw [outOf, outN_length]; omega
  · simp

/-- Not more than three bytes a sign. -/
theorem run_few {s t : St} {l o : List UInt8} (hs : s.Ok) (hb : s.bad = false) (h : s.run l = some (o, t)) : o.length ≤ 3 * l.length := by
  induction l generalizing s o with
  | nil =>
    simp only [run_nil, Option.some.injEq, Prod.mk.injEq] at h
    obtain ⟨rfl, _⟩ := h
    simp
  | cons c r ih =>
    rw [run_cons] at h
    obtain ⟨⟨o1, t1⟩, h1, h2⟩ := Option.bind_eq_some_iff.1 h
    obtain ⟨⟨o2, t2⟩, h3, h4⟩ := Option.map_eq_some_iff.1 h2
    simp only [Prod.mk.injEq] at h4
    obtain ⟨rfl, rfl⟩ := h4
    obtain ⟨k1, k2⟩ := step_ok hs hb h1
    have q2 := ih k1 k2 h3
    have q1 : o1.length ≤ 3 := by
      unfold St.step at h1
      obtain ⟨u, hu, hp⟩ := Option.map_eq_some_iff.1 h1
      have := pour_few (take_mid hs hb hu).few
      rw [hp] at this
      exact this
    simp only [List.length_append, List.length_cons]
    omega

/-- What Write tells: the bytes, whether all is well, and the state behind. -/
def St.write (s : St) (l : List UInt8) : List UInt8 × Nat × St :=
  if s.bad = true then ([], 3, s) else match s.run l with
    | none => ([], 3, St.wrong)
    | some (o, t) => (o, 0, t)

/-- What End tells. -/
def St.fin (s : St) : List UInt8 × Nat × St :=
  if s.bad = true ∨ s.cs.length = 1 ∨ 0 < s.fl ∨ beyond s.cs ≠ 0 then ([], 3, St.wrong) else (outOf s.cs, 0, St.new)

theorem write_ok {s : St} (hs : s.Ok) (l : List UInt8) : (s.write l).2.2.Ok := by
  unfold St.write
  split
  · exact hs
  · rename_i hb
    have hb : s.bad = false := by simpa using hb
    cases h : s.run l with
    | none => exact St.Ok.wrong
    | some x => exact (run_ok hs hb h).1
theorem fin_ok {s : St} : s.fin.2.2.Ok := by
  unfold St.fin
  split
  · exact St.Ok.wrong
  · exact St.Ok.new

/-- How many signs wait. -/
def St.held (s : St) : Nat := s.cs.length + s.fl

/-- What the whole text says. -/
def decode (l : List UInt8) : List UInt8 × Nat :=
  match St.new.write l with
  | (o, e, t) => if e = 0 then (match t.fin with | (x, f, _) => if f = 0 then (o ++ x, 0) else ([], f)) else ([], e)
end Go.Proofs.YtibbaeelgihmgaaDoor
