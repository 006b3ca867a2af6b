import Derived.Test.YtglkfgpefpebmaaDoorClone
namespace Go.Proofs.YtglkfgpefpebmaaDoor
open Go Go.RowKit

/-- How many bits there are to the next byte's begin. -/
def toByte (k : Nat) : Nat := (8 - k % 8) % 8

set_option maxHeartbeats 400000 in
theorem align_any (g : Nat) (v : Value) (l : List UInt8) (k : Nat) (w : World) (hR : Rd w g v l k) :
    Calls Tryd.prog 90 #[.pointer (some ⟨g, 0, none⟩)] w fun e w' =>
      e = .returned (.int .i64 (toByte k : Nat)) ∧ Only [g] w w' ∧ Rd w' g v l (k + toByte k) := by
  have hk : k ≤ 8 * l.length := hR.2.2.2
  have hl : l.length ≤ 140737488355328 := hR.2.2.1
  have c1 : w.cell? ⟨g, 1, none⟩ = some (.int .i64 (k : Int)) := hR.1.cell 1
  have f1 : w.frozen? ⟨g, 1, none⟩ = false := hR.1.free 1
  have ht : k + toByte k ≤ 8 * l.length := by unfold toByte; omega
  have e7 : bits BinOp.and IntKind.i64 (-(k : Int)) 7 = (toByte k : Nat) := by rw [i64_and7]; unfold toByte; omega
  generalize toByte k = q at *
  go_enter Tryd.func90, Tryd.ntmps90
  go_wp2
  go_ret
  exact ⟨rfl, (Only.refl _ _).setCell (by simp) _, hR.set (j := k + q) ht⟩

def okBytes (len k : Nat) (n : Int) : Bool := decide (k % 8 = 0 ∧ 0 ≤ n ∧ n ≤ ((len - k / 8 : Nat) : Int))
def gotBytes (l : List UInt8) (k : Nat) (n : Int) : List UInt8 := if okBytes l.length k n then (l.drop (k / 8)).take n.toNat else []

set_option maxHeartbeats 400000 in
theorem bytes_no (g : Nat) (v : Value) (l : List UInt8) (k : Nat) (n : Int) (w : World) (hR : Rd w g v l k) (hno : ¬ (k % 8 = 0 ∧ 0 ≤ n ∧ n ≤ ((l.length - k / 8 : Nat) : Int))) :
    Calls Tryd.prog 91 #[.pointer (some ⟨g, 0, none⟩), .int .i64 n] w fun e w' =>
      e = .returned (.tuple #[.slice none 0 0, .bool false]) ∧ w = w' := by
  have hk : k ≤ 8 * l.length := hR.2.2.2
  have hl : l.length ≤ 140737488355328 := hR.2.2.1
  obtain ⟨A, c, rfl, hc, hA⟩ := own_shape hR.2.1
  have c1 : w.cell? ⟨g, 1, none⟩ = some (.int .i64 (k : Int)) := hR.1.cell 1
  have c0 : w.cell? ⟨g, 0, none⟩ = some (.slice A l.length c) := hR.1.cell 0
  have e7 : bits BinOp.and IntKind.i64 (k : Int) 7 = ((k % 8 : Nat) : Int) := by rw [i64_and7]; omega
  by_cases h8 : k % 8 = 0
  · have e7' : bits BinOp.and IntKind.i64 (k : Int) 7 = 0 := by rw [e7, h8]; rfl
    clear e7
    by_cases h0 : n < 0
    · clear hno h8
      go_enter Tryd.func91, Tryd.ntmps91
      go_wp2
      go_ret2
      exact ⟨rfl, rfl⟩
    · have h1 : ((l.length : Int) - (k : Int) / 8) < n := by omega
      clear hno h8
      go_enter Tryd.func91, Tryd.ntmps91
      go_wp2
      go_ret2
      exact ⟨rfl, rfl⟩
  · have hq : 0 < k % 8 := by omega
    generalize k % 8 = q at *
    clear hno h8
    go_enter Tryd.func91, Tryd.ntmps91
    go_wp2
    go_ret2
    exact ⟨rfl, rfl⟩

theorem Rd.holds {w : World} {g : Nat} {l : List UInt8} {k c : Nat} {A : Option Addr} (hR : Rd w g (.slice A l.length c) l k) {f m : Nat} (hm : f + m ≤ l.length) :
    Holds w 1 (A.map (·.add f)) m (bvals ((l.drop f).take m)) := by
  have h := (Holds.of_own hR.2.1).cut hm
  simpa [bvals_take, bvals_drop] using h

set_option maxHeartbeats 400000 in
theorem bytes_zero (g : Nat) (v : Value) (l : List UInt8) (k : Nat) (w : World) (hR : Rd w g v l k) (h8 : k % 8 = 0) :
    Calls Tryd.prog 91 #[.pointer (some ⟨g, 0, none⟩), .int .i64 0] w fun e w' =>
      ∃ rv, e = .returned (.tuple #[rv, .bool true]) ∧ w'.ownsRow w.heap.size 5 1 rv 0 (bvals []) ∧ Only [g] w w' ∧ Rd w' g v l k := by
  have hk : k ≤ 8 * l.length := hR.2.2.2
  have hl : l.length ≤ 140737488355328 := hR.2.2.1
  obtain ⟨A, c, rfl, hc, hA⟩ := own_shape hR.2.1
  have c1 : w.cell? ⟨g, 1, none⟩ = some (.int .i64 (k : Int)) := hR.1.cell 1
  have f1 : w.frozen? ⟨g, 1, none⟩ = false := hR.1.free 1
  have c0 : w.cell? ⟨g, 0, none⟩ = some (.slice A l.length c) := hR.1.cell 0
  have e7 : bits BinOp.and IntKind.i64 (k : Int) 7 = 0 := by rw [i64_and7]; omega
  have hk8 : ((k : Int) / 8 * 8) = k := by omega
  have HS := hide (hR.set (j := k) hk)
  have Hk := hide hk8
  clear hk8
  go_enter Tryd.func91, Tryd.ntmps91
  go_wp2_with fail
  rw [Hk.out]
  refine (clone_any A 0 0 [] _ (Holds.empty _ _ _) (by omega) (by simp)).mono ?_
  rintro e w' ⟨rv, rfl, hown, ho⟩
  go_wp2
  go_ret2
  refine ⟨rv, rfl, by simpa using hown, ((Only.refl _ _).setCell (p := ⟨g, 1, none⟩) (by simp) _).trans ho (by simp), HS.out.only ho (by simp) (by simp)⟩

set_option maxHeartbeats 400000 in
theorem bytes_yes (g : Nat) (v : Value) (l : List UInt8) (k n : Nat) (w : World) (hR : Rd w g v l k) (h8 : k % 8 = 0) (hn : n ≤ l.length - k / 8) (hp : 0 < n) :
    Calls Tryd.prog 91 #[.pointer (some ⟨g, 0, none⟩), .int .i64 n] w fun e w' =>
      ∃ rv, e = .returned (.tuple #[rv, .bool true]) ∧ w'.ownsRow w.heap.size 5 1 rv n (bvals ((l.drop (k / 8)).take n)) ∧ Only [g] w w' ∧ Rd w' g v l (k + 8 * n) := by
  have hk : k ≤ 8 * l.length := hR.2.2.2
  have hl : l.length ≤ 140737488355328 := hR.2.2.1
  obtain ⟨A, c, rfl, hc, hA⟩ := own_shape hR.2.1
  have c1 : w.cell? ⟨g, 1, none⟩ = some (.int .i64 (k : Int)) := hR.1.cell 1
  have f1 : w.frozen? ⟨g, 1, none⟩ = false := hR.1.free 1
  have c0 : w.cell? ⟨g, 0, none⟩ = some (.slice A l.length c) := hR.1.cell 0
  have e7 : bits BinOp.and IntKind.i64 (k : Int) 7 = 0 := by rw [i64_and7]; omega
  have hk8 : (((k : Int) / 8 + n) * 8) = ((k + 8 * n : Nat) : Int) := by omega
  have HS := hide (hR.set (j := k + 8 * n) (by omega))
  have Hk := hide hk8
  have hne : ¬ n = 0 := by omega
  clear hk8
  go_enter Tryd.func91, Tryd.ntmps91
  go_wp2_with fail
  rw [Hk.out]
  refine (clone_any _ n _ _ _ (HS.out.holds (f := k / 8) (m := n) (by omega)) (by omega) ?_).mono ?_
  · intro hA'
    have := hA (by cases A with
      | none => rfl
      | some _ => simp at hA')
    omega
  rintro e w' ⟨rv, rfl, hown, ho⟩
  go_wp2
  go_ret2
  refine ⟨rv, rfl, by simpa using hown, ((Only.refl _ _).setCell (p := ⟨g, 1, none⟩) (by simp) _).trans ho (by simp), HS.out.only ho (by simp) (by simp)⟩

theorem bytes_any (g : Nat) (v : Value) (l : List UInt8) (k : Nat) (n : Int) (w : World) (hR : Rd w g v l k) :
    Calls Tryd.prog 91 #[.pointer (some ⟨g, 0, none⟩), .int .i64 n] w fun e w' =>
      ∃ rv, e = .returned (.tuple #[rv, .bool (okBytes l.length k n)]) ∧ w'.ownsRow w.heap.size 5 1 rv (gotBytes l k n).length (bvals (gotBytes l k n)) ∧ Only [g] w w' ∧
        Rd w' g v l (k + 8 * (gotBytes l k n).length) := by
  by_cases hok : k % 8 = 0 ∧ 0 ≤ n ∧ n ≤ ((l.length - k / 8 : Nat) : Int)
  · have hb : okBytes l.length k n = true := by simp only [okBytes, decide_eq_true_eq]; exact hok
    have hg : gotBytes l k n = (l.drop (k / 8)).take n.toNat := by rw [gotBytes, if_pos hb]
    obtain ⟨h8, h0, h1⟩ := hok
    obtain ⟨n, rfl⟩ := Int.eq_ofNat_of_zero_le h0
    have hlen : ((l.drop (k / 8)).take n).length = n := by rw [List.length_take, List.length_drop]; omega
    rw [hb, hg, Int.toNat_natCast, hlen]
    rcases Nat.eq_zero_or_pos n with h | h
    · subst h
      exact bytes_zero g v l k w hR h8
    · exact bytes_yes g v l k n w hR h8 (by omega) h
  · have hb : okBytes l.length k n = false := by simp only [okBytes, decide_eq_false_iff_not]; exact hok
    have hg : gotBytes l k n = [] := by rw [gotBytes, hb]; rfl
    rw [hb, hg]
    refine (bytes_no g v l k n w hR hok).mono ?_
    rintro e w' ⟨rfl, rfl⟩
    exact ⟨_, rfl, World.ownsRow_nil _ _ _ _, Only.refl _ _, hR⟩

set_option maxHeartbeats 400000 in
theorem newReader_any (A : Option Addr) (n c : Nat) (l : List UInt8) (w : World) (h : Holds w 1 A n (bvals l)) (hl : l.length = n) (hn : n ≤ 140737488355328) (hA : A = none → c = 0 ∧ n = 0) :
    Calls Tryd.prog 61 #[.slice A n c] w fun e w' =>
      ∃ g v, e = .returned (.pointer (some ⟨g, 0, none⟩)) ∧ w.heap.size ≤ g ∧ (∀ b, v.ownBlock = some b → w.heap.size ≤ b) ∧ Rd w' g v l 0 ∧ Only [] w w' := by
  subst hl
  go_enter Tryd.func61, Tryd.ntmps61
  go_wp2_with fail
  refine (clone_any A _ c l _ h hn hA).mono ?_
  rintro e w' ⟨v, rfl, hown, ho⟩
  obtain ⟨A', c', rfl, hc', hA'⟩ := own_shape hown
  have hlt := hown.lt
  have ho2 : Only [] w (w'.alloc (.cells #[.slice A' l.length c', .int .i64 0] 138)) := ho.alloc _
  have hrd : Rd (w'.alloc (.cells #[.slice A' l.length c', .int .i64 0] 138)) w'.heap.size (.slice A' l.length c') l 0 :=
    ⟨Has.new _ _ _, own_mono (hown.alloc _) (Nat.zero_le _), hn, by omega⟩
  have hsz := ho.size
  go_wp2
  go_ret
  exact ⟨w'.heap.size, _, rfl, hsz, fun b hb => (hlt b hb).1, hrd, ho2⟩
end Go.Proofs.YtglkfgpefpebmaaDoor
