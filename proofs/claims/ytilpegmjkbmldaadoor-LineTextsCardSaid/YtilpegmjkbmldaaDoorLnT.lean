/-
  Package line: Text.
-/
import Derived.Test.YtilpegmjkbmldaaDoorLnL
import Derived.Test.YtilpegmjkbmldaaDoorLnS
namespace Go.Proofs.YtilpegmjkbmldaaDoor
open Go Go.RowKit

/-- What a cell tells; what a line tells. -/
def chB (c : Ce) : List UInt8 := if c.k = 2 then [] else if c.r = 0 then [32] else encR c.r
def textB (L : List Ce) : List UInt8 := (mendL L).flatMap chB
def textL (L : List Ce) : List UInt8 := Lib.trimRightB (textB L) 32
/-- All signs are of those. -/
def Signs (M : List Ce) : Prop := ∀ c ∈ M, c.k ≠ 2 → c.r ≠ 0 → Sign c.r
theorem chB_len (c : Ce) : (chB c).length ≤ 3 := by
  unfold chB encR
  repeat' split
  all_goals simp
theorem flat_len (M : List Ce) : (M.flatMap chB).length ≤ 3 * M.length := by
  induction M with
  | nil => simp
  | cons c M ih => have := chB_len c; simp at ih ⊢; omega
theorem flat_succ {M : List Ce} {k : Nat} {C : Ce} (hC : M[k]? = some C) : (M.take (k + 1)).flatMap chB = (M.take k).flatMap chB ++ chB C := by
  rw [List.take_add_one, hC, List.flatMap_append]
  simp
theorem Bd.keep {w w' : World} {B g : Nat} {q : List UInt8} {p : Value} {A : Option Addr} {c : Nat} (h : Bd w B g q p A c) (ho : Only [] w w') : Bd w' B g q p A c :=
  ⟨h.has.only ho (by simp), own_keep h.own ho (by simp), h.ptr, Nat.le_trans h.le ho.size⟩
theorem bytes_cells (l : List UInt8) : Lib.byteCells l = bvals l := by rfl
theorem Bd.is {w : World} {B g : Nat} {q : List UInt8} {p : Value} {A : Option Addr} {c : Nat} (h : Bd w B g q p A c) (hB : B ≤ g) : Lib.IsBuilderF 56 5 B g (Lib.byteCells q) w := by
  have hb : Lib.BuilderAtF 56 5 B g p (Lib.byteCells q) w := by
    refine ⟨hB, _, h.has, ?_, fun he => own_ne h.own h.has (by decide) he.symm⟩
    rw [bytes_cells, bvals_length]
    exact World.ownsRowF_of h.own
  rcases h.ptr with rfl | rfl
  · exact .inl hb
  · exact .inr hb
theorem Only.below2 {w w1 w2 : World} (h : Only [] w w1) (hb : Below w.heap.size w1 w2) : Only [] w w2 :=
  ⟨hb.os.trans h.os, hb.tape.trans h.tape, hb.output.trans h.output, Nat.le_trans h.size hb.size, fun k hk _ => (hb.block k hk).trans (h.block k hk (by simp))⟩

set_option maxRecDepth 100000 in
set_option maxHeartbeats 8000000 in
theorem text_any (A : Option Addr) (n c : Nat) (L : List Ce) (w : World) (h : LineAt w A n c L) (hn : n ≤ 100000000) (hs : Signs (mendL L)) :
    Calls Tryd.prog 20 #[.slice A n c] w fun e w' => e = .returned (.string ⟨(textL L).toArray⟩) ∧ Only [] w w' := by
  have o0 := (Only.refl [] w).alloc (.cells #[.pointer none, .slice none 0 0] 56)
  have hb := Has.new w 56 #[.pointer none, .slice none 0 0]
  have HM := hide (mend_any A n c L _ (h.keep o0) (by omega))
  have hl : (mendL L).length = n := by rw [mendL_len]; exact h.len
  have hT : textL L = Lib.trimRightB ((mendL L).flatMap chB) 32 := rfl
  rw [hT]
  clear hT
  generalize mendL L = M at *
  have HO := hide (And.intro o0 (And.intro hb (And.intro hl (And.intro hs hn))))
  clear h o0 hb hl hs hn
  go_enter Tryd.func20, Tryd.ntmps20
  go_wp2_with fail
  refine (HM.out).mono ?_
  rintro e w1 ⟨gm, rfl, N⟩
  obtain ⟨o0, hb, hl, hs, hn⟩ := HO.out
  have hgm : w.heap.size < gm := by have := N.new; rw [World.size_alloc] at this; omega
  have hB0 : Bd w1 w.heap.size w.heap.size [] (.pointer none) none 0 := ⟨hb.only N.only (by simp), World.ownsRow_nil _ _ _ _, .inl rfl, by have := N.only.size; rw [World.size_alloc] at this; omega⟩
  have H1 := hide (And.intro hB0 (And.intro N.has (And.intro (o0.trans N.only (S := []) (by simp)) hgm)))
  clear N o0 hb hl hs hn hgm hB0
  go_wp2_with fail
  go_loopw [9] (fun i wr => ∃ (k : Nat) (p : Value) (A : Option Addr) (c : Nat), k ≤ n ∧ i = .int .i64 k ∧ Bd wr w.heap.size w.heap.size ((M.take k).flatMap chB) p A c ∧ Has wr gm 37 (cvals M).toArray ∧ Only [] w wr) (fun i _ => n - (intOf i).toNat)
  case atStart => exact ⟨0, _, _, _, Nat.zero_le _, rfl, H1.out.1, H1.out.2.1, H1.out.2.2.1⟩
  case round =>
    obtain ⟨k, p, A', c', hk, rfl, hB, hm, ho⟩ := hrel
    obtain ⟨_, _, hl, hs, hn⟩ := HO.out
    by_cases hlt : k < n
    · obtain ⟨C, hC⟩ := List.get_some (L := M) (k := k) (by omega)
      obtain ⟨⟨c0, c1, c2, c3, c4⟩, _⟩ := hm.ce k C hC
      have hkk : (k : Int) < (n : Int) := by omega
      have hw1 : IntKind.i64.wrap ((k : Int) + 1) = (k : Int) + 1 := IntWalk.i64_in _ ⟨by omega, by omega⟩
      have hsg := hs C (List.mem_of_getElem? hC)
      have hfl := flat_succ hC
      have hql : ((M.take k).flatMap chB).length ≤ 1000000000 := by have := flat_len (M.take k); rw [List.length_take] at this; omega
      have hch : chB C = if C.k = 2 then [] else if C.r = 0 then [32] else encR C.r := rfl
      rw [hch] at hfl
      obtain ⟨r, K, a⟩ := C
      simp only at hsg hfl c0 c1 c2 c3 c4
      generalize (M.take k).flatMap chB = q at *
      have oA : Only [] wr (wr.alloc (.cells #[.int .i32 r, .int .i64 K, .int .i64 a.fg, .int .i64 a.bg, .int .i64 a.fl] 37)) := (Only.refl [] wr).alloc _
      have hB1 := hB.keep oA
      have hm1 := hm.only oA (by simp)
      have ho1 := ho.trans oA (S := []) (by simp)
      have HF := hide (And.intro hB1 (And.intro hm1 (And.intro ho1 (And.intro hfl hsg))))
      have HQ := hide hql
      clear hB hm ho hl hs hn hC oA hB1 hm1 ho1 hfl hsg hql hch
      by_cases k2 : K = 2
      · subst k2
        go_wp2_with fail
        go_roundw
        case rel =>
          have h1 := HF.out.2.2.2.1
          rw [if_pos rfl, List.append_nil] at h1
          exact ⟨k + 1, p, A', c', by omega, by go_num, by rw [h1]; exact HF.out.1, HF.out.2.1, HF.out.2.2.1⟩
        case measure => simp [intOf]; omega
      · by_cases r0 : r = 0
        · subst r0
          have HW := hide (writeByte_any w.heap.size w.heap.size q 32 p A' c' _ HF.out.1 HQ.out)
          rw [show (((32 : UInt8).toNat : Nat) : Int) = 32 from rfl] at HW
          go_wp2_with fail
          refine (HW.out).mono ?_
          rintro e w2 ⟨rfl, ⟨A2, c2', hB2⟩, hW⟩
          have HG := hide (And.intro hB2 (And.intro (hW.kept gm _ _ HF.out.2.1 (by decide) (by have := H1.out.2.2.2; omega)) (hW.low w (Nat.le_refl _) (Nat.le_refl _) HF.out.2.2.1)))
          clear hB2 hW HW
          go_wp2_with fail
          go_roundw
          case rel =>
            have h1 := HF.out.2.2.2.1
            rw [if_neg k2, if_pos (by trivial)] at h1
            exact ⟨k + 1, _, A2, c2', by omega, by go_num, by rw [h1]; exact HG.out.1, HG.out.2.1, HG.out.2.2⟩
          case measure => simp [intOf]; omega
        · have HW := hide (writeRune_any w.heap.size w.heap.size q r (HF.out.2.2.2.2 k2 r0) p A' c' _ HF.out.1 HQ.out)
          go_wp2_with fail
          refine (HW.out).mono ?_
          rintro e w2 ⟨⟨z, rfl⟩, ⟨A2, c2', hB2⟩, hW⟩
          have HG := hide (And.intro hB2 (And.intro (hW.kept gm _ _ HF.out.2.1 (by decide) (by have := H1.out.2.2.2; omega)) (hW.low w (Nat.le_refl _) (Nat.le_refl _) HF.out.2.2.1)))
          clear hB2 hW HW
          go_wp2_with fail
          go_roundw
          case rel =>
            have h1 := HF.out.2.2.2.1
            rw [if_neg k2, if_neg r0] at h1
            exact ⟨k + 1, _, A2, c2', by omega, by go_num, by rw [h1]; exact HG.out.1, HG.out.2.1, HG.out.2.2⟩
          case measure => simp [intOf]; omega
    · obtain rfl : k = n := by omega
      rw [List.take_of_length_le (by omega)] at hB
      have hfl := flat_len M
      obtain ⟨q, hq⟩ : ∃ q, q = M.flatMap chB := ⟨_, rfl⟩
      rw [← hq] at hB hfl
      have HE := hide hq
      clear hq
      have HS := hide (sh_Builder_String_any_k w.heap.size w.heap.size q wr (hB.is (Nat.le_refl _)) hB.le)
      have HR := hide (fun w2 => sh_strings_TrimRight_one ⟨q.toArray⟩ 32 (by decide) w2 (by show q.toArray.size ≤ _; simp; omega))
      have HF := hide ho
      clear hB hm ho hl hs hn hfl
      go_wp2_with fail
      refine (HS.out).mono ?_
      rintro e w2 ⟨rfl, _, hbl, _⟩
      have HG := hide (HF.out.below2 hbl)
      clear hbl HS
      go_wp2_with fail
      refine (HR.out _).mono ?_
      rintro e w3 ⟨rfl, rfl⟩
      go_wp2_with fail
      go_ret
      rw [← HE.out]
      exact ⟨rfl, HG.out⟩
end Go.Proofs.YtilpegmjkbmldaaDoor
