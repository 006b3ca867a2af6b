/-
  string(b) of bytes.
-/
import Derived.Test.YtilpegmjkbmldaaDoorMem
import Derived.Laws.BytesArg
namespace Go.Proofs.YtilpegmjkbmldaaDoor
open Go Go.RowKit

theorem str_of_list (l : List UInt8) : strOfNums (l.map fun b => (b.toNat : Int)) = ⟨l.toArray⟩ := by
  unfold strOfNums
  have e : (l.map fun b => (b.toNat : Int)).map (fun n => UInt8.ofNat n.toNat) = l := by
    rw [List.map_map]
    conv => rhs; rw [← List.map_id l]
    refine List.map_congr_left fun b _ => ?_
    simp
  rw [e]

theorem run_string_of {P : Program} {w : World} {A : Option Addr} {n : Nat} {l : List UInt8} (h : Holds w 1 A n (bvals l)) (c : Nat) (src e dst : TypeId)
    (hs : P.underlying src = some (.slice e)) (he : P.underlying e = some (.int .u8)) (hd : P.underlying dst = some .string) :
    (convert src dst (.slice A n c)).run P w = .ok (.string ⟨l.toArray⟩) w := by
  have hl : l.length = n := by have := h.1; rw [bvals_length] at this; omega
  rcases Nat.eq_zero_or_pos l.length with h0 | h0
  · have hn : n = 0 := by omega
    subst hn
    obtain rfl : l = [] := List.eq_nil_of_length_eq_zero h0
    cases A with
    | none =>
      rw [run_convert_bytes_nil (P := P) (w := w) src e hs he 0 c dst hd]
      rfl
    | some ad =>
      rw [run_convert_bytes_string w src dst e _ 0 c hs he hd]
      have hl : (loadCells ad 0).run P w = .ok (([] : List Int).map (Value.int .u8)).toArray w := by
        have := run_loadCells_list (P := P) w ad [] (by simp)
        simpa using this
      rw [run_bytesToString w ad 0 c [] hl]
      rfl
  · obtain ⟨b, o, rfl, hc⟩ := h.addr (by simpa using h0)
    rw [run_convert_bytes_arg (P := P) (w := w) src e hs he b o n c (l.map fun x => (x.toNat : Int)) (by simpa using hl) (fun i hi => by
      rw [hc i _ (bvals_get l i (by omega))]
      simp [show i < l.length by omega]) dst hd, str_of_list]
end Go.Proofs.YtilpegmjkbmldaaDoor
