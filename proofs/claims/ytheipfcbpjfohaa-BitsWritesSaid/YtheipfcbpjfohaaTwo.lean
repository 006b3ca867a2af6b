/-
  Two writers at once: ours and the plain one.
-/
import Derived.Test.YtheipfcbpjfohaaPuts
import Derived.Test.YtheipfcbpjfohaaTWrite
namespace Go.Proofs.Ytheipfcbpjfohaa
open Go Go.RowKit

structure Two (w0 w : World) (g tg : Nat) (v v' : Value) (N n N' n' : Nat) : Prop where
  wr : Wr w g v N n
  td : TWr w tg v' N' n'
  only : Only [] w0 w
  gw : w0.heap.size ≤ g
  tw : w0.heap.size ≤ tg
  ne : g ≠ tg
  vw : ∀ b, v.ownBlock = some b → w0.heap.size ≤ b
  vw' : ∀ b, v'.ownBlock = some b → w0.heap.size ≤ b
  apart : ∀ b, v.ownBlock = some b → v'.ownBlock ≠ some b

theorem mem_own {v : Value} {i g : Nat} (h : i ∈ g :: v.ownBlock.toList) : i = g ∨ v.ownBlock = some i := by
  rcases List.mem_cons.1 h with h | h
  · exact .inl h
  · refine .inr ?_
    cases hv : v.ownBlock with
    | none => rw [hv] at h; simp at h
    | some j => rw [hv] at h; simp at h; rw [h]

namespace Two
variable {w0 w w1 : World} {g tg : Nat} {v v' v1 : Value} {N n N' n' N1 n1 : Nat}

theorem keep (h : Two w0 w g tg v v' N n N' n') (ho : Only [] w w1) : Two w0 w1 g tg v v' N n N' n' :=
  ⟨h.wr.only ho (by simp) (by simp), h.td.only ho (by simp) (by simp), h.only.trans ho (by simp), h.gw, h.tw, h.ne, h.vw, h.vw', h.apart⟩

theorem far (h : Two w0 w g tg v v' N n N' n') : ∀ i, i < w0.heap.size → i ∉ g :: v.ownBlock.toList := fun i hi hm => by
  rcases mem_own hm with h1 | h1
  · have := h.gw; omega
  · have := h.vw i h1; omega
theorem far' (h : Two w0 w g tg v v' N n N' n') : ∀ i, i < w0.heap.size → i ∉ tg :: v'.ownBlock.toList := fun i hi hm => by
  rcases mem_own hm with h1 | h1
  · have := h.tw; omega
  · have := h.vw' i h1; omega

theorem step (h : Two w0 w g tg v v' N n N' n') (hW : Wr w1 g v1 N1 n1) (hs : WSince w g v w1 v1) : Two w0 w1 g tg v1 v' N1 n1 N' n' := by
  obtain ⟨l, rest, cnt, ⟨hh, hown, _⟩, _⟩ := h.wr
  obtain ⟨l', hh', hown', _⟩ := h.td
  have htg : tg ∉ g :: v.ownBlock.toList := fun hm => by
    rcases mem_own hm with h1 | h1
    · exact h.ne h1.symm
    · exact own_ne hown hh' (by decide) h1.symm
  have hv' : ∀ b, v'.ownBlock = some b → b ∉ g :: v.ownBlock.toList := fun b hb hm => by
    rcases mem_own hm with h1 | h1
    · subst h1; exact own_ne hown' hh (by decide) hb.symm
    · exact h.apart b h1 hb
  have hsz := h.only.size
  refine ⟨hW, h.td.only hs.1 htg hv', h.only.trans hs.1 (fun i hi hlt => (h.far i hlt hi).elim), h.gw, h.tw, h.ne, ?_, h.vw', ?_⟩
  · intro b hb
    rcases hs.2 b hb with h1 | h1
    · exact h.vw b h1
    · omega
  · intro b hb hb'
    rcases hs.2 b hb with h1 | h1
    · exact h.apart b h1 hb'
    · have := (hown'.lt b hb').2; omega

theorem step' (h : Two w0 w g tg v v' N n N' n') (hW : TWr w1 tg v1 N1 n1) (hs : WSince w tg v' w1 v1) : Two w0 w1 g tg v v1 N n N1 n1 := by
  obtain ⟨l, rest, cnt, ⟨hh, hown, _⟩, _⟩ := h.wr
  obtain ⟨l', hh', hown', _⟩ := h.td
  have hgt : g ∉ tg :: v'.ownBlock.toList := fun hm => by
    rcases mem_own hm with h1 | h1
    · exact h.ne h1
    · exact own_ne hown' hh (by decide) h1.symm
  have hv : ∀ b, v.ownBlock = some b → b ∉ tg :: v'.ownBlock.toList := fun b hb hm => by
    rcases mem_own hm with h1 | h1
    · subst h1; exact own_ne hown hh' (by decide) hb.symm
    · exact h.apart b hb h1
  have hsz := h.only.size
  refine ⟨h.wr.only hs.1 hgt hv, hW, h.only.trans hs.1 (fun i hi hlt => (h.far' i hlt hi).elim), h.gw, h.tw, h.ne, h.vw, ?_, ?_⟩
  · intro b hb
    rcases hs.2 b hb with h1 | h1
    · exact h.vw' b h1
    · omega
  · intro b hb hb'
    rcases hs.2 b hb' with h1 | h1
    · exact h.apart b hb h1
    · have := (hown.lt b hb).2; omega
end Two
end Go.Proofs.Ytheipfcbpjfohaa
