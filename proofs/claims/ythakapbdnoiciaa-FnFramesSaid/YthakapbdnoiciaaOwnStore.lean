/- A row that the call owns: where it lies, and a byte stored into it. -/
import Derived.Test.YthakapbdnoiciaaAppend
namespace Go.Proofs.Ythakapbdnoiciaa
open Go.RowKit

theorem OwnB.at {w : World} {base : Nat} {a : Option Addr} {c : Nat} {ys : List Int} (h : OwnB w base a c ys) (hne : 0 < ys.length) : ∃ g, a = some ⟨g, 0, none⟩ ∧ base ≤ g ∧ g < w.heap.size := by
  rcases h.2.2 with ⟨hv, h0⟩ | ⟨g, cap, cur, hv, hb, hg, _⟩
  · omega
  · simp only [Value.slice.injEq] at hv
    exact ⟨g, hv.1, hb, (Array.getElem?_eq_some_iff.1 hg).1⟩

theorem OwnB.cell {w : World} {base g c : Nat} {ys : List Int} (h : OwnB w base (some ⟨g, 0, none⟩) c ys) (i : Nat) (hi : i < ys.length) : w.cell? ⟨g, i, none⟩ = some (.int .u8 (((ys.getD i 0).toNat : Nat) : Int)) := by
  have := h.2.cellAt i (by omega)
  rw [this]
  have hb := (bytes_nat h.1 i).1
  rw [← hb]
  simp [List.getD, hi]

theorem OwnB.stored {w : World} {base g c : Nat} {ys : List Int} (h : OwnB w base (some ⟨g, 0, none⟩) c ys) (i : Nat) (v : Int) (hv : 0 ≤ v ∧ v < 256) :
    OwnB (w.setCell ⟨g, i, none⟩ (.int .u8 v)) base (some ⟨g, 0, none⟩) c (ys.set i v) ∧ w.grownBy (w.setCell ⟨g, i, none⟩ (.int .u8 v)) (some g) := by
  have hs := h.2.stored i (.int .u8 v)
  refine ⟨⟨?_, ?_⟩, hs.2⟩
  · intro z hz
    rcases List.mem_or_eq_of_mem_set hz with h1 | h1
    · exact h.1 z h1
    · rw [h1]; exact hv
  · rw [List.length_set, List.map_set]; exact hs.1
end Go.Proofs.Ythakapbdnoiciaa
