/- What came in, read: a slice of bytes. -/
import Derived.Test.YtekljhabjkmhpaaDoorProg
import Derived.Test.YtekljhabjkmhpaaDoorReads
import Derived.ProofKit
import Derived.OpenShut
import Derived.ChangeOld
namespace Go.Proofs.YtekljhabjkmhpaaDoor
open Go.ChangeShapes Go.WideShapes Go.ChangeAt Go.RowKit

section
variable {H : Type} {enc : TypeId × Value → H} {w : World} {base : Nat} {spare : Nat → Bool} {held : Bool}

theorem trod_bytes {fuel : Nat} {cs : List Value} {x : DataW H × List MemPlace} (h : DataW.trod enc Tryd.prog w base spare held fuel 22 cs = some x) :
    ∃ (a : Option Addr) (c : Nat) (ns : List Int), cs = [.slice a ns.length c] ∧ Reads w a ns ∧ (a = none → c = 0) ∧ ns.length ≤ maxLen := by
  rcases open_ints Tryd.underlying22 Tryd.underlying5 (by kernel_rfl) h with ⟨rfl, _⟩ | ⟨a, len, cap, zs, rfl, _, hl, hm, hz, _, hcell, hwf⟩
  · exact ⟨none, 0, [], rfl, ⟨by simp, by simp⟩, fun _ => rfl, by simp⟩
  · have hlz : len ≤ zs.length := by rw [hz]; split <;> omega
    refine ⟨some a, cap, zs.take len, by simp; omega, ⟨fun z hzz => ?_, ?_⟩, (fun h => by cases h), by simp; omega⟩
    · have := hwf z (List.mem_of_mem_take hzz)
      simp [Lit.wf, IntKind.min, IntKind.max, IntKind.signed, IntKind.bits] at this
      omega
    · intro hne
      have hpos := List.length_pos_iff.2 hne
      simp at hpos
      obtain ⟨b, off, spot⟩ := a
      have hc0 := hcell 0 (by omega)
      have hspot : spot = none := by simpa [Addr.add] using World.cell?_spot hc0
      subst hspot
      refine ⟨b, off, rfl, fun i hi => ?_⟩
      have hi' : i < len := by simp at hi; omega
      have := hcell i (by omega)
      have e : (List.take len zs).getD i 0 = zs.getD i 0 := by simp [List.getD, hi']
      rw [e, ← Addr_add]
      exact this

set_option maxRecDepth 100000 in
/-- A slice of bytes that came in as an argument. -/
theorem open_bytes {b0 : Nat} {v : Value} {d : DataW H} {ps : List MemPlace} (hval : Value.okWide Tryd.prog w .any b0 22 v) (h : DataW.Trod enc Tryd.prog w base spare held 22 v d ps) :
    ∃ (a : Option Addr) (c : Nat) (ns : List Int), v = .slice a ns.length c ∧ Reads w a ns ∧ (a = none → c = 0) ∧ ns.length ≤ maxLen := by
  obtain ⟨a, len, cap, hv⟩ := okWide_slice (e := 5) Tryd.underlying22 hval
  subst hv
  obtain ⟨fuel, hf⟩ := h
  have e : (Value.slice a len cap).cells.toList = [Value.slice a len cap] := rfl
  rw [e] at hf
  obtain ⟨a', c', ns, hc, rest⟩ := trod_bytes hf
  simp only [List.cons.injEq, and_true] at hc
  exact ⟨a', c', ns, hc, rest⟩
end
end Go.Proofs.YtekljhabjkmhpaaDoor
