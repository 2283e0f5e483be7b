/- What came in, read: a slice of numbers, an object. -/
import Derived.Test.YtdibmepjbabnnacDoorObjV
import Derived.ProofKit
import Derived.OpenShut
import Derived.ChangeOld
namespace Go.Proofs.YtdibmepjbabnnacDoor
open Go.ChangeShapes Go.WideShapes Go.ChangeAt Go.RowKit

def InI64 (z : Int) : Prop := -9223372036854775808 ≤ z ∧ z ≤ 9223372036854775807
theorem wf_i64 {z : Int} (h : (Lit.int .i64 z).wf = true) : InI64 z := by
  simp [Lit.wf, IntKind.min, IntKind.max, IntKind.signed, IntKind.bits] at h
  unfold InI64; omega

theorem some_at {α : Type} (xs : List α) (i : Nat) (h : i < xs.length) : ∃ y, xs[i]? = some y := ⟨_, List.getElem?_eq_getElem h⟩

section
variable {H : Type} {enc : TypeId × Value → H} {w : World} {base : Nat} {spare : Nat → Bool} {held : Bool}

theorem trod_ints {fuel : Nat} {cs : List Value} {x : DataW H × List MemPlace} (h : DataW.trod enc Tryd.prog w base spare held fuel 23 cs = some x) :
    ∃ (a : Option Addr) (c : Nat) (ns : List Int), cs = [.slice a ns.length c] ∧ ReadsI w a ns ∧ (a = none → c = 0) ∧ ns.length ≤ maxLen ∧ ∀ z ∈ ns, InI64 z := by
  rcases open_ints Tryd.underlying23 Tryd.underlying3 (by kernel_rfl) h with ⟨rfl, _⟩ | ⟨a, len, cap, zs, rfl, _, hl, hm, hz, _, hcell, hwf⟩
  · exact ⟨none, 0, [], rfl, fun h => absurd rfl h, fun _ => rfl, by simp, by simp⟩
  · have hlz : len ≤ zs.length := by rw [hz]; split <;> omega
    refine ⟨some a, cap, zs.take len, by simp; omega, ?_, (fun h => by cases h), by simp; omega, fun z hzz => wf_i64 (hwf z (List.mem_of_mem_take hzz))⟩
    intro hne
    have hpos := List.length_pos_iff.2 hne
    simp at hpos
    obtain ⟨b, off, spot⟩ := a
    have hc0 := hcell 0 (by omega)
    have hspot : spot = none := by simpa [Addr.add] using World.cell?_spot hc0
    subst hspot
    refine ⟨b, off, rfl, fun i hi => ?_⟩
    have hi' : i < len := by simp at hi; omega
    have := hcell i (by omega)
    have e : (List.take len zs).getD i 0 = zs.getD i 0 := by simp [List.getD, hi']
    rw [e, ← Addr_add]
    exact this

theorem trod_num {fuel : Nat} {cs : List Value} {x : DataW H × List MemPlace} (h : DataW.trod enc Tryd.prog w base spare held fuel 3 cs = some x) : ∃ n : Int, cs = [.int .i64 n] ∧ InI64 n := by
  obtain ⟨n, rfl, _, hw⟩ := DataW.trod_int Tryd.underlying3 h
  exact ⟨n, rfl, wf_i64 hw⟩

theorem Tryd.cellsI : Tryd.prog.cellsOf 3 = 1 := by kernel_rfl
theorem Tryd.cellsIs : Tryd.prog.cellsOf 23 = 1 := by kernel_rfl
theorem Tryd.cellsO : Tryd.prog.cellsOf 34 = 3 := by kernel_rfl

set_option maxRecDepth 100000 in
theorem trod_obj {fuel : Nat} {cs : List Value} {x : DataW H × List MemPlace} (h : DataW.trod enc Tryd.prog w base spare held fuel 34 cs = some x) :
    ∃ (o : ObjV) (aI : Option Addr) (cI : Nat) (aR : Option Addr) (cR : Nat), cs = [.int .i64 o.kind, .slice aI o.ints.length cI, .slice aR o.refs.length cR] ∧ ReadsO w aI cI aR cR o ∧ o.ints.length ≤ maxLen ∧ o.refs.length ≤ maxLen ∧ InI64 o.kind ∧ (∀ z ∈ o.ints, InI64 z) ∧ (∀ z ∈ o.refs, InI64 z) := by
  obtain ⟨xs, n, _, _, hlen, hxl, hf⟩ := DataW.trod_struct Tryd.underlying34 h
  rw [Tryd.cellsO] at hlen
  match cs, hlen with
  | [v0, v1, v2], _ =>
    have f0 := hf 0 _ rfl
    have f1 := hf 1 _ rfl
    have f2 := hf 2 _ rfl
    obtain ⟨y0, hx0⟩ := some_at xs 0 (by rw [hxl]; decide)
    obtain ⟨y1, hx1⟩ := some_at xs 1 (by rw [hxl]; decide)
    obtain ⟨y2, hx2⟩ := some_at xs 2 (by rw [hxl]; decide)
    rw [hx0] at f0
    rw [hx1] at f1
    rw [hx2] at f2
    simp only [List.getElem_toArray, List.getElem_cons_zero, List.getElem_cons_succ, Tryd.cellsI, Tryd.cellsIs, List.drop, List.take] at f0 f1 f2
    obtain ⟨k, e0, wk⟩ := trod_num f0
    obtain ⟨aI, cI, ints, e1, hI, nI, lI, wI⟩ := trod_ints f1
    obtain ⟨aR, cR, refs, e2, hR, nR, lR, wR⟩ := trod_ints f2
    simp only [List.cons.injEq, and_true] at e0 e1 e2
    subst e0 e1 e2
    exact ⟨⟨k, ints, refs⟩, aI, cI, aR, cR, rfl, ⟨hI, hR, nI, nR⟩, lI, lR, wk, wI, wR⟩

set_option maxRecDepth 100000 in
/-- An object that came in as an argument. -/
theorem open_obj {b0 : Nat} {v : Value} {d : DataW H} {ps : List MemPlace} (hval : Value.okWide Tryd.prog w .any b0 34 v) (h : DataW.Trod enc Tryd.prog w base spare held 34 v d ps) :
    ∃ (o : ObjV) (aI : Option Addr) (cI : Nat) (aR : Option Addr) (cR : Nat), v = .agg #[.int .i64 o.kind, .slice aI o.ints.length cI, .slice aR o.refs.length cR] ∧ ReadsO w aI cI aR cR o ∧ o.ints.length ≤ maxLen ∧ o.refs.length ≤ maxLen ∧ InI64 o.kind ∧ (∀ z ∈ o.ints, InI64 z) ∧ (∀ z ∈ o.refs, InI64 z) := by
  obtain ⟨cs, rfl, hcs⟩ := okWide_struct Tryd.underlying34 hval
  obtain ⟨fuel, hf⟩ := h
  have e : (Value.agg cs).cells.toList = cs.toList := rfl
  rw [e] at hf
  obtain ⟨o, aI, cI, aR, cR, hc, rest⟩ := trod_obj hf
  refine ⟨o, aI, cI, aR, cR, ?_, rest⟩
  congr 1
  apply Array.toList_inj.1
  rw [hc]
end
end Go.Proofs.YtdibmepjbabnnacDoor
