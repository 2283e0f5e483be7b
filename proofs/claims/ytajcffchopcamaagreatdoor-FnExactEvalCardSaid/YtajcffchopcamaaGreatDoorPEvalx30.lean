/- Several texts in one, in their order. -/
import Derived.Test.YtajcffchopcamaaGreatDoorPEvalx23
import Derived.Test.YtajcffchopcamaaGreatDoorPEvalx10
import Derived.ChangeArms
import Derived.Test.YtajcffchopcamaaGreatDoorPEvalx11
import Derived.Test.YtajcffchopcamaaGreatDoorPEvalx25
import Derived.Test.YtajcffchopcamaaGreatDoorPEvalx20
import Derived.Test.YtajcffchopcamaaGreatDoorPEvalx29
import Derived.Test.YtajcffchopcamaaGreatDoorPEvalx22
/- What came in, read: a slot, a page. -/
namespace Go.Proofs.YtajcffchopcamaaGreatDoor
open Go.ChangeShapes Go.WideShapes Go.ChangeAt Go.RowKit

/-- A slot as it came in: its lists are read, its numbers are 64-bit numbers. -/
structure InSlot (w : World) (s : SlotA) : Prop where
  reads : s.reads w
  lI : s.v.o.ints.length ≤ maxLen
  lR : s.v.o.refs.length ≤ maxLen
  kind : InI64 s.v.o.kind
  ints : ∀ z ∈ s.v.o.ints, InI64 z
  refs : ∀ z ∈ s.v.o.refs, InI64 z

section
variable {H : Type} {enc : TypeId × Value → H} {w : World} {base : Nat} {spare : Nat → Bool} {held : Bool}

theorem Tryz.cellsB : Tryz.prog.cellsOf 4 = 1 := by kernel_rfl
theorem Tryz.cellsSl : Tryz.prog.cellsOf 84 = 4 := by kernel_rfl
set_option maxRecDepth 100000 in
theorem trod_slot {fuel : Nat} {cs : List Value} {x : DataW H × List MemPlace} (h : DataW.trod enc Tryz.prog w base spare held fuel 84 cs = some x) :
    ∃ s : SlotA, cs = s.cells ∧ InSlot w s := by
  obtain ⟨xs, n, _, _, hlen, hxl, hf⟩ := DataW.trod_struct Tryz.underlying84 h
  rw [Tryz.cellsSl] at hlen
  match cs, hlen with
  | [v0, v1, v2, v3], _ =>
    have f0 := hf 0 _ rfl
    have f1 := hf 1 _ rfl
    obtain ⟨y0, hx0⟩ := some_at xs 0 (by rw [hxl]; decide)
    obtain ⟨y1, hx1⟩ := some_at xs 1 (by rw [hxl]; decide)
    rw [hx0] at f0
    rw [hx1] at f1
    simp only [List.getElem_toArray, List.getElem_cons_zero, List.getElem_cons_succ, Tryz.cellsB, Tryz.cellsO, List.drop, List.take] at f0 f1
    obtain ⟨b, e0, _⟩ := DataW.trod_bool Tryz.underlying4 f0
    obtain ⟨o, aI, cI, aR, cR, e1, hr, lI, lR, wk, wI, wR⟩ := trod_obj f1
    simp only [List.cons.injEq, and_true] at e0 e1
    obtain ⟨rfl, rfl, rfl⟩ := e1
    subst e0
    exact ⟨⟨⟨b, o⟩, aI, cI, aR, cR⟩, rfl, hr, lI, lR, wk, wI, wR⟩

end
end Go.Proofs.YtajcffchopcamaaGreatDoor

/- What came in, read: a row of slots. -/
namespace Go.Proofs.YtajcffchopcamaaGreatDoor
open Go.ChangeShapes Go.WideShapes Go.ChangeAt Go.RowKit

section
variable {H : Type} {enc : TypeId × Value → H} {w : World} {base : Nat} {spare : Nat → Bool} {held : Bool}

set_option maxRecDepth 100000 in
theorem trod_slots {fuel : Nat} {cs : List Value} {x : DataW H × List MemPlace} (h : DataW.trod enc Tryz.prog w base spare held fuel 45 cs = some x) :
    ∃ (a : Option Addr) (c : Nat) (rs : List SlotA), cs = [.slice a rs.length c] ∧ ReadsVw w a rs ∧ (∀ r ∈ rs, InSlot w r) ∧ rs.length ≤ maxLen := by
  rcases DataW.trod_slice Tryz.underlying45 h with ⟨rfl, _⟩ | ⟨a, len, cap, elems, rest, n, _, rfl, _, _, hl, hm, hlen, hel, _, _⟩
  · exact ⟨none, 0, [], rfl, ReadsVw.nil _ _, fun r hr => by simp at hr, by simp⟩
  rw [Tryz.cellsSl] at hel
  have each : ∀ i, i < len → ∃ t : SlotA, w.cells? base (a.add (i * 4)) 4 = some t.cells ∧ InSlot w t := by
    intro i hi
    have hy := hel i hi
    rw [List.getElem?_eq_getElem (by omega : i < elems.length), Option.bind_eq_some_iff] at hy
    obtain ⟨cs', hcs, hy'⟩ := hy
    obtain ⟨t, e, ht⟩ := trod_slot hy'
    exact ⟨t, by rw [hcs, e], ht⟩
  obtain ⟨f, hf⟩ : ∃ f : Nat → SlotA, ∀ i, i < len → w.cells? base (a.add (i * 4)) 4 = some (f i).cells ∧ InSlot w (f i) := by
    refine ⟨fun i => if h : i < len then (each i h).choose else zeroS, fun i hi => ?_⟩
    simp only [dif_pos hi]
    exact (each i hi).choose_spec
  refine ⟨some a, cap, (List.range len).map f, by simp, ?_, ?_, by simp; omega⟩
  · intro hne
    have hpos := List.length_pos_iff.2 hne
    simp only [List.length_map, List.length_range] at hpos ⊢
    obtain ⟨b, off, spot⟩ := a
    have c0 := (World.cells?_some (hf 0 hpos).1).2.2 0 (by decide)
    have hspot : spot = none := by simpa [Addr.add] using World.cell?_spot c0
    subst hspot
    refine ⟨b, off, rfl, fun k hk => ?_⟩
    have e : ((List.range len).map f).getD k zeroS = f k := by simp [List.getD, hk]
    rw [e]
    have hc := (World.cells?_some (hf k hk).1).2.2
    refine ⟨fun j v hv => ?_, (hf k hk).2.reads⟩
    have hj : j < 4 := by have := (List.getElem?_eq_some_iff.1 hv).1; rwa [cells_lenV] at this
    have d := hc j (by simpa using hj)
    simp only [Addr_add] at d
    rw [d, hv]
  · intro r hr
    obtain ⟨k, hk, rfl⟩ := List.mem_map.1 hr
    exact (hf k (List.mem_range.1 hk)).2

set_option maxRecDepth 100000 in
theorem open_slots {b0 : Nat} {v : Value} {d : DataW H} {ps : List MemPlace} (hval : Value.okWide Tryz.prog w .any b0 45 v) (h : DataW.Trod enc Tryz.prog w base spare held 45 v d ps) :
    ∃ (a : Option Addr) (c : Nat) (ss : List SlotA), v = .slice a ss.length c ∧ ReadsVw w a ss ∧ (∀ s ∈ ss, InSlot w s) ∧ ss.length ≤ maxLen := by
  obtain ⟨a, len, cap, hv⟩ := okWide_slice (e := 84) Tryz.underlying45 hval
  subst hv
  obtain ⟨fuel, hf⟩ := h
  have e : (Value.slice a len cap).cells.toList = [Value.slice a len cap] := rfl
  rw [e] at hf
  obtain ⟨a', c', ss, hc, rest⟩ := trod_slots hf
  simp only [List.cons.injEq, and_true] at hc
  exact ⟨a', c', ss, hc, rest⟩
end
end Go.Proofs.YtajcffchopcamaaGreatDoor

/- The walk of laws.FnExactViewOk. -/
namespace Go.Proofs.YtajcffchopcamaaGreatDoor
open Go.RowKit

theorem short_of_vs {m : Nat} {ss ts : List SlotA} (h : ∀ r ∈ ss, r.short m) (e : ts.map SlotA.v = ss.map SlotA.v) : ∀ r ∈ ts, r.short m := fun s hs => by
  have : s.v ∈ ts.map SlotA.v := List.mem_map.2 ⟨s, hs, rfl⟩
  rw [e] at this
  obtain ⟨r, hr, hv⟩ := List.mem_map.1 this
  have := h r hr
  rw [SlotA.short, hv] at this
  exact this
theorem short_mono {m n : Nat} {ss : List SlotA} (h : ∀ r ∈ ss, r.short m) (hm : m ≤ n) : ∀ r ∈ ss, r.short n := fun r hr => ⟨Nat.le_trans (h r hr).1 hm, Nat.le_trans (h r hr).2 hm⟩

end Go.Proofs.YtajcffchopcamaaGreatDoor

/- The walk of laws.FnExactMark. -/
namespace Go.Proofs.YtajcffchopcamaaGreatDoor
open Go.RowKit

theorem countVs_short (ss : List SlotA) (hl : ∀ r ∈ ss, r.short 1048576) : countVs ss ≤ ss.length * 2097154 := by
  induction ss with
  | nil => simp [countVs]
  | cons s r ih =>
    have h1 := hl s (by simp)
    have h2 := ih (fun x hx => hl x (by simp [hx]))
    simp only [countVs, countV1, List.length_cons]
    have := h1.1
    have := h1.2
    omega

end Go.Proofs.YtajcffchopcamaaGreatDoor
