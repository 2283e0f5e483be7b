/- What came in, read: a path. -/
import Derived.Test.YtajcffchopcamaaPathFrame
import Derived.Test.YtajcffchopcamaaOpenObj
namespace Go.Proofs.Ytajcffchopcamaa
open Go.ChangeShapes Go.WideShapes Go.ChangeAt Go.RowKit

section
variable {H : Type} {enc : TypeId × Value → H} {w : World} {base : Nat} {spare : Nat → Bool} {held : Bool}
theorem Try.cellsPst : Try.prog.cellsOf 43 = 2 := by kernel_rfl
theorem Try.cellsPsts : Try.prog.cellsOf 22 = 1 := by kernel_rfl
theorem Try.cellsPth : Try.prog.cellsOf 24 = 2 := by kernel_rfl
theorem Try.cellsIp : Try.prog.cellsOf 3 = 1 := by kernel_rfl
theorem some_atP {α : Type} (xs : List α) (i : Nat) (h : i < xs.length) : ∃ y, xs[i]? = some y := ⟨_, List.getElem?_eq_getElem h⟩
theorem trod_numP {fuel : Nat} {cs : List Value} {x : DataW H × List MemPlace} (h : DataW.trod enc Try.prog w base spare held fuel 3 cs = some x) : ∃ n : Int, cs = [.int .i64 n] ∧ InI64 n := by
  obtain ⟨n, rfl, _, hw⟩ := DataW.trod_int Try.underlying3 h
  exact ⟨n, rfl, wf_i64 hw⟩

set_option maxRecDepth 100000 in
theorem trod_step {fuel : Nat} {cs : List Value} {x : DataW H × List MemPlace} (h : DataW.trod enc Try.prog w base spare held fuel 43 cs = some x) : ∃ t : StepV, cs = t.cells ∧ InI64 t.kd ∧ InI64 t.num := by
  obtain ⟨xs, n, _, _, hlen, hxl, hf⟩ := DataW.trod_struct Try.underlying43 h
  rw [Try.cellsPst] at hlen
  match cs, hlen with
  | [v0, v1], _ =>
    have f0 := hf 0 _ rfl
    have f1 := hf 1 _ rfl
    obtain ⟨y0, hx0⟩ := some_atP xs 0 (by rw [hxl]; decide)
    obtain ⟨y1, hx1⟩ := some_atP xs 1 (by rw [hxl]; decide)
    rw [hx0] at f0
    rw [hx1] at f1
    simp only [List.getElem_toArray, List.getElem_cons_zero, List.getElem_cons_succ, Try.cellsIp, List.drop, List.take] at f0 f1
    obtain ⟨a, e0, i0⟩ := trod_numP f0
    obtain ⟨b, e1, i1⟩ := trod_numP f1
    simp only [List.cons.injEq, and_true] at e0 e1
    subst e0 e1
    exact ⟨⟨a, b⟩, rfl, i0, i1⟩

set_option maxRecDepth 100000 in
theorem trod_steps {fuel : Nat} {cs : List Value} {x : DataW H × List MemPlace} (h : DataW.trod enc Try.prog w base spare held fuel 22 cs = some x) :
    ∃ (a : Option Addr) (c : Nat) (ls : List StepV), cs = [.slice a ls.length c] ∧ ReadsPh w a ls ∧ ls.length ≤ maxLen ∧ ∀ t ∈ ls, InI64 t.kd ∧ InI64 t.num := by
  rcases DataW.trod_slice Try.underlying22 h with ⟨rfl, _⟩ | ⟨a, len, cap, elems, rest, n, _, rfl, _, _, hl, hm, hlen, hel, _, _⟩
  · exact ⟨none, 0, [], rfl, ReadsPh.nil _ _, by simp, fun t ht => by simp at ht⟩
  rw [Try.cellsPst] at hel
  have each : ∀ i, i < len → ∃ t : StepV, w.cells? base (a.add (i * 2)) 2 = some t.cells ∧ InI64 t.kd ∧ InI64 t.num := by
    intro i hi
    have hy := hel i hi
    rw [List.getElem?_eq_getElem (by omega : i < elems.length), Option.bind_eq_some_iff] at hy
    obtain ⟨cs', hcs, hy'⟩ := hy
    obtain ⟨t, e, ht⟩ := trod_step hy'
    exact ⟨t, by rw [hcs, e], ht⟩
  obtain ⟨f, hf⟩ : ∃ f : Nat → StepV, ∀ i, i < len → w.cells? base (a.add (i * 2)) 2 = some (f i).cells ∧ InI64 (f i).kd ∧ InI64 (f i).num := by
    refine ⟨fun i => if h : i < len then (each i h).choose else zeroPh, fun i hi => ?_⟩
    simp only [dif_pos hi]
    exact (each i hi).choose_spec
  refine ⟨some a, cap, (List.range len).map f, by simp, ?_, by simp; omega, fun t ht => ?_⟩
  · intro hne
    have hpos := List.length_pos_iff.2 hne
    simp only [List.length_map, List.length_range] at hpos ⊢
    obtain ⟨b, off, spot⟩ := a
    have c0 := (World.cells?_some (hf 0 hpos).1).2.2 0 (by decide)
    have hspot : spot = none := by simpa [Addr.add] using World.cell?_spot c0
    subst hspot
    refine ⟨b, off, rfl, fun k hk => ?_⟩
    have e : ((List.range len).map f).getD k zeroPh = f k := by simp [List.getD, hk]
    rw [e]
    have hc := (World.cells?_some (hf k hk).1).2.2
    have d0 := hc 0 (by decide)
    have d1 := hc 1 (by decide)
    simp only [Addr_add, StepV.cells] at d0 d1
    exact ⟨by simpa using d0, by simpa using d1⟩
  · obtain ⟨k, hk, rfl⟩ := List.mem_map.1 ht
    exact (hf k (List.mem_range.1 hk)).2

/-- A path as it came in. -/
structure InPath (w : World) (p : PathA) : Prop where
  reads : ReadsPh w p.a p.steps
  len : p.steps.length ≤ maxLen
  frm : InI64 p.frm
  each : ∀ t ∈ p.steps, InI64 t.kd ∧ InI64 t.num

set_option maxRecDepth 100000 in
theorem trod_path {fuel : Nat} {cs : List Value} {x : DataW H × List MemPlace} (h : DataW.trod enc Try.prog w base spare held fuel 24 cs = some x) :
    ∃ p : PathA, cs = [.int .i64 p.frm, .slice p.a p.steps.length p.c] ∧ InPath w p := by
  obtain ⟨xs, n, _, _, hlen, hxl, hf⟩ := DataW.trod_struct Try.underlying24 h
  rw [Try.cellsPth] at hlen
  match cs, hlen with
  | [v0, v1], _ =>
    have f0 := hf 0 _ rfl
    have f1 := hf 1 _ rfl
    obtain ⟨y0, hx0⟩ := some_atP xs 0 (by rw [hxl]; decide)
    obtain ⟨y1, hx1⟩ := some_atP xs 1 (by rw [hxl]; decide)
    rw [hx0] at f0
    rw [hx1] at f1
    simp only [List.getElem_toArray, List.getElem_cons_zero, List.getElem_cons_succ, Try.cellsIp, Try.cellsPsts, List.drop, List.take] at f0 f1
    obtain ⟨z, e0, hz⟩ := trod_numP f0
    obtain ⟨a, c, T, e1, hT, lT, eT⟩ := trod_steps f1
    simp only [List.cons.injEq, and_true] at e0 e1
    subst e0 e1
    exact ⟨⟨z, T, a, c⟩, rfl, hT, lT, hz, eT⟩

set_option maxRecDepth 100000 in
theorem open_path {b0 : Nat} {v : Value} {d : DataW H} {ps : List MemPlace} (hval : Value.okWide Try.prog w .any b0 24 v) (h : DataW.Trod enc Try.prog w base spare held 24 v d ps) :
    ∃ p : PathA, v = .agg #[.int .i64 p.frm, .slice p.a p.steps.length p.c] ∧ InPath w p := by
  obtain ⟨cs, rfl, hcs⟩ := okWide_struct Try.underlying24 hval
  obtain ⟨fuel, hf⟩ := h
  have e : (Value.agg cs).cells.toList = cs.toList := rfl
  rw [e] at hf
  obtain ⟨p, hc, hin⟩ := trod_path hf
  refine ⟨p, ?_, hin⟩
  congr 1
  apply Array.toList_inj.1
  rw [hc]
end
end Go.Proofs.Ytajcffchopcamaa
