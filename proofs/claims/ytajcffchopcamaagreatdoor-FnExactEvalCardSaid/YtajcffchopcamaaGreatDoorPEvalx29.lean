/- Several texts in one, in their order. -/
import Derived.Test.YtajcffchopcamaaGreatDoorPEvalx23
import Derived.Test.YtajcffchopcamaaGreatDoorPEvalx7
import Derived.Test.YtajcffchopcamaaGreatDoorPEvalx20
import Derived.Test.YtajcffchopcamaaGreatDoorPEvalx25
/- What came in, read: a path. -/
namespace Go.Proofs.YtajcffchopcamaaGreatDoor
open Go.ChangeShapes Go.WideShapes Go.ChangeAt Go.RowKit

section
variable {H : Type} {enc : TypeId × Value → H} {w : World} {base : Nat} {spare : Nat → Bool} {held : Bool}
theorem Tryz.cellsPst : Tryz.prog.cellsOf 121 = 2 := by kernel_rfl
theorem Tryz.cellsPsts : Tryz.prog.cellsOf 46 = 1 := by kernel_rfl
theorem Tryz.cellsPth : Tryz.prog.cellsOf 48 = 2 := by kernel_rfl
theorem Tryz.cellsIp : Tryz.prog.cellsOf 3 = 1 := by kernel_rfl
theorem some_atP {α : Type} (xs : List α) (i : Nat) (h : i < xs.length) : ∃ y, xs[i]? = some y := ⟨_, List.getElem?_eq_getElem h⟩
theorem trod_numP {fuel : Nat} {cs : List Value} {x : DataW H × List MemPlace} (h : DataW.trod enc Tryz.prog w base spare held fuel 3 cs = some x) : ∃ n : Int, cs = [.int .i64 n] ∧ InI64 n := by
  obtain ⟨n, rfl, _, hw⟩ := DataW.trod_int Tryz.underlying3 h
  exact ⟨n, rfl, wf_i64 hw⟩

set_option maxRecDepth 100000 in
theorem trod_step {fuel : Nat} {cs : List Value} {x : DataW H × List MemPlace} (h : DataW.trod enc Tryz.prog w base spare held fuel 121 cs = some x) : ∃ t : StepV, cs = t.cells ∧ InI64 t.kd ∧ InI64 t.num := by
  obtain ⟨xs, n, _, _, hlen, hxl, hf⟩ := DataW.trod_struct Tryz.underlying121 h
  rw [Tryz.cellsPst] at hlen
  match cs, hlen with
  | [v0, v1], _ =>
    have f0 := hf 0 _ rfl
    have f1 := hf 1 _ rfl
    obtain ⟨y0, hx0⟩ := some_atP xs 0 (by rw [hxl]; decide)
    obtain ⟨y1, hx1⟩ := some_atP xs 1 (by rw [hxl]; decide)
    rw [hx0] at f0
    rw [hx1] at f1
    simp only [List.getElem_toArray, List.getElem_cons_zero, List.getElem_cons_succ, Tryz.cellsIp, List.drop, List.take] at f0 f1
    obtain ⟨a, e0, i0⟩ := trod_numP f0
    obtain ⟨b, e1, i1⟩ := trod_numP f1
    simp only [List.cons.injEq, and_true] at e0 e1
    subst e0 e1
    exact ⟨⟨a, b⟩, rfl, i0, i1⟩

set_option maxRecDepth 100000 in
theorem trod_steps {fuel : Nat} {cs : List Value} {x : DataW H × List MemPlace} (h : DataW.trod enc Tryz.prog w base spare held fuel 46 cs = some x) :
    ∃ (a : Option Addr) (c : Nat) (ls : List StepV), cs = [.slice a ls.length c] ∧ ReadsPh w a ls ∧ ls.length ≤ maxLen ∧ ∀ t ∈ ls, InI64 t.kd ∧ InI64 t.num := by
  rcases DataW.trod_slice Tryz.underlying46 h with ⟨rfl, _⟩ | ⟨a, len, cap, elems, rest, n, _, rfl, _, _, hl, hm, hlen, hel, _, _⟩
  · exact ⟨none, 0, [], rfl, ReadsPh.nil _ _, by simp, fun t ht => by simp at ht⟩
  rw [Tryz.cellsPst] at hel
  have each : ∀ i, i < len → ∃ t : StepV, w.cells? base (a.add (i * 2)) 2 = some t.cells ∧ InI64 t.kd ∧ InI64 t.num := by
    intro i hi
    have hy := hel i hi
    rw [List.getElem?_eq_getElem (by omega : i < elems.length), Option.bind_eq_some_iff] at hy
    obtain ⟨cs', hcs, hy'⟩ := hy
    obtain ⟨t, e, ht⟩ := trod_step hy'
    exact ⟨t, by rw [hcs, e], ht⟩
  obtain ⟨f, hf⟩ : ∃ f : Nat → StepV, ∀ i, i < len → w.cells? base (a.add (i * 2)) 2 = some (f i).cells ∧ InI64 (f i).kd ∧ InI64 (f i).num := by
    refine ⟨fun i => if h : i < len then (each i h).choose else zeroPh, fun i hi => ?_⟩
    simp only [dif_pos hi]
    exact (each i hi).choose_spec
  refine ⟨some a, cap, (List.range len).map f, by simp, ?_, by simp; omega, fun t ht => ?_⟩
  · intro hne
    have hpos := List.length_pos_iff.2 hne
    simp only [List.length_map, List.length_range] at hpos ⊢
    obtain ⟨b, off, spot⟩ := a
    have c0 := (World.cells?_some (hf 0 hpos).1).2.2 0 (by decide)
    have hspot : spot = none := by simpa [Addr.add] using World.cell?_spot c0
    subst hspot
    refine ⟨b, off, rfl, fun k hk => ?_⟩
    have e : ((List.range len).map f).getD k zeroPh = f k := by simp [List.getD, hk]
    rw [e]
    have hc := (World.cells?_some (hf k hk).1).2.2
    have d0 := hc 0 (by decide)
    have d1 := hc 1 (by decide)
    simp only [Addr_add, StepV.cells] at d0 d1
    exact ⟨by simpa using d0, by simpa using d1⟩
  · obtain ⟨k, hk, rfl⟩ := List.mem_map.1 ht
    exact (hf k (List.mem_range.1 hk)).2

/-- A path as it came in. -/
structure InPath (w : World) (p : PathA) : Prop where
  reads : ReadsPh w p.a p.steps
  len : p.steps.length ≤ maxLen
  frm : InI64 p.frm
  each : ∀ t ∈ p.steps, InI64 t.kd ∧ InI64 t.num

set_option maxRecDepth 100000 in
theorem trod_path {fuel : Nat} {cs : List Value} {x : DataW H × List MemPlace} (h : DataW.trod enc Tryz.prog w base spare held fuel 48 cs = some x) :
    ∃ p : PathA, cs = [.int .i64 p.frm, .slice p.a p.steps.length p.c] ∧ InPath w p := by
  obtain ⟨xs, n, _, _, hlen, hxl, hf⟩ := DataW.trod_struct Tryz.underlying48 h
  rw [Tryz.cellsPth] at hlen
  match cs, hlen with
  | [v0, v1], _ =>
    have f0 := hf 0 _ rfl
    have f1 := hf 1 _ rfl
    obtain ⟨y0, hx0⟩ := some_atP xs 0 (by rw [hxl]; decide)
    obtain ⟨y1, hx1⟩ := some_atP xs 1 (by rw [hxl]; decide)
    rw [hx0] at f0
    rw [hx1] at f1
    simp only [List.getElem_toArray, List.getElem_cons_zero, List.getElem_cons_succ, Tryz.cellsIp, Tryz.cellsPsts, List.drop, List.take] at f0 f1
    obtain ⟨z, e0, hz⟩ := trod_numP f0
    obtain ⟨a, c, T, e1, hT, lT, eT⟩ := trod_steps f1
    simp only [List.cons.injEq, and_true] at e0 e1
    subst e0 e1
    exact ⟨⟨z, T, a, c⟩, rfl, hT, lT, hz, eT⟩

set_option maxRecDepth 100000 in
theorem open_path {b0 : Nat} {v : Value} {d : DataW H} {ps : List MemPlace} (hval : Value.okWide Tryz.prog w .any b0 48 v) (h : DataW.Trod enc Tryz.prog w base spare held 48 v d ps) :
    ∃ p : PathA, v = .agg #[.int .i64 p.frm, .slice p.a p.steps.length p.c] ∧ InPath w p := by
  obtain ⟨cs, rfl, hcs⟩ := okWide_struct Tryz.underlying48 hval
  obtain ⟨fuel, hf⟩ := h
  have e : (Value.agg cs).cells.toList = cs.toList := rfl
  rw [e] at hf
  obtain ⟨p, hc, hin⟩ := trod_path hf
  refine ⟨p, ?_, hin⟩
  congr 1
  apply Array.toList_inj.1
  rw [hc]
end
end Go.Proofs.YtajcffchopcamaaGreatDoor

/- A path marked, and the marks looked at. -/
namespace Go.Proofs.YtajcffchopcamaaGreatDoor
open Go.RowKit

set_option maxHeartbeats 400000 in
theorem markPath_touch (x : Int) (T : List StepV) (a : Option Addr) (c : Nat) (lo hi : Nat) (k0 : Int) (w : World) (ho : OwnPh w lo hi a c T) (h0 : 0 ≤ k0) (hl : k0 + 2 * T.length ≤ 4611686018427387904) :
    Calls Tryz.prog 23 #[.agg #[.int .i64 x, .slice a T.length c], .int .i64 k0] w fun e w' => e = .returned (.int .i64 (k0 + 2 * T.length)) ∧ OwnPh w' lo hi a c (marksPh k0 T.length) ∧ Touch (Value.slice a T.length c).ownBlock.toList w w' := by
  obtain ⟨W, hW, b0, hbW, hsW⟩ := boxes1 w [.int .i64 x, .slice a T.length c] 27
  have q1 := b0.cell 1 _ rfl
  have C := markPathStepS_own lo hi a c k0 T W (ho.below hbW) h0 hl
  have hb0 : Hid (Touch (Value.slice a T.length c).ownBlock.toList w W) := Touch.of_below hbW
  clear b0 hsW ho hl
  generalize hz : k0 + 2 * (T.length : Int) = z at *
  clear hz
  go_enter Tryz.func23, Tryz.ntmps23
  go_upto_region 1 with fail
  rw [hW.out]
  clear hW
  go_wp2_with fail
  refine C.mono ?_
  rintro e w1 ⟨rfl, h1, h2⟩
  go_wp2
  go_ret
  exact ⟨rfl, h1, hb0.out.trans h2⟩

end Go.Proofs.YtajcffchopcamaaGreatDoor

/- The walk of spec.Mark. -/
namespace Go.Proofs.YtajcffchopcamaaGreatDoor
open Go.RowKit

end Go.Proofs.YtajcffchopcamaaGreatDoor

/- The walk of spec.Mark, whatever its arguments. -/
namespace Go.Proofs.YtajcffchopcamaaGreatDoor
open Go.RowKit

end Go.Proofs.YtajcffchopcamaaGreatDoor
