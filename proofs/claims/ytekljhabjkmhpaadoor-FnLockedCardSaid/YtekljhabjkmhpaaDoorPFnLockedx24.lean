/- Several texts in one, in their order. -/
import Derived.LaidLaws
import Derived.LaidHandle
import Derived.Lib.LaidTab
import Derived.Test.YtekljhabjkmhpaaDoorRows
import Derived.Test.YtekljhabjkmhpaaDoorPFnLockedx7
import Derived.Lay
import Derived.MakeChecks
import Derived.OpenShut
import Derived.Carry
import Derived.ChangeOld
import Derived.ChangeVars
import Derived.Test.YtekljhabjkmhpaaDoorProg
import Derived.Test.YtekljhabjkmhpaaDoorPFnLockedx1
import Derived.ProofKit
/- What a row's condition on its listed variables gives: each of them reads as its datum. -/
namespace Go.Proofs.YtekljhabjkmhpaaDoor

theorem laidVars_mem {P : Program} {w : World} : ∀ (l : List (String × DataW Unit)) (ps : List MemPlace), DataW.LaidVars P w l ps → ∀ n d, (n, d) ∈ l →
    ∃ g t cs fuel p, P.globalNamed n = some g ∧ (P.globals[g]?).map (·.type) = some t ∧ w.var? P n = some cs ∧ DataW.trod (fun _ => ()) P w 0 (fun _ => true) false fuel t cs.toList = some (d, p) := by
  intro l
  induction l with
  | nil => intro _ _ n d hm; cases hm
  | cons x r ih =>
    intro ps h n d hm
    obtain ⟨n', d'⟩ := x
    obtain ⟨g, t, cs, fuel, p, q, h1, h2, h3, h4, h5, _⟩ := h
    rcases List.mem_cons.1 hm with e | hm'
    · cases e
      exact ⟨g, t, cs, fuel, p, h1, h2, h3, h4⟩
    · exact ih q h5 n d hm'

theorem var_heap {P : Program} {w : World} {name : String} {g : Nat} {cs : Array Value} (hg : P.globalNamed name = some g) (h : w.var? P name = some cs) : ∃ t f, w.heap[g]? = some (.cells cs t f) := by
  unfold World.var? at h
  rw [hg] at h
  simp only [Option.bind_some] at h
  split at h
  · rename_i cs' t f hh
    simp only [Option.some.injEq] at h
    exact ⟨t, f, by rw [hh, h]⟩
  · cases h

end Go.Proofs.YtekljhabjkmhpaaDoor

/- What a row's condition on the two tables of modes gives; named variables that a call leaves as they were. -/
namespace Go.Proofs.YtekljhabjkmhpaaDoor
open Go.ChangeShapes Go.WideShapes Go.RowKit

theorem laidMet_overM {P : Program} {w0 : World} {laid : List (String × DataW Unit)} (args : Array Value) (hf : w0.layFits P laid [] = true) (hi : w0.layIfaces P laid (w0.layVars P laid) = true) :
    laidMet P laid ((w0.layVars P laid).forCall (fun _ _ => 0) ⟨#[], args, []⟩).memory := by
  have e1 : (laid.filter fun x => (laid.map (·.1)).contains x.1) = laid := List.filter_eq_self.2 fun x hx => List.contains_iff_mem.2 (List.mem_map.2 ⟨x, hx, rfl⟩)
  have e2 : (laid.filter fun x => !(laid.map (·.1)).contains x.1) = [] := List.filter_eq_nil_iff.2 fun x hx => by rw [List.contains_iff_mem.2 (List.mem_map.2 ⟨x, hx, rfl⟩)]; simp
  have h : laidMet P laid (w0.layVars P laid) := laidMet_layVars (w0 := w0) (laid.map (·.1)) [] (by rw [e1]) (by rw [e1]; exact hf) (by rw [e1]; exact hi) (by rw [e2]; exact LaidIn.none)
  exact h.of_heap (by simp [World.memory, World.forCall, Input.heap])

theorem trodVars_keep {H : Type} {enc : TypeId × Value → H} {P : Program} {W W' : World} (hl : laidOutB P = true) (hb : Below W.heap.size W W') : ∀ {ns : List String} {gs : List (DataW H)} {q : List MemPlace}, DataW.TrodVars enc P W (fun _ => true) ns gs q →
    (∀ n ∈ ns, ∃ g t, P.globalNamed n = some g ∧ (P.globals[g]?).map (·.type) = some t ∧ P.readableRec t = true ∧ t < P.types.size) → DataW.TrodVars enc P W' (fun b => decide (b < W.heap.size)) ns gs q := by
  intro ns
  induction ns with
  | nil =>
    intro gs q h _
    obtain ⟨rfl, rfl⟩ := trodVars_none h
    exact rfl
  | cons n r ih =>
    intro gs q h hn
    cases gs with
    | nil => simp [DataW.TrodVars] at h
    | cons d ds =>
      have hlt := DataW.TrodVars.lt h
      obtain ⟨g, t, cs, fuel, p, q', h1, h2, h3, h4, hs, rfl⟩ := h
      obtain ⟨g', t', k1, k2, k3, k4⟩ := hn n List.mem_cons_self
      obtain rfl := Option.some.inj (h1.symm.trans k1)
      obtain rfl := Option.some.inj (h2.symm.trans k2)
      obtain ⟨ty, f, hh⟩ := var_heap h1 h3
      have hg : g < W.heap.size := (Array.getElem?_eq_some_iff.1 hh).1
      have hv : W'.var? P n = some cs := by
        unfold World.var?
        rw [h1]
        simp only [Option.bind_some]
        rw [hb.block g hg, hh]
      have ht : DataW.Trod enc P W 0 (fun _ => true) true t (.agg cs) d p := ⟨fuel, h4⟩
      obtain ⟨fuel', h4'⟩ := Below.trod hl k3 k4 ht hb (fun x hx => hlt x (by simp [hx]))
      exact ⟨g, t, cs, fuel', p, q', h1, h2, hv, h4', ih hs (fun m hm => hn m (List.mem_cons_of_mem _ hm)), rfl⟩

theorem bools_of {fuel : Nat} {w : World} {cs : List Value} {bs : List Bool} {p : List MemPlace} (h : DataW.trod (fun _ => ()) Tryd.prog w 0 (fun _ => true) false fuel 58 cs = some (.agg (bs.map fun b => .lit (.bool b)), p)) : cs = bs.map Value.bool := by
  obtain ⟨xs, m, _, hx, hlen, hn, hel⟩ := DataW.trod_array Tryd.underlying58 h
  have c4 : Tryd.prog.cellsOf 58 = 4 := by kernel_rfl
  have c1 : Tryd.prog.cellsOf 4 = 1 := by kernel_rfl
  rw [c4] at hlen
  simp only [Prod.mk.injEq, DataW.agg.injEq] at hx
  have hb : bs.length = 4 := by
    have := congrArg List.length hx.1
    simp at this
    omega
  apply List.ext_getElem?
  intro i
  by_cases hi : i < 4
  · have hxi : i < xs.length := by omega
    have e := hel i hi
    rw [c1, List.getElem?_eq_getElem hxi] at e
    obtain ⟨b, e1, e2⟩ := DataW.trod_bool Tryd.underlying4 e
    have h1 : cs[i]? = some (.bool b) := by
      have := congrArg (·[0]?) e1
      simpa [List.getElem?_take, List.getElem?_drop] using this
    have h2 : (xs.map (·.1))[i]? = some (DataW.lit (.bool b)) := by simp [List.getElem?_eq_getElem hxi, e2]
    rw [← hx.1] at h2
    simp only [List.getElem?_map, Option.map_eq_some_iff, DataW.lit.injEq, Lit.bool.injEq] at h2
    obtain ⟨b', hb', rfl⟩ := h2
    simp [h1, hb']
  · rw [List.getElem?_eq_none (by omega), List.getElem?_eq_none (by simp; omega)]

theorem four_drop {α : Type} (cs : List α) (h : cs.length = 16) : cs = (cs.drop (0 * 4)).take 4 ++ ((cs.drop (1 * 4)).take 4 ++ ((cs.drop (2 * 4)).take 4 ++ (cs.drop (3 * 4)).take 4)) := by
  match cs, h with
  | [_, _, _, _, _, _, _, _, _, _, _, _, _, _, _, _], _ => rfl

theorem gGo : Tryd.prog.globalNamed "loop.example/g00181/impl.goTogether" = some 1 := by kernel_rfl
theorem gBoth : Tryd.prog.globalNamed "loop.example/g00181/impl.bothModes" = some 0 := by kernel_rfl
theorem tGo : (Tryd.prog.globals[1]?).map (·.type) = some 59 := by kernel_rfl
theorem tBoth : (Tryd.prog.globals[0]?).map (·.type) = some 57 := by kernel_rfl

theorem tabGo_of {W : World} {laid : List (String × DataW Unit)} (hp : (laid.all fun x => x.2.handleName?.isNone) = true) (hl : laidMetH Tryd.prog laid W) (hm : ("loop.example/g00181/impl.goTogether", Rows.laid_loop_example_g00181_impl_goTogether) ∈ laid) : TabGo W := by
  rw [MakeChecks.laidMetH_plain _ _ _ hp] at hl
  obtain ⟨ps, hv, _⟩ := hl
  obtain ⟨g, t, cs, fuel, p, h1, h2, h3, h4⟩ := laidVars_mem laid ps hv _ _ hm
  obtain rfl := Option.some.inj (gGo.symm.trans h1)
  obtain rfl := Option.some.inj (tGo.symm.trans h2)
  obtain ⟨t', f, hh⟩ := var_heap h1 h3
  obtain ⟨xs, m, _, hx, hlen, hn, hel⟩ := DataW.trod_array Tryd.underlying59 h4
  have c4 : Tryd.prog.cellsOf 58 = 4 := by kernel_rfl
  have c16 : Tryd.prog.cellsOf 59 = 16 := by kernel_rfl
  rw [c4] at hel
  rw [c16] at hlen
  match xs, hn with
  | [x0, x1, x2, x3], _ =>
    simp only [Rows.laid_loop_example_g00181_impl_goTogether, Prod.mk.injEq, DataW.agg.injEq, List.map_cons, List.map_nil, List.cons.injEq, and_true] at hx
    obtain ⟨⟨e0, e1, e2, e3⟩, _⟩ := hx
    have r0 := bools_of (bs := [true, true, true, false]) (p := x0.2) ((hel 0 (by decide)).trans (by rw [List.getElem?_cons_zero]; congr 1; exact Prod.ext e0.symm rfl))
    have r1 := bools_of (bs := [true, true, false, false]) (p := x1.2) ((hel 1 (by decide)).trans (by simp only [List.getElem?_cons_zero, List.getElem?_cons_succ]; congr 1; exact Prod.ext e1.symm rfl))
    have r2 := bools_of (bs := [true, false, true, false]) (p := x2.2) ((hel 2 (by decide)).trans (by simp only [List.getElem?_cons_zero, List.getElem?_cons_succ]; congr 1; exact Prod.ext e2.symm rfl))
    have r3 := bools_of (bs := [false, false, false, false]) (p := x3.2) ((hel 3 (by decide)).trans (by simp only [List.getElem?_cons_zero, List.getElem?_cons_succ]; congr 1; exact Prod.ext e3.symm rfl))
    refine ⟨t', f, ?_⟩
    rw [hh]
    congr 2
    apply Array.toList_inj.1
    rw [four_drop cs.toList hlen, r0, r1, r2, r3]
    rfl

theorem tabBoth_of {W : World} {laid : List (String × DataW Unit)} (hp : (laid.all fun x => x.2.handleName?.isNone) = true) (hl : laidMetH Tryd.prog laid W) (hm : ("loop.example/g00181/impl.bothModes", Rows.laid_loop_example_g00181_impl_bothModes) ∈ laid) : TabBoth W := by
  rw [MakeChecks.laidMetH_plain _ _ _ hp] at hl
  obtain ⟨ps, hv, _⟩ := hl
  obtain ⟨g, t, cs, fuel, p, h1, h2, h3, h4⟩ := laidVars_mem laid ps hv _ _ hm
  obtain rfl := Option.some.inj (gBoth.symm.trans h1)
  obtain rfl := Option.some.inj (tBoth.symm.trans h2)
  obtain ⟨t', f, hh⟩ := var_heap h1 h3
  obtain ⟨xs, m, _, hx, hlen, hn, hel⟩ := DataW.trod_array Tryd.underlying57 h4
  have c1 : Tryd.prog.cellsOf 3 = 1 := by kernel_rfl
  have c4 : Tryd.prog.cellsOf 56 = 4 := by kernel_rfl
  have c16 : Tryd.prog.cellsOf 57 = 16 := by kernel_rfl
  rw [c4] at hel
  rw [c16] at hlen
  match xs, hn with
  | [x0, x1, x2, x3], _ =>
    simp only [Rows.laid_loop_example_g00181_impl_bothModes, Prod.mk.injEq, DataW.agg.injEq, List.map_cons, List.map_nil, List.cons.injEq, and_true] at hx
    obtain ⟨⟨e0, e1, e2, e3⟩, _⟩ := hx
    have r0 := Lib.cells_of_tab (zs := [1, 2, 3, 4]) (p := x0.2) Tryd.underlying56 Tryd.underlying3 c1 c4 ((hel 0 (by decide)).trans (by rw [List.getElem?_cons_zero]; congr 1; exact Prod.ext e0.symm rfl))
    have r1 := Lib.cells_of_tab (zs := [2, 2, 4, 4]) (p := x1.2) Tryd.underlying56 Tryd.underlying3 c1 c4 ((hel 1 (by decide)).trans (by simp only [List.getElem?_cons_zero, List.getElem?_cons_succ]; congr 1; exact Prod.ext e1.symm rfl))
    have r2 := Lib.cells_of_tab (zs := [3, 4, 3, 4]) (p := x2.2) Tryd.underlying56 Tryd.underlying3 c1 c4 ((hel 2 (by decide)).trans (by simp only [List.getElem?_cons_zero, List.getElem?_cons_succ]; congr 1; exact Prod.ext e2.symm rfl))
    have r3 := Lib.cells_of_tab (zs := [4, 4, 4, 4]) (p := x3.2) Tryd.underlying56 Tryd.underlying3 c1 c4 ((hel 3 (by decide)).trans (by simp only [List.getElem?_cons_zero, List.getElem?_cons_succ]; congr 1; exact Prod.ext e3.symm rfl))
    refine ⟨t', f, ?_⟩
    rw [hh]
    congr 2
    apply Array.toList_inj.1
    rw [four_drop cs.toList hlen, r0, r1, r2, r3]
    rfl
end Go.Proofs.YtekljhabjkmhpaaDoor
/- What came in, read: a slice of bytes. -/
namespace Go.Proofs.YtekljhabjkmhpaaDoor
open Go.ChangeShapes Go.WideShapes Go.ChangeAt Go.RowKit

section
variable {H : Type} {enc : TypeId × Value → H} {w : World} {base : Nat} {spare : Nat → Bool} {held : Bool}

theorem trod_bytes {fuel : Nat} {cs : List Value} {x : DataW H × List MemPlace} (h : DataW.trod enc Tryd.prog w base spare held fuel 22 cs = some x) :
    ∃ (a : Option Addr) (c : Nat) (ns : List Int), cs = [.slice a ns.length c] ∧ Reads w a ns ∧ (a = none → c = 0) ∧ ns.length ≤ maxLen := by
  rcases open_ints Tryd.underlying22 Tryd.underlying5 (by kernel_rfl) h with ⟨rfl, _⟩ | ⟨a, len, cap, zs, rfl, _, hl, hm, hz, _, hcell, hwf⟩
  · exact ⟨none, 0, [], rfl, ⟨by simp, by simp⟩, fun _ => rfl, by simp⟩
  · have hlz : len ≤ zs.length := by rw [hz]; split <;> omega
    refine ⟨some a, cap, zs.take len, by simp; omega, ⟨fun z hzz => ?_, ?_⟩, (fun h => by cases h), by simp; omega⟩
    · have := hwf z (List.mem_of_mem_take hzz)
      simp [Lit.wf, IntKind.min, IntKind.max, IntKind.signed, IntKind.bits] at this
      omega
    · intro hne
      have hpos := List.length_pos_iff.2 hne
      simp at hpos
      obtain ⟨b, off, spot⟩ := a
      have hc0 := hcell 0 (by omega)
      have hspot : spot = none := by simpa [Addr.add] using World.cell?_spot hc0
      subst hspot
      refine ⟨b, off, rfl, fun i hi => ?_⟩
      have hi' : i < len := by simp at hi; omega
      have := hcell i (by omega)
      have e : (List.take len zs).getD i 0 = zs.getD i 0 := by simp [List.getD, hi']
      rw [e, ← Addr_add]
      exact this

set_option maxRecDepth 100000 in
/-- A slice of bytes that came in as an argument. -/
theorem open_bytes {b0 : Nat} {v : Value} {d : DataW H} {ps : List MemPlace} (hval : Value.okWide Tryd.prog w .any b0 22 v) (h : DataW.Trod enc Tryd.prog w base spare held 22 v d ps) :
    ∃ (a : Option Addr) (c : Nat) (ns : List Int), v = .slice a ns.length c ∧ Reads w a ns ∧ (a = none → c = 0) ∧ ns.length ≤ maxLen := by
  obtain ⟨a, len, cap, hv⟩ := okWide_slice (e := 5) Tryd.underlying22 hval
  subst hv
  obtain ⟨fuel, hf⟩ := h
  have e : (Value.slice a len cap).cells.toList = [Value.slice a len cap] := rfl
  rw [e] at hf
  obtain ⟨a', c', ns, hc, rest⟩ := trod_bytes hf
  simp only [List.cons.injEq, and_true] at hc
  exact ⟨a', c', ns, hc, rest⟩
end
end Go.Proofs.YtekljhabjkmhpaaDoor
