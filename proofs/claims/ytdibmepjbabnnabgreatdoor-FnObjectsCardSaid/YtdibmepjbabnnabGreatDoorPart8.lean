/- Several texts in one, in their order. -/
import Derived.Test.YtdibmepjbabnnabGreatDoorRows
import Derived.Test.YtdibmepjbabnnabGreatDoorPart7
import Derived.Test.YtdibmepjbabnnabGreatDoorPart6
import Derived.HandedShaped
import Derived.Shelf.Vars
/- What a row's condition gives a walk that parses; the frame with a condition and with the world's shape. -/
namespace Go.Proofs.YtdibmepjbabnnabGreatDoor
open Go.ChangeShapes Go.WideShapes Go.RowKit

/-- The frame with a condition on the variables and with the world's shape. -/
theorem handed_and_shaped {H : Type} {enc : TypeId × Value → H} {a : Assume} {C : Checked} {os : Os} {f : FuncId} {fn : Func} {s : ChangeSpec} {conds : List PathCond} {apart fresh handsOn again : Bool} {X : World → Array Value → Prop}
    (hX : ∀ (w w' : World) (args : Array Value), w.heap = w'.heap → X w args → X w' args)
    (own : ownKnob C.prog.godebug = none) (started : os.Started) (noInit : C.prog.inits.idxOf? f = none) (hfn : C.prog.funcs[f]? = some fn)
    (witness : ∃ (w : World) (tape : Tape) (i : Input), w.os = os ∧ (w.forCall tape i).Shaped C.prog ∧ i.vars = [] ∧ Input.okWide C.prog (w.forCall tape i) .any w.heap.size f i ∧
      ((s.pre enc C.prog fn conds apart (w.forCall tape i).memory i.args ∧ X (w.forCall tape i).memory i.args) ∧ sizedMet enc C.prog fn (OpenSpec.ofChange s) apart (w.forCall tape i).memory i.args) ∧ a.holds C.prog (lone (Frame.enter C.prog f i.args .normal) [] (w.forCall tape i)))
    (contract : ∀ (W : World) (base : Nat) (args : Array Value) (ds gs : List (DataW H)) (before : List MemPlace),
      (∀ (j : Nat) t v, fn.params[j]? = some t → args[j]? = some v → Value.okWide C.prog W .any base t v) →
      DataW.Whole enc C.prog fn.params.toList s.vars apart W args.toList ds gs before →
      conds.all (PathCond.test C.prog ⟨fn.params.toList, ds, s.plain.varTypes C.prog, gs⟩) = true →
      (DataW.weightsEach C.prog (fn.params.toList ++ s.plain.varTypes C.prog) (ds ++ gs)).all (· ≤ reachBytes) = true → X W args → W.ShapedOpen C.prog →
      a.holds C.prog (lone (Frame.enter C.prog f args .normal) [] W) →
      Calls C.prog f args W fun e W' => ∃ v, e = .returned v ∧ s.post enc C.prog fn apart fresh handsOn again W args v W') :
    ReturnsInHanded a C os f .any (fun w args => (s.pre enc C.prog fn conds apart w args ∧ X w args) ∧ sizedMet enc C.prog fn (OpenSpec.ofChange s) apart w args) (s.post enc C.prog fn apart fresh handsOn again) := by
  refine returnsInHanded_of_calls own started noInit witness ?_
  intro w tape i _ hsh _ hok hpre hholds
  obtain ⟨_, _, _, fn', hfn', _, _, _, _, hval⟩ := hok
  have e : fn' = fn := Option.some.inj (hfn'.symm.trans hfn)
  subst e
  obtain ⟨⟨⟨ds, gs, before, hw, hc⟩, hx⟩, hz⟩ := hpre
  have hw' := DataW.Whole.of_heap (w' := w.forCall tape i) (by rfl) hw
  refine (contract (w.forCall tape i) w.heap.size i.args ds gs before hval hw' hc (hz.weights hw) (hX _ _ _ (by rfl) hx) hsh hholds).mono fun e W' ⟨v, he, hp⟩ => ?_
  subst he
  exact ChangeSpec.post_blind hp

/-- A listed interface value lies in its variable's cell. -/
theorem iface_cell {P : Program} {w : World} {laid : List (String × DataW Unit)} {name tn : String} {d : DataW Unit} {g : Nat} {t : TypeId} {ms : Array (String × TypeId)} (hl : laidMet P laid w) (hm : (name, DataW.iface tn d) ∈ laid)
    (hg : P.globalNamed name = some g) (hty : (P.globals[g]?).map (·.type) = some t) (hi : P.underlying t = some (.interface ms)) : ∃ u v, w.cell? ⟨g, 0, none⟩ = some (.iface u v) := by
  obtain ⟨ps, hv, _⟩ := hl
  obtain ⟨g', t', cs, fuel, p, h1, h2, h3, h4⟩ := laidVars_mem laid ps hv name _ hm
  obtain rfl := Option.some.inj (hg.symm.trans h1)
  obtain rfl := Option.some.inj (hty.symm.trans h2)
  obtain ⟨_, u, v, hc, _, _⟩ := iface_of_trod hi h4
  refine ⟨u, v, ?_⟩
  have h := World.var?_cell hg h3 0
  have e : cs[0]? = some (.iface u v) := by
    rw [← Array.getElem?_toList, hc]; rfl
  rw [e] at h
  exact h

theorem max_of_shaped {W : World} (h : W.ShapedOpen Tryz.prog) : ∃ m, W.cell? ⟨2, 0, none⟩ = some (.int .i64 m) :=
  cell_of_shapedOpen_int (t := 3) (zero := #[.int .i64 0]) h (of_decide_eq_true (by kernel_rfl)) (by kernel_rfl) rfl (by kernel_rfl) (by kernel_rfl) Tryz.underlying3

theorem envP_of {W : World} {laid : List (String × DataW Unit)} {n0 n1 n2 : String} (hh : ErrT W) (hd : laidMet Tryz.prog laid W) (hsh : W.ShapedOpen Tryz.prog)
    (h0 : Tryz.prog.globalNamed n0 = some 1) (m0 : (n0, Rows.laid_internal_strconv_uint64pow10) ∈ laid)
    (h1 : Tryz.prog.globalNamed n1 = some 4) (m1 : (n1, Rows.laid_strconv_ErrRange) ∈ laid)
    (h2 : Tryz.prog.globalNamed n2 = some 3) (m2 : (n2, Rows.laid_strconv_ErrSyntax) ∈ laid) : EnvP W := by
  refine ⟨⟨hh, pow_of_laid h0 hd m0⟩, max_of_shaped hsh, ?_, ?_⟩
  · obtain ⟨u, v, h⟩ := iface_cell hd m2 h2 (by kernel_rfl) Tryz.underlying45
    exact ⟨u, v, h⟩
  · obtain ⟨u, v, h⟩ := iface_cell hd m1 h1 (by kernel_rfl) Tryz.underlying45
    exact ⟨u, v, h⟩
end Go.Proofs.YtdibmepjbabnnabGreatDoor

/- What the row's condition gives the walk of FnObjects. -/
namespace Go.Proofs.YtdibmepjbabnnabGreatDoor
open Go.ChangeShapes Go.WideShapes Go.RowKit

theorem envP_of_laidO {W : World} (hL : laidMetH Tryz.prog Rows.fnObjectsRow.laid W) (hsh : W.ShapedOpen Tryz.prog) : EnvP W := by
  obtain ⟨hd, hh⟩ : laidMet Tryz.prog _ W ∧ handlesMet Tryz.prog _ W := hL
  exact envP_of (errT_of_handles (List.Mem.head _) hh) hd hsh (by kernel_rfl) (List.Mem.tail _ (List.Mem.tail _ (List.Mem.head _)))
    (by kernel_rfl) (List.Mem.tail _ (List.Mem.tail _ (List.Mem.tail _ (List.Mem.tail _ (List.Mem.head _)))))
    (by kernel_rfl) (List.Mem.tail _ (List.Mem.tail _ (List.Mem.tail _ (List.Mem.tail _ (List.Mem.tail _ (List.Mem.head _))))))
end Go.Proofs.YtdibmepjbabnnabGreatDoor
