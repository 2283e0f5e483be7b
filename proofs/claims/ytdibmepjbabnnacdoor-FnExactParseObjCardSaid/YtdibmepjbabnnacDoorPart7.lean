/- Several texts in one, in their order. -/
import Derived.Test.YtdibmepjbabnnacDoorPart6
import Derived.Test.YtdibmepjbabnnacDoorRows
import Derived.Test.YtdibmepjbabnnacDoorPart3
import Derived.LaidLaws
import Derived.LaidHandle
import Derived.Stop.Joined
import Derived.ChangeVars
import Derived.Lay
import Derived.HandedShaped
import Derived.Shelf.Vars
/- The walk of laws.FnExactParseObj. -/
namespace Go.Proofs.YtdibmepjbabnnacDoor
open Go.RowKit

theorem parsePair_len (L : List Int) (o : ObjV) (ok : Bool) (h : parsePair L = (o, ok)) : o.ints.length ≤ 5 ∧ o.refs.length ≤ 5 := by
  unfold parsePair at h
  cases hs : specParse L with
  | some o' =>
    rw [hs] at h
    have h1 : o' = o := (Prod.mk.inj h).1
    subst h1
    have := okB_bd (spec_sound L _ hs).1
    exact ⟨this.2.1, this.2.2.1⟩
  | none =>
    rw [hs] at h
    have h1 : noO = o := (Prod.mk.inj h).1
    subst h1
    simp [noO]

set_option maxHeartbeats 4000000 in
set_option maxRecDepth 100000 in
theorem lawParseObj_walk (s : ByteArray) (w : World) (he : EnvP w) (hbd : s.size ≤ 9223372036854775807) :
    Calls Tryd.prog 5 #[.string s] w fun e w' => e = .returned (.bool true) ∧ Below w.heap.size w w' := by
  by_cases hbig : 1048576 < s.size
  · go_enter Tryd.func5, Tryd.ntmps5
    go_wp2
    go_ret
    exact ⟨rfl, Below.refl _ _⟩
  have hs : s.size ≤ 1048576 := by omega
  go_enter Tryd.func5, Tryd.ntmps5
  go_wp2_with fail
  refine (specParseObj_any s w hs).mono ?_
  rintro e w2 ⟨pI, dI, pR, dR, o, ok, rfl, HGP, ow, hb2⟩
  obtain ⟨hl1, hl2⟩ := parsePair_len _ o ok HGP.out
  have hs2 := hb2.size
  obtain ⟨W3, hW3, bA, hbW3, hsW3⟩ := boxes1 w2 [.int .i64 o.kind, .slice pI o.ints.length dI, .slice pR o.refs.length dR] 25
  have N3 : Below w.heap.size w W3 := hb2.trans (hbW3.mono hs2)
  have ow3 := ow.below hbW3
  have hs3 : w2.heap.size < W3.heap.size := bA.lt
  clear hsW3
  have W3e := hW3.out
  go_wp2_with fail
  refine (implParseObj_any s W3 (he.keep N3) hs).mono ?_
  rintro e w5 ⟨qI, eI, qR, eR, o', ok', rfl, HGP', og, hb5⟩
  obtain ⟨rfl, rfl⟩ : o' = o ∧ ok' = ok := by have h := HGP'.out; rw [HGP.out] at h; simp only [Prod.mk.injEq] at h; exact ⟨h.1.symm, h.2.symm⟩
  clear HGP' W3e
  have hs5 := hb5.size
  obtain ⟨W6, hW6, bG, hbW6, hsW6⟩ := boxes1 w5 [.int .i64 o'.kind, .slice qI o'.ints.length eI, .slice qR o'.refs.length eR] 25
  have M36 : Below W3.heap.size W3 W6 := hb5.trans (hbW6.mono (by omega))
  have bA6 := bA.below M36 bA.lt
  have ow6 := ow3.below M36
  have og6 := og.below hbW6
  have N6 : Below w.heap.size w W6 := N3.trans (M36.mono (by omega))
  have hs6 : w5.heap.size < W6.heap.size := bG.lt
  clear hsW6
  have u0 := bA6.cell 0 _ rfl
  have u1 := bA6.cell 1 _ rfl
  have u2 := bA6.cell 2 _ rfl
  have v0 := bG.cell 0 _ rfl
  have v1 := bG.cell 1 _ rfl
  have v2 := bG.cell 2 _ rfl
  have W6e := hW6.out
  go_wp2_with fail
  refine (eqObj_same o' qI eI qR eR pI dI pR dR W6 og6.reads ow6.reads (by omega) (by omega)).mono ?_
  rintro e w11 ⟨rfl, hb11⟩
  clear W6e u0 u1 u2 v0 v1 v2
  have hs11 := hb11.size
  have og11 := og6.below hb11
  have ow11 := ow6.below hb11
  have bA11 := bA6.below hb11 bA6.lt
  have bG11 := bG.below hb11 bG.lt
  have N11 : Below w.heap.size w w11 := N6.trans (hb11.mono (by omega))
  have v0 := bG11.cell 0 _ rfl
  have v1 := bG11.cell 1 _ rfl
  have v2 := bG11.cell 2 _ rfl
  go_wp2_with fail
  refine (markObj_own o' W3.heap.size w5.heap.size qI eI qR eR 1 w11 og11 (by omega) (by omega) (by omega) (by omega)).mono ?_
  rintro e w12 ⟨rfl, og12, hw12⟩
  have hs12 := hw12.size
  have ow12 : OwnO w12 w.heap.size w2.heap.size pI dI pR dR o' := ow11.within hw12 (.inl (by omega))
  have bA12 := bA11.within hw12 (by omega)
  have bG12 := bG11.within hw12 (by omega)
  have N12 : Below w.heap.size w w12 := N11.trans (hw12.below (by omega) (by omega))
  clear v0 v1 v2
  have v0 := bG12.cell 0 _ rfl
  have v1 := bG12.cell 1 _ rfl
  have v2 := bG12.cell 2 _ rfl
  go_wp2_with fail
  refine (heldObj_own o' W3.heap.size w5.heap.size qI eI qR eR 1 w12 og12 (by omega) (by omega) (by omega) (by omega)).mono ?_
  rintro e w13 ⟨rfl, hb13⟩
  have hs13 := hb13.size
  have N13 : Below w.heap.size w w13 := N12.trans (hb13.mono (by omega))
  go_wp2_with fail
  refine (implParseObj_any s w13 (he.keep N13) hs).mono ?_
  rintro e w15 ⟨rI, fI, rR, fR, o2, ok2, rfl, HG2, oh, hb15⟩
  obtain ⟨rfl, rfl⟩ : o2 = o' ∧ ok2 = ok' := by have h := HG2.out; rw [HGP.out] at h; simp only [Prod.mk.injEq] at h; exact ⟨h.1.symm, h.2.symm⟩
  have hs15 := hb15.size
  obtain ⟨W16, hW16, bH, hbW16, hsW16⟩ := boxes1 w15 [.int .i64 o2.kind, .slice rI o2.ints.length fI, .slice rR o2.refs.length fR] 25
  have M16 : Below w12.heap.size w12 W16 := (hb13.trans (hb15.mono hs13)).trans (hbW16.mono (by omega))
  have ow16 := ow12.below M16
  have og16 := og12.below M16
  have bA16 := bA12.below M16 bA12.lt
  have bG16 := bG12.below M16 bG12.lt
  have oh16 := oh.below hbW16
  have N16 : Below w.heap.size w W16 := N12.trans (M16.mono (by omega))
  clear v0 v1 v2 hsW16
  have u0 := bA16.cell 0 _ rfl
  have u1 := bA16.cell 1 _ rfl
  have u2 := bA16.cell 2 _ rfl
  have v0 := bH.cell 0 _ rfl
  have v1 := bH.cell 1 _ rfl
  have v2 := bH.cell 2 _ rfl
  have W16e := hW16.out
  go_wp2_with fail
  refine (eqObj_same o2 rI fI rR fR pI dI pR dR W16 oh16.reads ow16.reads (by omega) (by omega)).mono ?_
  rintro e w17 ⟨rfl, hb17⟩
  clear W16e u0 u1 u2 v0 v1 v2
  have bG17 := bG16.below hb17 bG16.lt
  have og17 := og16.below hb17
  have v0 := bG17.cell 0 _ rfl
  have v1 := bG17.cell 1 _ rfl
  have v2 := bG17.cell 2 _ rfl
  have N17 : Below w.heap.size w w17 := N16.trans (hb17.mono (by have := N16.size; omega))
  go_wp2_with fail
  refine (heldObj_own o2 W3.heap.size w5.heap.size qI eI qR eR 1 w17 og17 (by omega) (by omega) (by omega) (by omega)).mono ?_
  rintro e w18 ⟨rfl, hb18⟩
  go_wp2
  go_ret
  exact ⟨rfl, N17.trans (hb18.mono (by have := N17.size; omega))⟩
end Go.Proofs.YtdibmepjbabnnacDoor

/- What the row's condition on errors.errorType gives a walk; a world that meets it. -/
namespace Go.Proofs.YtdibmepjbabnnacDoor
open Go.ChangeShapes Go.WideShapes Go.RowKit

theorem Tryd.et : Tryd.prog.globalNamed "errors.errorType" = some 0 := by kernel_rfl
theorem Tryd.rt : (Tryd.prog.cutTypes.find? (·.1 == "internal/reflectlite.rtype")).map (·.2) = some 123 := by kernel_rfl
theorem Tryd.oneRow : ((List.range 201).filter fun t => Tryd.prog.rowNamed t [101, 114, 114, 111, 114]) = [50] := by kernel_rfl
theorem Tryd.typesSize : Tryd.prog.types.size = 201 := by kernel_rfl

theorem errT_of_handles {W : World} {laid : List (String × DataW Unit)} (hm : ("errors.errorType", Rows.laid_errors_errorType) ∈ laid) (h : handlesMet Tryd.prog laid W) : ErrT W := by
  obtain ⟨name, u, ty, e1, e2, e3, e4, e5⟩ := h _ hm
  have en : name = [101, 114, 114, 111, 114] := (Option.some.inj e1).symm
  subst en
  obtain rfl := Option.some.inj (Tryd.rt.symm.trans e2)
  have hm : ty ∈ (List.range 201).filter fun t => Tryd.prog.rowNamed t [101, 114, 114, 111, 114] := List.mem_filter.2 ⟨List.mem_range.2 (by rw [← Tryd.typesSize]; exact e3), e4⟩
  rw [Tryd.oneRow] at hm
  obtain rfl := List.mem_singleton.1 hm
  have hh : typeHandle Tryd.prog 50 = .pointer (some ⟨9, 50, none⟩) := by kernel_rfl
  rw [hh] at e5
  unfold ErrT
  simpa using World.var?_cell Tryd.et e5 0

/-- The one listed variable. -/
def laid1 : List (String × DataW Unit) := [("errors.errorType", Rows.laid_errors_errorType)]
theorem errT_of_laid1 {W : World} (h : laidMetH Tryd.prog laid1 W) : ErrT W := by
  have h' : laidMet Tryd.prog [] W ∧ handlesMet Tryd.prog laid1 W := h
  exact errT_of_handles (List.mem_singleton.2 rfl) h'.2
end Go.Proofs.YtdibmepjbabnnacDoor

/- What the row's condition gives the walk of ObjText; a law for its witness. -/
namespace Go.Proofs.YtdibmepjbabnnacDoor
open Go.ChangeShapes Go.WideShapes Go.RowKit

theorem laidMet_over {P : Program} {w0 : World} {laid : List (String × DataW Unit)} (args : Array Value) (hf : w0.layFits P laid [] = true) (hi : w0.layIfaces P laid (w0.layVars P laid) = true) :
    laidMet P laid ((w0.layVars P laid).forCall (fun _ _ => 0) ⟨#[], args, []⟩).memory := by
  have e1 : (laid.filter fun x => (laid.map (·.1)).contains x.1) = laid := List.filter_eq_self.2 fun x hx => List.contains_iff_mem.2 (List.mem_map.2 ⟨x, hx, rfl⟩)
  have e2 : (laid.filter fun x => !(laid.map (·.1)).contains x.1) = [] := List.filter_eq_nil_iff.2 fun x hx => by rw [List.contains_iff_mem.2 (List.mem_map.2 ⟨x, hx, rfl⟩)]; simp
  have h : laidMet P laid (w0.layVars P laid) := laidMet_layVars (w0 := w0) (laid.map (·.1)) [] (by rw [e1]) (by rw [e1]; exact hf) (by rw [e1]; exact hi) (by rw [e2]; exact LaidIn.none)
  exact h.of_heap (by simp [World.memory, World.forCall, Input.heap])

theorem Tryd.pow10Data : (Rows.laid_internal_strconv_uint64pow10 : DataW Unit) = Lib.tabData .u64 Lib.pow10Tab := by kernel_rfl

theorem pow_of_laid {W : World} {laid : List (String × DataW Unit)} {name : String} (hn : Tryd.prog.globalNamed name = some 1) (hl : laidMet Tryd.prog laid W) (hm : (name, Rows.laid_internal_strconv_uint64pow10) ∈ laid) :
    ∃ t f, W.heap[1]? = some (.cells (Lib.pow10Tab.map fun z => Value.int .u64 z).toArray t f) := by
  rw [Tryd.pow10Data] at hm
  exact tab_heap hl hm hn (by kernel_rfl) Tryd.underlying137 Tryd.underlying113 (by kernel_rfl) (by kernel_rfl)

theorem envT_of_laid {W : World} (hL : laidMetH Tryd.prog Rows.fnExactObjTextRow.laid W) : EnvT W := by
  obtain ⟨hd, hh⟩ : laidMet Tryd.prog _ W ∧ handlesMet Tryd.prog _ W := hL
  exact ⟨errT_of_handles (List.Mem.head _) hh, pow_of_laid (by kernel_rfl) hd (List.Mem.tail _ (List.Mem.tail _ (List.Mem.head _)))⟩
end Go.Proofs.YtdibmepjbabnnacDoor

/- What the row's condition gives the walk of ParseObj. -/
namespace Go.Proofs.YtdibmepjbabnnacDoor
open Go.ChangeShapes Go.WideShapes Go.RowKit

/-- The frame with a condition on the variables and with the world's shape. -/
theorem handed_and_shaped {H : Type} {enc : TypeId × Value → H} {a : Assume} {C : Checked} {os : Os} {f : FuncId} {fn : Func} {s : ChangeSpec} {conds : List PathCond} {apart fresh handsOn again : Bool} {X : World → Array Value → Prop}
    (hX : ∀ (w w' : World) (args : Array Value), w.heap = w'.heap → X w args → X w' args)
    (own : ownKnob C.prog.godebug = none) (started : os.Started) (noInit : C.prog.inits.idxOf? f = none) (hfn : C.prog.funcs[f]? = some fn)
    (witness : ∃ (w : World) (tape : Tape) (i : Input), w.os = os ∧ (w.forCall tape i).Shaped C.prog ∧ i.vars = [] ∧ Input.okWide C.prog (w.forCall tape i) .any w.heap.size f i ∧
      ((s.pre enc C.prog fn conds apart (w.forCall tape i).memory i.args ∧ X (w.forCall tape i).memory i.args) ∧ sizedMet enc C.prog fn (OpenSpec.ofChange s) apart (w.forCall tape i).memory i.args) ∧ a.holds C.prog (lone (Frame.enter C.prog f i.args .normal) [] (w.forCall tape i)))
    (contract : ∀ (W : World) (base : Nat) (args : Array Value) (ds gs : List (DataW H)) (before : List MemPlace),
      (∀ (j : Nat) t v, fn.params[j]? = some t → args[j]? = some v → Value.okWide C.prog W .any base t v) →
      DataW.Whole enc C.prog fn.params.toList s.vars apart W args.toList ds gs before →
      conds.all (PathCond.test C.prog ⟨fn.params.toList, ds, s.plain.varTypes C.prog, gs⟩) = true →
      (DataW.weightsEach C.prog (fn.params.toList ++ s.plain.varTypes C.prog) (ds ++ gs)).all (· ≤ reachBytes) = true → X W args → W.ShapedOpen C.prog →
      a.holds C.prog (lone (Frame.enter C.prog f args .normal) [] W) →
      Calls C.prog f args W fun e W' => ∃ v, e = .returned v ∧ s.post enc C.prog fn apart fresh handsOn again W args v W') :
    ReturnsInHanded a C os f .any (fun w args => (s.pre enc C.prog fn conds apart w args ∧ X w args) ∧ sizedMet enc C.prog fn (OpenSpec.ofChange s) apart w args) (s.post enc C.prog fn apart fresh handsOn again) := by
  refine returnsInHanded_of_calls own started noInit witness ?_
  intro w tape i _ hsh _ hok hpre hholds
  obtain ⟨_, _, _, fn', hfn', _, _, _, _, hval⟩ := hok
  have e : fn' = fn := Option.some.inj (hfn'.symm.trans hfn)
  subst e
  obtain ⟨⟨⟨ds, gs, before, hw, hc⟩, hx⟩, hz⟩ := hpre
  have hw' := DataW.Whole.of_heap (w' := w.forCall tape i) (by rfl) hw
  refine (contract (w.forCall tape i) w.heap.size i.args ds gs before hval hw' hc (hz.weights hw) (hX _ _ _ (by rfl) hx) hsh hholds).mono fun e W' ⟨v, he, hp⟩ => ?_
  subst he
  exact ChangeSpec.post_blind hp

/-- A listed interface value lies in its variable's cell. -/
theorem iface_cell {P : Program} {w : World} {laid : List (String × DataW Unit)} {name tn : String} {d : DataW Unit} {g : Nat} {t : TypeId} {ms : Array (String × TypeId)} (hl : laidMet P laid w) (hm : (name, DataW.iface tn d) ∈ laid)
    (hg : P.globalNamed name = some g) (hty : (P.globals[g]?).map (·.type) = some t) (hi : P.underlying t = some (.interface ms)) : ∃ u v, w.cell? ⟨g, 0, none⟩ = some (.iface u v) := by
  obtain ⟨ps, hv, _⟩ := hl
  obtain ⟨g', t', cs, fuel, p, h1, h2, h3, h4⟩ := laidVars_mem laid ps hv name _ hm
  obtain rfl := Option.some.inj (hg.symm.trans h1)
  obtain rfl := Option.some.inj (hty.symm.trans h2)
  obtain ⟨_, u, v, hc, _, _⟩ := iface_of_trod hi h4
  refine ⟨u, v, ?_⟩
  have h := World.var?_cell hg h3 0
  have e : cs[0]? = some (.iface u v) := by
    rw [← Array.getElem?_toList, hc]; rfl
  rw [e] at h
  exact h

theorem max_of_shaped {W : World} (h : W.ShapedOpen Tryd.prog) : ∃ m, W.cell? ⟨2, 0, none⟩ = some (.int .i64 m) :=
  cell_of_shapedOpen_int (t := 3) (zero := #[.int .i64 0]) h (of_decide_eq_true (by kernel_rfl)) (by kernel_rfl) rfl (by kernel_rfl) (by kernel_rfl) Tryd.underlying3

theorem envP_of {W : World} {laid : List (String × DataW Unit)} {n0 n1 n2 : String} (hh : ErrT W) (hd : laidMet Tryd.prog laid W) (hsh : W.ShapedOpen Tryd.prog)
    (h0 : Tryd.prog.globalNamed n0 = some 1) (m0 : (n0, Rows.laid_internal_strconv_uint64pow10) ∈ laid)
    (h1 : Tryd.prog.globalNamed n1 = some 4) (m1 : (n1, Rows.laid_strconv_ErrRange) ∈ laid)
    (h2 : Tryd.prog.globalNamed n2 = some 3) (m2 : (n2, Rows.laid_strconv_ErrSyntax) ∈ laid) : EnvP W := by
  refine ⟨⟨hh, pow_of_laid h0 hd m0⟩, max_of_shaped hsh, ?_, ?_⟩
  · obtain ⟨u, v, h⟩ := iface_cell hd m2 h2 (by kernel_rfl) Tryd.underlying50
    exact ⟨u, v, h⟩
  · obtain ⟨u, v, h⟩ := iface_cell hd m1 h1 (by kernel_rfl) Tryd.underlying50
    exact ⟨u, v, h⟩

theorem envP_of_laid {W : World} (hL : laidMetH Tryd.prog Rows.fnExactParseObjRow.laid W) (hsh : W.ShapedOpen Tryd.prog) : EnvP W := by
  obtain ⟨hd, hh⟩ : laidMet Tryd.prog _ W ∧ handlesMet Tryd.prog _ W := hL
  exact envP_of (errT_of_handles (List.Mem.head _) hh) hd hsh (by kernel_rfl) (List.Mem.tail _ (List.Mem.tail _ (List.Mem.head _)))
    (by kernel_rfl) (List.Mem.tail _ (List.Mem.tail _ (List.Mem.tail _ (List.Mem.tail _ (List.Mem.head _)))))
    (by kernel_rfl) (List.Mem.tail _ (List.Mem.tail _ (List.Mem.tail _ (List.Mem.tail _ (List.Mem.tail _ (List.Mem.head _))))))
end Go.Proofs.YtdibmepjbabnnacDoor
