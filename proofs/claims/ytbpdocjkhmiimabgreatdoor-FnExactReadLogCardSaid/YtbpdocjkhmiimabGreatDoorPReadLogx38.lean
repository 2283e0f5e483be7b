/- Several texts in one, in their order. -/
import Derived.Test.YtbpdocjkhmiimabGreatDoorPReadLogx37
import Derived.Test.YtbpdocjkhmiimabGreatDoorPReadLogx36
import Derived.Test.YtbpdocjkhmiimabGreatDoorPReadLogx23
import Derived.RangeFuncNested
import Derived.RangeFuncBound
import Derived.RangeFuncCalls
import Derived.RangeFuncLeaves
import Derived.Shelf.Abstract
import Derived.Shelf.RegionOpen
import Derived.WalkKit
import Derived.OwnWalkIn
import Derived.TacticsInMore
import Derived.LoopNIn
import Derived.LoopIn
import Derived.Test.YtbpdocjkhmiimabGreatDoorPReadLogx30
import Derived.Sort.CutIn
import Derived.Test.YtbpdocjkhmiimabGreatDoorPReadLogx31
import Derived.Test.YtbpdocjkhmiimabGreatDoorPReadLogx32
import Derived.Test.YtbpdocjkhmiimabGreatDoorPReadLogx29
/- The walk of impl.readFramed. -/
namespace Go.Proofs.YtbpdocjkhmiimabGreatDoor
open Go.RowKit

/-- What stands at p: a record, the place behind it, and whether it is one. -/
def frmOf (zs : List Int) (p : Int) : RecV × Int × Bool := if (unfOf zs p).2.2 = 0 then ((pairR (unfOf zs p).1).1, (unfOf zs p).2.1, (pairR (unfOf zs p).1).2) else (noR, p, false)
theorem pairR_off {zs : List Int} (h : (pairR zs).2 = false) : (pairR zs).1 = noR := by
  unfold pairR at h ⊢
  cases hg : getR zs with
  | some x => rw [hg] at h; cases h
  | none => rfl
theorem frm_next (zs : List Int) (k : Nat) (p : Int) : nextB zs k p = ((frmOf zs p).1.lsn == (k : Int) + 1) := by
  unfold nextB frmOf
  by_cases h : (unfOf zs p).2.2 = 0
  · rw [if_pos h, h]
    cases h2 : (pairR (unfOf zs p).1).2 with
    | true => simp
    | false =>
      rw [pairR_off h2]
      simp only [noR]
      have : ((0 : Int) == (k : Int) + 1) = false := by simp only [beq_eq_false_iff_ne]; omega
      simp [this]
  · rw [if_neg h]
    have h0 : ((unfOf zs p).2.2 == 0) = false := by simpa using h
    have : ((0 : Int) == (k : Int) + 1) = false := by simp only [beq_eq_false_iff_ne]; omega
    simp [h0, noR, this]
theorem frm_go {zs : List Int} {k : Nat} {p : Int} (h : nextB zs k p = true) : (frmOf zs p).1 = (pairR (unfOf zs p).1).1 ∧ (frmOf zs p).2.1 = (unfOf zs p).2.1 ∧ (frmOf zs p).2.2 = true := by
  unfold nextB at h
  simp only [Bool.and_eq_true, beq_iff_eq] at h
  unfold frmOf
  rw [if_pos h.1]
  exact ⟨rfl, rfl, h.2.1⟩

theorem results_rec {P : Program} {fn : Func} {s s1 s2 : Nat} {ty : TypeId} {tmps : Array Value} {w : World} {v : Value} {ad : Addr} (hf : fn.results = #[.cell s ty, .tmp s1, .tmp s2]) (hl : (loadVar ty ad).run P w = .ok v w) (ht : tmps[s]?.getD undef = .pointer (some ad)) : (results fn tmps).run P w = .ok (.tuple #[v, tmps[s1]?.getD undef, tmps[s2]?.getD undef]) w := by
  unfold results
  rw [hf]
  simp [ht, asAddr, hl]

set_option maxHeartbeats 4000000 in
set_option maxRecDepth 100000 in
theorem readFramed_any (a : Option Addr) (c : Nat) (zs : List Int) (p : Int) (w : World) (hg : ErrT w) (hr : Reads w a zs) (hl : zs.length ≤ 1099511627776) (hcap : zs.length ≤ c) :
    Calls Tryz.prog 67 #[.slice a zs.length c, .int .i64 p] w fun e w' => ∃ t : RecA, e = .returned (.tuple #[.agg t.cells.toArray, .int .i64 (frmOf zs p).2.1, .bool (frmOf zs p).2.2]) ∧ Hid (t.v = (frmOf zs p).1) ∧ t.own w' w.heap.size w'.heap.size ∧ Below w.heap.size w w' := by
  obtain ⟨W, hW, b0, hbW, hsW⟩ := boxes1 w [.int .i64 0, .int .i64 0, .int .i64 0, .int .i64 0, .int .i64 0, .bool false, .int .i64 0, .slice none 0 0, .slice none 0 0, .bool false, .int .i64 0, .slice none 0 0, .slice none 0 0, .int .i64 0, .slice none 0 0] 59
  have hs0 := b0.lt
  clear hsW
  have HI : Hid ((Tryz.prog.info? 59).map (·.size) = some 15) := by rw [Hid]; kernel_rfl
  have C := implUnframe_any a c zs p W (hr.below hbW) (by omega) hcap
  have HBy : Hid (((unfOf zs p).1).length ≤ zs.length) := unf_len zs p
  have HNO : Hid (¬ (unfOf zs p).2.2 = 0 → frmOf zs p = (noR, p, false)) := fun h => by unfold frmOf; rw [if_neg h]
  have HYES : Hid ((unfOf zs p).2.2 = 0 → frmOf zs p = ((pairR (unfOf zs p).1).1, (unfOf zs p).2.1, (pairR (unfOf zs p).1).2)) := fun h => by unfold frmOf; rw [if_pos h]
  generalize frmOf zs p = FR at *
  go_enter Tryz.func67, Tryz.ntmps67
  go_wp2_with fail
  rw [hW.out]
  clear hW
  refine C.mono ?_
  clear C
  rintro e w1 ⟨a1, c1, ys, q, code, rfl, HUF, o1, hb1⟩
  have hs1 := hb1.size
  have HU2 : Hid (unfOf zs p = (ys, q, code)) := HUF.out
  rw [HU2.out] at HBy HNO HYES
  simp only at HBy HNO HYES
  have hyl := HBy.out
  have b01 := b0.below hb1 b0.lt
  have D1 : Below w.heap.size w w1 := hbW.trans (hb1.mono hbW.size)
  clear HUF HU2 b0
  by_cases h1 : code = 0
  case neg =>
    have h1b : (code != 0) = true := by simpa using h1
    have HV : Hid (FR = (noR, p, false)) := HNO.out h1
    obtain ⟨WF, hWF, hwF, hsF, HTF, HLF, bF⟩ := rec_out zeroR _ rfl b01
    have hoF : zeroR.own WF w.heap.size WF.heap.size := own_zeroR _ _ _ (Nat.le_refl _)
    have hbF : Below w.heap.size w WF := D1.trans (hwF.below (by omega) (by omega))
    have hOz := rec_one zeroR
    clear hwF hsF bF b01 HNO HYES
    go_wp2_with (first | (guard_target = wpList _ _ _ (Oper.mk none (Op.store _ (Operand.tmp 4) _) _ _ _ _ :: _) _ _; refine wpList_store_mid rfl 59 (.tmp 4) (.tmp 21) rfl w.heap.size 0 zeroR.cells.toArray rfl rfl HTF.out HI.out hOz ?_) | fail)
    have HW : Hid (w1.setCells w.heap.size 0 zeroR.cells.toArray.toList = WF) := hWF.out
    rw [HW.out]
    exact bodyPost_ret (v := .tuple #[.agg zeroR.cells.toArray, .int .i64 p, .bool false]) (results_rec Tryz.results67 HLF.out rfl) rfl ⟨zeroR, by rw [HV.out], by rw [Hid, HV.out]; rfl, hoF, hbF⟩
  case pos =>
    subst h1
    have HV : Hid (FR = ((pairR ys).1, q, (pairR ys).2)) := HYES.out rfl
    have C := implGetRec_any a1 c1 ys w1 (hg.keep D1) o1.reads (by omega) o1.cap
    unfold GotR at C
    generalize (pairR ys).2 = ok at *
    generalize (pairR ys).1 = rv at *
    clear HNO HYES
    go_wp2_with fail
    refine C.mono ?_
    clear C o1
    rintro e w2 ⟨t, rfl, hv, ot, hb2⟩
    have hs2 := hb2.size
    have b02 := b01.below hb2 b01.lt
    have D2 : Below w.heap.size w w2 := D1.trans (hb2.mono D1.size)
    obtain ⟨W3, hW3, z3, hb3, hs3⟩ := boxes1 w2 [.int .i64 0, .int .i64 0, .int .i64 0, .int .i64 0, .int .i64 0, .bool false, .int .i64 0, .slice none 0 0, .slice none 0 0, .bool false, .int .i64 0, .slice none 0 0, .slice none 0 0, .int .i64 0, .slice none 0 0] 59
    obtain ⟨W4, hW4, hw4, hs4, HT4, _, z4⟩ := rec_out t _ rfl z3
    have N4 : Below w2.heap.size w2 W4 := hb3.trans (hw4.below (Nat.le_refl _) (by omega))
    have b04 := b02.below N4 b02.lt
    have ot4 := ot.below N4
    have D4 : Below w.heap.size w W4 := D2.trans (N4.mono D2.size)
    have R4 : Hid (W4.rangeAt w2.heap.size 0 t.cells) := Box.range [] t.cells [] (by simpa using z4)
    obtain ⟨WF, hWF, hwF, hsF, HTF, HLF, bF⟩ := rec_out t _ rfl b04
    have hs4' := N4.size
    have hoF : t.own WF w.heap.size WF.heap.size := (ot4.within hwF (.inr (by omega))).widen (by omega) (by omega) (Nat.le_refl _)
    have hbF : Below w.heap.size w WF := D4.trans (hwF.below (by omega) (by omega))
    have hOt := rec_one t
    have HVT : Hid (t.v = rv) := hv.out
    clear hwF hsF bF z3 z4 hb3 hw4 hs3 hs4 hv ot ot4 b01 b02 b04 N4
    go_wp2_with (first | (guard_target = wpList _ _ _ (Oper.mk none (Op.store _ (Operand.tmp 10) _) _ _ _ _ :: _) _ _; refine wpList_store_mid rfl 59 (.tmp 10) (.tmp 26) rfl w2.heap.size 0 t.cells.toArray rfl rfl (by rw [hW3.out]; exact HT4.out) HI.out hOt ?_) | (guard_target = wpList _ _ _ (Oper.mk (some 28) _ _ _ _ _ :: _) _ _; refine wpList_load_mid rfl 59 (.tmp 10) rfl w2.heap.size 0 rfl t.cells _ (by rw [hW3.out, hW4.out]; exact R4.out) Tryz.underlying59 rfl HI.out ?_) | (guard_target = wpList _ _ _ (Oper.mk none (Op.store _ (Operand.tmp 4) _) _ _ _ _ :: _) _ _; refine wpList_store_mid rfl 59 (.tmp 4) (.tmp 28) rfl w.heap.size 0 t.cells.toArray rfl rfl (by rw [hW3.out, hW4.out]; exact HTF.out) HI.out hOt ?_) | fail)
    rw [hW3.out, hW4.out, hWF.out]
    exact bodyPost_ret (v := .tuple #[.agg t.cells.toArray, .int .i64 q, .bool ok]) (results_rec Tryz.results67 HLF.out rfl) rfl ⟨t, by rw [HV.out], by rw [Hid, HV.out]; exact HVT.out, hoF, hbF⟩
end Go.Proofs.YtbpdocjkhmiimabGreatDoor

/- Records loaded, stored, laid and appended, as steps of a walk inside a fence. -/
namespace Go.Proofs.YtbpdocjkhmiimabGreatDoor
open Go.RowKit Go.Shelf

theorem stepIn_value {F : Fence} {n : Nat} {P : Program} {ops : Array Oper} {rest : List Oper} {o : Oper} {a : Act} {w w' : World} {Q : Exit → Act → World → Prop} {v : Value} (hgd : o.guard = none) (hF : ∀ f, F.fn f) (hs : o.semAt F.round a.eval = execOp a.eval o)
    (hrun : (execOp a.eval o).run P w = .ok (.value v) w') (h : wpListIn F n P ops Q rest (a.put o.dst v) w') : wpListIn F n P ops Q (o :: rest) a w :=
  wpListIn_plain hgd fun K hK => ⟨fun f _ => hF f, by rw [hs, hrun, Oper.uponIn_value]; exact hK _ _ h⟩
theorem stepIn_skip {F : Fence} {n : Nat} {P : Program} {ops : Array Oper} {rest : List Oper} {o : Oper} {a : Act} {w w' : World} {Q : Exit → Act → World → Prop} (hgd : o.guard = none) (hF : ∀ f, F.fn f) (hs : o.semAt F.round a.eval = execOp a.eval o)
    (hrun : (execOp a.eval o).run P w = .ok .skip w') (h : wpListIn F n P ops Q rest (a.put o.dst undef) w') : wpListIn F n P ops Q (o :: rest) a w :=
  wpListIn_plain hgd fun K hK => ⟨fun f _ => hF f, by rw [hs, hrun, Oper.uponIn_skip]; exact hK _ _ h⟩

theorem loadIn_mid {F : Fence} {n : Nat} {P : Program} {ops : Array Oper} {rest : List Oper} {op : Oper} {a : Act} {w : World} {Q : Exit → Act → World → Prop} (hgd : op.guard = none) (hF : ∀ f, F.fn f) (hs : op.semAt F.round a.eval = execOp a.eval op) (ty : TypeId) (x : Operand) (ho : op.op = .load ty x)
    (b o : Nat) (hx : a.eval x = .pointer (some ⟨b, o, none⟩)) (cs : List Value) (d : TypeDesc) (hc : w.rangeAt b o cs)
    (hu : P.underlying ty = some d) (hd : d.isRow = true) (hi : (P.info? ty).map (·.size) = some cs.length)
    (h : wpListIn F n P ops Q rest (a.put op.dst (.agg cs.toArray)) w) : wpListIn F n P ops Q (op :: rest) a w := by
  refine stepIn_value hgd hF hs (v := .agg cs.toArray) ?_ h
  unfold execOp
  simp only [ho, hx, Instr.loadAt, Instr.sureAddr, Sem.run_bind, Sem.run_pure, Result.andThen_ok, run_loadVar_mid w b o ty cs d hc hu hd hi]
theorem storeIn_mid {F : Fence} {n : Nat} {P : Program} {ops : Array Oper} {rest : List Oper} {op : Oper} {a : Act} {w : World} {Q : Exit → Act → World → Prop} (hgd : op.guard = none) (hF : ∀ f, F.fn f) (hs : op.semAt F.round a.eval = execOp a.eval op) (ty : TypeId) (x y : Operand) (ho : op.op = .store ty x y)
    (b o : Nat) (cs : Array Value) (hx : a.eval x = .pointer (some ⟨b, o, none⟩)) (hy : a.eval y = .agg cs) (ht : w.there b o cs.size)
    (hi : (P.info? ty).map (·.size) = some cs.size) (h1 : cs.all (·.oneCell') = true)
    (h : wpListIn F n P ops Q rest (a.put op.dst undef) (w.setCells b o cs.toList)) : wpListIn F n P ops Q (op :: rest) a w := by
  refine stepIn_skip hgd hF hs ?_ h
  unfold execOp
  simp only [ho, hx, hy, Sem.run_bind, Sem.run_pure, Result.andThen_ok, run_storeAt_mid w b o ty cs ht hi h1]

set_option maxRecDepth 100000 in
theorem build_recIn {F : Fence} {n : Nat} {w : World} {ops : Array Oper} {rest : List Oper} {dst : Option Nat} {ty : TypeId} {pos : String} {aft : Array Edge} {act : Act} {Q : Exit → Act → World → Prop} (hF : ∀ f, F.fn f) (x : Operand)
    (hs : Oper.semAt F.round act.eval { dst := dst, op := .buildSlice 26 1 #[(0, x)], type := ty, pos := pos, after := aft, guard := none } = execOp act.eval { dst := dst, op := .buildSlice 26 1 #[(0, x)], type := ty, pos := pos, after := aft, guard := none })
    (q : RecA) (hx : act.eval x = .agg q.cells.toArray)
    (h : wpListIn F n Tryz.prog ops Q rest (act.put dst (.slice (some ⟨w.heap.size, 0, none⟩) 1 1)) (w.alloc (.cells q.cells.toArray 59))) :
    wpListIn F n Tryz.prog ops Q ({ dst := dst, op := .buildSlice 26 1 #[(0, x)], type := ty, pos := pos, after := aft, guard := none } :: rest) act w := by
  refine stepIn_value rfl hF hs (v := .slice (some ⟨w.heap.size, 0, none⟩) 1 1) ?_ h
  unfold execOp
  simp only [List.map_toArray, List.map_cons, List.map_nil, hx]
  go_simp
  simp only [cellsR_len, lit_rec, not_true_eq_false, Nat.lt_irrefl, or_self, if_false]
  go_simp
theorem append_recIn {F : Fence} {n : Nat} {w : World} {ops : Array Oper} {rest : List Oper} {o : Oper} {act : Act} {Q : Exit → Act → World → Prop} (hgd : o.guard = none) (hF : ∀ f, F.fn f) (hsm : o.semAt F.round act.eval = execOp act.eval o) (s x : Operand)
    (ho : o.op = .call { callee := .builtin .append, args := #[s, x], argTypes := #[26, 26] })
    (lo hi : Nat) (a : Option Addr) (c : Nat) (rs : List RecA) (hs : act.eval s = .slice a rs.length c) (hown : OwnRs w lo hi a c rs)
    (b off : Nat) (sc : Nat) (q : RecA) (hx : act.eval x = .slice (some ⟨b, off, none⟩) 1 sc) (hr : w.rangeAt b off q.cells) (l u : Nat) (hq : q.own w l u) (hl : hi ≤ l) (hu : u ≤ w.heap.size)
    (hb : rs.length + 1 ≤ 68719476736) (hlo : lo ≤ hi)
    (h : ∀ a' c' w', OwnRs w' lo w'.heap.size a' c' (rs ++ [q]) → w.grownBy w' (Value.slice a rs.length c).ownBlock → wpListIn F n Tryz.prog ops Q rest (act.put o.dst (.slice a' (rs ++ [q]).length c')) w') :
    wpListIn F n Tryz.prog ops Q (o :: rest) act w := by
  obtain ⟨a', c', w', hrun, h2, h3⟩ := run_append_rec (w := w) o.type lo hi a c rs hown b off sc q hr l u hq hl hu hb hlo
  refine stepIn_value hgd hF hsm ?_ (h a' c' w' h2 h3)
  unfold execOp
  simp only [ho, resolve, invoke, builtin, Sem.run_bind, Sem.run_pure, Result.andThen_ok, List.map_toArray, List.map_cons, List.map_nil, hs, hx, hrun]

/-- A range over a function that was made here: its record is laid, and the function is called with yield. -/
theorem rangeFunc_here {n : Nat} {P : Program} {g : Operand} {ps : Array Tmp} {assign body : Code} {Q : Exit → Act → World → Prop} {a : Act} {w : World} {gf : Nat} {lb : Array Value} (hg : a.eval g = .func (.func gf) #[] lb) (eg : ∀ args w, (callFunc gf args).run P w = .ok (.enter gf args) w)
    (h : ∀ (r : Loop) (W1 : World), r.state = .ready → r.pending = none → r.tmps = a.tmps → r.params = ps → r.assign = assign → r.body = body → W1.heap[w.heap.size + 1]? = some (.loop r) → W1.heap[w.heap.size]? = some (.deferred (some [])) → Below w.heap.size w W1 → W1.heap.size = w.heap.size + 2 →
      CallsIn Fence.wide (n - 1) P gf (#[.func (.yield (w.heap.size + 1)) #[] #[]] ++ lb) W1 (rangePost Fence.wide n P (w.heap.size + 1) Q { a with defers := [{ target := .collected w.heap.size, args := #[] }] ++ a.defers })) :
    (Code.rangeFunc g ps assign body).wpIn Fence.wide n P Q a w := by
  refine wpIn_rangeFunc ?_
  intro fn _
  obtain ⟨r, hr⟩ : ∃ r : Loop, ({ state := .ready, pending := none, fn := fn, tmps := a.tmps, params := ps, assign := assign, body := body, defers := w.heap.size } : Loop) = r := ⟨_, rfl⟩
  obtain ⟨W1, hW1⟩ : ∃ W1, (w.alloc (.deferred (some []))).alloc (.loop r) = W1 := ⟨_, rfl⟩
  have hL : W1.heap[w.heap.size + 1]? = some (.loop r) := by
    rw [← hW1]
    have := World.alloc_heap_new (w.alloc (.deferred (some []))) (.loop r)
    rwa [World.size_alloc] at this
  have hD : W1.heap[w.heap.size]? = some (.deferred (some [])) := by
    rw [← hW1]
    exact (Below.heap_alloc _ _ _ (by simp)).trans (World.alloc_heap_new w _)
  have hB : Below w.heap.size w W1 := by
    rw [← hW1]
    exact ((Below.refl _ w).alloc (Nat.le_refl _) _).alloc (by simp) _
  have hS : W1.heap.size = w.heap.size + 2 := by rw [← hW1]; simp
  have hc := h r W1 (by rw [← hr]) (by rw [← hr]) (by rw [← hr]) (by rw [← hr]) (by rw [← hr]) (by rw [← hr]) hL hD hB hS
  refine ⟨w.heap.size + 1, [{ target := .collected w.heap.size, args := #[] }], W1, { target := .fn (.func gf) lb, args := #[.func (.yield (w.heap.size + 1)) #[] #[]] }, W1, gf, #[.func (.yield (w.heap.size + 1)) #[] #[]] ++ lb, W1, ?_, ?_, ?_, ?_, ?_, ?_⟩
  · rw [← hW1, ← hr]
    exact run_enterLoop_outer fn a.tmps ps assign body
  · simp only [resolve, hg]
    simp [go_sem]
  · intro f' _
    trivial
  · simp [invoke, go_sem, eg]
  · intro hh
    have hn : Fence.wide.depth.isSome = false := rfl
    rw [hn] at hh
    cases hh
  · exact hc
theorem within_putObj (w : World) (l : Nat) (o : Obj) : Within l (l + 1) w (w.putObj l o) ∧ (w.putObj l o).heap.size = w.heap.size := by
  refine ⟨⟨rfl, rfl, rfl, by simp [World.putObj], fun k _ hn => World.putObj_heap_other (by omega)⟩, by simp [World.putObj]⟩
/-- One call of yield: the loop's variables are given, the record is busy, the body runs. -/
theorem yield_here {m : Nat} {P : Program} {l : Nat} {r : Loop} {args : Array Value} {W : World} {R : Ending → World → Prop} (hL : W.heap[l]? = some (.loop r)) (hs : args.size = r.params.size) (hrd : r.state = .ready)
    (h : r.assign.wpIn (Fence.wide.inRound l) m P (Exit.then (fun a1 w1 => w1.heap[l]? = some (.loop r) ∧ ∀ V, V.heap[l]? = some (.loop { r with state := .busy }) → Within l (l + 1) w1 V → V.heap.size = w1.heap.size → r.body.wpIn (Fence.wide.inRound l) m P (roundPost P l R) a1 V) (fun _ _ _ => False))
      { tmps := (r.params.zip args).foldl (fun t (p, v) => t.setIfInBounds p v) r.tmps, defers := [] } W) : YieldAt Fence.wide m P l args W R := by
  refine ⟨r.fn, _, r.assign, r.body, run_yield hL hs, roundIn_of_wpIn trivial (wpIn_mono h ?_)⟩
  intro e a1 w1 hp
  cases e with
  | normal => exact ⟨_, run_beginRound hp.1 hrd, hp.2 _ (World.putObj_heap_same (Array.getElem?_eq_some_iff.1 hp.1).1) (within_putObj w1 l _).1 (within_putObj w1 l _).2⟩
  | exit id => exact hp.elim
  | goto t => exact hp.elim
  | ret => exact hp.elim
  | panic ch => exact hp.elim
  | outgrown => exact hp.elim
/-- A round ends: its record says how. -/
theorem end_here {P : Program} {l : Nat} {r : Loop} {V : World} (jump : Option Code) (hL : V.heap[l]? = some (.loop r)) :
    ∃ X, (Instr.endRound l jump).run P V = .ok (.bool jump.isNone) X ∧ X.heap[l]? = some (.loop { r with state := if jump.isNone then .ready else .done, pending := jump }) ∧ Within l (l + 1) V X ∧ X.heap.size = V.heap.size :=
  ⟨_, run_endRound jump hL, World.putObj_heap_same (Array.getElem?_eq_some_iff.1 hL).1, (within_putObj V l _).1, (within_putObj V l _).2⟩
/-- A round that leaves by a jump. -/
theorem end_break {P : Program} {l : Nat} {r : Loop} {V : World} (c : Code) (hL : V.heap[l]? = some (.loop { r with state := .busy })) :
    ∃ X, (Instr.endRound l (some c)).run P V = .ok (.bool false) X ∧ X.heap[l]? = some (.loop { r with state := .done, pending := some c }) ∧ Within l (l + 1) V X ∧ X.heap.size = V.heap.size :=
  end_here (r := { r with state := .busy }) (some c) hL
/-- A round that goes on. -/
theorem end_go {P : Program} {l : Nat} {r : Loop} {V : World} (hst : r.state = .ready) (hpd : r.pending = none) (hL : V.heap[l]? = some (.loop { r with state := .busy })) :
    ∃ X, (Instr.endRound l none).run P V = .ok (.bool true) X ∧ X.heap[l]? = some (.loop r) ∧ Within l (l + 1) V X ∧ X.heap.size = V.heap.size := by
  obtain ⟨X, h1, h2, h3, h4⟩ := end_here (P := P) (r := { r with state := .busy }) none hL
  refine ⟨X, h1, ?_, h3, h4⟩
  rw [h2]
  cases r
  simp only at hst hpd
  subst hst hpd
  rfl
end Go.Proofs.YtbpdocjkhmiimabGreatDoor

/- The walk of the iterator that impl.framedRecs makes. -/
namespace Go.Proofs.YtbpdocjkhmiimabGreatDoor
open Go.RowKit Go.Shelf
attribute [local go_sem] Oper.semAt_some

set_option maxHeartbeats 4000000 in
set_option maxRecDepth 100000 in
theorem framed_in (m L B3 : Nat) (a : Option Addr) (c : Nat) (zs : List Int) (hl : zs.length ≤ 1099511627776) (hcap : zs.length ≤ c) (M : World → Nat) (J : List RecA → Int → Nat → World → Prop) (Jx : World → Prop)
    (hJ : ∀ ts p h W, J ts p h W → Box W B3 [.slice a zs.length c] 34 ∧ ErrT W ∧ Reads W a zs ∧ M W = 4000 - ts.length ∧ h ≤ W.heap.size)
    (hJb : ∀ ts p h W W', J ts p h W → Below W.heap.size W W' → J ts p h W')
    (hY : ∀ ts p h (t : RecA) W l u, J ts p h W → t.v = (frmOf zs p).1 → t.own W l u → h ≤ l → u ≤ W.heap.size → YieldAt Fence.wide m Tryz.prog L #[.agg t.cells.toArray, .int .i64 (frmOf zs p).2.1] W fun e W' =>
      (e = .returned (.bool true) ∧ (frmOf zs p).2.2 = true ∧ ts.length < 4000 ∧ J (ts ++ [t]) (frmOf zs p).2.1 W'.heap.size W') ∨ (e = .returned (.bool false) ∧ Jx W'))
    (W : World) (h0 : J [] 0 W.heap.size W) :
    CallsIn Fence.wide (m + 1) Tryz.prog 66 #[.func (.yield L) #[] #[], .pointer (some ⟨B3, 0, none⟩)] W fun e W' => (∃ v, e = .returned v) ∧ Jx W' := by
  have HI : Hid ((Tryz.prog.info? 59).map (·.size) = some 15) := by rw [Hid]; kernel_rfl
  refine callsIn_of_wp Tryz.func66 rfl trivial ?_ rfl
  simp only [Tryz.ntmps66, List.size_toArray, List.length_cons, List.length_nil, Nat.reduceAdd, Nat.reduceSub, Array.replicate_succ, Array.replicate_zero, List.push_toArray, List.append_toArray, List.nil_append, List.cons_append]
  gi_wp2
  gi_loopw [3, 4] (fun v g wr => ∃ (ts : List RecA) (p : Int) (h : Nat), v = .int .i64 p ∧ g = .bool true ∧ J ts p h wr) (fun _ _ wr => M wr)
  case atStart => exact ⟨[], 0, _, rfl, rfl, h0⟩
  case round =>
    obtain ⟨ts, p, h, rfl, rfl, hj⟩ := hrel
    obtain ⟨bx, hg, hrd, hM, hh⟩ := hJ ts p h wr hj
    obtain ⟨W1, hW1, z1, hb1, hs1⟩ := boxes1 wr [.int .i64 0, .int .i64 0, .int .i64 0, .int .i64 0, .int .i64 0, .bool false, .int .i64 0, .slice none 0 0, .slice none 0 0, .bool false, .int .i64 0, .slice none 0 0, .slice none 0 0, .int .i64 0, .slice none 0 0] 59
    have hlt1 := z1.lt
    have hs1' := hb1.size
    clear hs1
    have bx1 := bx.below hb1 bx.lt
    have C := readFramed_any a c zs p W1 (hg.keep hb1) (hrd.below hb1) hl hcap
    have x0 := bx1.cell 0 _ rfl
    gi_upto_region 3 with fail
    rw [hW1.out]
    clear hW1
    gi_wp2_with fail
    refine ⟨trivial, ?_⟩
    gi_at_call 67
    refine (callsIn_wide.2 C).mono ?_
    clear C x0
    rintro e w2 ⟨t, rfl, hv, ot, hb2⟩
    have hs2 := hb2.size
    have z2 := z1.below hb2 z1.lt
    have bx2 := bx1.below hb2 bx1.lt
    obtain ⟨W3, hW3, hw3, hs3, HT3, _, z3⟩ := rec_out t _ rfl z2
    have hs3a := Nat.le_of_eq hs3
    have hs3b := Nat.le_of_eq hs3.symm
    clear hs3
    have R3 : Hid (W3.rangeAt wr.heap.size 0 t.cells) := Box.range [] t.cells [] (by simpa using z3)
    have ot3 : t.own W3 W1.heap.size w2.heap.size := ot.within hw3 (.inr (by omega))
    have B3' : Below wr.heap.size wr W3 := (hb1.trans (hb2.mono hs1')).trans (hw3.below (Nat.le_refl _) (by omega))
    have hj3 := hJb ts p h wr W3 hj B3'
    have hOt := rec_one t
    obtain ⟨fn, tmps, assign, body, hy, hR⟩ := hY ts p h t W3 W1.heap.size w2.heap.size hj3 hv.out ot3 (by omega) (by omega)
    have HN : Hid (∀ W' : World, J (ts ++ [t]) (frmOf zs p).2.1 W'.heap.size W' → M W' = 4000 - (ts.length + 1)) := fun W' hh => by have := (hJ _ _ _ _ hh).2.2.2.1; simpa using this
    clear hj hj3 bx bx1 bx2 z1 z2 z3 hb1 hb2 hw3 ot ot3 B3' hv hg hrd
    generalize (frmOf zs p).2.1 = q at *
    generalize (frmOf zs p).2.2 = ok at *
    gi_upto_region 4 with (first | (guard_target = wpListIn _ _ _ _ _ (Oper.mk none (Op.store _ (Operand.tmp 5) _) _ _ _ _ :: _) _ _; refine storeIn_mid rfl (fun _ => trivial) rfl 59 (.tmp 5) (.tmp 11) rfl wr.heap.size 0 t.cells.toArray rfl rfl HT3.out HI.out hOt ?_) | fail)
    rw [hW3.out]
    clear hW3 HT3 hOt
    gi_wp2_with (first | (guard_target = wpListIn _ _ _ _ _ (Oper.mk (some 15) _ _ _ _ _ :: _) _ _; refine loadIn_mid rfl (fun _ => trivial) rfl 59 (.tmp 5) rfl wr.heap.size 0 rfl t.cells _ R3.out Tryz.underlying59 rfl HI.out ?_) | fail)
    refine hR.mono ?_
    rintro e W4 (⟨rfl, rfl, hlt, hj4⟩ | ⟨rfl, hx4⟩)
    · have HMM : Hid (M W4 = 4000 - (ts.length + 1)) := HN.out W4 hj4
      have HMW : Hid (M wr = 4000 - ts.length) := hM
      clear hM
      gi_wp2
      go_roundw
      case rel => exact ⟨ts ++ [t], q, _, rfl, rfl, hj4⟩
      case measure => rw [HMM.out, HMW.out]; omega
    · gi_wp2
      exact bodyPost_ret (results_none rfl _ _ _) rfl ⟨⟨_, rfl⟩, hx4⟩
end Go.Proofs.YtbpdocjkhmiimabGreatDoor

/- The walk of impl.LogOk. -/
namespace Go.Proofs.YtbpdocjkhmiimabGreatDoor
open Go.RowKit

theorem lsnAt_any (p : Int) (w : World) (h : 0 ≤ p ∧ p ≤ 1099511627776) :
    Calls Tryz.prog 39 #[.int .i64 p] w fun e w' => e = .returned (.int .i64 (p + 1)) ∧ w' = w := by
  go_enter Tryz.func39, Tryz.ntmps39
  go_wp2
  go_ret
  exact ⟨rfl, rfl⟩

set_option maxHeartbeats 4000000 in
set_option maxRecDepth 100000 in
theorem implLogOk_any (l : LogA) (w : World) (hg : ErrT w) (hr : l.reads w) (hl : l.short 1099511627776) :
    Calls Tryz.prog 25 #[.agg l.cells.toArray] w fun e w' => e = .returned (.bool (okLog l.v)) ∧ Below w.heap.size w w' := by
  have HLEN : Hid (¬ l.recs.length ≤ 4000 → okLog l.v = false) := fun h => okLog_len (by rw [l.v_len]; exact h)
  have HSURE : Hid (¬ (0 ≤ l.sure ∧ l.sure ≤ l.recs.length) → okLog l.v = false) := fun h => okLog_sure (by rw [l.v_len]; unfold inB; exact decide_eq_false h)
  have HNO : Hid (∀ k, k < l.recs.length → (((l.recs.getD k zeroR).lsn == (k + 1 : Int)) && okR (l.recs.getD k zeroR).v) = false → okLog l.v = false) := fun k hk h => okLog_no k (by rw [l.v_len]; exact hk) (by rw [okAt_v]; exact h)
  have HALL : Hid (l.recs.length ≤ 4000 → 0 ≤ l.sure ∧ l.sure ≤ l.recs.length → (∀ k, k < l.recs.length → (((l.recs.getD k zeroR).lsn == (k + 1 : Int)) && okR (l.recs.getD k zeroR).v) = true) → okLog l.v = true) := fun h0 h1 h => okLog_all (by rw [l.v_len]; exact h0) (by rw [l.v_len]; unfold inB; exact decide_eq_true h1) (fun k hk => by rw [okAt_v]; exact h k (by rw [l.v_len] at hk; exact hk))
  generalize okLog l.v = R at *
  have HS : Hid (∀ k, k < l.recs.length → (l.recs.getD k zeroR).short 1099511627776) := fun k hk => hl.at k hk
  have hlen := hl.len
  obtain ⟨rs, s, a, c⟩ := l
  simp only [LogA.reads, LogA.cells] at *
  obtain ⟨W, hW, b0, hbW, hsW⟩ := boxes1 w [.slice a rs.length c, .int .i64 s] 28
  have c0 := b0.cell 0 _ rfl
  have c1 := b0.cell 1 _ rfl
  clear hl hsW
  have HC : Hid (∀ k, k < rs.length → ∃ b off, a = some ⟨b, off, none⟩ ∧ W.rangeAt b (off + k * 15) (rs.getD k zeroR).cells ∧ (rs.getD k zeroR).reads W) := fun k hk => by
    obtain ⟨b, off, ha, hc⟩ := (ReadsRs.below hr hbW) (by intro e; rw [e] at hk; simp at hk)
    exact ⟨b, off, ha, hc k hk⟩
  have HI : Hid ((Tryz.prog.info? 59).map (·.size) = some 15) := by rw [Hid]; kernel_rfl
  have HG : Hid (∀ u, Below W.heap.size W u → ErrT u) := fun u hu => hg.keep (hbW.trans (hu.mono hbW.size))
  clear hr hg
  by_cases h4 : rs.length ≤ 4000
  case neg =>
    have HR : Hid (R = false) := HLEN.out h4
    clear HLEN HSURE HNO HALL
    go_enter Tryz.func25, Tryz.ntmps25
    go_wp2_with fail
    rw [hW.out]
    go_ret
    exact ⟨ret_bool HR.out.symm, hbW⟩
  case pos =>
    by_cases h5 : 0 ≤ s
    case neg =>
      have HR : Hid (R = false) := HSURE.out (fun h => h5 h.1)
      clear HLEN HSURE HNO HALL
      go_enter Tryz.func25, Tryz.ntmps25
      go_wp2_with fail
      rw [hW.out]
      go_ret
      exact ⟨ret_bool HR.out.symm, hbW⟩
    by_cases h6 : s ≤ rs.length
    case neg =>
      have HR : Hid (R = false) := HSURE.out (fun h => h6 h.2)
      clear HLEN HSURE HNO HALL
      go_enter Tryz.func25, Tryz.ntmps25
      go_wp2_with fail
      rw [hW.out]
      go_ret
      exact ⟨ret_bool HR.out.symm, hbW⟩
    have HRES : Hid ((∀ k, k < rs.length → (((rs.getD k zeroR).lsn == (k + 1 : Int)) && okR (rs.getD k zeroR).v) = true) → R = true) := HALL.out h4 ⟨h5, h6⟩
    clear HALL HLEN HSURE
    go_enter Tryz.func25, Tryz.ntmps25
    go_wp2_with fail
    rw [hW.out]
    clear hW
    go_loopw [25] (fun i wr => ∃ k : Nat, k ≤ rs.length ∧ i = .int .i64 k ∧ Hid (∀ j, j < k → (((rs.getD j zeroR).lsn == (j + 1 : Int)) && okR (rs.getD j zeroR).v) = true) ∧ Below W.heap.size W wr) (fun i _ => rs.length - (intOf i).toNat)
    case atStart => exact ⟨0, Nat.zero_le _, rfl, fun j hj => by omega, Below.refl _ _⟩
    case round =>
      obtain ⟨k, hk, rfl, hall, hbl⟩ := hrel
      have hbm : Below w.heap.size w wr := hbW.trans (hbl.mono hbW.size)
      clear c0 c1
      by_cases hlt : k < rs.length
      · obtain ⟨b, off, rfl, hcell, hrd⟩ := HC.out k hlt
        have HR : Hid (wr.rangeAt b (off + k * 15) (rs.getD k zeroR).cells) := range_below hcell hbl
        have hrd' := hrd.below hbl
        have hsh := HS.out k hlt
        have HN : Hid ((((rs.getD k zeroR).lsn == (k + 1 : Int)) && okR (rs.getD k zeroR).v) = false → R = false) := HNO.out k hlt
        have HY : Hid ((((rs.getD k zeroR).lsn == (k + 1 : Int)) && okR (rs.getD k zeroR).v) = true → ∀ j, j < k + 1 → (((rs.getD j zeroR).lsn == (j + 1 : Int)) && okR (rs.getD j zeroR).v) = true) := fun h j hj => by
          by_cases e : j = k
          · rw [e]; exact h
          · exact hall.out j (by omega)
        clear hcell HC HNO hall HS hrd HRES
        generalize rs.getD k zeroR = y at *
        obtain ⟨W1, hW1, b1, hb1, hs1⟩ := boxes1 wr [.int .i64 0, .int .i64 0, .int .i64 0, .int .i64 0, .int .i64 0, .bool false, .int .i64 0, .slice none 0 0, .slice none 0 0, .bool false, .int .i64 0, .slice none 0 0, .slice none 0 0, .int .i64 0, .slice none 0 0] 59
        obtain ⟨W2, hW2, hw2, hs2, HT2, _, b2⟩ := rec_out y _ rfl b1
        have B2 : Below wr.heap.size wr W2 := hb1.trans (hw2.below (Nat.le_refl _) (by omega))
        have HRG : Hid (∀ u, Below W2.heap.size W2 u → u.rangeAt wr.heap.size 0 y.cells) := fun u hu => Box.range [] y.cells [] (by simpa using b2.below hu b2.lt)
        have C2 : Below W.heap.size W W2 := hbl.trans (B2.mono hbl.size)
        have hrd2 := hrd'.below B2
        have hO := rec_one y
        have D2 : Below w.heap.size w W2 := hbm.trans (B2.mono hbm.size)
        clear b1 b2 hw2 hs2 hs1 hb1 B2 hrd' hbl hbm
        go_wp2_with (first | (guard_target = wpList _ _ _ (Oper.mk (some 29) _ _ _ _ _ :: _) _ _; refine wpList_load_mid rfl 59 (.tmp 28) rfl b (off + k * 15) rfl y.cells _ HR.out Tryz.underlying59 rfl HI.out ?_) | (guard_target = wpList _ _ _ (Oper.mk none (Op.store _ (Operand.tmp 4) _) _ _ _ _ :: _) _ _; refine wpList_store_mid rfl 59 (.tmp 4) (.tmp 29) rfl wr.heap.size 0 y.cells.toArray rfl rfl (by rw [hW1.out]; exact HT2.out) HI.out hO ?_) | fail)
        rw [hW1.out, hW2.out]
        clear hW1 hW2 HT2 HR
        refine wp_region_held_drew (S := fun w' => w'.rangeAt wr.heap.size 0 y.cells) (by kernel_rfl) ?_ (fun hHeld => ?_)
        · exact HRG.out _ (Below.refl _ _).drew
        refine wpAnyH_take (i := 0) (v := .pointer (some ⟨wr.heap.size, 0, none⟩)) rfl (by kernel_rfl) (by kernel_rfl) (by kernel_rfl) (fun _ _ _ h => h) (Or.inl ⟨by rfl, ?_⟩) hHeld ?_
        · intro w' hSw
          go_simp <;> rfl
        try simp only [Act.put, List.getElem_toArray, List.getElem_cons_zero, List.setIfInBounds_toArray, List.set_cons_zero, List.set_cons_succ]
        refine wpAnyH_take (i := 1) (v := .int .i64 y.lsn) rfl (by kernel_rfl) (by kernel_rfl) (by kernel_rfl) (fun _ _ _ h => h) (Or.inl ⟨by rfl, ?_⟩) hHeld ?_
        · intro w' hSw
          have hx : w'.cell? ⟨wr.heap.size, 0, none⟩ = some (.int .i64 y.lsn) := hSw 0 _ rfl
          go_simp <;> rfl
        try simp only [Act.put, List.getElem_toArray, List.getElem_cons_zero, List.getElem_cons_succ, List.setIfInBounds_toArray, List.set_cons_zero, List.set_cons_succ]
        refine wpAnyH_take (i := 2) (v := .int .i64 k) rfl (by kernel_rfl) (by kernel_rfl) (by kernel_rfl) (fun _ _ _ h => h) (Or.inl ⟨by rfl, ?_⟩) hHeld ?_
        · intro w' hSw
          go_simp <;> rfl
        try simp only [Act.put, List.getElem_toArray, List.getElem_cons_zero, List.getElem_cons_succ, List.setIfInBounds_toArray, List.set_cons_zero, List.set_cons_succ]
        refine wpAnyH_ready (rs := [3]) (by kernel_rfl) (by simp) ?_
        refine AllReadyH.cons rfl (fun K hK => ?_) AllReadyH.nil
        go_simp
        refine (lsnAt_any k _ (by omega)).mono ?_
        rintro e w3 ⟨rfl, rfl⟩
        refine hK.out _ _ (HRG.out _ (Below.refl _ _).drew) (fun hHeld => ?_)
        clear hK K
        try simp only [Act.put, List.getElem_toArray, List.getElem_cons_zero, List.getElem_cons_succ, List.setIfInBounds_toArray, List.set_cons_zero, List.set_cons_succ]
        refine wpAnyH_take (i := 4) (v := .bool (y.lsn != (k : Int) + 1)) rfl (by kernel_rfl) (by kernel_rfl) (by kernel_rfl) (fun _ _ _ h => h) (Or.inl ⟨by rfl, ?_⟩) hHeld ?_
        · intro w' hSw
          go_simp <;> rfl
        try simp only [Act.put, List.getElem_toArray, List.getElem_cons_zero, List.getElem_cons_succ, List.setIfInBounds_toArray, List.set_cons_zero, List.set_cons_succ]
        cases h6 : (y.lsn == (k + 1 : Int)) with
        | false =>
          have HR2 : Hid (R = false) := HN.out (by rw [h6]; rfl)
          have h6b : (y.lsn != (k : Int) + 1) = true := by simp only [bne, h6, Bool.not_false]
          rw [h6b]
          clear h6 HN HY h6b
          refine wpAnyH_take (i := 5) (v := .bool true) rfl (by kernel_rfl) (by kernel_rfl) (by kernel_rfl) (fun _ _ _ h => h) (Or.inl ⟨by rfl, ?_⟩) hHeld ?_
          · intro w' hSw
            go_simp <;> rfl
          try simp only [Act.put, List.getElem_toArray, List.getElem_cons_zero, List.getElem_cons_succ, List.setIfInBounds_toArray, List.set_cons_zero, List.set_cons_succ]
          refine wpAnyH_take (i := 6) (v := undef) rfl (by kernel_rfl) (by kernel_rfl) (by kernel_rfl) (fun _ _ _ h => h) (Or.inr ⟨by rfl, rfl⟩) hHeld ?_
          try simp only [Act.put, List.getElem_toArray, List.getElem_cons_zero, List.getElem_cons_succ, List.setIfInBounds_toArray, List.set_cons_zero, List.set_cons_succ]
          refine wpAnyH_take (i := 7) (v := undef) rfl (by kernel_rfl) (by kernel_rfl) (by kernel_rfl) (fun _ _ _ h => h) (Or.inr ⟨by rfl, rfl⟩) hHeld ?_
          try simp only [Act.put, List.getElem_toArray, List.getElem_cons_zero, List.getElem_cons_succ, List.setIfInBounds_toArray, List.set_cons_zero, List.set_cons_succ]
          refine wpAnyH_take (i := 8) (v := undef) rfl (by kernel_rfl) (by kernel_rfl) (by kernel_rfl) (fun _ _ _ h => h) (Or.inr ⟨by rfl, rfl⟩) hHeld ?_
          try simp only [Act.put, List.getElem_toArray, List.getElem_cons_zero, List.getElem_cons_succ, List.setIfInBounds_toArray, List.set_cons_zero, List.set_cons_succ]
          refine wpAnyH_take (i := 9) (v := .bool true) rfl (by kernel_rfl) (by kernel_rfl) (by kernel_rfl) (fun _ _ _ h => h) (Or.inl ⟨by rfl, ?_⟩) hHeld ?_
          · intro w' hSw
            go_simp <;> rfl
          try simp only [Act.put, List.getElem_toArray, List.getElem_cons_zero, List.getElem_cons_succ, List.setIfInBounds_toArray, List.set_cons_zero, List.set_cons_succ]
          refine wpAnyH_done (by kernel_rfl) ?_ _
          go_wp2_with fail
          go_ret
          exact ⟨ret_bool HR2.out.symm, D2.drew⟩
        | true =>
          rw [h6, Bool.true_and] at HN HY
          have h6b : (y.lsn != (k : Int) + 1) = false := by simp only [bne, h6, Bool.not_true]
          rw [h6b]
          clear h6 h6b
          refine wpAnyH_take (i := 5) (v := .bool false) rfl (by kernel_rfl) (by kernel_rfl) (by kernel_rfl) (fun _ _ _ h => h) (Or.inl ⟨by rfl, ?_⟩) hHeld ?_
          · intro w' hSw
            go_simp <;> rfl
          try simp only [Act.put, List.getElem_toArray, List.getElem_cons_zero, List.getElem_cons_succ, List.setIfInBounds_toArray, List.set_cons_zero, List.set_cons_succ]
          refine wpAnyH_take (i := 6) rfl (by kernel_rfl) (by kernel_rfl) (by kernel_rfl) (fun _ _ _ h => h) (yieldsIf_load_mid (by rfl) _ _ rfl _ _ rfl y.cells _ (fun _ h => h) Tryz.underlying59 rfl HI.out) hHeld ?_
          try simp only [Act.put, List.getElem_toArray, List.getElem_cons_zero, List.getElem_cons_succ, List.setIfInBounds_toArray, List.set_cons_zero, List.set_cons_succ]
          refine wpAnyH_ready (rs := [7]) (by kernel_rfl) (by simp) ?_
          refine AllReadyH.cons rfl (fun K hK => ?_) AllReadyH.nil
          go_simp
          refine (implRecOk_any y _ (HG.out _ C2.drew) (hrd2.below (Below.refl _ _).drew) hsh).mono ?_
          rintro e w4 ⟨rfl, hb4⟩
          have hb4' : Below W2.heap.size W2 w4 := (Below.refl _ _).drew.trans hb4
          have D4 : Below w.heap.size w w4 := D2.trans (hb4'.mono D2.size)
          have C4 : Below W.heap.size W w4 := C2.trans (hb4'.mono C2.size)
          refine hK.out _ _ (HRG.out _ hb4') (fun hHeld => ?_)
          clear hK K
          try simp only [Act.put, List.getElem_toArray, List.getElem_cons_zero, List.getElem_cons_succ, List.setIfInBounds_toArray, List.set_cons_zero, List.set_cons_succ]
          cases h7 : okR y.v with
          | false =>
            have HR2 : Hid (R = false) := HN.out h7
            clear HN HY
            refine wpAnyH_take (i := 8) (v := .bool true) rfl (by kernel_rfl) (by kernel_rfl) (by kernel_rfl) (fun _ _ _ h => h) (Or.inl ⟨by rfl, ?_⟩) hHeld ?_
            · intro w' hSw
              go_simp <;> rfl
            try simp only [Act.put, List.getElem_toArray, List.getElem_cons_zero, List.getElem_cons_succ, List.setIfInBounds_toArray, List.set_cons_zero, List.set_cons_succ]
            refine wpAnyH_take (i := 9) (v := .bool true) rfl (by kernel_rfl) (by kernel_rfl) (by kernel_rfl) (fun _ _ _ h => h) (Or.inl ⟨by rfl, ?_⟩) hHeld ?_
            · intro w' hSw
              go_simp <;> rfl
            try simp only [Act.put, List.getElem_toArray, List.getElem_cons_zero, List.getElem_cons_succ, List.setIfInBounds_toArray, List.set_cons_zero, List.set_cons_succ]
            refine wpAnyH_done (by kernel_rfl) ?_ _
            go_wp2_with fail
            go_ret
            exact ⟨ret_bool HR2.out.symm, D4⟩
          | true =>
            have HY2 := HY.out h7
            clear HN HY
            refine wpAnyH_take (i := 8) (v := .bool false) rfl (by kernel_rfl) (by kernel_rfl) (by kernel_rfl) (fun _ _ _ h => h) (Or.inl ⟨by rfl, ?_⟩) hHeld ?_
            · intro w' hSw
              go_simp <;> rfl
            try simp only [Act.put, List.getElem_toArray, List.getElem_cons_zero, List.getElem_cons_succ, List.setIfInBounds_toArray, List.set_cons_zero, List.set_cons_succ]
            refine wpAnyH_take (i := 9) (v := .bool false) rfl (by kernel_rfl) (by kernel_rfl) (by kernel_rfl) (fun _ _ _ h => h) (Or.inl ⟨by rfl, ?_⟩) hHeld ?_
            · intro w' hSw
              go_simp <;> rfl
            try simp only [Act.put, List.getElem_toArray, List.getElem_cons_zero, List.getElem_cons_succ, List.setIfInBounds_toArray, List.set_cons_zero, List.set_cons_succ]
            refine wpAnyH_done (by kernel_rfl) ?_ _
            go_wp2_with fail
            go_roundw
            case rel => exact ⟨k + 1, by omega, by go_num, HY2, C4⟩
            case measure => simp [intOf]; omega
      · have HR : Hid (R = true) := HRES.out (fun j hj => hall.out j (by omega))
        clear HNO HRES
        go_wp2
        go_ret
        exact ⟨ret_bool HR.out.symm, hbm⟩
end Go.Proofs.YtbpdocjkhmiimabGreatDoor
