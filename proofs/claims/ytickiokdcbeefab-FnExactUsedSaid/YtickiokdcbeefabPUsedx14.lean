/- Several texts in one, in their order. -/
import Derived.Test.YtickiokdcbeefabPUsedx10
import Derived.Test.YtickiokdcbeefabPUsedx13
import Derived.Test.YtickiokdcbeefabPUsedx4
import Derived.Test.YtickiokdcbeefabPUsedx5
/- Plain mathematics of SetSlot; results that are a page and a flag. -/
namespace Go.Proofs.Ytickiokdcbeefab
open Go.RowKit

def setOk (n : Int) (vs : List SlotV) (slot : Int) (s : SlotV) (lsn : Int) : Bool := okP n vs && (inB slot 0 3 && (slotB s && inB lsn n 1000000))
def setOf (n : Int) (vs : List SlotV) (slot : Int) (s : SlotV) (lsn : Int) : Int × List SlotV := if setOk n vs slot s lsn then (lsn, vs.set slot.toNat s) else (n, vs)
theorem setOf_no {n : Int} {vs : List SlotV} {slot : Int} {s : SlotV} {lsn : Int} (h : setOk n vs slot s lsn = false) : setOf n vs slot s lsn = (n, vs) := by unfold setOf; rw [if_neg (by rw [h]; decide)]
theorem setOf_ok {n : Int} {vs : List SlotV} {slot : Int} {s : SlotV} {lsn : Int} (h : setOk n vs slot s lsn = true) : setOf n vs slot s lsn = (lsn, vs.set slot.toNat s) := by unfold setOf; rw [if_pos h]
theorem setOk_p {n : Int} {vs : List SlotV} {slot : Int} {s : SlotV} {lsn : Int} (h : okP n vs = false) : setOk n vs slot s lsn = false := by simp [setOk, h]
theorem setOk_slot {n : Int} {vs : List SlotV} {slot : Int} {s : SlotV} {lsn : Int} (h : inB slot 0 3 = false) : setOk n vs slot s lsn = false := by simp [setOk, h]
theorem setOk_s {n : Int} {vs : List SlotV} {slot : Int} {s : SlotV} {lsn : Int} (h : slotB s = false) : setOk n vs slot s lsn = false := by simp [setOk, h]
theorem setOk_lsn {n : Int} {vs : List SlotV} {slot : Int} {s : SlotV} {lsn : Int} (h : inB lsn n 1000000 = false) : setOk n vs slot s lsn = false := by simp [setOk, h]
theorem setOk_all {n : Int} {vs : List SlotV} {slot : Int} {s : SlotV} {lsn : Int} (h1 : okP n vs = true) (h2 : inB slot 0 3 = true) (h3 : slotB s = true) (h4 : inB lsn n 1000000 = true) : setOk n vs slot s lsn = true := by simp [setOk, h1, h2, h3, h4]

theorem results_cell_flag {P : Program} {fn : Func} {s t : Nat} {ty : TypeId} {tmps : Array Value} {w : World} {v b : Value} {ad : Addr} (hf : fn.results = #[.cell s ty, .tmp t]) (ht : tmps[s]?.getD undef = .pointer (some ad)) (hl : (loadVar ty ad).run P w = .ok v w) (hb : tmps[t]?.getD undef = b) : (results fn tmps).run P w = .ok (.tuple #[v, b]) w := by
  unfold results
  rw [hf]
  simp [ht, asAddr, hl, hb]

/-- A whole value loaded where a guard stands ahead of it that lets it by. -/
theorem wpList_load_mid_if {ops : Array Oper} {rest : List Oper} {op : Oper} {a : Act} {w : World} {Q : Exit → Act → World → Prop} {P : Program} (hw : Region.wanted op (yielded ops a.tmps) = true) (ty : TypeId) (x : Operand) (ho : op.op = .load ty x)
    (b o : Nat) (hx : a.eval x = .pointer (some ⟨b, o, none⟩)) (cs : List Value) (d : TypeDesc) (hc : w.rangeAt b o cs)
    (hu : P.underlying ty = some d) (hd : d.isRow = true) (hi : (P.info? ty).map (·.size) = some cs.length)
    (h : wpList P ops Q rest (a.put op.dst (.agg cs.toArray)) w) : wpList P ops Q (op :: rest) a w :=
  wpList_step fun _ hK => by
    simp only [hw, if_true]
    exact wp_load_mid ty x ho b o hx cs d hc hu hd hi (hK _ _ h)

def zero17 : List Value := [.int .i64 0, .bool false, .int .i64 0, .slice none 0 0, .slice none 0 0, .bool false, .int .i64 0, .slice none 0 0, .slice none 0 0, .bool false, .int .i64 0, .slice none 0 0, .slice none 0 0, .bool false, .int .i64 0, .slice none 0 0, .slice none 0 0]

/-- A page at B is stored at C, which holds a page: what is there then, and what the result reads. -/
theorem page_out {w : World} {C : Nat} {T : TypeId} {d : TypeDesc} (q : PageA) (hq : q.ss.length = 4) (old : List Value) (ho : old.length = 17) (bC : Box w C old T) (hu : Try.prog.underlying T = some d) (hd : d.isRow = true) (hi : (Try.prog.info? T).map (·.size) = some 17) :
    ∃ WF, Hid (w.setCells C 0 q.cells = WF) ∧ Within C (C + 1) w WF ∧ WF.heap.size = w.heap.size ∧ Hid (w.there C 0 q.cells.toArray.size) ∧ Hid ((loadVar T ⟨C, 0, none⟩).run Try.prog WF = .ok (.agg q.cells.toArray) WF) ∧ Box WF C q.cells T := by
  have hl : q.cells.length = 17 := page_len q hq
  obtain ⟨WF, hWF, bF, hwF, hsF⟩ := range_fill [] old q.cells [] (by simpa using bC) (by rw [hl, ho])
  have bF' : Box WF C q.cells T := by simpa using bF
  refine ⟨WF, hWF, hwF, hsF, bC.there 0 _ (by rw [List.size_toArray, hl, ho]; omega), ?_, bF'⟩
  exact run_loadVar_mid (P := Try.prog) WF C 0 T q.cells d (Box.range [] q.cells [] (by simpa using bF')) hu hd (by rw [hi, hl])
end Go.Proofs.Ytickiokdcbeefab

/- The walks of laws.markSlotA4, markPage, heldSlotA4, heldPage. -/
namespace Go.Proofs.Ytickiokdcbeefab
open Go.RowKit

theorem fit_at {ss : List SlotA} (h : Fit ss) {k : Nat} (hk : k < ss.length) : (ss.getD k zeroS).v.o.ints.length ≤ 1099511627776 ∧ (ss.getD k zeroS).v.o.refs.length ≤ 1099511627776 := h _ (getD_mem hk)

end Go.Proofs.Ytickiokdcbeefab
