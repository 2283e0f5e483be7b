/- Several texts in one, in their order. -/
import Derived.Test.YtoboickdkednkaaGreatDoorPAppendx1
import Derived.ProofKit
import Derived.OpenShut
import Derived.ChangeOld
import Derived.ChangeArms
import Derived.Test.YtoboickdkednkaaGreatDoorPAppendx2
import Derived.Test.YtoboickdkednkaaGreatDoorPAppendx3
import Derived.Test.YtoboickdkednkaaGreatDoorProg
import Derived.LaidEql
import Derived.Stop.Asserts
import Derived.RowKitTokens
import Derived.Deep.QuietTactic
/- What came in, read: a slice of numbers, an object. -/
namespace Go.Proofs.YtoboickdkednkaaGreatDoor
open Go.ChangeShapes Go.WideShapes Go.ChangeAt Go.RowKit

def InI64 (z : Int) : Prop := -9223372036854775808 ≤ z ∧ z ≤ 9223372036854775807
theorem wf_i64 {z : Int} (h : (Lit.int .i64 z).wf = true) : InI64 z := by
  simp [Lit.wf, IntKind.min, IntKind.max, IntKind.signed, IntKind.bits] at h
  unfold InI64; omega

theorem some_at {α : Type} (xs : List α) (i : Nat) (h : i < xs.length) : ∃ y, xs[i]? = some y := ⟨_, List.getElem?_eq_getElem h⟩

section
variable {H : Type} {enc : TypeId × Value → H} {w : World} {base : Nat} {spare : Nat → Bool} {held : Bool}

theorem trod_ints {fuel : Nat} {cs : List Value} {x : DataW H × List MemPlace} (h : DataW.trod enc Tryz.prog w base spare held fuel 32 cs = some x) :
    ∃ (a : Option Addr) (c : Nat) (ns : List Int), cs = [.slice a ns.length c] ∧ ReadsI w a ns ∧ (a = none → c = 0) ∧ ns.length ≤ maxLen ∧ ∀ z ∈ ns, InI64 z := by
  rcases open_ints Tryz.underlying32 Tryz.underlying3 (by kernel_rfl) h with ⟨rfl, _⟩ | ⟨a, len, cap, zs, rfl, _, hl, hm, hz, _, hcell, hwf⟩
  · exact ⟨none, 0, [], rfl, fun h => absurd rfl h, fun _ => rfl, by simp, by simp⟩
  · have hlz : len ≤ zs.length := by rw [hz]; split <;> omega
    refine ⟨some a, cap, zs.take len, by simp; omega, ?_, (fun h => by cases h), by simp; omega, fun z hzz => wf_i64 (hwf z (List.mem_of_mem_take hzz))⟩
    intro hne
    have hpos := List.length_pos_iff.2 hne
    simp at hpos
    obtain ⟨b, off, spot⟩ := a
    have hc0 := hcell 0 (by omega)
    have hspot : spot = none := by simpa [Addr.add] using World.cell?_spot hc0
    subst hspot
    refine ⟨b, off, rfl, fun i hi => ?_⟩
    have hi' : i < len := by simp at hi; omega
    have := hcell i (by omega)
    have e : (List.take len zs).getD i 0 = zs.getD i 0 := by simp [List.getD, hi']
    rw [e, ← Addr_add]
    exact this

theorem trod_num {fuel : Nat} {cs : List Value} {x : DataW H × List MemPlace} (h : DataW.trod enc Tryz.prog w base spare held fuel 3 cs = some x) : ∃ n : Int, cs = [.int .i64 n] ∧ InI64 n := by
  obtain ⟨n, rfl, _, hw⟩ := DataW.trod_int Tryz.underlying3 h
  exact ⟨n, rfl, wf_i64 hw⟩

theorem Tryz.cellsI : Tryz.prog.cellsOf 3 = 1 := by kernel_rfl
theorem Tryz.cellsIs : Tryz.prog.cellsOf 32 = 1 := by kernel_rfl
theorem Tryz.cellsO : Tryz.prog.cellsOf 47 = 3 := by kernel_rfl

set_option maxRecDepth 100000 in
theorem trod_obj {fuel : Nat} {cs : List Value} {x : DataW H × List MemPlace} (h : DataW.trod enc Tryz.prog w base spare held fuel 47 cs = some x) :
    ∃ (o : ObjV) (aI : Option Addr) (cI : Nat) (aR : Option Addr) (cR : Nat), cs = [.int .i64 o.kind, .slice aI o.ints.length cI, .slice aR o.refs.length cR] ∧ ReadsO w aI cI aR cR o ∧ o.ints.length ≤ maxLen ∧ o.refs.length ≤ maxLen ∧ InI64 o.kind ∧ (∀ z ∈ o.ints, InI64 z) ∧ (∀ z ∈ o.refs, InI64 z) := by
  obtain ⟨xs, n, _, _, hlen, hxl, hf⟩ := DataW.trod_struct Tryz.underlying47 h
  rw [Tryz.cellsO] at hlen
  match cs, hlen with
  | [v0, v1, v2], _ =>
    have f0 := hf 0 _ rfl
    have f1 := hf 1 _ rfl
    have f2 := hf 2 _ rfl
    obtain ⟨y0, hx0⟩ := some_at xs 0 (by rw [hxl]; decide)
    obtain ⟨y1, hx1⟩ := some_at xs 1 (by rw [hxl]; decide)
    obtain ⟨y2, hx2⟩ := some_at xs 2 (by rw [hxl]; decide)
    rw [hx0] at f0
    rw [hx1] at f1
    rw [hx2] at f2
    simp only [List.getElem_toArray, List.getElem_cons_zero, List.getElem_cons_succ, Tryz.cellsI, Tryz.cellsIs, List.drop, List.take] at f0 f1 f2
    obtain ⟨k, e0, wk⟩ := trod_num f0
    obtain ⟨aI, cI, ints, e1, hI, nI, lI, wI⟩ := trod_ints f1
    obtain ⟨aR, cR, refs, e2, hR, nR, lR, wR⟩ := trod_ints f2
    simp only [List.cons.injEq, and_true] at e0 e1 e2
    subst e0 e1 e2
    exact ⟨⟨k, ints, refs⟩, aI, cI, aR, cR, rfl, ⟨hI, hR, nI, nR⟩, lI, lR, wk, wI, wR⟩

end
end Go.Proofs.YtoboickdkednkaaGreatDoor

/- What came in, read: a slot, a page. -/
namespace Go.Proofs.YtoboickdkednkaaGreatDoor
open Go.ChangeShapes Go.WideShapes Go.ChangeAt Go.RowKit

/-- A slot as it came in: its lists are read, its numbers are 64-bit numbers. -/
structure InSlot (w : World) (s : SlotA) : Prop where
  reads : s.reads w
  lI : s.v.o.ints.length ≤ maxLen
  lR : s.v.o.refs.length ≤ maxLen
  kind : InI64 s.v.o.kind
  ints : ∀ z ∈ s.v.o.ints, InI64 z
  refs : ∀ z ∈ s.v.o.refs, InI64 z

section
variable {H : Type} {enc : TypeId × Value → H} {w : World} {base : Nat} {spare : Nat → Bool} {held : Bool}

theorem Tryz.cellsB : Tryz.prog.cellsOf 4 = 1 := by kernel_rfl
theorem Tryz.cellsSl : Tryz.prog.cellsOf 49 = 4 := by kernel_rfl
set_option maxRecDepth 100000 in
theorem trod_slot {fuel : Nat} {cs : List Value} {x : DataW H × List MemPlace} (h : DataW.trod enc Tryz.prog w base spare held fuel 49 cs = some x) :
    ∃ s : SlotA, cs = s.cells ∧ InSlot w s := by
  obtain ⟨xs, n, _, _, hlen, hxl, hf⟩ := DataW.trod_struct Tryz.underlying49 h
  rw [Tryz.cellsSl] at hlen
  match cs, hlen with
  | [v0, v1, v2, v3], _ =>
    have f0 := hf 0 _ rfl
    have f1 := hf 1 _ rfl
    obtain ⟨y0, hx0⟩ := some_at xs 0 (by rw [hxl]; decide)
    obtain ⟨y1, hx1⟩ := some_at xs 1 (by rw [hxl]; decide)
    rw [hx0] at f0
    rw [hx1] at f1
    simp only [List.getElem_toArray, List.getElem_cons_zero, List.getElem_cons_succ, Tryz.cellsB, Tryz.cellsO, List.drop, List.take] at f0 f1
    obtain ⟨b, e0, _⟩ := DataW.trod_bool Tryz.underlying4 f0
    obtain ⟨o, aI, cI, aR, cR, e1, hr, lI, lR, wk, wI, wR⟩ := trod_obj f1
    simp only [List.cons.injEq, and_true] at e0 e1
    obtain ⟨rfl, rfl, rfl⟩ := e1
    subst e0
    exact ⟨⟨⟨b, o⟩, aI, cI, aR, cR⟩, rfl, hr, lI, lR, wk, wI, wR⟩

end
end Go.Proofs.YtoboickdkednkaaGreatDoor

/- What came in, read: a record. -/
namespace Go.Proofs.YtoboickdkednkaaGreatDoor
open Go.ChangeShapes Go.WideShapes Go.ChangeAt Go.RowKit

/-- A record as it came in: its lists are read, its numbers are 64-bit numbers. -/
structure InRec (w : World) (r : RecA) : Prop where
  bf : InSlot w r.bf
  af : InSlot w r.af
  txs : ReadsL w r.aL r.txs
  lT : r.txs.length ≤ maxLen
  nums : InI64 r.lsn ∧ InI64 r.tx ∧ InI64 r.prev ∧ InI64 r.kind ∧ InI64 r.oid ∧ InI64 r.next
theorem InRec.reads {w : World} {r : RecA} (h : InRec w r) : r.reads w := ⟨h.bf.reads, h.af.reads, h.txs⟩

section
variable {H : Type} {enc : TypeId × Value → H} {w : World} {base : Nat} {spare : Nat → Bool} {held : Bool}

theorem Tryz.cellsLv : Tryz.prog.cellsOf 114 = 3 := by kernel_rfl
theorem Tryz.cellsLvs : Tryz.prog.cellsOf 50 = 1 := by kernel_rfl
theorem Tryz.cellsRc : Tryz.prog.cellsOf 52 = 15 := by kernel_rfl

set_option maxRecDepth 100000 in
theorem trod_live {fuel : Nat} {cs : List Value} {x : DataW H × List MemPlace} (h : DataW.trod enc Tryz.prog w base spare held fuel 114 cs = some x) : ∃ t : LiveV, cs = t.cells := by
  obtain ⟨xs, n, _, _, hlen, hxl, hf⟩ := DataW.trod_struct Tryz.underlying114 h
  rw [Tryz.cellsLv] at hlen
  match cs, hlen with
  | [v0, v1, v2], _ =>
    have f0 := hf 0 _ rfl
    have f1 := hf 1 _ rfl
    have f2 := hf 2 _ rfl
    obtain ⟨y0, hx0⟩ := some_at xs 0 (by rw [hxl]; decide)
    obtain ⟨y1, hx1⟩ := some_at xs 1 (by rw [hxl]; decide)
    obtain ⟨y2, hx2⟩ := some_at xs 2 (by rw [hxl]; decide)
    rw [hx0] at f0
    rw [hx1] at f1
    rw [hx2] at f2
    simp only [List.getElem_toArray, List.getElem_cons_zero, List.getElem_cons_succ, Tryz.cellsB, Tryz.cellsI, List.drop, List.take] at f0 f1 f2
    obtain ⟨a, e0, _⟩ := trod_num f0
    obtain ⟨b, e1, _⟩ := trod_num f1
    obtain ⟨c, e2, _⟩ := DataW.trod_bool Tryz.underlying4 f2
    simp only [List.cons.injEq, and_true] at e0 e1 e2
    subst e0 e1 e2
    exact ⟨⟨a, b, c⟩, rfl⟩

set_option maxRecDepth 100000 in
theorem trod_lives {fuel : Nat} {cs : List Value} {x : DataW H × List MemPlace} (h : DataW.trod enc Tryz.prog w base spare held fuel 50 cs = some x) :
    ∃ (a : Option Addr) (c : Nat) (ls : List LiveV), cs = [.slice a ls.length c] ∧ ReadsL w a ls ∧ ls.length ≤ maxLen := by
  rcases DataW.trod_slice Tryz.underlying50 h with ⟨rfl, _⟩ | ⟨a, len, cap, elems, rest, n, _, rfl, _, _, hl, hm, hlen, hel, _, _⟩
  · exact ⟨none, 0, [], rfl, ReadsL.nil _ _, by simp⟩
  rw [Tryz.cellsLv] at hel
  have each : ∀ i, i < len → ∃ t : LiveV, w.cells? base (a.add (i * 3)) 3 = some t.cells := by
    intro i hi
    have hy := hel i hi
    rw [List.getElem?_eq_getElem (by omega : i < elems.length), Option.bind_eq_some_iff] at hy
    obtain ⟨cs', hcs, hy'⟩ := hy
    obtain ⟨t, e⟩ := trod_live hy'
    exact ⟨t, by rw [hcs, e]⟩
  obtain ⟨f, hf⟩ : ∃ f : Nat → LiveV, ∀ i, i < len → w.cells? base (a.add (i * 3)) 3 = some (f i).cells := by
    refine ⟨fun i => if h : i < len then (each i h).choose else zeroL, fun i hi => ?_⟩
    simp only [dif_pos hi]
    exact (each i hi).choose_spec
  refine ⟨some a, cap, (List.range len).map f, by simp, ?_, by simp; omega⟩
  intro hne
  have hpos := List.length_pos_iff.2 hne
  simp only [List.length_map, List.length_range] at hpos ⊢
  obtain ⟨b, off, spot⟩ := a
  have c0 := (World.cells?_some (hf 0 hpos)).2.2 0 (by decide)
  have hspot : spot = none := by simpa [Addr.add] using World.cell?_spot c0
  subst hspot
  refine ⟨b, off, rfl, fun k hk => ?_⟩
  have e : ((List.range len).map f).getD k zeroL = f k := by simp [List.getD, hk]
  rw [e]
  have hc := (World.cells?_some (hf k hk)).2.2
  have d0 := hc 0 (by decide)
  have d1 := hc 1 (by decide)
  have d2 := hc 2 (by decide)
  simp only [Addr_add, LiveV.cells] at d0 d1 d2
  exact ⟨by simpa using d0, by simpa using d1, by simpa using d2⟩

set_option maxRecDepth 100000 in
theorem trod_rec {fuel : Nat} {cs : List Value} {x : DataW H × List MemPlace} (h : DataW.trod enc Tryz.prog w base spare held fuel 52 cs = some x) :
    ∃ r : RecA, cs = r.cells ∧ InRec w r := by
  obtain ⟨xs, n, _, _, hlen, hxl, hf⟩ := DataW.trod_struct Tryz.underlying52 h
  rw [Tryz.cellsRc] at hlen
  match cs, hlen with
  | [v0, v1, v2, v3, v4, v5, v6, v7, v8, v9, v10, v11, v12, v13, v14], _ =>
    have f0 := hf 0 _ rfl
    have f1 := hf 1 _ rfl
    have f2 := hf 2 _ rfl
    have f3 := hf 3 _ rfl
    have f4 := hf 4 _ rfl
    have f5 := hf 5 _ rfl
    have f6 := hf 6 _ rfl
    have f7 := hf 7 _ rfl
    have f8 := hf 8 _ rfl
    obtain ⟨y0, hx0⟩ := some_at xs 0 (by rw [hxl]; decide)
    rw [hx0] at f0
    obtain ⟨y1, hx1⟩ := some_at xs 1 (by rw [hxl]; decide)
    rw [hx1] at f1
    obtain ⟨y2, hx2⟩ := some_at xs 2 (by rw [hxl]; decide)
    rw [hx2] at f2
    obtain ⟨y3, hx3⟩ := some_at xs 3 (by rw [hxl]; decide)
    rw [hx3] at f3
    obtain ⟨y4, hx4⟩ := some_at xs 4 (by rw [hxl]; decide)
    rw [hx4] at f4
    obtain ⟨y5, hx5⟩ := some_at xs 5 (by rw [hxl]; decide)
    rw [hx5] at f5
    obtain ⟨y6, hx6⟩ := some_at xs 6 (by rw [hxl]; decide)
    rw [hx6] at f6
    obtain ⟨y7, hx7⟩ := some_at xs 7 (by rw [hxl]; decide)
    rw [hx7] at f7
    obtain ⟨y8, hx8⟩ := some_at xs 8 (by rw [hxl]; decide)
    rw [hx8] at f8
    simp only [List.getElem_toArray, List.getElem_cons_zero, List.getElem_cons_succ, Tryz.cellsI, Tryz.cellsSl, Tryz.cellsLvs, List.drop, List.take] at f0 f1 f2 f3 f4 f5 f6 f7 f8
    obtain ⟨n0, e0, w0⟩ := trod_num f0
    obtain ⟨n1, e1, w1⟩ := trod_num f1
    obtain ⟨n2, e2, w2⟩ := trod_num f2
    obtain ⟨n3, e3, w3⟩ := trod_num f3
    obtain ⟨n4, e4, w4⟩ := trod_num f4
    obtain ⟨n5, e5, w5⟩ := trod_num f7
    obtain ⟨s, e6, hs⟩ := trod_slot f5
    obtain ⟨u, e7, hu⟩ := trod_slot f6
    obtain ⟨aL, cL, ls, e8, hL, lL⟩ := trod_lives f8
    simp only [SlotA.cells, List.cons.injEq, and_true] at e0 e1 e2 e3 e4 e5 e6 e7 e8
    obtain ⟨g0, g1, g2, g3⟩ := e6
    obtain ⟨k0, k1, k2, k3⟩ := e7
    subst e0 e1 e2 e3 e4 e5 e8 g0 g1 g2 g3 k0 k1 k2 k3
    exact ⟨⟨n0, n1, n2, n3, n4, s, u, n5, ls, aL, cL⟩, rfl, hs, hu, hL, lL, w0, w1, w2, w3, w4, w5⟩

set_option maxRecDepth 100000 in
/-- A record that came in as an argument. -/
theorem open_rec {b0 : Nat} {v : Value} {d : DataW H} {ps : List MemPlace} (hval : Value.okWide Tryz.prog w .any b0 52 v) (h : DataW.Trod enc Tryz.prog w base spare held 52 v d ps) :
    ∃ r : RecA, v = .agg r.cells.toArray ∧ InRec w r := by
  obtain ⟨cs, rfl, hcs⟩ := okWide_struct Tryz.underlying52 hval
  obtain ⟨fuel, hf⟩ := h
  have e : (Value.agg cs).cells.toList = cs.toList := rfl
  rw [e] at hf
  obtain ⟨r, hc, rest⟩ := trod_rec hf
  refine ⟨r, ?_, rest⟩
  congr 1
  apply Array.toList_inj.1
  rw [hc]
end
end Go.Proofs.YtoboickdkednkaaGreatDoor

/- What the laws of records share. -/
namespace Go.Proofs.YtoboickdkednkaaGreatDoor
open Go.RowKit

def zeroR : RecA := ⟨0, 0, 0, 0, 0, zeroS, zeroS, 0, [], none, 0⟩
theorem short_of {r t : RecA} {m : Nat} (h : t.v = r.v) (hl : r.short m) : t.short m := by
  simp only [RecA.v, RecV.mk.injEq] at h
  obtain ⟨_, _, _, _, _, h1, h2, _, h3⟩ := h
  exact ⟨by rw [h1]; exact hl.bf, by rw [h2]; exact hl.af, by rw [h3]; exact hl.txs⟩
theorem short_wide {r : RecA} (hl : r.short 1048576) : r.short 1099511627776 := ⟨by have := hl.bf; omega, by have := hl.af; omega, by have := hl.txs; omega⟩
theorem InRec.short {w : World} {r : RecA} (h : InRec w r) : r.short 9223372036854775807 := by
  have h1 := h.bf.lI
  have h2 := h.bf.lR
  have h3 := h.af.lI
  have h4 := h.af.lR
  have h5 := h.lT
  simp only [maxLen] at h1 h2 h3 h4 h5
  exact ⟨by omega, by omega, by omega⟩
theorem RecA.own.blocks_lt {w : World} {lo hi : Nat} {r : RecA} (h : r.own w lo hi) : ∀ k ∈ r.blocks, lo ≤ k ∧ k < hi := by
  intro k hk
  simp only [RecA.blocks, List.mem_append, Option.mem_toList] at hk
  rcases hk with h1 | h1 | h1
  · exact SlotA.blocks_lt h.bf k h1
  · exact SlotA.blocks_lt h.af k h1
  · exact h.txs.lt k h1
theorem toRec_law (r : RecA) (w : World) (hr : r.reads w) (hl : r.short 1048576) :
    Calls Tryz.prog 21 #[.agg r.cells.toArray] w fun e w' => ∃ t : RecA, e = .returned (.agg t.cells.toArray) ∧ Hid (t.v = r.v) ∧ t.own w' w.heap.size w'.heap.size ∧ Below w.heap.size w w' :=
  toRec_own r w hr (short_wide hl).bf (short_wide hl).af (short_wide hl).txs
end Go.Proofs.YtoboickdkednkaaGreatDoor

/- errors.As at a noObject: the walks of errors.As and of impl.isNoObject. -/
namespace Go.Proofs.YtoboickdkednkaaGreatDoor
open Go.RowKit Go.Extern.Stop Go.Stop Go.Extern

/-- The variable errors.errorType holds the handle of the type error. -/
def ErrT (w : World) : Prop := w.cell? ⟨0, 0, none⟩ = some (.iface 200 (.agg #[.pointer (some ⟨1, 165, none⟩)]))

theorem ErrT.lt {w : World} (h : ErrT w) : 0 < w.heap.size := by
  unfold ErrT at h
  rcases Nat.lt_or_ge 0 w.heap.size with h0 | h0
  · exact h0
  · simp [World.cell?, Array.getElem?_eq_none h0] at h
theorem ErrT.below {w w' : World} {n : Nat} (h : ErrT w) (hb : Below n w w') (hn : 0 < n) : ErrT w' := by
  unfold ErrT at h ⊢
  rw [hb.cell (p := ⟨0, 0, none⟩) hn]
  exact h
theorem ErrT.keep {w w' : World} (h : ErrT w) (hb : Below w.heap.size w w') : ErrT w' := h.below hb h.lt

theorem Tryz.asValueOfP (t : Addr) (w : World) : (ReflectliteValue.unpack (.iface 182 (.pointer (some t)))).run Tryz.prog w
    = .ok (.agg #[.pointer (some ⟨1, 182, none⟩), .pointer (some ⟨w.heap.size, 0, none⟩), .int .u64 150]) (w.alloc (.cells #[.pointer (some t)] 182)) := by kernel_rfl
theorem Tryz.asTypeP (a : Addr) (w : World) : (ReflectliteValue.methodAny (ReflectliteValue.valueError "reflectlite.Value.Type" 0) (fun t _ _ _ => ReflectliteType.toType t) #[.agg #[.pointer (some ⟨1, 182, none⟩), .pointer (some a), .int .u64 150]]).run Tryz.prog w
    = .ok (.iface 200 (.agg #[.pointer (some ⟨1, 182, none⟩)])) w := by kernel_rfl
theorem Tryz.asMethodKind (h : Value) (w : World) : (Go.method 342 200 (.agg #[h]) "Kind").run Tryz.prog w = .ok (160, h) w := by kernel_rfl
theorem Tryz.asKindP (w : World) : ((ReflectliteType.abiMethod fun t => (fun a : Nat => Value.int IntKind.u8 (a : Int)) <$> Rtype.kind t) #[.pointer (some ⟨1, 182, none⟩)]).run Tryz.prog w = .ok (.int .u8 22) w := by kernel_rfl
theorem Tryz.asKindS (w : World) : ((ReflectliteType.abiMethod fun t => (fun a : Nat => Value.int IntKind.u8 (a : Int)) <$> Rtype.kind t) #[.pointer (some ⟨1, 180, none⟩)]).run Tryz.prog w = .ok (.int .u8 25) w := by kernel_rfl

theorem rlm (z : Sem Value) (f : TypeId → Addr → Nat → Nat → Sem Value) (v : Value) :
    ReflectliteValue.method z f #[v] = (do match ← ReflectliteValue.parts v with | none => z | some (t, a, fl) => f t a fl (fl % 32)) := rfl
theorem Tryz.asPartsP (a : Addr) (w : World) : (ReflectliteValue.parts (.agg #[.pointer (some ⟨1, 182, none⟩), .pointer (some a), .int .u64 150])).run Tryz.prog w = .ok (some (182, a, 150)) w := by kernel_rfl
theorem Tryz.asIsNilP (a p : Addr) (W : World) (ha : W.cell? a = some (.pointer (some p))) :
    (ReflectliteValue.method (ReflectliteValue.valueError "reflectlite.Value.IsNil" 0) ReflectliteValue.isNil #[.agg #[.pointer (some ⟨1, 182, none⟩), .pointer (some a), .int .u64 150]]).run Tryz.prog W = .ok (.bool false) W := by
  rw [rlm]
  simp only [Sem.run_bind, Tryz.asPartsP, Result.andThen]
  simp [ReflectliteValue.isNil, loadVar, isAgg, underlying, Tryz.underlying182, ha, Result.andThen]

theorem Tryz.asMethodElem (h : Value) (w : World) : (Go.method 342 200 (.agg #[h]) "Elem").run Tryz.prog w = .ok (170, .agg #[h]) w := by kernel_rfl
theorem Tryz.asMethodImplements (h : Value) (w : World) : (Go.method 342 200 (.agg #[h]) "Implements").run Tryz.prog w = .ok (171, .agg #[h]) w := by kernel_rfl
theorem Tryz.asMethodAssignableTo (h : Value) (w : World) : (Go.method 342 200 (.agg #[h]) "AssignableTo").run Tryz.prog w = .ok (168, .agg #[h]) w := by kernel_rfl
theorem Tryz.asElemP (w : World) : (ReflectliteType.method ReflectliteType.elem #[.agg #[.pointer (some ⟨1, 182, none⟩)]]).run Tryz.prog w = .ok (.iface 200 (.agg #[.pointer (some ⟨1, 180, none⟩)])) w := by kernel_rfl
theorem Tryz.asImplementsS (w : World) : (ReflectliteType.relation "Implements" ReflectliteType.implements_ #[.agg #[.pointer (some ⟨1, 180, none⟩)], .iface 200 (.agg #[.pointer (some ⟨1, 165, none⟩)])]).run Tryz.prog w = .ok (.bool true) w := by kernel_rfl
theorem Tryz.asTypeOfS (v : Value) (w : World) : (ReflectliteType.typeOf #[.iface 180 v]).run Tryz.prog w = .ok (.iface 200 (.agg #[.pointer (some ⟨1, 180, none⟩)])) w := by kernel_rfl
theorem Tryz.asAssignableS (w : World) : (ReflectliteType.relation "AssignableTo" ReflectliteType.assignableTo #[.agg #[.pointer (some ⟨1, 180, none⟩)], .iface 200 (.agg #[.pointer (some ⟨1, 180, none⟩)])]).run Tryz.prog w = .ok (.bool true) w := by kernel_rfl
theorem Tryz.asValueOfS (s : ByteArray) (w : World) : (ReflectliteValue.unpack (.iface 180 (.agg #[.string s]))).run Tryz.prog w
    = .ok (.agg #[.pointer (some ⟨1, 180, none⟩), .pointer (some ⟨w.heap.size, 0, none⟩), .int .u64 153]) (w.alloc (.cells #[.string s] 180)) := by kernel_rfl

theorem Tryz.asElemOfP (w : World) : (Rtype.elem? 182).run Tryz.prog w = .ok (some 180) w := by kernel_rfl
theorem Tryz.asMkS (p : Addr) (w : World) : (ReflectliteValue.mk 180 p ReflectliteValue.flagAddr).run Tryz.prog w = .ok (.agg #[.pointer (some ⟨1, 180, none⟩), .pointer (some p), .int .u64 409]) w := by kernel_rfl
theorem Tryz.asElemV (a p : Addr) (W : World) (ha : W.cell? a = some (.pointer (some p))) :
    (ReflectliteValue.method (ReflectliteValue.valueError "reflectlite.Value.Elem" 0) ReflectliteValue.elem #[.agg #[.pointer (some ⟨1, 182, none⟩), .pointer (some a), .int .u64 150]]).run Tryz.prog W
      = .ok (.agg #[.pointer (some ⟨1, 180, none⟩), .pointer (some p), .int .u64 409]) W := by
  rw [rlm]
  simp only [Sem.run_bind, Tryz.asPartsP, Result.andThen]
  simp [ReflectliteValue.elem, loadVar, isAgg, underlying, Tryz.underlying182, ha, Result.andThen, Tryz.asElemOfP, Tryz.asMkS]
theorem rls (v x : Value) : ReflectliteValue.set #[v, x] = (do
    let (some (dst, a, fl), some (src, b, _)) := (← ReflectliteValue.parts v, ← ReflectliteValue.parts x)
      | unsupported (.noEntry "extern/(internal/reflectlite.Value).Set.zeroValue")
    if fl / ReflectliteValue.flagAddr % 2 == 0 then unsupported (.noEntry "extern/(internal/reflectlite.Value).Set.unaddressable")
    let val ← loadVar src b
    if ← Rtype.directlyAssignable dst src then storeVar dst a val
    else if ← Rtype.implements dst src then
      if (← Rtype.kind src) == 20 then
        match val with
        | .nilIface => unsupported (.noEntry "extern/reflectlite: a nil value of one interface type handed on as a value of another")
        | _ => storeVar dst a val
      else storeVar dst a (.iface src val)
    else panicString ("reflectlite.Set: value of type " ++ (← Rtype.spelt src) ++ " is not assignable to type " ++ (← Rtype.spelt dst))
    pure (.tuple #[])) := rfl
theorem Tryz.asPartsSa (a : Addr) (w : World) : (ReflectliteValue.parts (.agg #[.pointer (some ⟨1, 180, none⟩), .pointer (some a), .int .u64 409])).run Tryz.prog w = .ok (some (180, a, 409)) w := by kernel_rfl
theorem Tryz.asPartsS (a : Addr) (w : World) : (ReflectliteValue.parts (.agg #[.pointer (some ⟨1, 180, none⟩), .pointer (some a), .int .u64 153])).run Tryz.prog w = .ok (some (180, a, 153)) w := by kernel_rfl
theorem Tryz.asDirectS (w : World) : (Rtype.directlyAssignable 180 180).run Tryz.prog w = .ok true w := by kernel_rfl
theorem Tryz.asSetS (ta b : Addr) (s : ByteArray) (old : Value) (W : World) (hb : W.cell? b = some (.string s)) (ht : W.cell? ta = some old) (hf : W.frozen? ta = false) :
    (ReflectliteValue.set #[.agg #[.pointer (some ⟨1, 180, none⟩), .pointer (some ta), .int .u64 409], .agg #[.pointer (some ⟨1, 180, none⟩), .pointer (some b), .int .u64 153]]).run Tryz.prog W
      = .ok (.tuple #[]) (W.setCell ta (.string s)) := by
  rw [rls]
  simp only [Sem.run_bind, Tryz.asPartsSa, Tryz.asPartsS, Result.andThen]
  simp [ReflectliteValue.flagAddr, loadVar, loadCells, loadCellsFrom, hb, Result.andThen, Tryz.asDirectS, storeVar, Value.cells, storeCells, Addr.add]
  rw [run_store Tryz.prog W ta _ _ (by rfl)]
  simp [ht, hf]

/-- errors.As(nil, target). -/
theorem as_nil (t : Value) (w : World) : Calls Tryz.prog 135 #[.nilIface, t] w fun e w' => e = .returned (.bool false) ∧ w' = w := by
  go_enter Tryz.func135, Tryz.ntmps135
  go_wp2
  go_ret
  exact ⟨rfl, rfl⟩

set_option maxHeartbeats 4000000 in
theorem as_hit (s : ByteArray) (t : Addr) (old : Value) (w : World) (hg : w.cell? ⟨0, 0, none⟩ = some (.iface 200 (.agg #[.pointer (some ⟨1, 165, none⟩)]))) (ht0 : w.cell? t = some old) (hf0 : w.frozen? t = false) :
    Calls Tryz.prog 135 #[.iface 180 (.agg #[.string s]), .iface 182 (.pointer (some t))] w fun ev w' => ev = .returned (.bool true) ∧ w' = ((((w.alloc (.cells #[.pointer (some t)] 182)).alloc (.cells #[.pointer (some ⟨1, 182, none⟩), .pointer (some ⟨w.heap.size, 0, none⟩), .int .u64 150] 189)).alloc (.cells #[.pointer (some ⟨1, 182, none⟩), .pointer (some ⟨w.heap.size, 0, none⟩), .int .u64 150] 189)).alloc (.cells #[.string s] 180)).setCell t (.string s) := by
  have h6 := @run_callFunc_extern Tryz.prog 139 _ (fun args => ReflectliteValue.unpack (args.getD 0 (.tuple #[]))) Tryz.func139 (by kernel_rfl) (by kernel_rfl) (by kernel_rfl) (by kernel_rfl)
  have h7 := @run_callFunc_extern Tryz.prog 140 _ (ReflectliteValue.methodAny (ReflectliteValue.valueError "reflectlite.Value.Type" 0) (fun t _ _ _ => ReflectliteType.toType t)) Tryz.func140 (by kernel_rfl) (by kernel_rfl) (by kernel_rfl) (by kernel_rfl)
  have h8 := @run_callFunc_extern Tryz.prog 141 _ (ReflectliteValue.method (ReflectliteValue.valueError "reflectlite.Value.IsNil" 0) ReflectliteValue.isNil) Tryz.func141 (by kernel_rfl) (by kernel_rfl) (by kernel_rfl) (by kernel_rfl)
  have h27 := @run_callFunc_extern Tryz.prog 160 _ (ReflectliteType.abiMethod fun t => do pure (.int .u8 (← Rtype.kind t))) Tryz.func160 (by kernel_rfl) (by kernel_rfl) (by kernel_rfl) (by kernel_rfl)
  have h37 := @run_callFunc_extern Tryz.prog 170 _ (ReflectliteType.method ReflectliteType.elem) Tryz.func170 (by kernel_rfl) (by kernel_rfl) (by kernel_rfl) (by kernel_rfl)
  have h38 := @run_callFunc_extern Tryz.prog 171 _ (ReflectliteType.relation "Implements" ReflectliteType.implements_) Tryz.func171 (by kernel_rfl) (by kernel_rfl) (by kernel_rfl) (by kernel_rfl)
  have h10 := @run_callFunc_extern Tryz.prog 143 _ ReflectliteType.typeOf Tryz.func143 (by kernel_rfl) (by kernel_rfl) (by kernel_rfl) (by kernel_rfl)
  have h35 := @run_callFunc_extern Tryz.prog 168 _ (ReflectliteType.relation "AssignableTo" ReflectliteType.assignableTo) Tryz.func168 (by kernel_rfl) (by kernel_rfl) (by kernel_rfl) (by kernel_rfl)
  have h11 := @run_callFunc_extern Tryz.prog 144 _ (ReflectliteValue.method (ReflectliteValue.valueError "reflectlite.Value.Elem" 0) ReflectliteValue.elem) Tryz.func144 (by kernel_rfl) (by kernel_rfl) (by kernel_rfl) (by kernel_rfl)
  have h12 := @run_callFunc_extern Tryz.prog 145 _ ReflectliteValue.set Tryz.func145 (by kernel_rfl) (by kernel_rfl) (by kernel_rfl) (by kernel_rfl)
  have tO := Tryz.asTypeOfS
  have mA := Tryz.asMethodAssignableTo
  have a25 := Tryz.asAssignableS
  have v25 := Tryz.asValueOfS
  have f6 := Tryz.asValueOfP
  have f7 := Tryz.asTypeP
  have mK := Tryz.asMethodKind
  have mE := Tryz.asMethodElem
  have mI := Tryz.asMethodImplements
  have k27 := Tryz.asKindP
  have k25 := Tryz.asKindS
  have e27 := Tryz.asElemP
  have i25 := Tryz.asImplementsS
  have n8 := Tryz.asIsNilP ⟨w.heap.size, 0, none⟩ t ((w.alloc (.cells #[.pointer (some t)] 182)).alloc (.cells #[.pointer (some ⟨1, 182, none⟩), .pointer (some ⟨w.heap.size, 0, none⟩), .int .u64 150] 189)) (by simp)
  have hlt : 0 < w.heap.size := by
    rcases Nat.lt_or_ge 0 w.heap.size with h0 | h0
    · exact h0
    · simp [World.cell?, Array.getElem?_eq_none h0] at hg
  have hg2 : ((w.alloc (.cells #[.pointer (some t)] 182)).alloc (.cells #[.pointer (some ⟨1, 182, none⟩), .pointer (some ⟨w.heap.size, 0, none⟩), .int .u64 150] 189)).cell? ⟨0, 0, none⟩ = some (.iface 200 (.agg #[.pointer (some ⟨1, 165, none⟩)])) := by
    rw [World.cell?_alloc_lt _ _ ⟨0, 0, none⟩ (Nat.lt_of_lt_of_le hlt (by simp)), World.cell?_alloc_lt _ _ ⟨0, 0, none⟩ hlt]; exact hg
  have htl : t.block < w.heap.size := by
    rcases Nat.lt_or_ge t.block w.heap.size with h | h
    · exact h
    · simp [World.cell?, Array.getElem?_eq_none h] at ht0
  have el := Tryz.asElemV ⟨w.heap.size, 0, none⟩ t (((w.alloc (.cells #[.pointer (some t)] 182)).alloc (.cells #[.pointer (some ⟨1, 182, none⟩), .pointer (some ⟨w.heap.size, 0, none⟩), .int .u64 150] 189)).alloc (.cells #[.pointer (some ⟨1, 182, none⟩), .pointer (some ⟨w.heap.size, 0, none⟩), .int .u64 150] 189)) (by rw [World.cell?_alloc_lt _ _ ⟨w.heap.size, 0, none⟩ (by simp; omega)]; simp)
  have st := Tryz.asSetS t ⟨w.heap.size + 1 + 1 + 1, 0, none⟩ s old ((((w.alloc (.cells #[.pointer (some t)] 182)).alloc (.cells #[.pointer (some ⟨1, 182, none⟩), .pointer (some ⟨w.heap.size, 0, none⟩), .int .u64 150] 189)).alloc (.cells #[.pointer (some ⟨1, 182, none⟩), .pointer (some ⟨w.heap.size, 0, none⟩), .int .u64 150] 189)).alloc (.cells #[.string s] 180))
    (by rw [World.cell?_alloc_at _ _ _ _ (by simp)]; rfl)
    (by rw [World.cell?_alloc_lt _ _ t (by simp; omega), World.cell?_alloc_lt _ _ t (by simp; omega), World.cell?_alloc_lt _ _ t (by simp; omega), World.cell?_alloc_lt _ _ t htl]; exact ht0)
    (by rw [World.frozen?_alloc_old _ _ t (by simp; omega), World.frozen?_alloc_old _ _ t (by simp; omega), World.frozen?_alloc_old _ _ t (by simp; omega), World.frozen?_alloc_old _ _ t (Nat.ne_of_lt htl)]; exact hf0)
  go_enter Tryz.func135, Tryz.ntmps135
  go_wp2
  refine wp_loop_rounds 1 ?_
  rw [rounds_succ]
  go_wp2
  go_ret
  exact ⟨rfl, rfl⟩

theorem isNo_nil (w : World) : Calls Tryz.prog 123 #[.nilIface] w fun e w' => e = .returned (.bool false) ∧ Below w.heap.size w w' := by
  go_enter Tryz.func123, Tryz.ntmps123
  go_wp2_with fail
  refine (as_nil _ _).mono ?_
  rintro e w' ⟨rfl, rfl⟩
  go_wp2
  go_ret
  exact ⟨rfl, (Below.refl _ _).alloc (Nat.le_refl _) _⟩

set_option maxHeartbeats 1000000 in
theorem isNo_hit (s : ByteArray) (w : World) (hg : ErrT w) : Calls Tryz.prog 123 #[.iface 180 (.agg #[.string s])] w fun e w' => e = .returned (.bool true) ∧ Below w.heap.size w w' := by
  have hgA : ErrT (w.alloc (.cells #[.string ⟨#[]⟩] 180)) := hg.keep ((Below.refl _ _).alloc (Nat.le_refl _) _)
  go_enter Tryz.func123, Tryz.ntmps123
  go_wp2_with fail
  refine (as_hit s ⟨w.heap.size, 0, none⟩ (.string ⟨#[]⟩) _ hgA (by simp) (by simp)).mono ?_
  rintro e w' ⟨rfl, rfl⟩
  go_wp2
  go_ret
  refine ⟨rfl, ?_⟩
  exact (((((Below.refl _ _).alloc (Nat.le_refl _) _).alloc (by simp) _).alloc (by simp; omega) _).alloc (by simp; omega) _).alloc (by simp; omega) _
end Go.Proofs.YtoboickdkednkaaGreatDoor

/- When an object is right; the walks of impl.partsOk, impl.checkObj and impl.ObjOk. -/
namespace Go.Proofs.YtoboickdkednkaaGreatDoor
open Go.RowKit

def partsB (l : List Int) (least most : Int) : Bool := decide (l.length ≤ 5) && l.all (fun z => inB z least most)
theorem partsB_at {l : List Int} {least most : Int} (j : Nat) (hj : j < l.length) (h : inB (l.getD j 0) least most = false) : partsB l least most = false := by
  have : (l.all (fun z => inB z least most)) = false := by
    rw [List.all_eq_false]
    exact ⟨l.getD j 0, by simp [List.getD, hj], by rw [h]; decide⟩
  simp [partsB, this]
theorem partsB_all {l : List Int} {least most : Int} (h : ∀ j, j < l.length → inB (l.getD j 0) least most = true) : partsB l least most = decide (l.length ≤ 5) := by
  have : (l.all (fun z => inB z least most)) = true := by
    rw [List.all_eq_true]
    intro z hz
    obtain ⟨j, hj, rfl⟩ := List.getElem_of_mem hz
    have := h j hj
    simpa [List.getD, hj] using this
  simp [partsB, this]
theorem okB_parts (o : ObjV) : okB o = (inB o.kind 1 99 && (partsB o.ints (-1000000) 1000000 && partsB o.refs 0 31)) := by
  unfold okB partsB
  cases inB o.kind 1 99 <;> cases decide (o.ints.length ≤ 5) <;> cases decide (o.refs.length ≤ 5) <;> cases o.ints.all (fun z => inB z (-1000000) 1000000) <;> simp

theorem inB_false {x l m : Int} (h : inB x l m = false) : x < l ∨ (¬ x < l ∧ m < x) := by simp [inB] at h; omega
theorem inB_true {x l m : Int} (h : inB x l m = true) : ¬ x < l ∧ ¬ m < x := by simp [inB] at h; omega

/-- What checkObj answers of what is right, and of what is not. -/
def IsErr (ok : Bool) (e : Ending) : Prop := (ok = true ∧ e = .returned .nilIface) ∨ (ok = false ∧ ∃ s, e = .returned (.iface 180 (.agg #[.string s])))
theorem isErr_ok {ok : Bool} (h : ok = true) : IsErr ok (.returned .nilIface) := .inl ⟨h, rfl⟩
theorem isErr_no {ok : Bool} (h : ok = false) (s : ByteArray) : IsErr ok (.returned (.iface 180 (.agg #[.string s]))) := .inr ⟨h, s, rfl⟩

set_option maxHeartbeats 400000 in
theorem partsOk_any (a : Option Addr) (c : Nat) (l : List Int) (least most : Int) (w : World) (hr : ReadsI w a l) (hl : l.length ≤ 140737488355328) :
    Calls Tryz.prog 136 #[.slice a l.length c, .int .i64 least, .int .i64 most] w fun e w' => e = .returned (.bool (partsB l least most)) ∧ w' = w := by
  go_enter Tryz.func136, Tryz.ntmps136
  go_wp2
  go_loop [11] (fun i => ∃ j : Nat, j ≤ l.length ∧ i = .int .i64 j ∧ Hid (∀ t, t < j → inB (l.getD t 0) least most = true)) (fun i => l.length - (intOf i).toNat)
  case atStart => exact ⟨0, by omega, rfl, fun t ht => by omega⟩
  case round =>
    obtain ⟨j, hj, rfl, hall⟩ := hrel
    by_cases hlt : j < l.length
    · rcases hr.cases with rfl | ⟨b, off, rfl, hpos, hcell⟩
      · simp at hlt
      have hc := hcell j hlt
      clear hcell
      cases hz : inB (l.getD j 0) least most with
      | false =>
        have HE : Hid (partsB l least most = false) := partsB_at j hlt hz
        have hz' := inB_false hz
        clear hz
        generalize l.getD j 0 = z at *
        rcases hz' with h1 | ⟨h1, h2⟩
        all_goals
          go_wp2
          go_ret
          exact ⟨ret_bool HE.out.symm, rfl⟩
      | true =>
        have HN : Hid (∀ t, t < j + 1 → inB (l.getD t 0) least most = true) := by
          intro t ht
          by_cases e : t = j
          · rw [e]; exact hz
          · exact hall.out t (by omega)
        obtain ⟨h1, h2⟩ := inB_true hz
        clear hz
        generalize l.getD j 0 = z at *
        go_wp2
        go_round
        case rel => exact ⟨j + 1, by omega, by go_num, HN⟩
        case measure => simp [intOf]; omega
    · have HE : Hid (partsB l least most = decide (l.length ≤ 5)) := partsB_all (fun t ht => hall.out t (by omega))
      go_wp2
      go_ret
      exact ⟨ret_bool (by rw [HE.out]; exact decide_eq_decide.2 (by omega)), rfl⟩

set_option maxHeartbeats 1000000 in
set_option maxRecDepth 100000 in
theorem checkObj_any (o : ObjV) (aI : Option Addr) (cI : Nat) (aR : Option Addr) (cR : Nat) (w : World) (hr : ReadsO w aI cI aR cR o) (hnI : o.ints.length ≤ 140737488355328) (hnR : o.refs.length ≤ 140737488355328) :
    Calls Tryz.prog 124 #[.agg #[.int .i64 o.kind, .slice aI o.ints.length cI, .slice aR o.refs.length cR]] w fun e w' => IsErr (okB o) e ∧ Below w.heap.size w w' := by
  have HOK := okB_parts o
  generalize okB o = OK at *
  obtain ⟨k, ints, refs⟩ := o
  obtain ⟨hI, hR, _, _⟩ := hr
  simp only at *
  obtain ⟨W, hW, b0, hbW, hsW⟩ := boxes1 w [.int .i64 k, .slice aI ints.length cI, .slice aR refs.length cR] 34
  have hI' := hI.below hbW
  have hR' := hR.below hbW
  have x0 := b0.cell 0 _ rfl
  have x1 := b0.cell 1 _ rfl
  have x2 := b0.cell 2 _ rfl
  cases hk : inB k 1 99 with
  | false =>
    have HF : Hid (OK = false) := by rw [Hid, HOK, hk, Bool.false_and]
    clear HOK
    have hz' := inB_false hk
    clear hk
    rcases hz' with h1 | ⟨h1, h2⟩
    all_goals
      go_enter Tryz.func124, Tryz.ntmps124
      go_wp2
      go_ret
      exact ⟨isErr_no HF.out _, hW.out ▸ hbW⟩
  | true =>
  rw [hk, Bool.true_and] at HOK
  obtain ⟨h1, h2⟩ := inB_true hk
  clear hk
  cases hp : partsB ints (-1000000) 1000000 with
  | false =>
    have HF : Hid (OK = false) := by rw [Hid, HOK, hp, Bool.false_and]
    clear HOK
    have HP : Hid (_ = _) := hp
    clear hp
    go_enter Tryz.func124, Tryz.ntmps124
    go_wp2_with fail
    rw [hW.out]
    refine (partsOk_any aI cI ints _ _ W hI' hnI).mono ?_
    rintro e w' ⟨rfl, rfl⟩
    rw [HP.out]
    go_wp2
    go_ret
    exact ⟨isErr_no HF.out _, hbW⟩
  | true =>
  rw [hp, Bool.true_and] at HOK
  have HP : Hid (_ = _) := hp
  clear hp
  cases hq : partsB refs 0 31 with
  | false =>
    have HF : Hid (OK = false) := by rw [Hid, HOK, hq]
    clear HOK
    have HQ : Hid (_ = _) := hq
    clear hq
    go_enter Tryz.func124, Tryz.ntmps124
    go_wp2_with fail
    rw [hW.out]
    refine (partsOk_any aI cI ints _ _ W hI' hnI).mono ?_
    rintro e w' ⟨rfl, rfl⟩
    rw [HP.out]
    go_wp2_with fail
    refine (partsOk_any aR cR refs _ _ _ hR' hnR).mono ?_
    rintro e w' ⟨rfl, rfl⟩
    rw [HQ.out]
    go_wp2
    go_ret
    exact ⟨isErr_no HF.out _, hbW⟩
  | true =>
    have HF : Hid (OK = true) := by rw [Hid, HOK, hq]
    clear HOK
    have HQ : Hid (_ = _) := hq
    clear hq
    go_enter Tryz.func124, Tryz.ntmps124
    go_wp2_with fail
    rw [hW.out]
    refine (partsOk_any aI cI ints _ _ W hI' hnI).mono ?_
    rintro e w' ⟨rfl, rfl⟩
    rw [HP.out]
    go_wp2_with fail
    refine (partsOk_any aR cR refs _ _ _ hR' hnR).mono ?_
    rintro e w' ⟨rfl, rfl⟩
    rw [HQ.out]
    go_wp2
    go_ret
    exact ⟨isErr_ok HF.out, hbW⟩

set_option maxHeartbeats 1000000 in
set_option maxRecDepth 100000 in
theorem implObjOk_any (o : ObjV) (aI : Option Addr) (cI : Nat) (aR : Option Addr) (cR : Nat) (w : World) (hg : ErrT w) (hr : ReadsO w aI cI aR cR o) (hnI : o.ints.length ≤ 140737488355328) (hnR : o.refs.length ≤ 140737488355328) :
    Calls Tryz.prog 112 #[.agg #[.int .i64 o.kind, .slice aI o.ints.length cI, .slice aR o.refs.length cR]] w fun e w' => e = .returned (.bool (okB o)) ∧ Below w.heap.size w w' := by
  obtain ⟨W, hW, b0, hbW, hsW⟩ := boxes1 w [.int .i64 o.kind, .slice aI o.ints.length cI, .slice aR o.refs.length cR] 34
  have hr' := hr.below hbW
  have hg' := hg.keep hbW
  have x0 := b0.cell 0 _ rfl
  have x1 := b0.cell 1 _ rfl
  have x2 := b0.cell 2 _ rfl
  go_enter Tryz.func112, Tryz.ntmps112
  go_wp2_with fail
  rw [hW.out]
  refine (checkObj_any o aI cI aR cR W hr' hnI hnR).mono ?_
  rintro e w1 ⟨he, hb1⟩
  have B1 : Below w.heap.size w w1 := hbW.trans (hb1.mono hbW.size)
  rcases he with ⟨hok, rfl⟩ | ⟨hok, s, rfl⟩
  · have HO : Hid (_ = _) := hok
    clear hok
    go_wp2_with fail
    refine (isNo_nil w1).mono ?_
    rintro e w2 ⟨rfl, hb2⟩
    go_wp2
    go_ret
    exact ⟨by rw [HO.out]; rfl, B1.trans (hb2.mono B1.size)⟩
  · have HO : Hid (_ = _) := hok
    clear hok
    go_wp2_with fail
    refine (isNo_hit s w1 (hg'.keep hb1)).mono ?_
    rintro e w2 ⟨rfl, hb2⟩
    go_wp2
    go_ret
    exact ⟨by rw [HO.out]; rfl, B1.trans (hb2.mono B1.size)⟩
end Go.Proofs.YtoboickdkednkaaGreatDoor

/- The walks of impl.slotHas, impl.slotOk and impl.markSlots over either; a slot of a row taken out by its number. -/
namespace Go.Proofs.YtoboickdkednkaaGreatDoor
open Go.RowKit

theorem slotB_same {s : SlotV} (h : s.has = false) : slotB s = sameO s.o noO := by
  obtain ⟨b, k, i, r⟩ := s
  simp only at h
  subst h
  show slotB ⟨false, k, i, r⟩ = (decide (k = (0 : Int)) && (decide (i = ([] : List Int)) && decide (r = ([] : List Int))))
  rw [Bool.eq_iff_iff]
  simp [slotB]

set_option maxHeartbeats 400000 in
set_option maxRecDepth 100000 in
theorem slotOk_any (s : SlotA) (w : World) (hg : ErrT w) (hr : s.reads w) (hl : Fit [s]) :
    Calls Tryz.prog 90 #[.agg s.cells.toArray] w fun e w' => e = .returned (.bool (slotB s.v)) ∧ Below w.heap.size w w' := by
  obtain ⟨h1, h2⟩ := hl s (List.mem_singleton.2 rfl)
  obtain ⟨W, hW, b0, hbW, hsW⟩ := boxes1 w s.cells 36
  have hr' : s.reads W := ReadsO.below hr hbW
  have hg' := hg.keep hbW
  have HT : Hid (s.v.has = true → slotB s.v = okB s.v.o) := fun h => slotB_has h
  have HF : Hid (s.v.has = false → slotB s.v = sameO s.v.o noO) := fun h => slotB_same h
  have hno : ReadsO W none 0 none 0 noO := ⟨fun h => absurd rfl h, fun h => absurd rfl h, fun _ => rfl, fun _ => rfl⟩
  have C1 := implObjOk_any s.v.o s.aI s.cI s.aR s.cR W hg' hr' (by omega) (by omega)
  have C2 := implSameObj_any s.v.o noO s.aI s.cI s.aR s.cR none 0 none 0 W hr' hno (by omega) (by omega) (by simp [noO]) (by simp [noO])
  simp only [noO] at C2
  generalize slotB s.v = R at *
  simp only [SlotA.cells] at *
  cases hh : s.v.has with
  | true =>
    have HE : Hid (_ = _) := HT.out hh
    rw [hh] at hW
    clear hh C2 HT HF
    go_enter Tryz.func90, Tryz.ntmps90
    go_wp2_with fail
    rw [hW.out]
    refine C1.mono ?_
    rintro e w1 ⟨rfl, hb1⟩
    go_wp2
    go_ret
    exact ⟨ret_bool HE.out.symm, hbW.trans (hb1.mono hbW.size)⟩
  | false =>
    have HE : Hid (_ = _) := HF.out hh
    rw [hh] at hW
    clear hh C1 HT HF
    go_enter Tryz.func90, Tryz.ntmps90
    go_wp2_with fail
    rw [hW.out]
    refine C2.mono ?_
    rintro e w1 ⟨rfl, hb1⟩
    go_wp2
    go_ret
    exact ⟨ret_bool HE.out.symm, hbW.trans (hb1.mono hbW.size)⟩

end Go.Proofs.YtoboickdkednkaaGreatDoor

/- What a record tells, as the landed code holds it: an interface with a type for each kind. -/
namespace Go.Proofs.YtoboickdkednkaaGreatDoor
open Go.RowKit

theorem yes_setDeed (W : World) (v : Value) : (Instr.typeAssert (.iface 134 v) 101 134 true).run Tryz.prog W = .ok (.tuple #[v, .bool true]) W := by kernel_rfl
theorem zero_setDeed (W : World) : (do pure (Value.tuple #[← zeroValue 134, .bool false]) : Sem Value).run Tryz.prog W = .ok (.tuple #[.agg #[.int .i64 0, .int .i64 0, .int .i64 0, .bool false, .int .i64 0, .slice none 0 0, .slice none 0 0, .bool false, .int .i64 0, .slice none 0 0, .slice none 0 0], .bool false]) W := by kernel_rfl
theorem nil_setDeed (W : World) : (Instr.typeAssert .nilIface 101 134 true).run Tryz.prog W = .ok (.tuple #[.agg #[.int .i64 0, .int .i64 0, .int .i64 0, .bool false, .int .i64 0, .slice none 0 0, .slice none 0 0, .bool false, .int .i64 0, .slice none 0 0, .slice none 0 0], .bool false]) W := by kernel_rfl
theorem no_setDeed (W : World) (u : TypeId) (v : Value) (h : u ≠ 134) : (Instr.typeAssert (.iface u v) 101 134 true).run Tryz.prog W = .ok (.tuple #[.agg #[.int .i64 0, .int .i64 0, .int .i64 0, .bool false, .int .i64 0, .slice none 0 0, .slice none 0 0, .bool false, .int .i64 0, .slice none 0 0, .slice none 0 0], .bool false]) W := by
  have e : (Instr.typeAssert (.iface u v) 101 134 true).run Tryz.prog W = (if u = 134 then (pure (Value.tuple #[v, .bool true]) : Sem Value) else (do pure (Value.tuple #[← zeroValue 134, .bool false]))).run Tryz.prog W := by kernel_rfl
  rw [e, if_neg h]
  exact zero_setDeed W

theorem yes_commitDeed (W : World) (v : Value) : (Instr.typeAssert (.iface 136 v) 101 136 true).run Tryz.prog W = .ok (.tuple #[v, .bool true]) W := by kernel_rfl
theorem zero_commitDeed (W : World) : (do pure (Value.tuple #[← zeroValue 136, .bool false]) : Sem Value).run Tryz.prog W = .ok (.tuple #[.agg #[.int .i64 0, .int .i64 0], .bool false]) W := by kernel_rfl
theorem nil_commitDeed (W : World) : (Instr.typeAssert .nilIface 101 136 true).run Tryz.prog W = .ok (.tuple #[.agg #[.int .i64 0, .int .i64 0], .bool false]) W := by kernel_rfl
theorem no_commitDeed (W : World) (u : TypeId) (v : Value) (h : u ≠ 136) : (Instr.typeAssert (.iface u v) 101 136 true).run Tryz.prog W = .ok (.tuple #[.agg #[.int .i64 0, .int .i64 0], .bool false]) W := by
  have e : (Instr.typeAssert (.iface u v) 101 136 true).run Tryz.prog W = (if u = 136 then (pure (Value.tuple #[v, .bool true]) : Sem Value) else (do pure (Value.tuple #[← zeroValue 136, .bool false]))).run Tryz.prog W := by kernel_rfl
  rw [e, if_neg h]
  exact zero_commitDeed W

theorem yes_abortDeed (W : World) (v : Value) : (Instr.typeAssert (.iface 137 v) 101 137 true).run Tryz.prog W = .ok (.tuple #[v, .bool true]) W := by kernel_rfl
theorem zero_abortDeed (W : World) : (do pure (Value.tuple #[← zeroValue 137, .bool false]) : Sem Value).run Tryz.prog W = .ok (.tuple #[.agg #[.int .i64 0, .int .i64 0], .bool false]) W := by kernel_rfl
theorem nil_abortDeed (W : World) : (Instr.typeAssert .nilIface 101 137 true).run Tryz.prog W = .ok (.tuple #[.agg #[.int .i64 0, .int .i64 0], .bool false]) W := by kernel_rfl
theorem no_abortDeed (W : World) (u : TypeId) (v : Value) (h : u ≠ 137) : (Instr.typeAssert (.iface u v) 101 137 true).run Tryz.prog W = .ok (.tuple #[.agg #[.int .i64 0, .int .i64 0], .bool false]) W := by
  have e : (Instr.typeAssert (.iface u v) 101 137 true).run Tryz.prog W = (if u = 137 then (pure (Value.tuple #[v, .bool true]) : Sem Value) else (do pure (Value.tuple #[← zeroValue 137, .bool false]))).run Tryz.prog W := by kernel_rfl
  rw [e, if_neg h]
  exact zero_abortDeed W

theorem yes_backDeed (W : World) (v : Value) : (Instr.typeAssert (.iface 139 v) 101 139 true).run Tryz.prog W = .ok (.tuple #[v, .bool true]) W := by kernel_rfl
theorem zero_backDeed (W : World) : (do pure (Value.tuple #[← zeroValue 139, .bool false]) : Sem Value).run Tryz.prog W = .ok (.tuple #[.agg #[.int .i64 0, .int .i64 0, .int .i64 0, .bool false, .int .i64 0, .slice none 0 0, .slice none 0 0, .int .i64 0], .bool false]) W := by kernel_rfl
theorem nil_backDeed (W : World) : (Instr.typeAssert .nilIface 101 139 true).run Tryz.prog W = .ok (.tuple #[.agg #[.int .i64 0, .int .i64 0, .int .i64 0, .bool false, .int .i64 0, .slice none 0 0, .slice none 0 0, .int .i64 0], .bool false]) W := by kernel_rfl
theorem no_backDeed (W : World) (u : TypeId) (v : Value) (h : u ≠ 139) : (Instr.typeAssert (.iface u v) 101 139 true).run Tryz.prog W = .ok (.tuple #[.agg #[.int .i64 0, .int .i64 0, .int .i64 0, .bool false, .int .i64 0, .slice none 0 0, .slice none 0 0, .int .i64 0], .bool false]) W := by
  have e : (Instr.typeAssert (.iface u v) 101 139 true).run Tryz.prog W = (if u = 139 then (pure (Value.tuple #[v, .bool true]) : Sem Value) else (do pure (Value.tuple #[← zeroValue 139, .bool false]))).run Tryz.prog W := by kernel_rfl
  rw [e, if_neg h]
  exact zero_backDeed W

theorem yes_endDeed (W : World) (v : Value) : (Instr.typeAssert (.iface 140 v) 101 140 true).run Tryz.prog W = .ok (.tuple #[v, .bool true]) W := by kernel_rfl
theorem zero_endDeed (W : World) : (do pure (Value.tuple #[← zeroValue 140, .bool false]) : Sem Value).run Tryz.prog W = .ok (.tuple #[.agg #[.int .i64 0, .int .i64 0], .bool false]) W := by kernel_rfl
theorem nil_endDeed (W : World) : (Instr.typeAssert .nilIface 101 140 true).run Tryz.prog W = .ok (.tuple #[.agg #[.int .i64 0, .int .i64 0], .bool false]) W := by kernel_rfl
theorem no_endDeed (W : World) (u : TypeId) (v : Value) (h : u ≠ 140) : (Instr.typeAssert (.iface u v) 101 140 true).run Tryz.prog W = .ok (.tuple #[.agg #[.int .i64 0, .int .i64 0], .bool false]) W := by
  have e : (Instr.typeAssert (.iface u v) 101 140 true).run Tryz.prog W = (if u = 140 then (pure (Value.tuple #[v, .bool true]) : Sem Value) else (do pure (Value.tuple #[← zeroValue 140, .bool false]))).run Tryz.prog W := by kernel_rfl
  rw [e, if_neg h]
  exact zero_endDeed W

theorem yes_checkDeed (W : World) (v : Value) : (Instr.typeAssert (.iface 142 v) 101 142 true).run Tryz.prog W = .ok (.tuple #[v, .bool true]) W := by kernel_rfl
theorem nil_checkDeed (W : World) : (Instr.typeAssert .nilIface 101 142 true).run Tryz.prog W = .ok (.tuple #[.agg #[.slice none 0 0], .bool false]) W := by kernel_rfl
/-- A transaction, and its record ahead. -/
def linkD (tx prev : Int) : List Value := [.int .i64 tx, .int .i64 prev]
def setD (tx prev oid : Int) (b a : SlotA) : List Value := [.int .i64 tx, .int .i64 prev, .int .i64 oid, .bool b.v.has, .int .i64 b.v.o.kind, .slice b.aI b.v.o.ints.length b.cI, .slice b.aR b.v.o.refs.length b.cR, .bool a.v.has, .int .i64 a.v.o.kind, .slice a.aI a.v.o.ints.length a.cI, .slice a.aR a.v.o.refs.length a.cR]
def backD (tx prev oid : Int) (a : SlotA) (next : Int) : List Value := [.int .i64 tx, .int .i64 prev, .int .i64 oid, .bool a.v.has, .int .i64 a.v.o.kind, .slice a.aI a.v.o.ints.length a.cI, .slice a.aR a.v.o.refs.length a.cR, .int .i64 next]
def checkD (ls : List LiveV) (aL : Option Addr) (cL : Nat) : List Value := [.slice aL ls.length cL]

def issetDeed (v : List Value) : Value := .iface 134 (.agg v.toArray)
def iscommitDeed (v : List Value) : Value := .iface 136 (.agg v.toArray)
def isabortDeed (v : List Value) : Value := .iface 137 (.agg v.toArray)
def isbackDeed (v : List Value) : Value := .iface 139 (.agg v.toArray)
def isendDeed (v : List Value) : Value := .iface 140 (.agg v.toArray)
def ischeckDeed (v : List Value) : Value := .iface 142 (.agg v.toArray)
/-- What the landed code makes of a record. -/
def deedV (r : RecA) : Value :=
  if r.kind == 1 then issetDeed (setD r.tx r.prev r.oid r.bf r.af)
  else if r.kind == 2 then iscommitDeed (linkD r.tx r.prev)
  else if r.kind == 3 then isabortDeed (linkD r.tx r.prev)
  else if r.kind == 4 then isbackDeed (backD r.tx r.prev r.oid r.af r.next)
  else if r.kind == 5 then isendDeed (linkD r.tx r.prev)
  else if r.kind == 6 then ischeckDeed (checkD r.txs r.aL r.cL)
  else .nilIface

set_option maxHeartbeats 2000000 in
set_option maxRecDepth 100000 in
theorem deedOf_any (r : RecA) (w : World) :
    Calls Tryz.prog 66 #[.agg r.cells.toArray] w fun e w' => e = .returned (deedV r) ∧ Below w.heap.size w w' := by
  obtain ⟨W, hW, b0, b1, hbW, hsW⟩ := boxes2 w r.cells [.int .i64 r.tx, .int .i64 r.prev] 39 132
  have HV : Hid (deedV r = if r.kind == 1 then issetDeed (setD r.tx r.prev r.oid r.bf r.af)
    else if r.kind == 2 then iscommitDeed (linkD r.tx r.prev)
    else if r.kind == 3 then isabortDeed (linkD r.tx r.prev)
    else if r.kind == 4 then isbackDeed (backD r.tx r.prev r.oid r.af r.next)
    else if r.kind == 5 then isendDeed (linkD r.tx r.prev)
    else if r.kind == 6 then ischeckDeed (checkD r.txs r.aL r.cL)
    else .nilIface) := rfl
  generalize deedV r = D at *
  simp only [RecA.cells] at *
  obtain ⟨x0, x1, x2, x3, x4, x5, x6, x7, x8, x9, x10, x11, x12, x13, x14⟩ := fifteen b0
  have y0 := b1.cell 0 _ rfl
  have y1 := b1.cell 1 _ rfl
  clear b0 b1 hsW
  cases k1 : (r.kind == 1) with
  | true =>
    have HR : Hid (D = issetDeed (setD r.tx r.prev r.oid r.bf r.af)) := by rw [Hid, HV.out]; simp [k1]
    clear HV
    go_enter Tryz.func66, Tryz.ntmps66
    go_wp2_with fail
    rw [hW.out]
    clear hW
    go_wp2
    go_ret
    exact ⟨by rw [HR.out]; rfl, hbW⟩
  | false =>
    cases k2 : (r.kind == 2) with
    | true =>
      have HR : Hid (D = iscommitDeed (linkD r.tx r.prev)) := by rw [Hid, HV.out]; simp [k1, k2]
      clear HV
      go_enter Tryz.func66, Tryz.ntmps66
      go_wp2_with fail
      rw [hW.out]
      clear hW
      go_wp2
      go_ret
      exact ⟨by rw [HR.out]; rfl, hbW⟩
    | false =>
      cases k3 : (r.kind == 3) with
      | true =>
        have HR : Hid (D = isabortDeed (linkD r.tx r.prev)) := by rw [Hid, HV.out]; simp [k1, k2, k3]
        clear HV
        go_enter Tryz.func66, Tryz.ntmps66
        go_wp2_with fail
        rw [hW.out]
        clear hW
        go_wp2
        go_ret
        exact ⟨by rw [HR.out]; rfl, hbW⟩
      | false =>
        cases k4 : (r.kind == 4) with
        | true =>
          have HR : Hid (D = isbackDeed (backD r.tx r.prev r.oid r.af r.next)) := by rw [Hid, HV.out]; simp [k1, k2, k3, k4]
          clear HV
          go_enter Tryz.func66, Tryz.ntmps66
          go_wp2_with fail
          rw [hW.out]
          clear hW
          go_wp2
          go_ret
          exact ⟨by rw [HR.out]; rfl, hbW⟩
        | false =>
          cases k5 : (r.kind == 5) with
          | true =>
            have HR : Hid (D = isendDeed (linkD r.tx r.prev)) := by rw [Hid, HV.out]; simp [k1, k2, k3, k4, k5]
            clear HV
            go_enter Tryz.func66, Tryz.ntmps66
            go_wp2_with fail
            rw [hW.out]
            clear hW
            go_wp2
            go_ret
            exact ⟨by rw [HR.out]; rfl, hbW⟩
          | false =>
            cases k6 : (r.kind == 6) with
            | true =>
              have HR : Hid (D = ischeckDeed (checkD r.txs r.aL r.cL)) := by rw [Hid, HV.out]; simp [k1, k2, k3, k4, k5, k6]
              clear HV
              go_enter Tryz.func66, Tryz.ntmps66
              go_wp2_with fail
              rw [hW.out]
              clear hW
              go_wp2
              go_ret
              exact ⟨by rw [HR.out]; rfl, hbW⟩
            | false =>
              have HR : Hid (D = .nilIface) := by rw [Hid, HV.out]; simp [k1, k2, k3, k4, k5, k6]
              clear HV
              go_enter Tryz.func66, Tryz.ntmps66
              go_wp2
              go_ret
              exact ⟨by rw [HR.out]; rfl, by rw [hW.out]; exact hbW⟩
end Go.Proofs.YtoboickdkednkaaGreatDoor

/- The walks of impl.txOk, oidOk, isAhead, linkOk, livesOk, deedOk. -/
namespace Go.Proofs.YtoboickdkednkaaGreatDoor
open Go.RowKit

set_option maxHeartbeats 400000 in
theorem txOk_any (x : Int) (w : World) : Calls Tryz.prog 111 #[.int .i64 x] w fun e w' => e = .returned (.bool (inB x 1 1000)) ∧ w' = w := by
  by_cases h1 : 1 ≤ x
  · by_cases h2 : x ≤ 1000
    · have HB : Hid (inB x 1 1000 = true) := by simp [Hid, inB]; omega
      go_enter Tryz.func111, Tryz.ntmps111
      go_wp2
      go_ret
      exact ⟨ret_bool HB.out.symm, rfl⟩
    · have HB : Hid (inB x 1 1000 = false) := by simp [Hid, inB]; omega
      go_enter Tryz.func111, Tryz.ntmps111
      go_wp2
      go_ret
      exact ⟨ret_bool HB.out.symm, rfl⟩
  · have HB : Hid (inB x 1 1000 = false) := by simp [Hid, inB]; omega
    go_enter Tryz.func111, Tryz.ntmps111
    go_wp2
    go_ret
    exact ⟨ret_bool HB.out.symm, rfl⟩

set_option maxHeartbeats 400000 in
theorem oidOk_any (x : Int) (w : World) : Calls Tryz.prog 89 #[.int .i64 x] w fun e w' => e = .returned (.bool (inB x 1 31)) ∧ w' = w := by
  by_cases h1 : 1 ≤ x
  · by_cases h2 : x ≤ 31
    · have HB : Hid (inB x 1 31 = true) := by simp [Hid, inB]; omega
      go_enter Tryz.func89, Tryz.ntmps89
      go_wp2
      go_ret
      exact ⟨ret_bool HB.out.symm, rfl⟩
    · have HB : Hid (inB x 1 31 = false) := by simp [Hid, inB]; omega
      go_enter Tryz.func89, Tryz.ntmps89
      go_wp2
      go_ret
      exact ⟨ret_bool HB.out.symm, rfl⟩
  · have HB : Hid (inB x 1 31 = false) := by simp [Hid, inB]; omega
    go_enter Tryz.func89, Tryz.ntmps89
    go_wp2
    go_ret
    exact ⟨ret_bool HB.out.symm, rfl⟩

set_option maxHeartbeats 400000 in
theorem isAhead_any (n x : Int) (w : World) : Calls Tryz.prog 91 #[.int .i64 n, .int .i64 x] w fun e w' => e = .returned (.bool (inB x 0 (n - 1))) ∧ w' = w := by
  by_cases h1 : 0 ≤ x
  · by_cases h2 : x < n
    · have HB : Hid (inB x 0 (n - 1) = true) := by simp [Hid, inB]; omega
      go_enter Tryz.func91, Tryz.ntmps91
      go_wp2
      go_ret
      exact ⟨ret_bool HB.out.symm, rfl⟩
    · have HB : Hid (inB x 0 (n - 1) = false) := by simp [Hid, inB]; omega
      go_enter Tryz.func91, Tryz.ntmps91
      go_wp2
      go_ret
      exact ⟨ret_bool HB.out.symm, rfl⟩
  · have HB : Hid (inB x 0 (n - 1) = false) := by simp [Hid, inB]; omega
    go_enter Tryz.func91, Tryz.ntmps91
    go_wp2
    go_ret
    exact ⟨ret_bool HB.out.symm, rfl⟩

def linkB (n tx prev : Int) : Bool := inB tx 1 1000 && inB prev 0 (n - 1)
set_option maxHeartbeats 400000 in
theorem linkOk_any (n tx prev : Int) (w : World) : Calls Tryz.prog 88 #[.int .i64 n, .agg #[.int .i64 tx, .int .i64 prev]] w fun e w' => e = .returned (.bool (linkB n tx prev)) ∧ Below w.heap.size w w' := by
  obtain ⟨W, hW, b0, hbW, hsW⟩ := boxes1 w [.int .i64 tx, .int .i64 prev] 132
  have HZ : Hid (linkB n tx prev = (inB tx 1 1000 && inB prev 0 (n - 1))) := rfl
  generalize linkB n tx prev = R at *
  have y0 := b0.cell 0 _ rfl
  have y1 := b0.cell 1 _ rfl
  clear hsW b0
  go_enter Tryz.func88, Tryz.ntmps88
  go_wp2_with fail
  rw [hW.out]
  clear hW
  refine (txOk_any _ W).mono ?_
  rintro e u ⟨rfl, hu⟩
  rw [hu]
  clear hu u
  cases h0 : inB tx 1 1000 with
  | false =>
    have HR : Hid (R = false) := by rw [Hid, HZ.out]; simp [h0]
    go_wp2
    go_ret
    exact ⟨ret_bool HR.out.symm, hbW⟩
  | true =>
    have HR : Hid (R = inB prev 0 (n - 1)) := by rw [Hid, HZ.out]; simp [h0]
    go_wp2_with fail
    refine (isAhead_any _ _ W).mono ?_
    rintro e u ⟨rfl, hu⟩
    rw [hu]
    clear hu u
    go_wp2
    go_ret
    exact ⟨ret_bool HR.out.symm, hbW⟩

/-- The Tx ahead of the one at k. -/
def aheadTx (ls : List LiveV) : Nat → Int
  | 0 => 0
  | k + 1 => (ls.getD k zeroL).tx
theorem liveOk_eq (n : Int) (ls : List LiveV) (k : Nat) : liveOk n ls k = (decide (aheadTx ls k < (ls.getD k zeroL).tx) && (inB (ls.getD k zeroL).tx 1 1000 && (!((ls.getD k zeroL).last == 0) && inB (ls.getD k zeroL).last 0 (n - 1)))) := by
  rw [Bool.eq_iff_iff]
  cases k with
  | zero => simp [liveOk, aheadTx, inB]; omega
  | succ k => simp [liveOk, aheadTx, inB]; omega

set_option maxHeartbeats 2000000 in
set_option maxRecDepth 100000 in
theorem livesOk_any (n : Int) (aL : Option Addr) (cL : Nat) (ls : List LiveV) (w : World) (hr : ReadsL w aL ls) (hl : ls.length ≤ 1099511627776) :
    Calls Tryz.prog 92 #[.int .i64 n, .slice aL ls.length cL] w fun e w' => e = .returned (.bool (livesB n ls)) ∧ Below w.heap.size w w' := by
  have HNO : Hid (∀ k, k < ls.length → liveOk n ls k = false → livesB n ls = false) := fun k hk h => livesB_no k hk h
  have HAL : Hid ((∀ k, k < ls.length → liveOk n ls k = true) → livesB n ls = decide (ls.length ≤ 20)) := fun h => livesB_all h
  generalize livesB n ls = R at *
  go_enter Tryz.func92, Tryz.ntmps92
  go_wp2
  go_loopw [5, 10] (fun t i wr => ∃ k : Nat, k ≤ ls.length ∧ i = .int .i64 k ∧ t = .int .i64 (aheadTx ls k) ∧ Hid (∀ j, j < k → liveOk n ls j = true) ∧ Below w.heap.size w wr) (fun _ i _ => ls.length - (intOf i).toNat)
  case atStart => exact ⟨0, Nat.zero_le _, rfl, rfl, fun j hj => by omega, Below.refl _ _⟩
  case round =>
    obtain ⟨k, hk, rfl, rfl, hall, hbl⟩ := hrel
    have hrr := hr.below hbl
    clear hr
    by_cases hlt : k < ls.length
    · obtain ⟨b, off, rfl, hcell⟩ := hrr (by intro e; rw [e] at hlt; simp at hlt)
      obtain ⟨c0, c1, c2⟩ := hcell k hlt
      have HQ : Hid (_ = _) := liveOk_eq n ls k
      have HX : Hid (aheadTx ls (k + 1) = (ls.getD k zeroL).tx) := rfl
      have HN : Hid (liveOk n ls k = false → R = false) := fun h => HNO.out k hlt h
      clear hcell HNO HAL
      generalize aheadTx ls k = p at *
      generalize hz : ls.getD k zeroL = z at *
      obtain ⟨W, hW, b0, hbW, hsW⟩ := boxes1 wr [.int .i64 z.tx, .int .i64 z.last, .bool z.aborts] 112
      have y0 := b0.cell 0 _ rfl
      have y1 := b0.cell 1 _ rfl
      have BW : Below w.heap.size w W := hbl.trans (hbW.mono hbl.size)
      clear hsW b0 hz hbW
      by_cases hA : z.tx ≤ p
      · have HR : Hid (R = false) := HN.out (by rw [HQ.out]; simp; omega)
        clear HQ HN HX
        go_wp2
        go_ret
        exact ⟨ret_bool HR.out.symm, by rw [hW.out]; exact BW⟩
      go_wp2_with fail
      rw [hW.out]
      refine (txOk_any _ W).mono ?_
      rintro e u ⟨rfl, hu⟩
      rw [hu]
      clear hu u hW
      cases hB : inB z.tx 1 1000 with
      | false =>
        have HR : Hid (R = false) := HN.out (by rw [HQ.out]; simp [hB])
        clear HQ HN HX
        go_wp2
        go_ret
        exact ⟨ret_bool HR.out.symm, BW⟩
      | true =>
        cases hC : (z.last == 0) with
        | true =>
          have HR : Hid (R = false) := HN.out (by rw [HQ.out]; simp [hC])
          clear HQ HN HX
          go_wp2
          go_ret
          exact ⟨ret_bool HR.out.symm, BW⟩
        | false =>
          go_wp2_with fail
          refine (isAhead_any _ _ W).mono ?_
          rintro e u ⟨rfl, hu⟩
          rw [hu]
          clear hu u
          cases hD : inB z.last 0 (n - 1) with
          | false =>
            have HR : Hid (R = false) := HN.out (by rw [HQ.out]; simp [hD])
            clear HQ HN HX
            go_wp2
            go_ret
            exact ⟨ret_bool HR.out.symm, BW⟩
          | true =>
            have HK : Hid (∀ j, j < k + 1 → liveOk n ls j = true) := by
              intro j hj
              by_cases e : j = k
              · rw [e, HQ.out]; simp [hB, hC, hD]; omega
              · exact hall.out j (by omega)
            clear HQ HN
            go_wp2
            go_roundw
            case rel => exact ⟨k + 1, by omega, by go_num, by rw [HX.out], HK, BW⟩
            case measure => simp [intOf]; omega
    · have HR : Hid (R = decide (ls.length ≤ 20)) := HAL.out (fun j hj => hall.out j (by omega))
      clear HNO HAL
      go_wp2
      go_ret
      exact ⟨ret_bool (by rw [HR.out]; exact decide_eq_decide.2 (by omega)), hbl⟩

set_option maxHeartbeats 2000000 in
set_option maxRecDepth 100000 in
theorem deedOk_set (n : Int) (tx prev oid : Int) (b a : SlotA) (w : World) (hg : ErrT w) (hb : b.reads w) (ha : a.reads w) (hlb : Fit [b]) (hla : Fit [a]) :
    Calls Tryz.prog 67 #[.int .i64 n, issetDeed (setD tx prev oid b a)] w fun e w' => e = .returned (.bool (linkB n tx prev && (inB oid 1 31 && (slotB b.v && (slotB a.v))))) ∧ Below w.heap.size w w' := by
  obtain ⟨W, hW, b0, hbW, hsW⟩ := boxes1 w [.int .i64 tx, .int .i64 prev, .int .i64 oid, .bool b.v.has, .int .i64 b.v.o.kind, .slice b.aI b.v.o.ints.length b.cI, .slice b.aR b.v.o.refs.length b.cR, .bool a.v.has, .int .i64 a.v.o.kind, .slice a.aI a.v.o.ints.length a.cI, .slice a.aR a.v.o.refs.length a.cR] 134
  have HZ : Hid (∀ R, R = (linkB n tx prev && (inB oid 1 31 && (slotB b.v && (slotB a.v)))) → R = (linkB n tx prev && (inB oid 1 31 && (slotB b.v && (slotB a.v))))) := fun _ h => h
  simp only [issetDeed, setD]
  have a_setDeed := fun W => yes_setDeed W (.agg #[.int .i64 tx, .int .i64 prev, .int .i64 oid, .bool b.v.has, .int .i64 b.v.o.kind, .slice b.aI b.v.o.ints.length b.cI, .slice b.aR b.v.o.refs.length b.cR, .bool a.v.has, .int .i64 a.v.o.kind, .slice a.aI a.v.o.ints.length a.cI, .slice a.aR a.v.o.refs.length a.cR])
  have HX : Hid (∀ u, Below W.heap.size W u → Box u w.heap.size [.int .i64 tx, .int .i64 prev, .int .i64 oid, .bool b.v.has, .int .i64 b.v.o.kind, .slice b.aI b.v.o.ints.length b.cI, .slice b.aR b.v.o.refs.length b.cR, .bool a.v.has, .int .i64 a.v.o.kind, .slice a.aI a.v.o.ints.length a.cI, .slice a.aR a.v.o.refs.length a.cR] 134) := fun u hu => b0.below hu b0.lt
  obtain ⟨R, HQ⟩ : ∃ R, Hid (R = (linkB n tx prev && (inB oid 1 31 && (slotB b.v && (slotB a.v))))) := ⟨_, rfl⟩
  rw [← HQ.out]
  clear hsW b0 HZ
  go_enter Tryz.func67, Tryz.ntmps67
  have x0 := (HX.out W (Below.refl _ _)).cell 0 _ rfl
  have x1 := (HX.out W (Below.refl _ _)).cell 1 _ rfl
  have x2 := (HX.out W (Below.refl _ _)).cell 2 _ rfl
  have x3 := (HX.out W (Below.refl _ _)).cell 3 _ rfl
  have x4 := (HX.out W (Below.refl _ _)).cell 4 _ rfl
  have x5 := (HX.out W (Below.refl _ _)).cell 5 _ rfl
  have x6 := (HX.out W (Below.refl _ _)).cell 6 _ rfl
  have x7 := (HX.out W (Below.refl _ _)).cell 7 _ rfl
  have x8 := (HX.out W (Below.refl _ _)).cell 8 _ rfl
  have x9 := (HX.out W (Below.refl _ _)).cell 9 _ rfl
  have x10 := (HX.out W (Below.refl _ _)).cell 10 _ rfl
  go_wp2_with fail
  rw [hW.out]
  clear hW
  have l0 : Below W.heap.size W W := Below.refl _ _
  refine (linkOk_any n tx prev W).mono ?_
  clear x0 x1 x2 x3 x4 x5 x6 x7 x8 x9 x10
  rintro e u0 ⟨rfl, hb0⟩
  have b_0 : Below w.heap.size w u0 := (hbW).trans (hb0.mono (hbW).size)
  have l_0 : Below W.heap.size W u0 := (l0).trans (hb0.mono (l0).size)
  have x0 := (HX.out u0 (l_0)).cell 0 _ rfl
  have x1 := (HX.out u0 (l_0)).cell 1 _ rfl
  have x2 := (HX.out u0 (l_0)).cell 2 _ rfl
  have x3 := (HX.out u0 (l_0)).cell 3 _ rfl
  have x4 := (HX.out u0 (l_0)).cell 4 _ rfl
  have x5 := (HX.out u0 (l_0)).cell 5 _ rfl
  have x6 := (HX.out u0 (l_0)).cell 6 _ rfl
  have x7 := (HX.out u0 (l_0)).cell 7 _ rfl
  have x8 := (HX.out u0 (l_0)).cell 8 _ rfl
  have x9 := (HX.out u0 (l_0)).cell 9 _ rfl
  have x10 := (HX.out u0 (l_0)).cell 10 _ rfl
  clear hb0
  cases h0 : linkB n tx prev with
  | false =>
    have HR : Hid (R = false) := by rw [Hid, HQ.out]; simp [h0]
    go_wp2
    go_ret
    exact ⟨ret_bool HR.out.symm, b_0⟩
  | true =>
    go_wp2_with fail
    refine (oidOk_any oid u0).mono ?_
    rintro e v ⟨rfl, hv⟩
    rw [hv]
    clear hv v
    cases h1 : inB oid 1 31 with
    | false =>
      have HR : Hid (R = false) := by rw [Hid, HQ.out]; simp [h0, h1]
      go_wp2
      go_ret
      exact ⟨ret_bool HR.out.symm, b_0⟩
    | true =>
      go_wp2_with fail
      refine (slotOk_any b u0 (hg.keep (b_0)) (ReadsO.below hb (b_0)) hlb).mono ?_
      clear x0 x1 x2 x3 x4 x5 x6 x7 x8 x9 x10
      rintro e u2 ⟨rfl, hb2⟩
      have b_2 : Below w.heap.size w u2 := (b_0).trans (hb2.mono (b_0).size)
      have l_2 : Below W.heap.size W u2 := (l_0).trans (hb2.mono (l_0).size)
      have x0 := (HX.out u2 (l_2)).cell 0 _ rfl
      have x1 := (HX.out u2 (l_2)).cell 1 _ rfl
      have x2 := (HX.out u2 (l_2)).cell 2 _ rfl
      have x3 := (HX.out u2 (l_2)).cell 3 _ rfl
      have x4 := (HX.out u2 (l_2)).cell 4 _ rfl
      have x5 := (HX.out u2 (l_2)).cell 5 _ rfl
      have x6 := (HX.out u2 (l_2)).cell 6 _ rfl
      have x7 := (HX.out u2 (l_2)).cell 7 _ rfl
      have x8 := (HX.out u2 (l_2)).cell 8 _ rfl
      have x9 := (HX.out u2 (l_2)).cell 9 _ rfl
      have x10 := (HX.out u2 (l_2)).cell 10 _ rfl
      clear hb2
      cases h2 : slotB b.v with
      | false =>
        have HR : Hid (R = false) := by rw [Hid, HQ.out]; simp [h0, h1, h2]
        go_wp2
        go_ret
        exact ⟨ret_bool HR.out.symm, b_2⟩
      | true =>
        go_wp2_with fail
        refine (slotOk_any a u2 (hg.keep (b_2)) (ReadsO.below ha (b_2)) hla).mono ?_
        clear x0 x1 x2 x3 x4 x5 x6 x7 x8 x9 x10
        rintro e u3 ⟨rfl, hb3⟩
        have b_3 : Below w.heap.size w u3 := (b_2).trans (hb3.mono (b_2).size)
        have l_3 : Below W.heap.size W u3 := (l_2).trans (hb3.mono (l_2).size)
        have x0 := (HX.out u3 (l_3)).cell 0 _ rfl
        have x1 := (HX.out u3 (l_3)).cell 1 _ rfl
        have x2 := (HX.out u3 (l_3)).cell 2 _ rfl
        have x3 := (HX.out u3 (l_3)).cell 3 _ rfl
        have x4 := (HX.out u3 (l_3)).cell 4 _ rfl
        have x5 := (HX.out u3 (l_3)).cell 5 _ rfl
        have x6 := (HX.out u3 (l_3)).cell 6 _ rfl
        have x7 := (HX.out u3 (l_3)).cell 7 _ rfl
        have x8 := (HX.out u3 (l_3)).cell 8 _ rfl
        have x9 := (HX.out u3 (l_3)).cell 9 _ rfl
        have x10 := (HX.out u3 (l_3)).cell 10 _ rfl
        clear hb3
        have HR : Hid (R = slotB a.v) := by rw [Hid, HQ.out]; simp [h0, h1, h2]
        generalize slotB a.v = G at *
        go_wp2
        go_ret
        exact ⟨ret_bool HR.out.symm, b_3⟩
set_option maxHeartbeats 2000000 in
set_option maxRecDepth 100000 in
theorem deedOk_commit (n : Int) (tx prev : Int) (w : World) :
    Calls Tryz.prog 67 #[.int .i64 n, iscommitDeed (linkD tx prev)] w fun e w' => e = .returned (.bool (linkB n tx prev)) ∧ Below w.heap.size w w' := by
  obtain ⟨W, hW, b0, hbW, hsW⟩ := boxes1 w [.int .i64 tx, .int .i64 prev] 136
  have HZ : Hid (∀ R, R = (linkB n tx prev) → R = (linkB n tx prev)) := fun _ h => h
  simp only [iscommitDeed, linkD]
  have a_setDeed := fun W => no_setDeed W 136 (.agg #[.int .i64 tx, .int .i64 prev]) (by decide)
  have a_commitDeed := fun W => yes_commitDeed W (.agg #[.int .i64 tx, .int .i64 prev])
  have HX : Hid (∀ u, Below W.heap.size W u → Box u w.heap.size [.int .i64 tx, .int .i64 prev] 136) := fun u hu => b0.below hu b0.lt
  obtain ⟨R, HQ⟩ : ∃ R, Hid (R = (linkB n tx prev)) := ⟨_, rfl⟩
  rw [← HQ.out]
  clear hsW b0 HZ
  go_enter Tryz.func67, Tryz.ntmps67
  have x0 := (HX.out W (Below.refl _ _)).cell 0 _ rfl
  have x1 := (HX.out W (Below.refl _ _)).cell 1 _ rfl
  go_wp2_with fail
  rw [hW.out]
  clear hW
  have l0 : Below W.heap.size W W := Below.refl _ _
  refine (linkOk_any n tx prev W).mono ?_
  clear x0 x1
  rintro e u0 ⟨rfl, hb0⟩
  have b_0 : Below w.heap.size w u0 := (hbW).trans (hb0.mono (hbW).size)
  have l_0 : Below W.heap.size W u0 := (l0).trans (hb0.mono (l0).size)
  have x0 := (HX.out u0 (l_0)).cell 0 _ rfl
  have x1 := (HX.out u0 (l_0)).cell 1 _ rfl
  clear hb0
  have HR : Hid (R = linkB n tx prev) := HQ.out
  generalize linkB n tx prev = G at *
  go_wp2
  go_ret
  exact ⟨ret_bool HR.out.symm, b_0⟩
set_option maxHeartbeats 2000000 in
set_option maxRecDepth 100000 in
theorem deedOk_abort (n : Int) (tx prev : Int) (w : World) :
    Calls Tryz.prog 67 #[.int .i64 n, isabortDeed (linkD tx prev)] w fun e w' => e = .returned (.bool (linkB n tx prev)) ∧ Below w.heap.size w w' := by
  obtain ⟨W, hW, b0, hbW, hsW⟩ := boxes1 w [.int .i64 tx, .int .i64 prev] 137
  have HZ : Hid (∀ R, R = (linkB n tx prev) → R = (linkB n tx prev)) := fun _ h => h
  simp only [isabortDeed, linkD]
  have a_setDeed := fun W => no_setDeed W 137 (.agg #[.int .i64 tx, .int .i64 prev]) (by decide)
  have a_commitDeed := fun W => no_commitDeed W 137 (.agg #[.int .i64 tx, .int .i64 prev]) (by decide)
  have a_abortDeed := fun W => yes_abortDeed W (.agg #[.int .i64 tx, .int .i64 prev])
  have HX : Hid (∀ u, Below W.heap.size W u → Box u w.heap.size [.int .i64 tx, .int .i64 prev] 137) := fun u hu => b0.below hu b0.lt
  obtain ⟨R, HQ⟩ : ∃ R, Hid (R = (linkB n tx prev)) := ⟨_, rfl⟩
  rw [← HQ.out]
  clear hsW b0 HZ
  go_enter Tryz.func67, Tryz.ntmps67
  have x0 := (HX.out W (Below.refl _ _)).cell 0 _ rfl
  have x1 := (HX.out W (Below.refl _ _)).cell 1 _ rfl
  go_wp2_with fail
  rw [hW.out]
  clear hW
  have l0 : Below W.heap.size W W := Below.refl _ _
  refine (linkOk_any n tx prev W).mono ?_
  clear x0 x1
  rintro e u0 ⟨rfl, hb0⟩
  have b_0 : Below w.heap.size w u0 := (hbW).trans (hb0.mono (hbW).size)
  have l_0 : Below W.heap.size W u0 := (l0).trans (hb0.mono (l0).size)
  have x0 := (HX.out u0 (l_0)).cell 0 _ rfl
  have x1 := (HX.out u0 (l_0)).cell 1 _ rfl
  clear hb0
  have HR : Hid (R = linkB n tx prev) := HQ.out
  generalize linkB n tx prev = G at *
  go_wp2
  go_ret
  exact ⟨ret_bool HR.out.symm, b_0⟩
set_option maxHeartbeats 2000000 in
set_option maxRecDepth 100000 in
theorem deedOk_end (n : Int) (tx prev : Int) (w : World) :
    Calls Tryz.prog 67 #[.int .i64 n, isendDeed (linkD tx prev)] w fun e w' => e = .returned (.bool (linkB n tx prev)) ∧ Below w.heap.size w w' := by
  obtain ⟨W, hW, b0, hbW, hsW⟩ := boxes1 w [.int .i64 tx, .int .i64 prev] 140
  have HZ : Hid (∀ R, R = (linkB n tx prev) → R = (linkB n tx prev)) := fun _ h => h
  simp only [isendDeed, linkD]
  have a_setDeed := fun W => no_setDeed W 140 (.agg #[.int .i64 tx, .int .i64 prev]) (by decide)
  have a_commitDeed := fun W => no_commitDeed W 140 (.agg #[.int .i64 tx, .int .i64 prev]) (by decide)
  have a_abortDeed := fun W => no_abortDeed W 140 (.agg #[.int .i64 tx, .int .i64 prev]) (by decide)
  have a_backDeed := fun W => no_backDeed W 140 (.agg #[.int .i64 tx, .int .i64 prev]) (by decide)
  have a_endDeed := fun W => yes_endDeed W (.agg #[.int .i64 tx, .int .i64 prev])
  have HX : Hid (∀ u, Below W.heap.size W u → Box u w.heap.size [.int .i64 tx, .int .i64 prev] 140) := fun u hu => b0.below hu b0.lt
  obtain ⟨R, HQ⟩ : ∃ R, Hid (R = (linkB n tx prev)) := ⟨_, rfl⟩
  rw [← HQ.out]
  clear hsW b0 HZ
  go_enter Tryz.func67, Tryz.ntmps67
  have x0 := (HX.out W (Below.refl _ _)).cell 0 _ rfl
  have x1 := (HX.out W (Below.refl _ _)).cell 1 _ rfl
  go_wp2_with fail
  rw [hW.out]
  clear hW
  have l0 : Below W.heap.size W W := Below.refl _ _
  refine (linkOk_any n tx prev W).mono ?_
  clear x0 x1
  rintro e u0 ⟨rfl, hb0⟩
  have b_0 : Below w.heap.size w u0 := (hbW).trans (hb0.mono (hbW).size)
  have l_0 : Below W.heap.size W u0 := (l0).trans (hb0.mono (l0).size)
  have x0 := (HX.out u0 (l_0)).cell 0 _ rfl
  have x1 := (HX.out u0 (l_0)).cell 1 _ rfl
  clear hb0
  have HR : Hid (R = linkB n tx prev) := HQ.out
  generalize linkB n tx prev = G at *
  go_wp2
  go_ret
  exact ⟨ret_bool HR.out.symm, b_0⟩
set_option maxHeartbeats 2000000 in
set_option maxRecDepth 100000 in
theorem deedOk_back (n : Int) (tx prev oid : Int) (a : SlotA) (next : Int) (w : World) (hg : ErrT w) (ha : a.reads w) (hla : Fit [a]) :
    Calls Tryz.prog 67 #[.int .i64 n, isbackDeed (backD tx prev oid a next)] w fun e w' => e = .returned (.bool (linkB n tx prev && (inB oid 1 31 && (slotB a.v && (inB next 0 (n - 1)))))) ∧ Below w.heap.size w w' := by
  obtain ⟨W, hW, b0, hbW, hsW⟩ := boxes1 w [.int .i64 tx, .int .i64 prev, .int .i64 oid, .bool a.v.has, .int .i64 a.v.o.kind, .slice a.aI a.v.o.ints.length a.cI, .slice a.aR a.v.o.refs.length a.cR, .int .i64 next] 139
  have HZ : Hid (∀ R, R = (linkB n tx prev && (inB oid 1 31 && (slotB a.v && (inB next 0 (n - 1))))) → R = (linkB n tx prev && (inB oid 1 31 && (slotB a.v && (inB next 0 (n - 1)))))) := fun _ h => h
  simp only [isbackDeed, backD]
  have a_setDeed := fun W => no_setDeed W 139 (.agg #[.int .i64 tx, .int .i64 prev, .int .i64 oid, .bool a.v.has, .int .i64 a.v.o.kind, .slice a.aI a.v.o.ints.length a.cI, .slice a.aR a.v.o.refs.length a.cR, .int .i64 next]) (by decide)
  have a_commitDeed := fun W => no_commitDeed W 139 (.agg #[.int .i64 tx, .int .i64 prev, .int .i64 oid, .bool a.v.has, .int .i64 a.v.o.kind, .slice a.aI a.v.o.ints.length a.cI, .slice a.aR a.v.o.refs.length a.cR, .int .i64 next]) (by decide)
  have a_abortDeed := fun W => no_abortDeed W 139 (.agg #[.int .i64 tx, .int .i64 prev, .int .i64 oid, .bool a.v.has, .int .i64 a.v.o.kind, .slice a.aI a.v.o.ints.length a.cI, .slice a.aR a.v.o.refs.length a.cR, .int .i64 next]) (by decide)
  have a_backDeed := fun W => yes_backDeed W (.agg #[.int .i64 tx, .int .i64 prev, .int .i64 oid, .bool a.v.has, .int .i64 a.v.o.kind, .slice a.aI a.v.o.ints.length a.cI, .slice a.aR a.v.o.refs.length a.cR, .int .i64 next])
  have HX : Hid (∀ u, Below W.heap.size W u → Box u w.heap.size [.int .i64 tx, .int .i64 prev, .int .i64 oid, .bool a.v.has, .int .i64 a.v.o.kind, .slice a.aI a.v.o.ints.length a.cI, .slice a.aR a.v.o.refs.length a.cR, .int .i64 next] 139) := fun u hu => b0.below hu b0.lt
  obtain ⟨R, HQ⟩ : ∃ R, Hid (R = (linkB n tx prev && (inB oid 1 31 && (slotB a.v && (inB next 0 (n - 1)))))) := ⟨_, rfl⟩
  rw [← HQ.out]
  clear hsW b0 HZ
  go_enter Tryz.func67, Tryz.ntmps67
  have x0 := (HX.out W (Below.refl _ _)).cell 0 _ rfl
  have x1 := (HX.out W (Below.refl _ _)).cell 1 _ rfl
  have x2 := (HX.out W (Below.refl _ _)).cell 2 _ rfl
  have x3 := (HX.out W (Below.refl _ _)).cell 3 _ rfl
  have x4 := (HX.out W (Below.refl _ _)).cell 4 _ rfl
  have x5 := (HX.out W (Below.refl _ _)).cell 5 _ rfl
  have x6 := (HX.out W (Below.refl _ _)).cell 6 _ rfl
  have x7 := (HX.out W (Below.refl _ _)).cell 7 _ rfl
  go_wp2_with fail
  rw [hW.out]
  clear hW
  have l0 : Below W.heap.size W W := Below.refl _ _
  refine (linkOk_any n tx prev W).mono ?_
  clear x0 x1 x2 x3 x4 x5 x6 x7
  rintro e u0 ⟨rfl, hb0⟩
  have b_0 : Below w.heap.size w u0 := (hbW).trans (hb0.mono (hbW).size)
  have l_0 : Below W.heap.size W u0 := (l0).trans (hb0.mono (l0).size)
  have x0 := (HX.out u0 (l_0)).cell 0 _ rfl
  have x1 := (HX.out u0 (l_0)).cell 1 _ rfl
  have x2 := (HX.out u0 (l_0)).cell 2 _ rfl
  have x3 := (HX.out u0 (l_0)).cell 3 _ rfl
  have x4 := (HX.out u0 (l_0)).cell 4 _ rfl
  have x5 := (HX.out u0 (l_0)).cell 5 _ rfl
  have x6 := (HX.out u0 (l_0)).cell 6 _ rfl
  have x7 := (HX.out u0 (l_0)).cell 7 _ rfl
  clear hb0
  cases h0 : linkB n tx prev with
  | false =>
    have HR : Hid (R = false) := by rw [Hid, HQ.out]; simp [h0]
    go_wp2
    go_ret
    exact ⟨ret_bool HR.out.symm, b_0⟩
  | true =>
    go_wp2_with fail
    refine (oidOk_any oid u0).mono ?_
    rintro e v ⟨rfl, hv⟩
    rw [hv]
    clear hv v
    cases h1 : inB oid 1 31 with
    | false =>
      have HR : Hid (R = false) := by rw [Hid, HQ.out]; simp [h0, h1]
      go_wp2
      go_ret
      exact ⟨ret_bool HR.out.symm, b_0⟩
    | true =>
      go_wp2_with fail
      refine (slotOk_any a u0 (hg.keep (b_0)) (ReadsO.below ha (b_0)) hla).mono ?_
      clear x0 x1 x2 x3 x4 x5 x6 x7
      rintro e u2 ⟨rfl, hb2⟩
      have b_2 : Below w.heap.size w u2 := (b_0).trans (hb2.mono (b_0).size)
      have l_2 : Below W.heap.size W u2 := (l_0).trans (hb2.mono (l_0).size)
      have x0 := (HX.out u2 (l_2)).cell 0 _ rfl
      have x1 := (HX.out u2 (l_2)).cell 1 _ rfl
      have x2 := (HX.out u2 (l_2)).cell 2 _ rfl
      have x3 := (HX.out u2 (l_2)).cell 3 _ rfl
      have x4 := (HX.out u2 (l_2)).cell 4 _ rfl
      have x5 := (HX.out u2 (l_2)).cell 5 _ rfl
      have x6 := (HX.out u2 (l_2)).cell 6 _ rfl
      have x7 := (HX.out u2 (l_2)).cell 7 _ rfl
      clear hb2
      cases h2 : slotB a.v with
      | false =>
        have HR : Hid (R = false) := by rw [Hid, HQ.out]; simp [h0, h1, h2]
        go_wp2
        go_ret
        exact ⟨ret_bool HR.out.symm, b_2⟩
      | true =>
        go_wp2_with fail
        refine (isAhead_any n next u2).mono ?_
        rintro e v ⟨rfl, hv⟩
        rw [hv]
        clear hv v
        have HR : Hid (R = inB next 0 (n - 1)) := by rw [Hid, HQ.out]; simp [h0, h1, h2]
        generalize inB next 0 (n - 1) = G at *
        go_wp2
        go_ret
        exact ⟨ret_bool HR.out.symm, b_2⟩
set_option maxHeartbeats 2000000 in
set_option maxRecDepth 100000 in
theorem deedOk_check (n : Int) (ls : List LiveV) (aL : Option Addr) (cL : Nat) (w : World) (hr : ReadsL w aL ls) (hl : ls.length ≤ 1099511627776) :
    Calls Tryz.prog 67 #[.int .i64 n, ischeckDeed (checkD ls aL cL)] w fun e w' => e = .returned (.bool (livesB n ls)) ∧ Below w.heap.size w w' := by
  obtain ⟨W, hW, b0, hbW, hsW⟩ := boxes1 w [.slice aL ls.length cL] 142
  have HZ : Hid (∀ R, R = (livesB n ls) → R = (livesB n ls)) := fun _ h => h
  simp only [ischeckDeed, checkD]
  have a_setDeed := fun W => no_setDeed W 142 (.agg #[.slice aL ls.length cL]) (by decide)
  have a_commitDeed := fun W => no_commitDeed W 142 (.agg #[.slice aL ls.length cL]) (by decide)
  have a_abortDeed := fun W => no_abortDeed W 142 (.agg #[.slice aL ls.length cL]) (by decide)
  have a_backDeed := fun W => no_backDeed W 142 (.agg #[.slice aL ls.length cL]) (by decide)
  have a_endDeed := fun W => no_endDeed W 142 (.agg #[.slice aL ls.length cL]) (by decide)
  have a_checkDeed := fun W => yes_checkDeed W (.agg #[.slice aL ls.length cL])
  have HX : Hid (∀ u, Below W.heap.size W u → Box u w.heap.size [.slice aL ls.length cL] 142) := fun u hu => b0.below hu b0.lt
  obtain ⟨R, HQ⟩ : ∃ R, Hid (R = (livesB n ls)) := ⟨_, rfl⟩
  rw [← HQ.out]
  clear hsW b0 HZ
  go_enter Tryz.func67, Tryz.ntmps67
  have x0 := (HX.out W (Below.refl _ _)).cell 0 _ rfl
  go_wp2_with fail
  rw [hW.out]
  clear hW
  have l0 : Below W.heap.size W W := Below.refl _ _
  refine (livesOk_any n aL cL ls W (hr.below (hbW)) hl).mono ?_
  clear x0
  rintro e u0 ⟨rfl, hb0⟩
  have b_0 : Below w.heap.size w u0 := (hbW).trans (hb0.mono (hbW).size)
  have l_0 : Below W.heap.size W u0 := (l0).trans (hb0.mono (l0).size)
  have x0 := (HX.out u0 (l_0)).cell 0 _ rfl
  clear hb0
  have HR : Hid (R = livesB n ls) := HQ.out
  generalize livesB n ls = G at *
  go_wp2
  go_ret
  exact ⟨ret_bool HR.out.symm, b_0⟩
set_option maxHeartbeats 400000 in
theorem deedOk_nil (n : Int) (w : World) : Calls Tryz.prog 67 #[.int .i64 n, .nilIface] w fun e w' => e = .returned (.bool false) ∧ Below w.heap.size w w' := by
  have a_setDeed := nil_setDeed
  have a_commitDeed := nil_commitDeed
  have a_abortDeed := nil_abortDeed
  have a_backDeed := nil_backDeed
  have a_endDeed := nil_endDeed
  have a_checkDeed := nil_checkDeed
  go_enter Tryz.func67, Tryz.ntmps67
  go_wp2
  go_ret
  exact ⟨rfl, Below.refl _ _⟩
end Go.Proofs.YtoboickdkednkaaGreatDoor
