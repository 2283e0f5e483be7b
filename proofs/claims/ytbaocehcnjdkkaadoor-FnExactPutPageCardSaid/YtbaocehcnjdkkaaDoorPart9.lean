/- Several texts in one, in their order. -/
import Derived.Test.YtbaocehcnjdkkaaDoorPart8
import Derived.Test.YtbaocehcnjdkkaaDoorPart3
import Derived.Test.YtbaocehcnjdkkaaDoorPart1
import Derived.ProofKit
import Derived.OpenShut
import Derived.ChangeOld
import Derived.Test.YtbaocehcnjdkkaaDoorPart4
import Derived.ChangeArms
import Derived.Test.YtbaocehcnjdkkaaDoorPart7
import Derived.Test.YtbaocehcnjdkkaaDoorPart5
import Derived.Deep.RegionHeld3
import Derived.Test.YtbaocehcnjdkkaaDoorRows
import Derived.LaidLaws
import Derived.LaidHandle
import Derived.Stop.Joined
import Derived.ChangeVars
/- The walks of impl.putSlot and impl.PutPage. -/
namespace Go.Proofs.YtbaocehcnjdkkaaDoor
open Go.RowKit

theorem strOf_size (y : List Int) : (strOf y).size = y.length := by simp [strOf, ByteArray.size]
theorem sBytes_strOf (y : List Int) (h : Bytes y) : sBytes (strOf y) = y := by
  unfold sBytes strOf
  simp only [List.map_map]
  conv => rhs; rw [← List.map_id y]
  apply List.map_congr_left
  intro z hz
  have := h z hz
  simp
  omega
theorem putText_put (o : ObjV) : putTextOf (strOf (putObjOf o)) = putOf (putObjOf o).length ++ putObjOf o := by
  unfold putTextOf
  rw [strOf_size, sBytes_strOf _ (putObj_byte o)]
theorem flatS_take (ss : List SlotA) (k : Nat) (h : k < ss.length) : ((ss.take (k + 1)).map (·.v)).flatMap putSlotOf = ((ss.take k).map (·.v)).flatMap putSlotOf ++ putSlotOf (ss.getD k zeroS).v := by
  rw [List.take_add_one, List.map_append, List.flatMap_append]
  simp [List.getD, h]

set_option maxHeartbeats 400000 in
set_option maxRecDepth 100000 in
theorem putSlot_any (a : Option Addr) (c : Nat) (xs : List Int) (s : SlotA) (w : World) (hg : ErrT w) (hx : Reads w a xs) (hc : a = none → c = 0) (hr : s.reads w) (hl : Fit [s]) (hxl : xs.length ≤ 1000000) :
    Calls Tryd.prog 40 #[.slice a xs.length c, .agg s.cells.toArray] w fun e w' => ∃ a' c' ys, e = .returned (.slice a' ys.length c') ∧ Hid (ys = xs ++ (putOf (putObjOf s.v.o).length ++ putObjOf s.v.o)) ∧ OwnB w' w.heap.size a' c' ys ∧ Below w.heap.size w w' := by
  obtain ⟨h1, h2⟩ := hl s (List.mem_singleton.2 rfl)
  obtain ⟨W, hW, b0, hbW, hsW⟩ := boxes1 w s.cells 28
  have C1 := implPutObj_any s.v.o s.aI s.cI s.aR s.cR W (hg.keep hbW) (ReadsO.below hr hbW) (by omega) (by omega)
  have HT : Hid (_ = _) := putText_put s.v.o
  have hpl := putObj_len s.v.o
  have HC : Hid (a = none → c = 0) := hc
  simp only [SlotA.cells] at *
  clear hc
  go_enter Tryd.func40, Tryd.ntmps40
  go_wp2_with fail
  rw [hW.out]
  refine C1.mono ?_
  rintro e w1 ⟨a1, c1, y1, rfl, HY1, ho1, hb1⟩
  have hcv := run_text_own ho1
  have B1 : Below w.heap.size w w1 := hbW.trans (hb1.mono hbW.size)
  have hyl : (strOf y1).size ≤ 1000 := by rw [strOf_size, HY1.out]; exact hpl
  have HS : Hid (putTextOf (strOf y1) = putOf (putObjOf s.v.o).length ++ putObjOf s.v.o) := by rw [Hid, HY1.out]; exact HT.out
  generalize strOf y1 = t1 at *
  clear C1 HT
  go_wp2_with fail
  refine (implPutText_any a c xs t1 w1 (hx.below B1) HC.out (by omega)).mono ?_
  rintro e w2 ⟨a2, c2, y2, rfl, hy2, ho2, hb2⟩
  have HY2 : Hid (y2 = xs ++ (putOf (putObjOf s.v.o).length ++ putObjOf s.v.o)) := by rw [Hid, hy2, HS.out]
  clear hy2
  go_wp2
  go_ret
  exact ⟨a2, c2, y2, rfl, HY2, ho2.base B1.size, B1.trans (hb2.mono B1.size)⟩

set_option maxHeartbeats 1000000 in
set_option maxRecDepth 100000 in
theorem implPutPage_any (p : PageA) (h4 : p.ss.length = 4) (w : World) (hg : ErrT w) (hr : ReadsS w p.ss) (hl : Fit p.ss) :
    Calls Tryd.prog 10 #[.agg p.cells.toArray] w fun e w' => ∃ a' c' ys, e = .returned (.slice a' ys.length c') ∧ Hid (ys = putPageOf p.lsn (p.ss.map (·.v))) ∧ OwnB w' w.heap.size a' c' ys ∧ Below w.heap.size w w' := by
  obtain ⟨W, hW, b0, hbW, hsW⟩ := boxes1 w p.cells 31
  have hrg : W.rangeAt w.heap.size 0 p.cells := Box.range [] p.cells [] (by simpa using b0)
  have hi : (Tryd.prog.info? 31).map (·.size) = some p.cells.length := by rw [page_len p h4]; kernel_rfl
  have C1 := implPageOk_any p h4 W (hg.keep hbW) (hr.below hbW) hl
  have HPT : Hid (okP p.lsn (p.ss.map (·.v)) = true → putPageOf p.lsn (p.ss.map (·.v)) = frameOf (bodyOf p.lsn (p.ss.map (·.v)))) := fun h => putP_ok h
  have HPF : Hid (okP p.lsn (p.ss.map (·.v)) = false → putPageOf p.lsn (p.ss.map (·.v)) = []) := fun h => by unfold putPageOf; rw [if_neg (by rw [h]; decide)]
  have HSB : Hid (okP p.lsn (p.ss.map (·.v)) = true → ∀ s ∈ p.ss, slotB s.v = true) := fun h s hs => (okP_bd h).1 s.v (List.mem_map.2 ⟨s, hs, rfl⟩)
  generalize putPageOf p.lsn (p.ss.map (·.v)) = R at *
  go_enter Tryd.func10, Tryd.ntmps10
  go_wp2_with (first | (guard_target = wpList _ _ _ (Oper.mk (some 6) _ _ _ _ _ :: _) _ _; refine wpList_load_mid rfl 31 (.tmp 1) rfl w.heap.size 0 rfl p.cells _ (by rw [hW.out]; exact hrg) Tryd.underlying31 rfl hi ?_) | fail)
  rw [hW.out]
  clear hW hrg hi hsW
  refine C1.mono ?_
  clear C1
  rintro e w1 ⟨rfl, hb1⟩
  have B1 : Below w.heap.size w w1 := hbW.trans (hb1.mono hbW.size)
  have b1 := b0.below hb1 b0.lt
  cases hok : okP p.lsn (p.ss.map (·.v)) with
  | false =>
    have HR : Hid (R = []) := HPF.out hok
    clear hok HPT HSB
    go_wp2
    go_ret
    exact ⟨_, 0, [], rfl, HR.out.symm, (own_lit0 w1).base B1.size, B1.alloc B1.size _⟩
  | true =>
    have HR : Hid (_ = _) := HPT.out hok
    have HSB' : Hid (_) := HSB.out hok
    clear hok HPF HPT HSB
    obtain ⟨n, ss⟩ := p
    simp only [PageA.cells] at *
    have H4 : Hid (ss.length = 4) := h4
    have HX := run_index_slot ss h4
    have hrg1 : ∀ w', Below w1.heap.size w1 w' → w'.rangeAt w.heap.size 1 (cellsS ss) := fun w' hh => Box.range [.int .i64 n] (cellsS ss) [] (by simpa using b1.below hh b1.lt)
    have hi4 : (Tryd.prog.info? 29).map (·.size) = some (cellsS ss).length := by rw [cellsS_len, h4]; kernel_rfl
    have x0 := b1.cell 0 _ rfl
    clear h4
    go_wp2_with fail
    refine (putInts_any none 0 [] _ _ [n] _ ⟨by simp, by simp⟩ (fun _ => rfl) (readsI_one w1 n _) (by simp)).mono ?_
    rintro e w2 ⟨a2, c2, y2, rfl, hy2, ho2, hb2⟩
    have hbA : Below w1.heap.size w1 (w1.alloc (.cells #[.int .i64 n] 3)) := (Below.refl _ _).alloc (Nat.le_refl _) _
    have N2 : Below w1.heap.size w1 w2 := hbA.trans (hb2.mono hbA.size)
    have B2 : Below w.heap.size w w2 := B1.trans (N2.mono B1.size)
    have HY2 : Hid (y2 = putOf n ++ ((ss.take 0).map (·.v)).flatMap putSlotOf) := by rw [Hid, hy2]; simp
    have ho2' : OwnB w2 w.heap.size a2 c2 y2 := ho2.base (Nat.le_trans B1.size hbA.size)
    have hrg2 := hrg1 w2 N2
    clear hy2 hbA hb2 ho2 x0 hrg1
    go_wp2_with (first | (guard_target = wpList _ _ _ (Oper.mk (some 15) _ _ _ _ _ :: _) _ _; refine wpList_load_mid rfl 29 (.tmp 14) rfl w.heap.size 1 rfl (cellsS ss) _ hrg2 Tryd.underlying29 rfl hi4 ?_) | fail)
    clear hrg2 hi4
    go_loopw [3, 16] (fun b i wr => ∃ (a' : Option Addr) (c' : Nat) (ys : List Int) (k : Nat), b = .slice a' ys.length c' ∧ i = .int .i64 k ∧ k ≤ 4 ∧ Hid (ys = putOf n ++ ((ss.take k).map (·.v)).flatMap putSlotOf) ∧ OwnB wr w.heap.size a' c' ys ∧ Below w.heap.size w wr)
      (fun _ i _ => 4 - (intOf i).toNat)
    case atStart => exact ⟨a2, c2, y2, 0, rfl, rfl, by omega, HY2, ho2', B2⟩
    case round =>
      obtain ⟨a', c', ys, k, rfl, rfl, hk, hy, ho, hbl⟩ := hrel
      have hyl : ys.length ≤ 100000 := by
        have h1 := flatS_len ((ss.take k).map (·.v))
        have h2 := (putOf_len n).2
        rw [hy.out, List.length_append]
        rw [List.length_map, List.length_take] at h1
        omega
      by_cases hlt : k < 4
      · have hkl : k < ss.length := by rw [H4.out]; exact hlt
        have hx := HX k hlt
        clear HX
        have hrk := (hr _ (getD_mem hkl)).below hbl
        have hlk : Fit [ss.getD k zeroS] := fun s hs => by obtain rfl := List.mem_singleton.1 hs; exact hl _ (getD_mem hkl)
        have HF : Hid (((ss.take (k + 1)).map (·.v)).flatMap putSlotOf = ((ss.take k).map (·.v)).flatMap putSlotOf ++ (putOf (putObjOf (ss.getD k zeroS).v.o).length ++ putObjOf (ss.getD k zeroS).v.o)) := by
          rw [Hid, flatS_take ss k hkl, putSlot_one (HSB'.out _ (getD_mem hkl))]
        generalize ss.getD k zeroS = s at *
        simp only [SlotA.cells] at hx
        obtain ⟨W3, hW3, b3, hb3, hs3⟩ := boxes1 wr [.bool s.v.has, .int .i64 s.v.o.kind, .slice s.aI s.v.o.ints.length s.cI, .slice s.aR s.v.o.refs.length s.cR] 28
        have B3 : Below w.heap.size w W3 := hbl.trans (hb3.mono hbl.size)
        have C := putSlot_any a' c' ys s W3 (hg.keep B3) (ho.reads.below hb3) ho.nocap (ReadsO.below hrk hb3) hlk (by omega)
        simp only [SlotA.cells] at C
        go_wp2_with fail
        rw [hW3.out]
        refine C.mono ?_
        clear C hx
        rintro e w4 ⟨a4, c4, y4, rfl, HY4, ho4, hb4⟩
        have HY : Hid (y4 = putOf n ++ ((ss.take (k + 1)).map (·.v)).flatMap putSlotOf) := by rw [Hid, HY4.out, hy.out, HF.out]; simp only [List.append_assoc]
        go_wp2_with fail
        go_roundw
        case rel => exact ⟨a4, c4, y4, k + 1, rfl, by go_num, by omega, HY, ho4.base B3.size, B3.trans (hb4.mono B3.size)⟩
        case measure => simp [intOf]; omega
      · obtain rfl : k = 4 := by omega
        have hkk : ¬ ((4 : Nat) : Int) < 4 := by omega
        have HYB : Hid (ys = bodyOf n (ss.map (·.v))) := by rw [Hid, hy.out, List.take_of_length_le (by rw [H4.out]; omega)]; rfl
        clear HX
        go_wp2_with fail
        refine (implFrame_any a' c' ys wr ho.reads ho.nocap (by omega)).mono ?_
        rintro e w5 ⟨a5, c5, y5, rfl, hy5, ho5, hb5⟩
        have HY5 : Hid (y5 = R) := by rw [Hid, hy5, HYB.out, HR.out]
        clear hy5
        go_wp2
        go_ret
        exact ⟨a5, c5, y5, rfl, HY5, ho5.base hbl.size, hbl.trans (hb5.mono hbl.size)⟩
end Go.Proofs.YtbaocehcnjdkkaaDoor

/- What came in, read: a slice of numbers, an object. -/
namespace Go.Proofs.YtbaocehcnjdkkaaDoor
open Go.ChangeShapes Go.WideShapes Go.ChangeAt Go.RowKit

def InI64 (z : Int) : Prop := -9223372036854775808 ≤ z ∧ z ≤ 9223372036854775807
theorem wf_i64 {z : Int} (h : (Lit.int .i64 z).wf = true) : InI64 z := by
  simp [Lit.wf, IntKind.min, IntKind.max, IntKind.signed, IntKind.bits] at h
  unfold InI64; omega

theorem some_at {α : Type} (xs : List α) (i : Nat) (h : i < xs.length) : ∃ y, xs[i]? = some y := ⟨_, List.getElem?_eq_getElem h⟩

section
variable {H : Type} {enc : TypeId × Value → H} {w : World} {base : Nat} {spare : Nat → Bool} {held : Bool}

theorem trod_ints {fuel : Nat} {cs : List Value} {x : DataW H × List MemPlace} (h : DataW.trod enc Tryd.prog w base spare held fuel 24 cs = some x) :
    ∃ (a : Option Addr) (c : Nat) (ns : List Int), cs = [.slice a ns.length c] ∧ ReadsI w a ns ∧ (a = none → c = 0) ∧ ns.length ≤ maxLen ∧ ∀ z ∈ ns, InI64 z := by
  rcases open_ints Tryd.underlying24 Tryd.underlying3 (by kernel_rfl) h with ⟨rfl, _⟩ | ⟨a, len, cap, zs, rfl, _, hl, hm, hz, _, hcell, hwf⟩
  · exact ⟨none, 0, [], rfl, fun h => absurd rfl h, fun _ => rfl, by simp, by simp⟩
  · have hlz : len ≤ zs.length := by rw [hz]; split <;> omega
    refine ⟨some a, cap, zs.take len, by simp; omega, ?_, (fun h => by cases h), by simp; omega, fun z hzz => wf_i64 (hwf z (List.mem_of_mem_take hzz))⟩
    intro hne
    have hpos := List.length_pos_iff.2 hne
    simp at hpos
    obtain ⟨b, off, spot⟩ := a
    have hc0 := hcell 0 (by omega)
    have hspot : spot = none := by simpa [Addr.add] using World.cell?_spot hc0
    subst hspot
    refine ⟨b, off, rfl, fun i hi => ?_⟩
    have hi' : i < len := by simp at hi; omega
    have := hcell i (by omega)
    have e : (List.take len zs).getD i 0 = zs.getD i 0 := by simp [List.getD, hi']
    rw [e, ← Addr_add]
    exact this

theorem trod_num {fuel : Nat} {cs : List Value} {x : DataW H × List MemPlace} (h : DataW.trod enc Tryd.prog w base spare held fuel 3 cs = some x) : ∃ n : Int, cs = [.int .i64 n] ∧ InI64 n := by
  obtain ⟨n, rfl, _, hw⟩ := DataW.trod_int Tryd.underlying3 h
  exact ⟨n, rfl, wf_i64 hw⟩

theorem Tryd.cellsI : Tryd.prog.cellsOf 3 = 1 := by kernel_rfl
theorem Tryd.cellsIs : Tryd.prog.cellsOf 24 = 1 := by kernel_rfl
theorem Tryd.cellsO : Tryd.prog.cellsOf 42 = 3 := by kernel_rfl

set_option maxRecDepth 100000 in
theorem trod_obj {fuel : Nat} {cs : List Value} {x : DataW H × List MemPlace} (h : DataW.trod enc Tryd.prog w base spare held fuel 42 cs = some x) :
    ∃ (o : ObjV) (aI : Option Addr) (cI : Nat) (aR : Option Addr) (cR : Nat), cs = [.int .i64 o.kind, .slice aI o.ints.length cI, .slice aR o.refs.length cR] ∧ ReadsO w aI cI aR cR o ∧ o.ints.length ≤ maxLen ∧ o.refs.length ≤ maxLen ∧ InI64 o.kind ∧ (∀ z ∈ o.ints, InI64 z) ∧ (∀ z ∈ o.refs, InI64 z) := by
  obtain ⟨xs, n, _, _, hlen, hxl, hf⟩ := DataW.trod_struct Tryd.underlying42 h
  rw [Tryd.cellsO] at hlen
  match cs, hlen with
  | [v0, v1, v2], _ =>
    have f0 := hf 0 _ rfl
    have f1 := hf 1 _ rfl
    have f2 := hf 2 _ rfl
    obtain ⟨y0, hx0⟩ := some_at xs 0 (by rw [hxl]; decide)
    obtain ⟨y1, hx1⟩ := some_at xs 1 (by rw [hxl]; decide)
    obtain ⟨y2, hx2⟩ := some_at xs 2 (by rw [hxl]; decide)
    rw [hx0] at f0
    rw [hx1] at f1
    rw [hx2] at f2
    simp only [List.getElem_toArray, List.getElem_cons_zero, List.getElem_cons_succ, Tryd.cellsI, Tryd.cellsIs, List.drop, List.take] at f0 f1 f2
    obtain ⟨k, e0, wk⟩ := trod_num f0
    obtain ⟨aI, cI, ints, e1, hI, nI, lI, wI⟩ := trod_ints f1
    obtain ⟨aR, cR, refs, e2, hR, nR, lR, wR⟩ := trod_ints f2
    simp only [List.cons.injEq, and_true] at e0 e1 e2
    subst e0 e1 e2
    exact ⟨⟨k, ints, refs⟩, aI, cI, aR, cR, rfl, ⟨hI, hR, nI, nR⟩, lI, lR, wk, wI, wR⟩

set_option maxRecDepth 100000 in
/-- An object that came in as an argument. -/
theorem open_obj {b0 : Nat} {v : Value} {d : DataW H} {ps : List MemPlace} (hval : Value.okWide Tryd.prog w .any b0 42 v) (h : DataW.Trod enc Tryd.prog w base spare held 42 v d ps) :
    ∃ (o : ObjV) (aI : Option Addr) (cI : Nat) (aR : Option Addr) (cR : Nat), v = .agg #[.int .i64 o.kind, .slice aI o.ints.length cI, .slice aR o.refs.length cR] ∧ ReadsO w aI cI aR cR o ∧ o.ints.length ≤ maxLen ∧ o.refs.length ≤ maxLen ∧ InI64 o.kind ∧ (∀ z ∈ o.ints, InI64 z) ∧ (∀ z ∈ o.refs, InI64 z) := by
  obtain ⟨cs, rfl, hcs⟩ := okWide_struct Tryd.underlying42 hval
  obtain ⟨fuel, hf⟩ := h
  have e : (Value.agg cs).cells.toList = cs.toList := rfl
  rw [e] at hf
  obtain ⟨o, aI, cI, aR, cR, hc, rest⟩ := trod_obj hf
  refine ⟨o, aI, cI, aR, cR, ?_, rest⟩
  congr 1
  apply Array.toList_inj.1
  rw [hc]
end
end Go.Proofs.YtbaocehcnjdkkaaDoor

/- What came in, read: a slot, a page. -/
namespace Go.Proofs.YtbaocehcnjdkkaaDoor
open Go.ChangeShapes Go.WideShapes Go.ChangeAt Go.RowKit

/-- A slot as it came in: its lists are read, its numbers are 64-bit numbers. -/
structure InSlot (w : World) (s : SlotA) : Prop where
  reads : s.reads w
  lI : s.v.o.ints.length ≤ maxLen
  lR : s.v.o.refs.length ≤ maxLen
  kind : InI64 s.v.o.kind
  ints : ∀ z ∈ s.v.o.ints, InI64 z
  refs : ∀ z ∈ s.v.o.refs, InI64 z

section
variable {H : Type} {enc : TypeId × Value → H} {w : World} {base : Nat} {spare : Nat → Bool} {held : Bool}

theorem Tryd.cellsB : Tryd.prog.cellsOf 4 = 1 := by kernel_rfl
theorem Tryd.cellsSl : Tryd.prog.cellsOf 44 = 4 := by kernel_rfl
theorem Tryd.cellsSl4 : Tryd.prog.cellsOf 45 = 16 := by kernel_rfl
theorem Tryd.cellsPg : Tryd.prog.cellsOf 47 = 17 := by kernel_rfl

set_option maxRecDepth 100000 in
theorem trod_slot {fuel : Nat} {cs : List Value} {x : DataW H × List MemPlace} (h : DataW.trod enc Tryd.prog w base spare held fuel 44 cs = some x) :
    ∃ s : SlotA, cs = s.cells ∧ InSlot w s := by
  obtain ⟨xs, n, _, _, hlen, hxl, hf⟩ := DataW.trod_struct Tryd.underlying44 h
  rw [Tryd.cellsSl] at hlen
  match cs, hlen with
  | [v0, v1, v2, v3], _ =>
    have f0 := hf 0 _ rfl
    have f1 := hf 1 _ rfl
    obtain ⟨y0, hx0⟩ := some_at xs 0 (by rw [hxl]; decide)
    obtain ⟨y1, hx1⟩ := some_at xs 1 (by rw [hxl]; decide)
    rw [hx0] at f0
    rw [hx1] at f1
    simp only [List.getElem_toArray, List.getElem_cons_zero, List.getElem_cons_succ, Tryd.cellsB, Tryd.cellsO, List.drop, List.take] at f0 f1
    obtain ⟨b, e0, _⟩ := DataW.trod_bool Tryd.underlying4 f0
    obtain ⟨o, aI, cI, aR, cR, e1, hr, lI, lR, wk, wI, wR⟩ := trod_obj f1
    simp only [List.cons.injEq, and_true] at e0 e1
    obtain ⟨rfl, rfl, rfl⟩ := e1
    subst e0
    exact ⟨⟨⟨b, o⟩, aI, cI, aR, cR⟩, rfl, hr, lI, lR, wk, wI, wR⟩

theorem four_of (cs : List Value) (h : cs.length = 16) (f : ∀ i, i < 4 → ∃ s : SlotA, (cs.drop (i * 4)).take 4 = s.cells ∧ InSlot w s) : ∃ ss : List SlotA, ss.length = 4 ∧ cs = cellsS ss ∧ ∀ s ∈ ss, InSlot w s := by
  obtain ⟨s0, e0, h0⟩ := f 0 (by omega)
  obtain ⟨s1, e1, h1⟩ := f 1 (by omega)
  obtain ⟨s2, e2, h2⟩ := f 2 (by omega)
  obtain ⟨s3, e3, h3⟩ := f 3 (by omega)
  refine ⟨[s0, s1, s2, s3], rfl, ?_, ?_⟩
  · simp only [cellsS, List.flatMap_cons, List.flatMap_nil, List.append_nil, ← e0, ← e1, ← e2, ← e3]
    simp only [Nat.zero_mul, Nat.one_mul, List.drop_zero]
    have d : ∀ (l : List Value) (k : Nat), l.drop k = (l.drop k).take 4 ++ l.drop (k + 4) := fun l k => by rw [← List.drop_drop, List.take_append_drop]
    have a0 := d cs 0
    have a1 := d cs 4
    have a2 := d cs 8
    have a3 := d cs 12
    rw [List.drop_zero] at a0
    have a4 : cs.drop (12 + 4) = [] := List.drop_eq_nil_of_le (by omega)
    rw [a4, List.append_nil] at a3
    simp only [show 0 + 4 = 4 from rfl, show 4 + 4 = 8 from rfl, show 8 + 4 = 12 from rfl, show 2 * 4 = 8 from rfl, show 3 * 4 = 12 from rfl] at *
    conv => lhs; rw [a0, a1, a2, a3]
  · intro s hs
    simp only [List.mem_cons, List.not_mem_nil, or_false] at hs
    rcases hs with rfl | rfl | rfl | rfl <;> assumption

set_option maxRecDepth 100000 in
theorem trod_page {fuel : Nat} {cs : List Value} {x : DataW H × List MemPlace} (h : DataW.trod enc Tryd.prog w base spare held fuel 47 cs = some x) :
    ∃ p : PageA, cs = p.cells ∧ p.ss.length = 4 ∧ InI64 p.lsn ∧ ∀ s ∈ p.ss, InSlot w s := by
  obtain ⟨xs, n, _, _, hlen, hxl, hf⟩ := DataW.trod_struct Tryd.underlying47 h
  rw [Tryd.cellsPg] at hlen
  obtain ⟨v0, r, rfl⟩ : ∃ v0 r, cs = v0 :: r := by
    cases cs with
    | nil => simp at hlen
    | cons v r => exact ⟨v, r, rfl⟩
  have hr16 : r.length = 16 := by simpa using hlen
  have f0 := hf 0 _ rfl
  have f1 := hf 1 _ rfl
  obtain ⟨y0, hx0⟩ := some_at xs 0 (by rw [hxl]; decide)
  obtain ⟨y1, hx1⟩ := some_at xs 1 (by rw [hxl]; decide)
  rw [hx0] at f0
  rw [hx1] at f1
  simp only [List.getElem_toArray, List.getElem_cons_zero, List.getElem_cons_succ, Tryd.cellsI, Tryd.cellsSl4, List.drop_zero, List.drop_succ_cons, List.take_succ_cons, List.take_zero] at f0 f1
  rw [List.take_of_length_le (by omega)] at f1
  obtain ⟨k, e0, wk⟩ := trod_num f0
  obtain ⟨ys, m, _, _, _, hyl, hg⟩ := DataW.trod_array Tryd.underlying45 f1
  obtain ⟨ss, h4, e1, hs⟩ := four_of (w := w) r hr16 (fun i hi => by
    have g := hg i hi
    obtain ⟨y, hy⟩ := some_at ys i (by omega)
    rw [hy, Tryd.cellsSl] at g
    exact trod_slot g)
  simp only [List.cons.injEq, and_true] at e0
  subst e0 e1
  exact ⟨⟨k, ss⟩, rfl, h4, wk, hs⟩

set_option maxRecDepth 100000 in
/-- A page that came in as an argument. -/
theorem open_page {b0 : Nat} {v : Value} {d : DataW H} {ps : List MemPlace} (hval : Value.okWide Tryd.prog w .any b0 47 v) (h : DataW.Trod enc Tryd.prog w base spare held 47 v d ps) :
    ∃ p : PageA, v = .agg p.cells.toArray ∧ p.ss.length = 4 ∧ InI64 p.lsn ∧ ∀ s ∈ p.ss, InSlot w s := by
  obtain ⟨cs, rfl, hcs⟩ := okWide_struct Tryd.underlying47 hval
  obtain ⟨fuel, hf⟩ := h
  have e : (Value.agg cs).cells.toList = cs.toList := rfl
  rw [e] at hf
  obtain ⟨p, hc, rest⟩ := trod_page hf
  refine ⟨p, ?_, rest⟩
  congr 1
  apply Array.toList_inj.1
  rw [hc]

set_option maxRecDepth 100000 in
/-- A slot that came in as an argument. -/
theorem open_slot {b0 : Nat} {v : Value} {d : DataW H} {ps : List MemPlace} (hval : Value.okWide Tryd.prog w .any b0 44 v) (h : DataW.Trod enc Tryd.prog w base spare held 44 v d ps) :
    ∃ s : SlotA, v = .agg s.cells.toArray ∧ InSlot w s := by
  obtain ⟨cs, rfl, hcs⟩ := okWide_struct Tryd.underlying44 hval
  obtain ⟨fuel, hf⟩ := h
  have e : (Value.agg cs).cells.toList = cs.toList := rfl
  rw [e] at hf
  obtain ⟨s, hc, rest⟩ := trod_slot hf
  refine ⟨s, ?_, rest⟩
  congr 1
  apply Array.toList_inj.1
  rw [hc]
end
end Go.Proofs.YtbaocehcnjdkkaaDoor

/- What the laws of pages share. -/
namespace Go.Proofs.YtbaocehcnjdkkaaDoor
open Go.RowKit

theorem map_len4 {ss ts : List SlotA} (h : ts.map (·.v) = ss.map (·.v)) (h4 : ss.length = 4) : ts.length = 4 := by
  have := congrArg List.length h
  simp only [List.length_map] at this
  omega
theorem small_of {ss ts : List SlotA} (h : ts.map (·.v) = ss.map (·.v)) (hl : ∀ s ∈ ss, s.v.o.ints.length ≤ 1048576 ∧ s.v.o.refs.length ≤ 1048576) : ∀ s ∈ ts, s.v.o.ints.length ≤ 1048576 ∧ s.v.o.refs.length ≤ 1048576 := by
  intro t ht
  have : t.v ∈ ss.map (·.v) := by rw [← h]; exact List.mem_map.2 ⟨t, ht, rfl⟩
  obtain ⟨s, hs, e⟩ := List.mem_map.1 this
  rw [← e]
  exact hl s hs
theorem wide_of {ss : List SlotA} (hl : ∀ s ∈ ss, s.v.o.ints.length ≤ 1048576 ∧ s.v.o.refs.length ≤ 1048576) : ∀ s ∈ ss, s.v.o.ints.length ≤ 1099511627776 ∧ s.v.o.refs.length ≤ 1099511627776 := fun s hs => by have := hl s hs; omega

end Go.Proofs.YtbaocehcnjdkkaaDoor

/- The walk of laws.FnExactPutPage. -/
namespace Go.Proofs.YtbaocehcnjdkkaaDoor
open Go.RowKit

theorem putPage_len (n : Int) (vs : List SlotV) (h : vs.length = 4) : (putPageOf n vs).length ≤ 100000 := by
  unfold putPageOf
  split
  · have h1 := frameOf_len (bodyOf n vs)
    have h2 := body_len n vs
    omega
  · simp

set_option maxHeartbeats 4000000 in
set_option maxRecDepth 100000 in
theorem lawPutPage_walk (p : PageA) (h4 : p.ss.length = 4) (w : World) (hg : ErrT w) (hin : ∀ s ∈ p.ss, InSlot w s) :
    Calls Tryd.prog 5 #[.agg p.cells.toArray] w fun e w' => e = .returned (.bool true) ∧ Below w.heap.size w w' := by
  have hsm : Small p.ss := fun s hs => by have h1 := (hin s hs).lI; have h2 := (hin s hs).lR; simp only [maxLen] at h1 h2; omega
  have hrd : ReadsS w p.ss := fun s hs => (hin s hs).reads
  have HPL : Hid ((putPageOf p.lsn (p.ss.map (·.v))).length ≤ 100000) := putPage_len _ _ (by rw [List.length_map]; exact h4)
  obtain ⟨W, hW, b0, hbW, hsW⟩ := boxes1 w p.cells 47
  have HRG : Hid (∀ w', Below W.heap.size W w' → w'.rangeAt w.heap.size 0 p.cells) := fun w' hh => Box.range [] p.cells [] (by simpa using b0.below hh b0.lt)
  have HI : Hid ((Tryd.prog.info? 47).map (·.size) = some p.cells.length) := by rw [Hid, page_len p h4]; kernel_rfl
  have hRd : ∀ w', Below W.heap.size W w' → ReadsS w' p.ss := fun w' hh => hrd.below (hbW.trans (hh.mono hbW.size))
  have hgB : ∀ w', Below W.heap.size W w' → ErrT w' := fun w' hh => hg.keep (hbW.trans (hh.mono hbW.size))
  go_enter Tryd.func5, Tryd.ntmps5
  go_wp2_with (first | (guard_target = wpList _ _ _ (Oper.mk (some 11) _ _ _ _ _ :: _) _ _; refine wpList_load_mid rfl 47 (.tmp 1) rfl w.heap.size 0 rfl p.cells _ (by rw [hW.out]; exact HRG.out _ (Below.refl _ _)) Tryd.underlying47 rfl HI.out ?_) | fail)
  rw [hW.out]
  clear hW hsW
  refine (szPage_any p h4 1048576 W hsm (by omega)).mono ?_
  rintro e w1 ⟨z, rfl, hz, hb1⟩
  rcases hz with hneg | ⟨hz0, _, hl⟩
  · go_wp2
    go_ret
    exact ⟨rfl, hbW.trans (hb1.mono hbW.size)⟩
  have hzn : ¬ z < 0 := by omega
  go_wp2_with (first | (guard_target = wpList _ _ _ (Oper.mk (some 16) _ _ _ _ _ :: _) _ _; refine wpList_load_mid rfl 47 (.tmp 1) rfl w.heap.size 0 rfl p.cells _ (HRG.out _ hb1) Tryd.underlying47 rfl HI.out ?_) | fail)
  refine (toPage_own p h4 w1 (hRd w1 hb1) (wide_of hl)).mono ?_
  rintro e w2 ⟨ts, rfl, hv2, ho2, hb2⟩
  have B2 : Below W.heap.size W w2 := hb1.trans (hb2.mono hb1.size)
  go_wp2_with fail
  refine (specPutPage_any ⟨p.lsn, ts⟩ (map_len4 hv2.out h4) w2 ho2.reads (wide_of (small_of hv2.out hl))).mono ?_
  simp only [hv2.out]
  clear hv2 ho2 hb2
  rintro e w3 ⟨aw, cw, yw, rfl, HYW, how, hb3⟩
  have ow3 := how.spanned
  have hs2 := B2.size
  have hs3 := hb3.size
  have hywl : yw.length ≤ 100000 := by rw [HYW.out]; exact HPL.out
  have B3 : Below W.heap.size W w3 := B2.trans (hb3.mono B2.size)
  clear B2 hb3 how
  go_wp2_with (first | (guard_target = wpList _ _ _ (Oper.mk (some 19) _ _ _ _ _ :: _) _ _; refine wpList_load_mid rfl 47 (.tmp 1) rfl w.heap.size 0 rfl p.cells _ (HRG.out _ B3) Tryd.underlying47 rfl HI.out ?_) | fail)
  refine (toPage_own p h4 w3 (hRd w3 B3) (wide_of hl)).mono ?_
  rintro e w4 ⟨us, rfl, hv4, ho4, hb4⟩
  have B4 : Below W.heap.size W w4 := B3.trans (hb4.mono B3.size)
  have hs4 := hb4.size
  have hul := map_len4 hv4.out h4
  have huS := small_of hv4.out hl
  obtain ⟨W5, hW5, b5, hbW5, hsW5⟩ := boxes1 w4 [.int .i64 0, .bool false, .int .i64 0, .slice none 0 0, .slice none 0 0, .bool false, .int .i64 0, .slice none 0 0, .slice none 0 0, .bool false, .int .i64 0, .slice none 0 0, .slice none 0 0, .bool false, .int .i64 0, .slice none 0 0, .slice none 0 0] 31
  have b5' : Box W5 w4.heap.size ([] ++ ((.int .i64 0 :: cellsS zero4) ++ [])) 31 := b5
  generalize hq : (⟨p.lsn, us⟩ : PageA) = q at *
  have hq4 : q.ss.length = 4 := by rw [← hq]; exact hul
  have hqm : q.ss.map (·.v) = p.ss.map (·.v) := by rw [← hq]; exact hv4.out
  have hqn : q.lsn = p.lsn := by rw [← hq]
  have hqo : OwnS w4 w3.heap.size w4.heap.size q.ss := by rw [← hq]; exact ho4
  have hqS : ∀ s ∈ q.ss, s.v.o.ints.length ≤ 1048576 ∧ s.v.o.refs.length ≤ 1048576 := by rw [← hq]; exact huS
  clear hq hul huS ho4 hv4 b5
  obtain ⟨W6, hW6, b6, hw6, hs6⟩ := range_fill [] (.int .i64 0 :: cellsS zero4) q.cells [] b5' (by rw [page_len q hq4]; rfl)
  have HI6 : Hid ((Tryd.prog.info? 31).map (·.size) = some q.cells.length) := by rw [Hid, page_len q hq4]; kernel_rfl
  have HT6 : Hid (W5.there w4.heap.size 0 q.cells.toArray.size) := b5'.there 0 _ (by rw [List.size_toArray, page_len q hq4]; decide)
  have hs45 := hbW5.size
  have N46 : Below w4.heap.size w4 W6 := hbW5.trans (hw6.below (Nat.le_refl _) (by omega))
  have B6 : Below W.heap.size W W6 := B4.trans (N46.mono B4.size)
  have oq6 : OwnS W6 w3.heap.size w4.heap.size q.ss := hqo.below N46
  have ow6 := (ow3.below hb4).below N46
  have HR6 : Hid (∀ w', Below W6.heap.size W6 w' → w'.rangeAt w4.heap.size 0 q.cells) := fun w' hh => Box.range [] q.cells [] (by simpa using b6.below hh b6.lt)
  have HS : Hid (W5.setCells w4.heap.size 0 q.cells = W6) := hW6.out
  have HO : Hid (_) := all_oneCell_toArray (oneP q)
  have hs46 := N46.size
  have hlt6 := b6.lt
  clear hW6 b6 hw6 hs6 b5' hqo hsW5 hbW5
  go_wp2_with (first | (guard_target = wpList _ _ _ (Oper.mk none (Op.store _ (Operand.tmp 5) _) _ _ _ _ :: _) _ _; refine wpList_store_mid rfl 31 (.tmp 5) (.tmp 20) rfl w4.heap.size 0 q.cells.toArray rfl rfl (by rw [hW5.out]; exact HT6.out) (by rw [List.size_toArray]; exact HI6.out) HO.out ?_) | (guard_target = wpList _ _ _ (Oper.mk (some 21) _ _ _ _ _ :: _) _ _; refine wpList_load_mid rfl 31 (.tmp 5) rfl w4.heap.size 0 rfl q.cells _ (by rw [hW5.out, HS.out]; exact HR6.out _ (Below.refl _ _)) Tryd.underlying31 rfl HI6.out ?_) | fail)
  rw [hW5.out, HS.out]
  clear hW5 HS HT6 HO
  refine (implPutPage_any q hq4 W6 (hgB _ B6) oq6.reads (wide_of hqS)).mono ?_
  rw [hqm, hqn]
  rintro e w7 ⟨ag, cg, yg, rfl, HYG, hog, hb7⟩
  obtain rfl : yg = yw := by rw [HYG.out, HYW.out]
  clear HYG
  have hs7 := hb7.size
  have og7 := hog.spanned
  have ow7 := ow6.below hb7
  have oq7 := oq6.below hb7
  have B7 : Below W.heap.size W w7 := B6.trans (hb7.mono B6.size)
  clear ow6 oq6 hog
  go_wp2_with fail
  refine (eqByteS_same ag aw cg cw yg w7 og7.reads ow7.reads (by omega)).mono ?_
  rintro e w8 ⟨rfl, n8, rfl⟩
  have N78 : Below w7.heap.size w7 (w7.drewN n8) := below_drewN (Below.refl _ _) n8
  have og8 := og7.below N78
  have ow8 := ow7.below N78
  have oq8 := oq7.below N78
  have D8 : Below W6.heap.size W6 (w7.drewN n8) := hb7.trans (N78.mono hb7.size)
  have B8 : Below W.heap.size W (w7.drewN n8) := B7.trans (N78.mono B7.size)
  have hs8 : w7.heap.size ≤ (w7.drewN n8).heap.size := N78.size
  generalize w7.drewN n8 = w8 at *
  clear og7 ow7 oq7 B7 hb7
  have HQ : Hid (_ ∧ _) := ⟨hqm, hqn⟩
  have hu1 := Tryd.underlying47
  have hu2 := Tryd.underlying31
  have hi1 := HI.out
  have hi2 := HI6.out
  have hHR : Hid (∀ w', Below W6.heap.size W6 w' → _) := HR6.out
  clear hqm hqn hin hsm hrd
  go_wp2_with fail
  refine wp_region_held_drew (S := fun w' => w'.rangeAt w.heap.size 0 p.cells ∧ w'.rangeAt w4.heap.size 0 q.cells) (by kernel_rfl) ?_ (fun hHeld => ?_)
  · exact ⟨HRG.out _ B8.drew, HR6.out _ D8.drew⟩
  refine wpAnyH_take (i := 0) rfl (by kernel_rfl) (by kernel_rfl) (by kernel_rfl) (fun _ _ _ h => h) (yieldsIf_load_mid (by rfl) _ _ rfl _ _ rfl q.cells _ (fun _ h => h.2) hu2 rfl hi2) hHeld ?_
  refine wpAnyH_take (i := 1) rfl (by kernel_rfl) (by kernel_rfl) (by kernel_rfl) (fun _ _ _ h => h) (yieldsIf_load_mid (by rfl) _ _ rfl _ _ rfl p.cells _ (fun _ h => h.1) hu1 rfl hi1) hHeld ?_
  refine wpAnyH_ready (rs := [2]) (by kernel_rfl) (by simp) ?_
  refine AllReadyH.cons rfl (fun K hK => ?_) AllReadyH.nil
  go_simp
  refine (toPage_own p h4 _ (hRd _ B8.drew) (wide_of hl)).mono ?_
  rintro e w9 ⟨vs, rfl, hv9, ho9, hb9⟩
  have N89 : Below w8.heap.size w8 w9 := ((Below.refl _ _).drew).trans hb9
  have B9 : Below W.heap.size W w9 := B8.trans (N89.mono B8.size)
  have D9 : Below W6.heap.size W6 w9 := D8.trans (N89.mono D8.size)
  refine hK.out _ _ ⟨HRG.out _ B9, HR6.out _ D9⟩ (fun hHeld => ?_)
  clear hK K
  refine wpAnyH_ready (rs := [3]) (by kernel_rfl) (by simp) ?_
  refine AllReadyH.cons rfl (fun K hK => ?_) AllReadyH.nil
  go_simp
  have CE : Calls Tryd.prog 21 #[.agg q.cells.toArray, .agg (PageA.cells ⟨p.lsn, vs⟩).toArray] w9 fun e w' => e = .returned (.bool true) ∧ Below w9.heap.size w9 w' := by
    obtain ⟨n, qs⟩ := q
    obtain ⟨hqm, hqn⟩ := HQ.out
    simp only at hqm hqn
    subst hqn
    exact eqPage_same p.lsn qs vs hq4 (by rw [hqm]; exact hv9.out) w9 (oq8.reads.below N89) ho9.reads (wide_of hqS)
  refine CE.mono ?_
  clear CE
  rintro e w10 ⟨rfl, hb10⟩
  have N810 : Below w8.heap.size w8 w10 := N89.trans (hb10.mono N89.size)
  have B10 : Below W.heap.size W w10 := B8.trans (N810.mono B8.size)
  have D10 : Below W6.heap.size W6 w10 := D8.trans (N810.mono D8.size)
  refine hK.out _ _ ⟨HRG.out _ B10, HR6.out _ D10⟩ (fun hHeld => ?_)
  clear hK K
  refine wpAnyH_take (i := 4) (v := .bool false) rfl (by kernel_rfl) (by kernel_rfl) (by kernel_rfl) (fun _ _ _ h => h) (Or.inl ⟨by rfl, ?_⟩) hHeld ?_
  · intro w' _; go_simp
  refine wpAnyH_done (by kernel_rfl) ?_ _
  have og10 := og8.below N810
  have ow10 := ow8.below N810
  have oq10 := oq8.below N810
  have hr10 := HR6.out _ D10
  have hs10 := N810.size
  clear hHeld hb10 hb9 ho9 hv9 N89 B9 D9 og8 ow8 oq8 hu1 hu2 hi1 hi2 hHR
  go_wp2_with (first | (guard_target = wpList _ _ _ (Oper.mk (some 32) _ _ _ _ _ :: _) _ _; refine wpList_load_mid rfl 31 (.tmp 5) rfl w4.heap.size 0 rfl q.cells _ hr10 Tryd.underlying31 rfl HI6.out ?_) | fail)
  clear hr10
  refine (markPage_touch q hq4 w3.heap.size w4.heap.size 1 w10 oq10 (wide_of hqS) (by omega) (by omega) (by omega)).mono ?_
  rintro e w11 ⟨rfl, _, ht11⟩
  have hw11 : Within w3.heap.size w4.heap.size w10 w11 := ht11.within oq10.blocks_lt
  have hs11 := hw11.size
  have og11 : OwnR w11 W6.heap.size w7.heap.size ag cg yg := og10.within hw11 (.inr (by omega))
  have ow11 : OwnR w11 w2.heap.size w3.heap.size aw cw yg := ow10.within hw11 (.inl (Nat.le_refl _))
  have B11 : Below W.heap.size W w11 := B10.trans (hw11.below (by omega) (by have := B10.size; omega))
  have hcn : ¬ ((1 : Int) + (countS q.ss : Int)) < 0 := by omega
  clear ht11 hw11 og10 ow10 oq10
  generalize countS q.ss = cq at *
  go_wp2_with fail
  refine (eqByteS_same ag aw cg cw yg w11 og11.reads ow11.reads (by omega)).mono ?_
  rintro e w12 ⟨rfl, n12, rfl⟩
  have N12 : Below w11.heap.size w11 (w11.drewN n12) := below_drewN (Below.refl _ _) n12
  have og12 := og11.below N12
  have ow12 := ow11.below N12
  have B12 : Below W.heap.size W (w11.drewN n12) := B11.trans (N12.mono B11.size)
  have hs12 : w11.heap.size ≤ (w11.drewN n12).heap.size := N12.size
  generalize w11.drewN n12 = w12 at *
  clear og11 ow11
  go_wp2_with fail
  refine (markByteS_r W6.heap.size w7.heap.size ag cg 1 yg w12 og12 (by omega) (by omega)).mono ?_
  rintro e w13 ⟨mg, rfl, hmg, omg, hw13⟩
  have ow13 : OwnR w13 w2.heap.size w3.heap.size aw cw yg := ow12.within hw13 (.inl (by omega))
  have B13 : Below W.heap.size W w13 := B12.trans (hw13.below (by omega) (by have := B12.size; omega))
  have hs13 := hw13.size
  go_wp2_with fail
  refine (heldByteS_r W6.heap.size w7.heap.size ag cg 1 yg.length mg w13 omg hmg (by omega) (by omega)).mono ?_
  rintro e w14 ⟨rfl, rfl⟩
  go_wp2_with (first | (guard_target = wpList _ _ _ (Oper.mk (some 54) _ _ _ _ _ :: _) _ _; refine wpList_load_mid rfl 47 (.tmp 1) rfl w.heap.size 0 rfl p.cells _ (HRG.out _ B13) Tryd.underlying47 rfl HI.out ?_) | fail)
  refine (toPage_own p h4 _ (hRd _ B13) (wide_of hl)).mono ?_
  rintro e w15 ⟨xs, rfl, hv15, ho15, hb15⟩
  have B15 : Below W.heap.size W w15 := B13.trans (hb15.mono B13.size)
  go_wp2_with fail
  refine (implPutPage_any ⟨p.lsn, xs⟩ (map_len4 hv15.out h4) w15 (hgB _ B15) ho15.reads (wide_of (small_of hv15.out hl))).mono ?_
  simp only [hv15.out]
  rintro e w16 ⟨ah, ch, yh, rfl, HYH, hoh, hb16⟩
  obtain rfl : yh = yg := by rw [HYH.out, HYW.out]
  have N16 : Below w14.heap.size w14 w16 := hb15.trans (hb16.mono hb15.size)
  have ow16 := ow13.below N16
  have omg16 := omg.below N16
  have B16 : Below W.heap.size W w16 := B13.trans (N16.mono B13.size)
  go_wp2_with fail
  refine (eqByteS_same ah aw ch cw yh w16 hoh.reads ow16.reads (by omega)).mono ?_
  rintro e w17 ⟨rfl, n17, rfl⟩
  go_wp2_with fail
  refine (heldByteS_r W6.heap.size w7.heap.size ag cg 1 yh.length mg (w16.drewN n17) (omg16.below (below_drewN (Below.refl _ _) n17)) hmg (by omega) (by omega)).mono ?_
  rintro e w18 ⟨rfl, rfl⟩
  go_wp2
  go_ret
  exact ⟨rfl, below_drewN (hbW.trans (B16.mono hbW.size)) n17⟩
end Go.Proofs.YtbaocehcnjdkkaaDoor

/- What the row's condition on errors.errorType gives a walk; a world that meets it. -/
namespace Go.Proofs.YtbaocehcnjdkkaaDoor
open Go.ChangeShapes Go.WideShapes Go.RowKit

theorem Tryd.et : Tryd.prog.globalNamed "errors.errorType" = some 0 := by kernel_rfl
theorem Tryd.rt : (Tryd.prog.cutTypes.find? (·.1 == "internal/reflectlite.rtype")).map (·.2) = some 154 := by kernel_rfl
theorem Tryd.oneRow : ((List.range 196).filter fun t => Tryd.prog.rowNamed t [101, 114, 114, 111, 114]) = [123] := by kernel_rfl
theorem Tryd.typesSize : Tryd.prog.types.size = 196 := by kernel_rfl

theorem errT_of_handles {W : World} {laid : List (String × DataW Unit)} (hm : ("errors.errorType", Rows.laid_errors_errorType) ∈ laid) (h : handlesMet Tryd.prog laid W) : ErrT W := by
  obtain ⟨name, u, ty, e1, e2, e3, e4, e5⟩ := h _ hm
  have en : name = [101, 114, 114, 111, 114] := (Option.some.inj e1).symm
  subst en
  obtain rfl := Option.some.inj (Tryd.rt.symm.trans e2)
  have hm : ty ∈ (List.range 196).filter fun t => Tryd.prog.rowNamed t [101, 114, 114, 111, 114] := List.mem_filter.2 ⟨List.mem_range.2 (by rw [← Tryd.typesSize]; exact e3), e4⟩
  rw [Tryd.oneRow] at hm
  obtain rfl := List.mem_singleton.1 hm
  have hh : typeHandle Tryd.prog 123 = .pointer (some ⟨1, 123, none⟩) := by kernel_rfl
  rw [hh] at e5
  unfold ErrT
  simpa using World.var?_cell Tryd.et e5 0

/-- The one listed variable. -/
def laid1 : List (String × DataW Unit) := [("errors.errorType", Rows.laid_errors_errorType)]
theorem errT_of_laid1 {W : World} (h : laidMetH Tryd.prog laid1 W) : ErrT W := by
  have h' : laidMet Tryd.prog [] W ∧ handlesMet Tryd.prog laid1 W := h
  exact errT_of_handles (List.mem_singleton.2 rfl) h'.2
end Go.Proofs.YtbaocehcnjdkkaaDoor
