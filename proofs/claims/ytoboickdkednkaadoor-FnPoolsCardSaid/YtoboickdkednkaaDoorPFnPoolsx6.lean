/- Several texts in one, in their order. -/
import Derived.Test.YtoboickdkednkaaDoorPFnPoolsx5
import Derived.Test.YtoboickdkednkaaDoorPFnPoolsx3
import Derived.Test.YtoboickdkednkaaDoorPFnPoolsx2
import Derived.Test.YtoboickdkednkaaDoorProg
import Derived.Test.YtoboickdkednkaaDoorPFnPoolsx1
import Derived.Deep.QuietTactic
import Derived.BigQuiet
/- What Unframe answers, in plain mathematics; four bytes and the sum that they hold. -/
namespace Go.Proofs.YtoboickdkednkaaDoor
open Go.RowKit

end Go.Proofs.YtoboickdkednkaaDoor

/- Plain mathematics of pages: when they are right, what their bytes are, that they come back of them, and of them alone. -/
namespace Go.Proofs.YtoboickdkednkaaDoor
open Go.RowKit

/-- The lists of these slots are not beyond any machine. -/
def Fit (ss : List SlotA) : Prop := ∀ s ∈ ss, s.v.o.ints.length ≤ 1099511627776 ∧ s.v.o.refs.length ≤ 1099511627776

def noS : SlotV := ⟨false, noO⟩
def slotB (s : SlotV) : Bool := if s.has then okB s.o else (decide (s.o.kind = 0) && (decide (s.o.ints.length = 0) && decide (s.o.refs.length = 0)))
def okP (n : Int) (vs : List SlotV) : Bool := vs.all slotB && inB n 0 1000000
theorem slotB_has {s : SlotV} (h : s.has = true) : slotB s = okB s.o := by unfold slotB; rw [if_pos h]
/-- What the model reads of a slot: the slot, and the reader behind it. -/
def nextSlotOf (zs : List Int) (s : Int × Bool) : SlotV × (Int × Bool) :=
  if (nextOf zs s).2.2 = true ∨ (nextOf zs s).1 = 0 then (noS, (nextOf zs s).2) else
  if (nextOf zs s).1 < 0 ∨ (zs.length : Int) - (nextOf zs s).2.1 < (nextOf zs s).1 then (noS, ((nextOf zs s).2.1, true)) else
  (⟨true, (getPair ((zs.drop (nextOf zs s).2.1.toNat).take (nextOf zs s).1.toNat)).1⟩, ((nextOf zs s).2.1 + (nextOf zs s).1, !(getPair ((zs.drop (nextOf zs s).2.1.toNat).take (nextOf zs s).1.toNat)).2))
end Go.Proofs.YtoboickdkednkaaDoor

/- Plain mathematics of SetSlot; results that are a page and a flag. -/
namespace Go.Proofs.YtoboickdkednkaaDoor
open Go.RowKit

theorem results_cell_flag {P : Program} {fn : Func} {s t : Nat} {ty : TypeId} {tmps : Array Value} {w : World} {v b : Value} {ad : Addr} (hf : fn.results = #[.cell s ty, .tmp t]) (ht : tmps[s]?.getD undef = .pointer (some ad)) (hl : (loadVar ty ad).run P w = .ok v w) (hb : tmps[t]?.getD undef = b) : (results fn tmps).run P w = .ok (.tuple #[v, b]) w := by
  unfold results
  rw [hf]
  simp [ht, asAddr, hl, hb]

/-- A whole value loaded where a guard stands ahead of it that lets it by. -/
theorem wpList_load_mid_if {ops : Array Oper} {rest : List Oper} {op : Oper} {a : Act} {w : World} {Q : Exit → Act → World → Prop} {P : Program} (hw : Region.wanted op (yielded ops a.tmps) = true) (ty : TypeId) (x : Operand) (ho : op.op = .load ty x)
    (b o : Nat) (hx : a.eval x = .pointer (some ⟨b, o, none⟩)) (cs : List Value) (d : TypeDesc) (hc : w.rangeAt b o cs)
    (hu : P.underlying ty = some d) (hd : d.isRow = true) (hi : (P.info? ty).map (·.size) = some cs.length)
    (h : wpList P ops Q rest (a.put op.dst (.agg cs.toArray)) w) : wpList P ops Q (op :: rest) a w :=
  wpList_step fun _ hK => by
    simp only [hw, if_true]
    exact wp_load_mid ty x ho b o hx cs d hc hu hd hi (hK _ _ h)

def zero17 : List Value := [.int .i64 0, .bool false, .int .i64 0, .slice none 0 0, .slice none 0 0, .bool false, .int .i64 0, .slice none 0 0, .slice none 0 0, .bool false, .int .i64 0, .slice none 0 0, .slice none 0 0, .bool false, .int .i64 0, .slice none 0 0, .slice none 0 0]

/-- A page at B is stored at C, which holds a page: what is there then, and what the result reads. -/
theorem page_out {w : World} {C : Nat} {T : TypeId} {d : TypeDesc} (q : PageA) (hq : q.ss.length = 4) (old : List Value) (ho : old.length = 17) (bC : Box w C old T) (hu : Tryd.prog.underlying T = some d) (hd : d.isRow = true) (hi : (Tryd.prog.info? T).map (·.size) = some 17) :
    ∃ WF, Hid (w.setCells C 0 q.cells = WF) ∧ Within C (C + 1) w WF ∧ WF.heap.size = w.heap.size ∧ Hid (w.there C 0 q.cells.toArray.size) ∧ Hid ((loadVar T ⟨C, 0, none⟩).run Tryd.prog WF = .ok (.agg q.cells.toArray) WF) ∧ Box WF C q.cells T := by
  have hl : q.cells.length = 17 := page_len q hq
  obtain ⟨WF, hWF, bF, hwF, hsF⟩ := range_fill [] old q.cells [] (by simpa using bC) (by rw [hl, ho])
  have bF' : Box WF C q.cells T := by simpa using bF
  refine ⟨WF, hWF, hwF, hsF, bC.there 0 _ (by rw [List.size_toArray, hl, ho]; omega), ?_, bF'⟩
  exact run_loadVar_mid (P := Tryd.prog) WF C 0 T q.cells d (Box.range [] q.cells [] (by simpa using bF')) hu hd (by rw [hi, hl])
end Go.Proofs.YtoboickdkednkaaDoor

/- The walks of spec.l3DrawSlot and spec.l3DrawPage. -/
namespace Go.Proofs.YtoboickdkednkaaDoor
open Go.RowKit

theorem CurAt.within {w w' : World} {B l r : Nat} {zs : List Int} (h : CurAt w B zs) (hw : Within l r w w') (hl : B < l) : CurAt w' B zs := by
  have hB := h.lt
  obtain ⟨a, c, i, h, hh, hi, hr, hlt⟩ := h
  refine ⟨a, c, i, h, ?_, hi, ⟨hr.1, fun e => ?_⟩, hlt⟩
  · rw [hw.block B hB (by omega)]; exact hh
  · obtain ⟨b, off, ha, hc⟩ := hr.2 e
    refine ⟨b, off, ha, fun j hj => ?_⟩
    have h1 := hlt e b off ha
    have := World.cell?_of_block (w := w) (w' := w') (a := ⟨b, off + j, none⟩) (hw.block b (block_lt (hc j hj)) (by omega))
    rw [this]
    exact hc j hj
theorem within_cur {w w' : World} {B : Nat} (h : w.grownBy w' (some B)) : Within B (B + 1) w w' := Within.of_grown h (fun k hk => by cases hk; omega)
/-- Something that lies behind the start was written: of what was there nothing but block B. -/
theorem Within.new {B l r : Nat} {w w1 w2 : World} (h : Within B (B + 1) w w1) (h2 : Within l r w1 w2) (hl : w.heap.size ≤ l) : Within B (B + 1) w w2 :=
  ⟨h2.os.trans h.os, h2.tape.trans h.tape, h2.output.trans h.output, Nat.le_trans h.size h2.size, fun k hk hn => (h2.block k (Nat.lt_of_lt_of_le hk h.size) (by omega)).trans (h.block k hk hn)⟩

set_option maxHeartbeats 1000000 in
set_option maxRecDepth 100000 in
theorem l3DrawSlot_any (B : Nat) (zs : List Int) (w : World) (hc : CurAt w B zs) (hl : zs.length ≤ 70368744177664) :
    Calls Tryd.prog 49 #[.pointer (some ⟨B, 0, none⟩)] w fun e w' => ∃ t : SlotA, e = .returned (.agg t.cells.toArray) ∧ (t.v.o.ints.length ≤ 3 ∧ t.v.o.refs.length ≤ 3) ∧ t.own w' w.heap.size w'.heap.size ∧ CurAt w' B zs ∧ Within B (B + 1) w w' := by
  have hB := hc.lt
  obtain ⟨W, hW, b0, hbW, hsW⟩ := boxes1 w [.bool false, .int .i64 0, .slice none 0 0, .slice none 0 0] 31
  have hcW : CurAt W B zs := hc.below hbW
  have hsW' : w.heap.size < W.heap.size := by omega
  clear hsW hc
  go_enter Tryd.func49, Tryd.ntmps49
  go_wp2_with fail
  rw [hW.out]
  clear hW
  refine (l1Once_any B zs 3 W hcW hl (by omega)).mono ?_
  rintro e w1 ⟨bb, rfl, hc1, hg1⟩
  have hw1 := within_cur hg1
  have hs1 := hw1.size
  have b1 := b0.within hw1 (by omega)
  have HW1 : Within B (B + 1) w w1 := (Within.of_below hbW).trans hw1
  clear b0 hg1 hw1 hcW hbW
  cases bb with
  | true =>
    obtain ⟨x0, x1, x2, x3, f0, f1, f2, f3⟩ := b1.four
    obtain ⟨WF, hWF, bF, hwF, hsF⟩ := box4_fill b1 (.bool false) (.int .i64 0) (.slice none 0 0) (.slice none 0 0)
    have HC : Hid (CurAt WF B zs) := hc1.within hwF (by omega)
    have HWF : Hid (Within B (B + 1) w WF) := HW1.new hwF (Nat.le_refl _)
    clear hwF HW1 hc1 b1
    go_wp2
    rw [hWF.out]
    obtain ⟨q0, q1, q2, q3, _⟩ := bF.four
    exact bodyPost_ret (v := .agg #[.bool false, .int .i64 0, .slice none 0 0, .slice none 0 0]) (by simp [results, Tryd.results49, go_sem, q0, q1, q2, q3]) rfl ⟨zeroS, rfl, ⟨by simp [zeroS], by simp [zeroS]⟩, ⟨ownI_nil _ _ _ (Nat.le_refl _), ownI_nil _ _ _ (Nat.le_refl _), fun k hk => by cases hk⟩, HC.out, HWF.out⟩
  | false =>
    go_wp2_with fail
    refine (l2Obj_any B zs w1 hc1 hl).mono ?_
    rintro e w2 ⟨aI, cI, aR, cR, o, rfl, hlI, hlR, ho2, hc2, hg2⟩
    have hw2 := within_cur hg2
    have hs2 := hw2.size
    have b2 := b1.within hw2 (by omega)
    have HW2 : Within B (B + 1) w w2 := HW1.trans hw2
    obtain ⟨x0, x1, x2, x3, f0, f1, f2, f3⟩ := b2.four
    obtain ⟨WF, hWF, bF, hwF, hsF⟩ := box4_fill b2 (.bool true) (.int .i64 o.kind) (.slice aI o.ints.length cI) (.slice aR o.refs.length cR)
    have HC : Hid (CurAt WF B zs) := hc2.within hwF (by omega)
    have HWF : Hid (Within B (B + 1) w WF) := HW2.new hwF (Nat.le_refl _)
    have HOF : Hid (OwnO WF w.heap.size WF.heap.size aI cI aR cR o) := (ho2.within hwF (.inr (by omega))).widen (by omega) (by omega) (Nat.le_refl _)
    clear hwF HW1 HW2 hc1 hc2 b1 b2 hg2 hw2 ho2
    go_wp2
    rw [hWF.out]
    obtain ⟨q0, q1, q2, q3, _⟩ := bF.four
    exact bodyPost_ret (v := .agg #[.bool true, .int .i64 o.kind, .slice aI o.ints.length cI, .slice aR o.refs.length cR]) (by simp [results, Tryd.results49, go_sem, q0, q1, q2, q3]) rfl ⟨⟨⟨true, o⟩, aI, cI, aR, cR⟩, rfl, ⟨hlI, hlR⟩, HOF.out, HC.out, HWF.out⟩

set_option maxHeartbeats 2000000 in
set_option maxRecDepth 100000 in
theorem l3DrawPage_any (B : Nat) (zs : List Int) (w : World) (hc : CurAt w B zs) (hl : zs.length ≤ 70368744177664) :
    Calls Tryd.prog 38 #[.pointer (some ⟨B, 0, none⟩)] w fun e w' => ∃ (n : Int) (ts : List SlotA), e = .returned (.agg (PageA.cells ⟨n, ts⟩).toArray) ∧ ts.length = 4 ∧ (∀ s ∈ ts, s.v.o.ints.length ≤ 3 ∧ s.v.o.refs.length ≤ 3) ∧ OwnS w' w.heap.size w'.heap.size ts ∧ CurAt w' B zs ∧ Within B (B + 1) w w' := by
  have hB := hc.lt
  obtain ⟨W, hW, b0, hbW, hsW⟩ := boxes1 w [.int .i64 0, .bool false, .int .i64 0, .slice none 0 0, .slice none 0 0, .bool false, .int .i64 0, .slice none 0 0, .slice none 0 0, .bool false, .int .i64 0, .slice none 0 0, .slice none 0 0, .bool false, .int .i64 0, .slice none 0 0, .slice none 0 0] 34
  have hcW : CurAt W B zs := hc.below hbW
  have hsW' : w.heap.size < W.heap.size := by omega
  clear hsW hc
  go_enter Tryd.func38, Tryd.ntmps38
  go_wp2_with fail
  rw [hW.out]
  clear hW
  refine (l1Below_any B zs 30 W hcW hl (by omega)).mono ?_
  rintro e w1 ⟨x, rfl, _, hc1, hg1⟩
  have hw1 := within_cur hg1
  have hs1 := hw1.size
  have b1 := b0.within hw1 (by omega)
  have HW1 : Within B (B + 1) w w1 := (Within.of_below hbW).trans hw1
  clear b0 hg1 hw1 hcW hbW
  obtain ⟨W2, hW2, b2, hb2, hs2⟩ := boxes1 w1 [.int .i64 (x : Int), .bool false, .int .i64 0, .slice none 0 0, .slice none 0 0, .bool false, .int .i64 0, .slice none 0 0, .slice none 0 0, .bool false, .int .i64 0, .slice none 0 0, .slice none 0 0, .bool false, .int .i64 0, .slice none 0 0, .slice none 0 0] 34
  have b2' : Box W2 w1.heap.size (.int .i64 (x : Int) :: cellsS ([] ++ List.replicate (4 - 0) zeroS)) 34 := b2
  have b02 := b1.below hb2 b1.lt
  have hc2 : CurAt W2 B zs := hc1.below hb2
  have HW2 : Within B (B + 1) w W2 := HW1.trans (Within.of_below hb2)
  have hlt2 : w1.heap.size < W2.heap.size := b2'.lt
  clear b1 hb2 HW1 hc1 b2 hs2
  go_wp2_with fail
  rw [hW2.out]
  clear hW2
  go_loopw [4] (fun i wr => ∃ (k : Nat) (ts : List SlotA), i = .int .i64 k ∧ k ≤ 4 ∧ Hid (ts.length = k ∧ ∀ s ∈ ts, s.v.o.ints.length ≤ 3 ∧ s.v.o.refs.length ≤ 3) ∧ OwnS wr W2.heap.size wr.heap.size ts ∧ Box wr w1.heap.size (.int .i64 (x : Int) :: cellsS (ts ++ List.replicate (4 - k) zeroS)) 34 ∧ Box wr w.heap.size zero17 34 ∧ CurAt wr B zs ∧ W2.heap.size ≤ wr.heap.size ∧ Within B (B + 1) w wr)
    (fun i _ => 4 - (intOf i).toNat)
  case atStart => exact ⟨0, [], rfl, by omega, ⟨rfl, fun s hs => by simp at hs⟩, OwnS.nil _ _ _, b2', b02, hc2, Nat.le_refl _, HW2⟩
  case round =>
    obtain ⟨k, ts, rfl, hk, hts, hown, hbox, hbr, hcr, hsr, HWr⟩ := hrel
    clear b2' b02 hc2 HW2
    by_cases hlt : k < 4
    · go_wp2_with fail
      refine (l3DrawSlot_any B zs wr hcr hl).mono ?_
      rintro e w5 ⟨t, rfl, hsm, ho, hc5, hw5⟩
      have hs5 := hw5.size
      have hbx := hbox.within hw5 (by omega)
      have hkt : k < (ts ++ List.replicate (4 - k) zeroS).length := by have := hts.out.1; simp; omega
      obtain ⟨W6, hW6, b6, hw6, hs6⟩ := pslot_fill hbx k hkt t
      obtain ⟨x0, x1, x2, x3, hfz⟩ := hbx.pslot k hkt
      have f0 := hfz (1 + k * 4)
      have f1 := hfz (1 + k * 4 + 1)
      have f2 := hfz (1 + k * 4 + 2)
      have f3 := hfz (1 + k * 4 + 3)
      generalize (ts ++ List.replicate (4 - k) zeroS).getD k zeroS = old at *
      have b6' : Box W6 w1.heap.size (.int .i64 (x : Int) :: cellsS ((ts ++ [t]) ++ List.replicate (4 - (k + 1)) zeroS)) 34 := by
        rw [show 4 - k = (4 - (k + 1)) + 1 by omega] at b6
        have e := set_snoc ts (4 - (k + 1)) t
        rw [hts.out.1] at e
        rw [e] at b6
        exact b6
      have hbr6 := (hbr.within hw5 (by omega)).within hw6 (by omega)
      have hc6 : CurAt W6 B zs := hc5.within hw6 (by omega)
      have hown5 : OwnS w5 W2.heap.size wr.heap.size ts := hown.within hw5 (.inr (by omega))
      have hO5 : OwnS w5 W2.heap.size w5.heap.size (ts ++ [t]) := hown5.snoc ho hsr hs5 (Nat.le_refl _)
      have hO6 : OwnS W6 W2.heap.size W6.heap.size (ts ++ [t]) := (hO5.within hw6 (.inr (by omega))).widen (Nat.le_refl _) (by omega) (Nat.le_refl _)
      have HW6 : Within B (B + 1) w W6 := (HWr.trans hw5).new hw6 (by omega)
      have HT : Hid ((ts ++ [t]).length = k + 1 ∧ ∀ s ∈ ts ++ [t], s.v.o.ints.length ≤ 3 ∧ s.v.o.refs.length ≤ 3) := by
        refine ⟨by have := hts.out.1; simp; omega, fun s hs => ?_⟩
        rcases List.mem_append.1 hs with h | h
        · exact hts.out.2 s h
        · obtain rfl := List.mem_singleton.1 h
          exact hsm
      have hi0 : (0 : Int) ≤ (k : Int) := by omega
      have hi4 : (k : Int) < 4 := by omega
      have hs6' : W2.heap.size ≤ W6.heap.size := by omega
      clear hfz hs6 hw6 hw5 b6 hO5 hown hown5 hbox hbx hts hkt ho hcr hc5 hbr HWr hsm
      simp only [SlotA.cells]
      go_wp2_with fail
      rw [hW6.out]
      go_roundw
      case rel => exact ⟨k + 1, ts ++ [t], by go_num, by omega, HT, hO6, b6', hbr6, hc6, hs6', HW6⟩
      case measure => simp [intOf]; omega
    · obtain rfl : k = 4 := by omega
      have hkk : ¬ ((4 : Nat) : Int) < 4 := by omega
      have hrp : ts ++ List.replicate (4 - 4) zeroS = ts := by simp
      rw [hrp] at hbox
      have htl : ts.length = 4 := hts.out.1
      have HFT : Hid (_) := hts.out.2
      generalize hq : (⟨(x : Int), ts⟩ : PageA) = P at *
      have hP4 : P.ss.length = 4 := by rw [← hq]; exact htl
      have HPe : Hid (P = ⟨(x : Int), ts⟩) := hq.symm
      have hbox' : Box wr w1.heap.size P.cells 34 := by rw [← hq]; exact hbox
      have rP := Box.range [] P.cells [] (by simpa using hbox' : Box wr w1.heap.size ([] ++ (P.cells ++ [])) 34)
      have HIP : Hid ((Tryd.prog.info? 34).map (·.size) = some P.cells.length) := by rw [Hid, page_len P hP4]; kernel_rfl
      have HOP : Hid (_) := all_oneCell_toArray (oneP P)
      obtain ⟨WF, hWF, hwF, hsF, HTF, HLF, _⟩ := page_out (C := w.heap.size) (T := 34) P hP4 _ rfl hbr Tryd.underlying34 rfl (by kernel_rfl)
      have HEND : Hid (∃ (n : Int) (ts : List SlotA), Ending.returned (.agg P.cells.toArray) = .returned (.agg (PageA.cells ⟨n, ts⟩).toArray) ∧ ts.length = 4 ∧ (∀ s ∈ ts, s.v.o.ints.length ≤ 3 ∧ s.v.o.refs.length ≤ 3) ∧ OwnS WF w.heap.size WF.heap.size ts ∧ CurAt WF B zs ∧ Within B (B + 1) w WF) :=
        ⟨x, ts, by rw [HPe.out], htl, HFT.out, (hown.within hwF (.inr (by omega))).widen (by omega) (by omega) (Nat.le_refl _), hcr.within hwF (by omega), HWr.new hwF (Nat.le_refl _)⟩
      clear hwF hsF hq hbox hown hbox' hbr hts hrp htl HWr hcr HPe HFT
      go_wp2_with (first | (guard_target = wpList _ _ _ (Oper.mk (some 17) _ _ _ _ _ :: _) _ _; refine wpList_load_mid rfl 34 (.tmp 3) rfl w1.heap.size 0 rfl P.cells _ rP Tryd.underlying34 rfl HIP.out ?_) | (guard_target = wpList _ _ _ (Oper.mk none (Op.store _ (Operand.tmp 2) _) _ _ _ _ :: _) _ _; refine wpList_store_mid rfl 34 (.tmp 2) (.tmp 17) rfl w.heap.size 0 P.cells.toArray rfl rfl HTF.out (by rw [List.size_toArray]; exact HIP.out) HOP.out ?_) | fail)
      rw [hWF.out]
      exact bodyPost_ret (v := .agg P.cells.toArray) (results_one Tryd.results38 rfl HLF.out) rfl HEND.out
end Go.Proofs.YtoboickdkednkaaDoor

/- The walk of spec.l3PageAny. -/
namespace Go.Proofs.YtoboickdkednkaaDoor
open Go.RowKit

def flipS (s : SlotA) : SlotA := { s with v := ⟨!s.v.has, s.v.o⟩ }
theorem cellsS_flip (ss : List SlotA) (k : Nat) (hk : k < ss.length) : (cellsS ss).set (k * 4) (.bool (!(ss.getD k zeroS).v.has)) = cellsS (ss.set k (flipS (ss.getD k zeroS))) := by
  induction ss generalizing k with
  | nil => simp at hk
  | cons s r ih =>
    cases k with
    | zero => simp [cellsS, SlotA.cells, flipS]
    | succ k =>
      have := ih k (by simpa using hk)
      have e : cellsS (s :: r) = s.cells ++ cellsS r := by simp [cellsS]
      have e2 : ∀ x, cellsS (s :: x) = s.cells ++ cellsS x := fun x => by simp [cellsS]
      rw [e, List.set_append_right _ _ (by rw [cells_len]; omega), cells_len, show (k + 1) * 4 - 4 = k * 4 by omega, List.getD_cons_succ, this, List.set_cons_succ, e2]
theorem cellsS_obj (ss : List SlotA) (k : Nat) (hk : k < ss.length) (o : ObjV) (aI : Option Addr) (cI : Nat) (aR : Option Addr) (cR : Nat) :
    (((cellsS ss).set (k * 4 + 1) (.int .i64 o.kind)).set (k * 4 + 2) (.slice aI o.ints.length cI)).set (k * 4 + 3) (.slice aR o.refs.length cR) = cellsS (ss.set k ⟨⟨(ss.getD k zeroS).v.has, o⟩, aI, cI, aR, cR⟩) := by
  induction ss generalizing k with
  | nil => simp at hk
  | cons s r ih =>
    cases k with
    | zero => simp [cellsS, SlotA.cells]
    | succ k =>
      have := ih k (by simpa using hk)
      have e2 : ∀ x, cellsS (s :: x) = s.cells ++ cellsS x := fun x => by simp [cellsS]
      rw [e2, List.set_append_right _ _ (by rw [cells_len]; omega), List.set_append_right _ _ (by rw [cells_len]; omega), List.set_append_right _ _ (by rw [cells_len]; omega), cells_len, show (k + 1) * 4 + 1 - 4 = k * 4 + 1 by omega, show (k + 1) * 4 + 2 - 4 = k * 4 + 2 by omega, show (k + 1) * 4 + 3 - 4 = k * 4 + 3 by omega, List.getD_cons_succ, this, List.set_cons_succ, e2]
theorem flip_own {w : World} {lo hi : Nat} {s : SlotA} (h : s.own w lo hi) : (flipS s).own w lo hi := h
theorem OwnS.flip {w : World} {lo hi : Nat} {ss : List SlotA} (h : OwnS w lo hi ss) (k : Nat) (hk : k < ss.length) : OwnS w lo hi (ss.set k (flipS (ss.getD k zeroS))) := by
  refine ⟨fun s hs => ?_, ?_⟩
  · rcases List.mem_or_eq_of_mem_set hs with h' | rfl
    · exact h.each s h'
    · exact flip_own (h.each _ (getD_mem hk))
  · have e : (ss.set k (flipS (ss.getD k zeroS))).flatMap SlotA.blocks = ss.flatMap SlotA.blocks := by
      clear h
      induction ss generalizing k with
      | nil => rfl
      | cons s r ih =>
        cases k with
        | zero => rfl
        | succ k =>
          rw [List.set_cons_succ, List.getD_cons_succ, List.flatMap_cons, List.flatMap_cons, ih k (by simpa using hk)]
    rw [e]; exact h.apart

set_option maxHeartbeats 4000000 in
set_option maxRecDepth 100000 in
theorem l3PageAny_any (B : Nat) (zs : List Int) (w : World) (hc : CurAt w B zs) (hl : zs.length ≤ 70368744177664) :
    Calls Tryd.prog 22 #[.pointer (some ⟨B, 0, none⟩)] w fun e w' => ∃ (n : Int) (ts : List SlotA), e = .returned (.agg (PageA.cells ⟨n, ts⟩).toArray) ∧ ts.length = 4 ∧ (∀ s ∈ ts, s.v.o.ints.length ≤ 7 ∧ s.v.o.refs.length ≤ 7) ∧ OwnS w' w.heap.size w'.heap.size ts ∧ CurAt w' B zs ∧ Within B (B + 1) w w' := by
  have hB := hc.lt
  obtain ⟨W, hW, b0, hbW, hsW⟩ := boxes1 w [.int .i64 0, .bool false, .int .i64 0, .slice none 0 0, .slice none 0 0, .bool false, .int .i64 0, .slice none 0 0, .slice none 0 0, .bool false, .int .i64 0, .slice none 0 0, .slice none 0 0, .bool false, .int .i64 0, .slice none 0 0, .slice none 0 0] 34
  have hcW : CurAt W B zs := hc.below hbW
  have hsW' : w.heap.size < W.heap.size := by omega
  clear hsW hc
  go_enter Tryd.func22, Tryd.ntmps22
  go_wp2_with fail
  rw [hW.out]
  clear hW
  refine (l3DrawPage_any B zs W hcW hl).mono ?_
  rintro e w1 ⟨n, ts, rfl, hts4, hsm, ho1, hc1, hw1⟩
  have hs1 := hw1.size
  have b1 := b0.within hw1 (by omega)
  have HW1 : Within B (B + 1) w w1 := (Within.of_below hbW).trans hw1
  have HI : Hid ((Tryd.prog.info? 34).map (·.size) = some (PageA.cells ⟨n, ts⟩).length) := by rw [Hid, page_len _ hts4]; kernel_rfl
  have HO : Hid (_) := all_oneCell_toArray (oneP ⟨n, ts⟩)
  obtain ⟨V2, hV2, bz2, hbz2, hsz2⟩ := boxes1 w1 [.int .i64 0, .bool false, .int .i64 0, .slice none 0 0, .slice none 0 0, .bool false, .int .i64 0, .slice none 0 0, .slice none 0 0, .bool false, .int .i64 0, .slice none 0 0, .slice none 0 0, .bool false, .int .i64 0, .slice none 0 0, .slice none 0 0] 34
  obtain ⟨W2, hW2, hw2, hs2, HT2, _, bp2⟩ := page_out (C := w1.heap.size) (T := 34) ⟨n, ts⟩ hts4 _ rfl bz2 Tryd.underlying34 rfl (by kernel_rfl)
  have M2 : Below w1.heap.size w1 W2 := hbz2.trans (hw2.below (Nat.le_refl _) (by omega))
  have b02 := b1.below M2 b1.lt
  have hc2 : CurAt W2 B zs := hc1.below M2
  have o2 : OwnS W2 W.heap.size w1.heap.size ts := ho1.below M2
  have HW2 : Within B (B + 1) w W2 := HW1.trans (Within.of_below M2)
  have hlt2 : w1.heap.size < W2.heap.size := bp2.lt
  clear b0 hcW hbW hw1 HW1 b1 hc1 ho1 bz2 hbz2 hsz2 hw2 hs2 M2
  go_wp2_with (first | (guard_target = wpList _ _ _ (Oper.mk none (Op.store _ (Operand.tmp 3) _) _ _ _ _ :: _) _ _; refine wpList_store_mid rfl 34 (.tmp 3) (.tmp 6) rfl w1.heap.size 0 (PageA.cells ⟨n, ts⟩).toArray rfl rfl (by rw [hV2.out]; exact HT2.out) (by rw [List.size_toArray]; exact HI.out) HO.out ?_) | fail)
  rw [hV2.out, hW2.out]
  clear hV2 hW2 HT2 HO HI
  refine (l1Below_any B zs 4 W2 hc2 hl (by omega)).mono ?_
  rintro e w3 ⟨k, rfl, hk4', hc3, hg3⟩
  have hk4 : k < 4 := by have := hk4' (by omega); omega
  have hw3 := within_cur hg3
  have hs3 := hw3.size
  have bp3 := bp2.within hw3 (by omega)
  have b03 := b02.within hw3 (by omega)
  have o3 := o2.within hw3 (.inr (by omega))
  have HW3 := HW2.trans hw3
  clear bp2 b02 o2 HW2 hg3 hw3 hc2 hk4'
  go_wp2_with fail
  refine (l1Below_any B zs 12 w3 hc3 hl (by omega)).mono ?_
  rintro e w4 ⟨y, rfl, _, hc4, hg4⟩
  have hw4 := within_cur hg4
  have hs4 := hw4.size
  have bp4 := bp3.within hw4 (by omega)
  have br := b03.within hw4 (by omega)
  have o4 := o3.within hw4 (.inr (by omega))
  have HW4 := HW3.trans hw4
  clear bp3 b03 o3 HW3 hg4 hw4 hc3
  simp only [PageA.cells] at bp4
  have hkl : k < ts.length := by omega
  have hi0 : (0 : Int) ≤ (k : Int) := by omega
  have hi4 : (k : Int) < 4 := by omega
  by_cases hy0 : y = 0
  · subst hy0
    have hnat : ((0 : Nat) : Int) = 0 := rfl
    obtain ⟨W5, hW5, b5, hb5, hs5⟩ := boxes1 w4 [.int .i64 (-1), .int .i64 1000000, .int .i64 1000001] 3
    have hrl : ReadsI W5 (some ⟨w4.heap.size, 0, none⟩) [-1, 1000000, 1000001] := fun _ => ⟨w4.heap.size, 0, rfl, fun i hi => by
      match i, hi with
      | 0, _ => exact b5.cell 0 _ rfl
      | 1, _ => exact b5.cell 1 _ rfl
      | 2, _ => exact b5.cell 2 _ rfl⟩
    have hB4 : B < w4.heap.size := hc4.lt
    go_wp2_with fail
    rw [hW5.out]
    clear hW5
    refine (l1Int_any B zs (some ⟨w4.heap.size, 0, none⟩) 3 [-1, 1000000, 1000001] W5 (hc4.below hb5) hl hrl (fun b off e => by cases e; omega) (by simp) (by simp)).mono ?_
    rintro e w6 ⟨j, hj, rfl, hc6, hg6⟩
    generalize ([-1, 1000000, 1000001] : List Int).getD j 0 = z at *
    have hw6 := within_cur hg6
    have hs6 := hw6.size
    have hs45 := hb5.size
    have bp6 := (bp4.below hb5 bp4.lt).within hw6 (by omega)
    have br6 := (br.below hb5 br.lt).within hw6 (by omega)
    have o6 := (o4.below hb5).within hw6 (.inr (by omega))
    have HW6 := (HW4.trans (Within.of_below hb5)).trans hw6
    have x0 := bp6.cell 0 _ rfl
    have f0 := bp6.frozen 0
    obtain ⟨W7, hW7, b7, hw7, hs7⟩ := box_set bp6 0 (.int .i64 z)
    simp only [List.set_cons_zero] at b7
    have bp : Box W7 w1.heap.size (PageA.cells ⟨z, ts⟩) 34 := b7
    have ou : OwnS W7 W.heap.size w1.heap.size ts := o6.within hw7 (.inl (Nat.le_refl _))
    have cu : CurAt W7 B zs := hc6.within hw7 (by omega)
    have HWv : Within B (B + 1) w W7 := HW6.new hw7 (by omega)
    have hu4 := hts4
    have hus : ∀ s ∈ ts, s.v.o.ints.length ≤ 7 ∧ s.v.o.refs.length ≤ 7 := fun s hs => by have := hsm s hs; omega
    have br := br6.within hw7 (by omega)
    clear br6 bp6 o6 HW6 hw7 b7 hw6 hg6 hb5 hc6 hrl b5 bp4 o4 HW4 hc4
    generalize hq : (⟨z, ts⟩ : PageA) = P at *
    have hP4 : P.ss.length = 4 := by rw [← hq]; exact hu4
    have HPe : Hid (P = ⟨z, ts⟩) := hq.symm
    have hbox' : Box W7 w1.heap.size P.cells 34 := bp
    have rP := Box.range [] P.cells [] (by simpa using hbox' : Box W7 w1.heap.size ([] ++ (P.cells ++ [])) 34)
    have HIP : Hid ((Tryd.prog.info? 34).map (·.size) = some P.cells.length) := by rw [Hid, page_len P hP4]; kernel_rfl
    have HOP : Hid (_) := all_oneCell_toArray (oneP P)
    obtain ⟨WF, hWF, hwF, hsF, HTF, HLF, _⟩ := page_out (C := w.heap.size) (T := 34) P hP4 _ rfl br Tryd.underlying34 rfl (by kernel_rfl)
    have HEND : Hid (∃ (n : Int) (ts : List SlotA), Ending.returned (.agg P.cells.toArray) = .returned (.agg (PageA.cells ⟨n, ts⟩).toArray) ∧ ts.length = 4 ∧ (∀ s ∈ ts, s.v.o.ints.length ≤ 7 ∧ s.v.o.refs.length ≤ 7) ∧ OwnS WF w.heap.size WF.heap.size ts ∧ CurAt WF B zs ∧ Within B (B + 1) w WF) :=
      ⟨z, ts, by rw [HPe.out], hu4, hus, (ou.within hwF (.inr (by omega))).widen (by omega) (by have := hwF.size; omega) (Nat.le_refl _), cu.within hwF (by omega), HWv.new hwF (Nat.le_refl _)⟩
    have W7e := hW7.out
    rw [← W7e] at rP HTF hWF
    clear W7e hW7
    clear hwF hsF hq bp br cu ou HWv hbox' HPe
    go_wp2_with (first | (guard_target = wpList _ _ _ (Oper.mk (some 42) _ _ _ _ _ :: _) _ _; refine wpList_load_mid rfl 34 (.tmp 3) rfl w1.heap.size 0 rfl P.cells _ rP Tryd.underlying34 rfl HIP.out ?_) | (guard_target = wpList _ _ _ (Oper.mk none (Op.store _ (Operand.tmp 2) _) _ _ _ _ :: _) _ _; refine wpList_store_mid rfl 34 (.tmp 2) (.tmp 42) rfl w.heap.size 0 P.cells.toArray rfl rfl HTF.out (by rw [List.size_toArray]; exact HIP.out) HOP.out ?_) | fail)
    rw [hWF.out]
    exact bodyPost_ret (v := .agg P.cells.toArray) (results_one Tryd.results22 rfl HLF.out) rfl HEND.out
  by_cases hy1 : y = 1
  · subst hy1
    obtain ⟨x0, x1, x2, x3, hfz⟩ := bp4.pslot k hkl
    have f0 := hfz (1 + k * 4)
    obtain ⟨W7, hW7, b7, hw7, hs7⟩ := box_set bp4 (1 + k * 4) (.bool (!(ts.getD k zeroS).v.has))
    rw [set_cons1, cellsS_flip ts k hkl] at b7
    have bp : Box W7 w1.heap.size (PageA.cells ⟨n, ts.set k (flipS (ts.getD k zeroS))⟩) 34 := b7
    have ou : OwnS W7 W.heap.size w1.heap.size (ts.set k (flipS (ts.getD k zeroS))) := (o4.within hw7 (.inl (Nat.le_refl _))).flip k hkl
    have cu : CurAt W7 B zs := hc4.within hw7 (by omega)
    have HWv : Within B (B + 1) w W7 := HW4.new hw7 (by omega)
    have hu4 : (ts.set k (flipS (ts.getD k zeroS))).length = 4 := by rw [List.length_set]; exact hts4
    have hus : ∀ s ∈ ts.set k (flipS (ts.getD k zeroS)), s.v.o.ints.length ≤ 7 ∧ s.v.o.refs.length ≤ 7 := fun s hs => by
      rcases List.mem_or_eq_of_mem_set hs with h | rfl
      · have := hsm s h; omega
      · have := hsm _ (getD_mem hkl); simp only [flipS]; omega
    have br := br.within hw7 (by omega)
    clear hw7 b7 bp4 o4 HW4 hc4 hfz x1 x2 x3
    generalize hsv : ts.getD k zeroS = sv at *
    clear hsv
    generalize ts.set k (flipS sv) = us at *
    generalize hq : (⟨n, us⟩ : PageA) = P at *
    have hP4 : P.ss.length = 4 := by rw [← hq]; exact hu4
    have HPe : Hid (P = ⟨n, us⟩) := hq.symm
    have hbox' : Box W7 w1.heap.size P.cells 34 := bp
    have rP := Box.range [] P.cells [] (by simpa using hbox' : Box W7 w1.heap.size ([] ++ (P.cells ++ [])) 34)
    have HIP : Hid ((Tryd.prog.info? 34).map (·.size) = some P.cells.length) := by rw [Hid, page_len P hP4]; kernel_rfl
    have HOP : Hid (_) := all_oneCell_toArray (oneP P)
    obtain ⟨WF, hWF, hwF, hsF, HTF, HLF, _⟩ := page_out (C := w.heap.size) (T := 34) P hP4 _ rfl br Tryd.underlying34 rfl (by kernel_rfl)
    have HEND : Hid (∃ (n : Int) (ts : List SlotA), Ending.returned (.agg P.cells.toArray) = .returned (.agg (PageA.cells ⟨n, ts⟩).toArray) ∧ ts.length = 4 ∧ (∀ s ∈ ts, s.v.o.ints.length ≤ 7 ∧ s.v.o.refs.length ≤ 7) ∧ OwnS WF w.heap.size WF.heap.size ts ∧ CurAt WF B zs ∧ Within B (B + 1) w WF) :=
      ⟨n, us, by rw [HPe.out], hu4, hus, (ou.within hwF (.inr (by omega))).widen (by omega) (by have := hwF.size; omega) (Nat.le_refl _), cu.within hwF (by omega), HWv.new hwF (Nat.le_refl _)⟩
    have W7e := hW7.out
    rw [← W7e] at rP HTF hWF
    clear W7e hW7
    clear hwF hsF hq bp br cu ou HWv hbox' HPe
    go_wp2_with (first | (guard_target = wpList _ _ _ (Oper.mk (some 42) _ _ _ _ _ :: _) _ _; refine wpList_load_mid rfl 34 (.tmp 3) rfl w1.heap.size 0 rfl P.cells _ rP Tryd.underlying34 rfl HIP.out ?_) | (guard_target = wpList _ _ _ (Oper.mk none (Op.store _ (Operand.tmp 2) _) _ _ _ _ :: _) _ _; refine wpList_store_mid rfl 34 (.tmp 2) (.tmp 42) rfl w.heap.size 0 P.cells.toArray rfl rfl HTF.out (by rw [List.size_toArray]; exact HIP.out) HOP.out ?_) | fail)
    rw [hWF.out]
    exact bodyPost_ret (v := .agg P.cells.toArray) (results_one Tryd.results22 rfl HLF.out) rfl HEND.out
  by_cases hy2 : y = 2
  · subst hy2
    obtain ⟨x0, x1, x2, x3, hfz⟩ := bp4.pslot k hkl
    have hrk := (o4.each _ (getD_mem hkl)).reads
    have hsk := hsm _ (getD_mem hkl)
    have HOB : Hid (∀ (o : ObjV) (aI : Option Addr) (cI : Nat) (aR : Option Addr) (cR : Nat), (((cellsS ts).set (k * 4 + 1) (.int .i64 o.kind)).set (k * 4 + 2) (.slice aI o.ints.length cI)).set (k * 4 + 3) (.slice aR o.refs.length cR) = cellsS (ts.set k ⟨⟨(ts.getD k zeroS).v.has, o⟩, aI, cI, aR, cR⟩)) := fun o aI cI aR cR => cellsS_obj ts k hkl o aI cI aR cR
    generalize ts.getD k zeroS = sv at *
    go_wp2_with fail
    refine (l2Bend_any B zs sv.v.o sv.aI sv.cI sv.aR sv.cR w4 hc4 hl hrk hsk.1 hsk.2).mono ?_
    rintro e w6 ⟨aI, cI, aR, cR, o, rfl, hlI, hlR, ho6, hc6, hg6⟩
    have hw6 := within_cur hg6
    have hs6 := hw6.size
    have bp6 := bp4.within hw6 (by omega)
    have br6 := br.within hw6 (by omega)
    have o6 := o4.within hw6 (.inr (by omega))
    have HW6 := HW4.trans hw6
    clear x0 x1 x2 x3 hfz hrk
    obtain ⟨x0, x1, x2, x3, hfz⟩ := bp6.pslot k hkl
    have f1 := hfz (1 + k * 4 + 1)
    have f2 := hfz (1 + k * 4 + 2)
    have f3 := hfz (1 + k * 4 + 3)
    obtain ⟨W7, hW7, b7, hw7, hs7⟩ : ∃ W7, Hid (((w6.setCell ⟨w1.heap.size, 1 + k * 4 + 1, none⟩ (.int .i64 o.kind)).setCell ⟨w1.heap.size, 1 + k * 4 + 2, none⟩ (.slice aI o.ints.length cI)).setCell ⟨w1.heap.size, 1 + k * 4 + 3, none⟩ (.slice aR o.refs.length cR) = W7) ∧ Box W7 w1.heap.size (.int .i64 n :: cellsS (ts.set k ⟨⟨sv.v.has, o⟩, aI, cI, aR, cR⟩)) 34 ∧ Within w1.heap.size (w1.heap.size + 1) w6 W7 ∧ W7.heap.size = w6.heap.size := by
      refine ⟨_, rfl, ?_, ?_, by simp⟩
      · have h := ((bp6.set (1 + k * 4 + 1) (.int .i64 o.kind)).set (1 + k * 4 + 2) (.slice aI o.ints.length cI)).set (1 + k * 4 + 3) (.slice aR o.refs.length cR)
        rw [Nat.add_assoc, Nat.add_assoc 1 (k * 4) 2, Nat.add_assoc 1 (k * 4) 3, set_cons1, set_cons1, set_cons1, HOB.out] at h
        rw [Nat.add_assoc, Nat.add_assoc 1 (k * 4) 2, Nat.add_assoc 1 (k * 4) 3]
        exact h
      · exact ((within_set w6 _ _ _ (by omega)).trans (within_set _ _ _ _ (by omega))).trans (within_set _ _ _ _ (by omega))
    generalize hnt : (⟨⟨sv.v.has, o⟩, aI, cI, aR, cR⟩ : SlotA) = t at *
    have ht7 : t.own W7 w4.heap.size w6.heap.size := by rw [← hnt]; exact ho6.within hw7 (.inr (by omega))
    have htl : t.v.o.ints.length ≤ 7 ∧ t.v.o.refs.length ≤ 7 := by rw [← hnt]; exact ⟨hlI, hlR⟩
    clear hnt
    have bp : Box W7 w1.heap.size (PageA.cells ⟨n, ts.set k t⟩) 34 := b7
    have ou : OwnS W7 W.heap.size w6.heap.size (ts.set k t) := (o6.within hw7 (.inl (Nat.le_refl _))).set k ht7 (by omega) (by omega) (by omega)
    have cu : CurAt W7 B zs := hc6.within hw7 (by omega)
    have HWv : Within B (B + 1) w W7 := HW6.new hw7 (by omega)
    have hu4 : (ts.set k t).length = 4 := by rw [List.length_set]; exact hts4
    have hus : ∀ s ∈ ts.set k t, s.v.o.ints.length ≤ 7 ∧ s.v.o.refs.length ≤ 7 := fun s hs => by
      rcases List.mem_or_eq_of_mem_set hs with h | rfl
      · have := hsm s h; omega
      · exact htl
    have br := br6.within hw7 (by omega)
    clear hw7 b7 bp4 bp6 o4 o6 HW4 HW6 hc4 hc6 hfz br6 hw6 hg6 ho6 ht7 HOB
    generalize ts.set k t = us at *
    generalize hq : (⟨n, us⟩ : PageA) = P at *
    have hP4 : P.ss.length = 4 := by rw [← hq]; exact hu4
    have HPe : Hid (P = ⟨n, us⟩) := hq.symm
    have hbox' : Box W7 w1.heap.size P.cells 34 := bp
    have rP := Box.range [] P.cells [] (by simpa using hbox' : Box W7 w1.heap.size ([] ++ (P.cells ++ [])) 34)
    have HIP : Hid ((Tryd.prog.info? 34).map (·.size) = some P.cells.length) := by rw [Hid, page_len P hP4]; kernel_rfl
    have HOP : Hid (_) := all_oneCell_toArray (oneP P)
    obtain ⟨WF, hWF, hwF, hsF, HTF, HLF, _⟩ := page_out (C := w.heap.size) (T := 34) P hP4 _ rfl br Tryd.underlying34 rfl (by kernel_rfl)
    have HEND : Hid (∃ (n : Int) (ts : List SlotA), Ending.returned (.agg P.cells.toArray) = .returned (.agg (PageA.cells ⟨n, ts⟩).toArray) ∧ ts.length = 4 ∧ (∀ s ∈ ts, s.v.o.ints.length ≤ 7 ∧ s.v.o.refs.length ≤ 7) ∧ OwnS WF w.heap.size WF.heap.size ts ∧ CurAt WF B zs ∧ Within B (B + 1) w WF) :=
      ⟨n, us, by rw [HPe.out], hu4, hus, (ou.within hwF (.inr (by omega))).widen (by omega) (by have := hwF.size; omega) (Nat.le_refl _), cu.within hwF (by omega), HWv.new hwF (Nat.le_refl _)⟩
    have W7e := hW7.out
    rw [← W7e] at rP HTF hWF
    clear W7e hW7
    clear hwF hsF hq bp br cu ou HWv hbox' HPe
    go_wp2_with (first | (guard_target = wpList _ _ _ (Oper.mk (some 42) _ _ _ _ _ :: _) _ _; refine wpList_load_mid rfl 34 (.tmp 3) rfl w1.heap.size 0 rfl P.cells _ rP Tryd.underlying34 rfl HIP.out ?_) | (guard_target = wpList _ _ _ (Oper.mk none (Op.store _ (Operand.tmp 2) _) _ _ _ _ :: _) _ _; refine wpList_store_mid rfl 34 (.tmp 2) (.tmp 42) rfl w.heap.size 0 P.cells.toArray rfl rfl HTF.out (by rw [List.size_toArray]; exact HIP.out) HOP.out ?_) | fail)
    rw [hWF.out]
    exact bodyPost_ret (v := .agg P.cells.toArray) (results_one Tryd.results22 rfl HLF.out) rfl HEND.out
  have hyb0 : ((y : Int) == 0) = false := by simp; omega
  have hyb1 : ((y : Int) == 1) = false := by simp; omega
  have hyb2 : ((y : Int) == 2) = false := by simp; omega
  clear hy0 hy1 hy2
  have bp : Box w4 w1.heap.size (PageA.cells ⟨n, ts⟩) 34 := bp4
  have ou := o4
  have cu := hc4
  have HWv := HW4
  have hu4 := hts4
  have hus : ∀ s ∈ ts, s.v.o.ints.length ≤ 7 ∧ s.v.o.refs.length ≤ 7 := fun s hs => by have := hsm s hs; omega
  clear bp4 o4 hc4 HW4
  generalize hq : (⟨n, ts⟩ : PageA) = P at *
  have hP4 : P.ss.length = 4 := by rw [← hq]; exact hu4
  have HPe : Hid (P = ⟨n, ts⟩) := hq.symm
  have hbox' : Box w4 w1.heap.size P.cells 34 := bp
  have rP := Box.range [] P.cells [] (by simpa using hbox' : Box w4 w1.heap.size ([] ++ (P.cells ++ [])) 34)
  have HIP : Hid ((Tryd.prog.info? 34).map (·.size) = some P.cells.length) := by rw [Hid, page_len P hP4]; kernel_rfl
  have HOP : Hid (_) := all_oneCell_toArray (oneP P)
  obtain ⟨WF, hWF, hwF, hsF, HTF, HLF, _⟩ := page_out (C := w.heap.size) (T := 34) P hP4 _ rfl br Tryd.underlying34 rfl (by kernel_rfl)
  have HEND : Hid (∃ (n : Int) (ts : List SlotA), Ending.returned (.agg P.cells.toArray) = .returned (.agg (PageA.cells ⟨n, ts⟩).toArray) ∧ ts.length = 4 ∧ (∀ s ∈ ts, s.v.o.ints.length ≤ 7 ∧ s.v.o.refs.length ≤ 7) ∧ OwnS WF w.heap.size WF.heap.size ts ∧ CurAt WF B zs ∧ Within B (B + 1) w WF) :=
    ⟨n, ts, by rw [HPe.out], hu4, hus, (ou.within hwF (.inr (by omega))).widen (by omega) (by have := hwF.size; omega) (Nat.le_refl _), cu.within hwF (by omega), HWv.new hwF (Nat.le_refl _)⟩
  clear hwF hsF hq bp br cu ou HWv hbox' HPe
  go_wp2_with (first | (guard_target = wpList _ _ _ (Oper.mk (some 42) _ _ _ _ _ :: _) _ _; refine wpList_load_mid rfl 34 (.tmp 3) rfl w1.heap.size 0 rfl P.cells _ rP Tryd.underlying34 rfl HIP.out ?_) | (guard_target = wpList _ _ _ (Oper.mk none (Op.store _ (Operand.tmp 2) _) _ _ _ _ :: _) _ _; refine wpList_store_mid rfl 34 (.tmp 2) (.tmp 42) rfl w.heap.size 0 P.cells.toArray rfl rfl HTF.out (by rw [List.size_toArray]; exact HIP.out) HOP.out ?_) | fail)
  rw [hWF.out]
  exact bodyPost_ret (v := .agg P.cells.toArray) (results_one Tryd.results22 rfl HLF.out) rfl HEND.out
end Go.Proofs.YtoboickdkednkaaDoor

/- The walk of laws.eqIntS. -/
namespace Go.Proofs.YtoboickdkednkaaDoor
open Go.RowKit

end Go.Proofs.YtoboickdkednkaaDoor

/- The walks of laws.markIntS and laws.heldIntS. -/
namespace Go.Proofs.YtoboickdkednkaaDoor
open Go.RowKit

end Go.Proofs.YtoboickdkednkaaDoor

/- The walks of laws.eqObj, markObj, heldObj. -/
namespace Go.Proofs.YtoboickdkednkaaDoor
open Go.RowKit

end Go.Proofs.YtoboickdkednkaaDoor

/- The walks of laws.markByteS and laws.heldByteS. -/
namespace Go.Proofs.YtoboickdkednkaaDoor
open Go.RowKit

def marks (k0 : Int) (n : Nat) : List Int := (List.range n).map fun i : Nat => (k0 + i) % 256

end Go.Proofs.YtoboickdkednkaaDoor
