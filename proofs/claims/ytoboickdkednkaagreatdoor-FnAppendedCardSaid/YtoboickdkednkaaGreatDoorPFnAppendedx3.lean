/- Several texts in one, in their order. -/
import Derived.Test.YtoboickdkednkaaGreatDoorProg
import Derived.Test.YtoboickdkednkaaGreatDoorPFnAppendedx1
import Derived.Test.YtoboickdkednkaaGreatDoorPFnAppendedx2
import Derived.Deep.QuietTactic
import Derived.BigQuiet
import Derived.Deep.RegionHeld3
import Derived.Deep.AppendLies
import Derived.Laws.AppendOwnNone
set_option maxHeartbeats 8000000
set_option maxRecDepth 100000
namespace Go.Proofs.YtoboickdkednkaaGreatDoor
open Go.RowKit
def Fit (ss : List SlotA) : Prop := ∀ s ∈ ss, s.v.o.ints.length ≤ 1099511627776 ∧ s.v.o.refs.length ≤ 1099511627776
def noS : SlotV := ⟨false, noO⟩
def slotB (s : SlotV) : Bool := if s.has then okB s.o else (decide (s.o.kind = 0) && (decide (s.o.ints.length = 0) && decide (s.o.refs.length = 0)))
theorem slotB_has {s : SlotV} (h : s.has = true) : slotB s = okB s.o := by unfold slotB; rw [if_pos h]
def isNo (v : SlotV) : Bool := if v.has then false else sameO v.o ⟨0, [], []⟩
theorem isNo_has {v : SlotV} (h : v.has = true) : isNo v = false := by unfold isNo; rw [if_pos h]
theorem isNo_not {v : SlotV} (h : v.has = false) : isNo v = sameO v.o ⟨0, [], []⟩ := by unfold isNo; rw [if_neg (by rw [h]; decide)]
theorem l3SameNone_any (s : SlotA) (w : World) (hr : s.reads w) (hl : Fit [s]) :
  Calls Tryz.prog 87 #[.agg s.cells.toArray, .agg #[.bool false, .int .i64 0, .slice none 0 0, .slice none 0 0]] w fun e w' => e = .returned (.bool (isNo s.v)) ∧ Below w.heap.size w w' := by
 obtain ⟨h1, h2⟩ := hl s (List.mem_singleton.2 rfl)
 obtain ⟨W, hW, b0, b1, hbW, hsW⟩ := boxes2 w s.cells [.bool false, .int .i64 0, .slice none 0 0, .slice none 0 0] 36 36
 have hr' : s.reads W := ReadsO.below hr hbW
 obtain ⟨⟨h, o⟩, aI, cI, aR, cR⟩ := s
 simp only [SlotA.cells, SlotA.reads] at *
 clear hsW
 cases h with
 | true =>
  have HE : Hid (isNo ⟨true, o⟩ = false) := isNo_has rfl
  generalize isNo ⟨true, o⟩ = R at *
  go_enter Tryz.func87, Tryz.ntmps87
  go_wp2
  go_ret
  exact ⟨ret_bool HE.out.symm, by rw [hW.out]; exact hbW⟩
 | false =>
  have C1 := specSameObj_any o ⟨0, [], []⟩ aI cI aR cR none 0 none 0 W hr' ⟨ReadsI.nil _ _, ReadsI.nil _ _, fun _ => rfl, fun _ => rfl⟩ h1 h2 (by simp) (by simp)
  simp only [List.length_nil] at C1
  have HE : Hid (isNo ⟨false, o⟩ = sameO o ⟨0, [], []⟩) := isNo_not rfl
  generalize isNo ⟨false, o⟩ = R at *
  generalize sameO o ⟨0, [], []⟩ = R2 at *
  go_enter Tryz.func87, Tryz.ntmps87
  go_wp2_with fail
  rw [hW.out]
  refine C1.mono ?_
  rintro e w1 ⟨rfl, hb1⟩
  go_wp2
  go_ret
  exact ⟨ret_bool HE.out.symm, hbW.trans (hb1.mono hbW.size)⟩
def zeroB (r : RecV) (tx oid bf next txs : Bool) : Bool := (tx || (decide (r.tx = 0) && decide (r.prev = 0))) && (oid || (decide (r.oid = 0) && isNo r.af)) && (bf || isNo r.bf) && (next || decide (r.next = 0)) && (txs || decide (r.txs.length = 0))
theorem l4Zero_check (r : RecA) (w : World) (hr : r.reads w) (hl : r.short 1099511627776) :
  Calls Tryz.prog 64 #[.agg r.cells.toArray, .bool false, .bool false, .bool false, .bool false, .bool true] w fun e w' => e = .returned (.bool (zeroB r.v false false false false true)) ∧ Below w.heap.size w w' := by
 obtain ⟨W, hW, b0, b1, hbW, hsW⟩ := boxes2 w r.cells [.bool false, .int .i64 0, .slice none 0 0, .slice none 0 0] 39 36
 have CB : ∀ u, Below w.heap.size w u → _ := fun u hu => l3SameNone_any r.bf u (ReadsO.below hr.bf hu) (fun s hs => by obtain rfl := List.mem_singleton.1 hs; exact hl.bf)
 have CA : ∀ u, Below w.heap.size w u → _ := fun u hu => l3SameNone_any r.af u (ReadsO.below hr.af hu) (fun s hs => by obtain rfl := List.mem_singleton.1 hs; exact hl.af)
 have HZ : Hid (zeroB r.v false false false false true = ((false || (decide (r.tx = 0) && decide (r.prev = 0))) && (false || (decide (r.oid = 0) && isNo r.af.v)) && (false || isNo r.bf.v) && (false || decide (r.next = 0)) && (true || decide (r.txs.length = 0)))) := rfl
 generalize zeroB r.v false false false false true = R at *
 simp only [RecA.cells] at *
 simp only [SlotA.cells] at CA CB
 clear hsW hr hl
 by_cases h_tx : r.tx = 0
 case neg =>
  have HR : Hid (R = false) := by rw [Hid, HZ.out]; simp [h_tx]
  have h_txb : (r.tx == 0) = false := by simp; exact h_tx
  clear HZ h_tx
  go_enter Tryz.func64, Tryz.ntmps64
  go_wp2
  rw [hW.out]
  go_ret
  exact ⟨ret_bool HR.out.symm, hbW⟩
 case pos =>
 by_cases h_prev : r.prev = 0
 case neg =>
  have HR : Hid (R = false) := by rw [Hid, HZ.out]; simp [h_tx, h_prev]
  have h_txb : (r.tx == 0) = true := by simp; exact h_tx
  have h_prevb : (r.prev == 0) = false := by simp; exact h_prev
  clear HZ h_tx h_prev
  go_enter Tryz.func64, Tryz.ntmps64
  go_wp2
  rw [hW.out]
  go_ret
  exact ⟨ret_bool HR.out.symm, hbW⟩
 case pos =>
 by_cases h_oid : r.oid = 0
 case neg =>
  have HR : Hid (R = false) := by rw [Hid, HZ.out]; simp [h_tx, h_prev, h_oid]
  have h_txb : (r.tx == 0) = true := by simp; exact h_tx
  have h_prevb : (r.prev == 0) = true := by simp; exact h_prev
  have h_oidb : (r.oid == 0) = false := by simp; exact h_oid
  clear HZ h_tx h_prev h_oid
  go_enter Tryz.func64, Tryz.ntmps64
  go_wp2
  rw [hW.out]
  go_ret
  exact ⟨ret_bool HR.out.symm, hbW⟩
 case pos =>
 by_cases h_af : isNo r.af.v = true
 case neg =>
  have HR : Hid (R = false) := by rw [Hid, HZ.out]; simp [h_tx, h_prev, h_oid, h_af]
  have h_txb : (r.tx == 0) = true := by simp; exact h_tx
  have h_prevb : (r.prev == 0) = true := by simp; exact h_prev
  have h_oidb : (r.oid == 0) = true := by simp; exact h_oid
  have h_afb : isNo r.af.v = false := by simpa using h_af
  clear HZ h_tx h_prev h_oid
  go_enter Tryz.func64, Tryz.ntmps64
  go_wp2_with fail
  rw [hW.out]
  clear hW
  refine (CA W hbW).mono ?_
  rintro e w_af ⟨rfl, hb_af⟩
  rw [h_afb]
  have B_af : Below w.heap.size w w_af := (hbW).trans (hb_af.mono (hbW).size)
  have b0_af := b0.below hb_af (b0).lt
  have b1_af := b1.below hb_af (b1).lt
  have x_af5 := b0_af.cell 5 _ rfl
  have x_af6 := b0_af.cell 6 _ rfl
  have x_af7 := b0_af.cell 7 _ rfl
  have x_af8 := b0_af.cell 8 _ rfl
  have x_af13 := b0_af.cell 13 _ rfl
  have x_af14 := b0_af.cell 14 _ rfl
  have y_af0 := b1_af.cell 0 _ rfl
  have y_af1 := b1_af.cell 1 _ rfl
  have y_af2 := b1_af.cell 2 _ rfl
  have y_af3 := b1_af.cell 3 _ rfl
  go_wp2
  go_ret
  exact ⟨ret_bool HR.out.symm, B_af⟩
 case pos =>
 by_cases h_bf : isNo r.bf.v = true
 case neg =>
  have HR : Hid (R = false) := by rw [Hid, HZ.out]; simp [h_tx, h_prev, h_oid, h_af, h_bf]
  have h_txb : (r.tx == 0) = true := by simp; exact h_tx
  have h_prevb : (r.prev == 0) = true := by simp; exact h_prev
  have h_oidb : (r.oid == 0) = true := by simp; exact h_oid
  have h_bfb : isNo r.bf.v = false := by simpa using h_bf
  clear HZ h_tx h_prev h_oid
  go_enter Tryz.func64, Tryz.ntmps64
  go_wp2_with fail
  rw [hW.out]
  clear hW
  refine (CA W hbW).mono ?_
  rintro e w_af ⟨rfl, hb_af⟩
  rw [h_af]
  have B_af : Below w.heap.size w w_af := (hbW).trans (hb_af.mono (hbW).size)
  have b0_af := b0.below hb_af (b0).lt
  have b1_af := b1.below hb_af (b1).lt
  have x_af5 := b0_af.cell 5 _ rfl
  have x_af6 := b0_af.cell 6 _ rfl
  have x_af7 := b0_af.cell 7 _ rfl
  have x_af8 := b0_af.cell 8 _ rfl
  have x_af13 := b0_af.cell 13 _ rfl
  have x_af14 := b0_af.cell 14 _ rfl
  have y_af0 := b1_af.cell 0 _ rfl
  have y_af1 := b1_af.cell 1 _ rfl
  have y_af2 := b1_af.cell 2 _ rfl
  have y_af3 := b1_af.cell 3 _ rfl
  go_wp2_with fail
  refine (CB w_af B_af).mono ?_
  rintro e w_bf ⟨rfl, hb_bf⟩
  rw [h_bfb]
  have B_bf : Below w.heap.size w w_bf := (B_af).trans (hb_bf.mono (B_af).size)
  have b0_bf := b0_af.below hb_bf (b0_af).lt
  have b1_bf := b1_af.below hb_bf (b1_af).lt
  have x_bf13 := b0_bf.cell 13 _ rfl
  have x_bf14 := b0_bf.cell 14 _ rfl
  go_wp2
  go_ret
  exact ⟨ret_bool HR.out.symm, B_bf⟩
 case pos =>
 by_cases h_next : r.next = 0
 case neg =>
  have HR : Hid (R = false) := by rw [Hid, HZ.out]; simp [h_tx, h_prev, h_oid, h_af, h_bf, h_next]
  have h_txb : (r.tx == 0) = true := by simp; exact h_tx
  have h_prevb : (r.prev == 0) = true := by simp; exact h_prev
  have h_oidb : (r.oid == 0) = true := by simp; exact h_oid
  have h_nextb : (r.next == 0) = false := by simp; exact h_next
  clear HZ h_tx h_prev h_oid h_next
  go_enter Tryz.func64, Tryz.ntmps64
  go_wp2_with fail
  rw [hW.out]
  clear hW
  refine (CA W hbW).mono ?_
  rintro e w_af ⟨rfl, hb_af⟩
  rw [h_af]
  have B_af : Below w.heap.size w w_af := (hbW).trans (hb_af.mono (hbW).size)
  have b0_af := b0.below hb_af (b0).lt
  have b1_af := b1.below hb_af (b1).lt
  have x_af5 := b0_af.cell 5 _ rfl
  have x_af6 := b0_af.cell 6 _ rfl
  have x_af7 := b0_af.cell 7 _ rfl
  have x_af8 := b0_af.cell 8 _ rfl
  have x_af13 := b0_af.cell 13 _ rfl
  have x_af14 := b0_af.cell 14 _ rfl
  have y_af0 := b1_af.cell 0 _ rfl
  have y_af1 := b1_af.cell 1 _ rfl
  have y_af2 := b1_af.cell 2 _ rfl
  have y_af3 := b1_af.cell 3 _ rfl
  go_wp2_with fail
  refine (CB w_af B_af).mono ?_
  rintro e w_bf ⟨rfl, hb_bf⟩
  rw [h_bf]
  have B_bf : Below w.heap.size w w_bf := (B_af).trans (hb_bf.mono (B_af).size)
  have b0_bf := b0_af.below hb_bf (b0_af).lt
  have b1_bf := b1_af.below hb_bf (b1_af).lt
  have x_bf13 := b0_bf.cell 13 _ rfl
  have x_bf14 := b0_bf.cell 14 _ rfl
  go_wp2
  go_ret
  exact ⟨ret_bool HR.out.symm, B_bf⟩
 case pos =>
 have HR : Hid (R = true) := by rw [Hid, HZ.out]; simp [h_tx, h_prev, h_oid, h_af, h_bf, h_next]
 have h_txb : (r.tx == 0) = true := by simp; exact h_tx
 have h_prevb : (r.prev == 0) = true := by simp; exact h_prev
 have h_oidb : (r.oid == 0) = true := by simp; exact h_oid
 have h_nextb : (r.next == 0) = true := by simp; exact h_next
 clear HZ h_tx h_prev h_oid h_next
 go_enter Tryz.func64, Tryz.ntmps64
 go_wp2_with fail
 rw [hW.out]
 clear hW
 refine (CA W hbW).mono ?_
 rintro e w_af ⟨rfl, hb_af⟩
 rw [h_af]
 have B_af : Below w.heap.size w w_af := (hbW).trans (hb_af.mono (hbW).size)
 have b0_af := b0.below hb_af (b0).lt
 have b1_af := b1.below hb_af (b1).lt
 have x_af5 := b0_af.cell 5 _ rfl
 have x_af6 := b0_af.cell 6 _ rfl
 have x_af7 := b0_af.cell 7 _ rfl
 have x_af8 := b0_af.cell 8 _ rfl
 have x_af13 := b0_af.cell 13 _ rfl
 have x_af14 := b0_af.cell 14 _ rfl
 have y_af0 := b1_af.cell 0 _ rfl
 have y_af1 := b1_af.cell 1 _ rfl
 have y_af2 := b1_af.cell 2 _ rfl
 have y_af3 := b1_af.cell 3 _ rfl
 go_wp2_with fail
 refine (CB w_af B_af).mono ?_
 rintro e w_bf ⟨rfl, hb_bf⟩
 rw [h_bf]
 have B_bf : Below w.heap.size w w_bf := (B_af).trans (hb_bf.mono (B_af).size)
 have b0_bf := b0_af.below hb_bf (b0_af).lt
 have b1_bf := b1_af.below hb_bf (b1_af).lt
 have x_bf13 := b0_bf.cell 13 _ rfl
 have x_bf14 := b0_bf.cell 14 _ rfl
 go_wp2
 go_ret
 exact ⟨ret_bool HR.out.symm, B_bf⟩
theorem l4Zero_set (r : RecA) (w : World) (hr : r.reads w) (hl : r.short 1099511627776) :
  Calls Tryz.prog 64 #[.agg r.cells.toArray, .bool true, .bool true, .bool true, .bool false, .bool false] w fun e w' => e = .returned (.bool (zeroB r.v true true true false false)) ∧ Below w.heap.size w w' := by
 obtain ⟨W, hW, b0, b1, hbW, hsW⟩ := boxes2 w r.cells [.bool false, .int .i64 0, .slice none 0 0, .slice none 0 0] 39 36
 have CB : ∀ u, Below w.heap.size w u → _ := fun u hu => l3SameNone_any r.bf u (ReadsO.below hr.bf hu) (fun s hs => by obtain rfl := List.mem_singleton.1 hs; exact hl.bf)
 have CA : ∀ u, Below w.heap.size w u → _ := fun u hu => l3SameNone_any r.af u (ReadsO.below hr.af hu) (fun s hs => by obtain rfl := List.mem_singleton.1 hs; exact hl.af)
 have HZ : Hid (zeroB r.v true true true false false = ((true || (decide (r.tx = 0) && decide (r.prev = 0))) && (true || (decide (r.oid = 0) && isNo r.af.v)) && (true || isNo r.bf.v) && (false || decide (r.next = 0)) && (false || decide (r.txs.length = 0)))) := rfl
 generalize zeroB r.v true true true false false = R at *
 simp only [RecA.cells] at *
 simp only [SlotA.cells] at CA CB
 clear hsW hr hl
 by_cases h_next : r.next = 0
 case neg =>
  have HR : Hid (R = false) := by rw [Hid, HZ.out]; simp [h_next]
  have h_nextb : (r.next == 0) = false := by simp; exact h_next
  clear HZ h_next
  go_enter Tryz.func64, Tryz.ntmps64
  go_wp2
  rw [hW.out]
  go_ret
  exact ⟨ret_bool HR.out.symm, hbW⟩
 case pos =>
 by_cases h_txs : r.txs.length = 0
 case neg =>
  have HR : Hid (R = false) := by rw [Hid, HZ.out]; simp [h_next, h_txs]
  have h_nextb : (r.next == 0) = true := by simp; exact h_next
  have h_txsb : ((r.txs.length : Int) == 0) = false := by simp; exact fun e => h_txs (by rw [e]; rfl)
  clear HZ h_next h_txs
  go_enter Tryz.func64, Tryz.ntmps64
  go_wp2
  rw [hW.out]
  go_ret
  exact ⟨ret_bool HR.out.symm, hbW⟩
 case pos =>
 have HR : Hid (R = true) := by rw [Hid, HZ.out]; simp [h_next, h_txs]
 have h_nextb : (r.next == 0) = true := by simp; exact h_next
 have h_txsb : ((r.txs.length : Int) == 0) = true := by simp; exact List.length_eq_zero_iff.1 h_txs
 clear HZ h_next h_txs
 go_enter Tryz.func64, Tryz.ntmps64
 go_wp2
 rw [hW.out]
 go_ret
 exact ⟨ret_bool HR.out.symm, hbW⟩
theorem l4Zero_back (r : RecA) (w : World) (hr : r.reads w) (hl : r.short 1099511627776) :
  Calls Tryz.prog 64 #[.agg r.cells.toArray, .bool true, .bool true, .bool false, .bool true, .bool false] w fun e w' => e = .returned (.bool (zeroB r.v true true false true false)) ∧ Below w.heap.size w w' := by
 obtain ⟨W, hW, b0, b1, hbW, hsW⟩ := boxes2 w r.cells [.bool false, .int .i64 0, .slice none 0 0, .slice none 0 0] 39 36
 have CB : ∀ u, Below w.heap.size w u → _ := fun u hu => l3SameNone_any r.bf u (ReadsO.below hr.bf hu) (fun s hs => by obtain rfl := List.mem_singleton.1 hs; exact hl.bf)
 have CA : ∀ u, Below w.heap.size w u → _ := fun u hu => l3SameNone_any r.af u (ReadsO.below hr.af hu) (fun s hs => by obtain rfl := List.mem_singleton.1 hs; exact hl.af)
 have HZ : Hid (zeroB r.v true true false true false = ((true || (decide (r.tx = 0) && decide (r.prev = 0))) && (true || (decide (r.oid = 0) && isNo r.af.v)) && (false || isNo r.bf.v) && (true || decide (r.next = 0)) && (false || decide (r.txs.length = 0)))) := rfl
 generalize zeroB r.v true true false true false = R at *
 simp only [RecA.cells] at *
 simp only [SlotA.cells] at CA CB
 clear hsW hr hl
 by_cases h_bf : isNo r.bf.v = true
 case neg =>
  have HR : Hid (R = false) := by rw [Hid, HZ.out]; simp [h_bf]
  have h_bfb : isNo r.bf.v = false := by simpa using h_bf
  clear HZ 
  go_enter Tryz.func64, Tryz.ntmps64
  go_wp2_with fail
  rw [hW.out]
  clear hW
  refine (CB W hbW).mono ?_
  rintro e w_bf ⟨rfl, hb_bf⟩
  rw [h_bfb]
  have B_bf : Below w.heap.size w w_bf := (hbW).trans (hb_bf.mono (hbW).size)
  have b0_bf := b0.below hb_bf (b0).lt
  have b1_bf := b1.below hb_bf (b1).lt
  have x_bf13 := b0_bf.cell 13 _ rfl
  have x_bf14 := b0_bf.cell 14 _ rfl
  go_wp2
  go_ret
  exact ⟨ret_bool HR.out.symm, B_bf⟩
 case pos =>
 by_cases h_txs : r.txs.length = 0
 case neg =>
  have HR : Hid (R = false) := by rw [Hid, HZ.out]; simp [h_bf, h_txs]
  have h_txsb : ((r.txs.length : Int) == 0) = false := by simp; exact fun e => h_txs (by rw [e]; rfl)
  clear HZ h_txs
  go_enter Tryz.func64, Tryz.ntmps64
  go_wp2_with fail
  rw [hW.out]
  clear hW
  refine (CB W hbW).mono ?_
  rintro e w_bf ⟨rfl, hb_bf⟩
  rw [h_bf]
  have B_bf : Below w.heap.size w w_bf := (hbW).trans (hb_bf.mono (hbW).size)
  have b0_bf := b0.below hb_bf (b0).lt
  have b1_bf := b1.below hb_bf (b1).lt
  have x_bf13 := b0_bf.cell 13 _ rfl
  have x_bf14 := b0_bf.cell 14 _ rfl
  go_wp2
  go_ret
  exact ⟨ret_bool HR.out.symm, B_bf⟩
 case pos =>
 have HR : Hid (R = true) := by rw [Hid, HZ.out]; simp [h_bf, h_txs]
 have h_txsb : ((r.txs.length : Int) == 0) = true := by simp; exact List.length_eq_zero_iff.1 h_txs
 clear HZ h_txs
 go_enter Tryz.func64, Tryz.ntmps64
 go_wp2_with fail
 rw [hW.out]
 clear hW
 refine (CB W hbW).mono ?_
 rintro e w_bf ⟨rfl, hb_bf⟩
 rw [h_bf]
 have B_bf : Below w.heap.size w w_bf := (hbW).trans (hb_bf.mono (hbW).size)
 have b0_bf := b0.below hb_bf (b0).lt
 have b1_bf := b1.below hb_bf (b1).lt
 have x_bf13 := b0_bf.cell 13 _ rfl
 have x_bf14 := b0_bf.cell 14 _ rfl
 go_wp2
 go_ret
 exact ⟨ret_bool HR.out.symm, B_bf⟩
theorem l4Zero_end (r : RecA) (w : World) (hr : r.reads w) (hl : r.short 1099511627776) :
  Calls Tryz.prog 64 #[.agg r.cells.toArray, .bool true, .bool false, .bool false, .bool false, .bool false] w fun e w' => e = .returned (.bool (zeroB r.v true false false false false)) ∧ Below w.heap.size w w' := by
 obtain ⟨W, hW, b0, b1, hbW, hsW⟩ := boxes2 w r.cells [.bool false, .int .i64 0, .slice none 0 0, .slice none 0 0] 39 36
 have CB : ∀ u, Below w.heap.size w u → _ := fun u hu => l3SameNone_any r.bf u (ReadsO.below hr.bf hu) (fun s hs => by obtain rfl := List.mem_singleton.1 hs; exact hl.bf)
 have CA : ∀ u, Below w.heap.size w u → _ := fun u hu => l3SameNone_any r.af u (ReadsO.below hr.af hu) (fun s hs => by obtain rfl := List.mem_singleton.1 hs; exact hl.af)
 have HZ : Hid (zeroB r.v true false false false false = ((true || (decide (r.tx = 0) && decide (r.prev = 0))) && (false || (decide (r.oid = 0) && isNo r.af.v)) && (false || isNo r.bf.v) && (false || decide (r.next = 0)) && (false || decide (r.txs.length = 0)))) := rfl
 generalize zeroB r.v true false false false false = R at *
 simp only [RecA.cells] at *
 simp only [SlotA.cells] at CA CB
 clear hsW hr hl
 by_cases h_oid : r.oid = 0
 case neg =>
  have HR : Hid (R = false) := by rw [Hid, HZ.out]; simp [h_oid]
  have h_oidb : (r.oid == 0) = false := by simp; exact h_oid
  clear HZ h_oid
  go_enter Tryz.func64, Tryz.ntmps64
  go_wp2
  rw [hW.out]
  go_ret
  exact ⟨ret_bool HR.out.symm, hbW⟩
 case pos =>
 by_cases h_af : isNo r.af.v = true
 case neg =>
  have HR : Hid (R = false) := by rw [Hid, HZ.out]; simp [h_oid, h_af]
  have h_oidb : (r.oid == 0) = true := by simp; exact h_oid
  have h_afb : isNo r.af.v = false := by simpa using h_af
  clear HZ h_oid
  go_enter Tryz.func64, Tryz.ntmps64
  go_wp2_with fail
  rw [hW.out]
  clear hW
  refine (CA W hbW).mono ?_
  rintro e w_af ⟨rfl, hb_af⟩
  rw [h_afb]
  have B_af : Below w.heap.size w w_af := (hbW).trans (hb_af.mono (hbW).size)
  have b0_af := b0.below hb_af (b0).lt
  have b1_af := b1.below hb_af (b1).lt
  have x_af5 := b0_af.cell 5 _ rfl
  have x_af6 := b0_af.cell 6 _ rfl
  have x_af7 := b0_af.cell 7 _ rfl
  have x_af8 := b0_af.cell 8 _ rfl
  have x_af13 := b0_af.cell 13 _ rfl
  have x_af14 := b0_af.cell 14 _ rfl
  have y_af0 := b1_af.cell 0 _ rfl
  have y_af1 := b1_af.cell 1 _ rfl
  have y_af2 := b1_af.cell 2 _ rfl
  have y_af3 := b1_af.cell 3 _ rfl
  go_wp2
  go_ret
  exact ⟨ret_bool HR.out.symm, B_af⟩
 case pos =>
 by_cases h_bf : isNo r.bf.v = true
 case neg =>
  have HR : Hid (R = false) := by rw [Hid, HZ.out]; simp [h_oid, h_af, h_bf]
  have h_oidb : (r.oid == 0) = true := by simp; exact h_oid
  have h_bfb : isNo r.bf.v = false := by simpa using h_bf
  clear HZ h_oid
  go_enter Tryz.func64, Tryz.ntmps64
  go_wp2_with fail
  rw [hW.out]
  clear hW
  refine (CA W hbW).mono ?_
  rintro e w_af ⟨rfl, hb_af⟩
  rw [h_af]
  have B_af : Below w.heap.size w w_af := (hbW).trans (hb_af.mono (hbW).size)
  have b0_af := b0.below hb_af (b0).lt
  have b1_af := b1.below hb_af (b1).lt
  have x_af5 := b0_af.cell 5 _ rfl
  have x_af6 := b0_af.cell 6 _ rfl
  have x_af7 := b0_af.cell 7 _ rfl
  have x_af8 := b0_af.cell 8 _ rfl
  have x_af13 := b0_af.cell 13 _ rfl
  have x_af14 := b0_af.cell 14 _ rfl
  have y_af0 := b1_af.cell 0 _ rfl
  have y_af1 := b1_af.cell 1 _ rfl
  have y_af2 := b1_af.cell 2 _ rfl
  have y_af3 := b1_af.cell 3 _ rfl
  go_wp2_with fail
  refine (CB w_af B_af).mono ?_
  rintro e w_bf ⟨rfl, hb_bf⟩
  rw [h_bfb]
  have B_bf : Below w.heap.size w w_bf := (B_af).trans (hb_bf.mono (B_af).size)
  have b0_bf := b0_af.below hb_bf (b0_af).lt
  have b1_bf := b1_af.below hb_bf (b1_af).lt
  have x_bf13 := b0_bf.cell 13 _ rfl
  have x_bf14 := b0_bf.cell 14 _ rfl
  go_wp2
  go_ret
  exact ⟨ret_bool HR.out.symm, B_bf⟩
 case pos =>
 by_cases h_next : r.next = 0
 case neg =>
  have HR : Hid (R = false) := by rw [Hid, HZ.out]; simp [h_oid, h_af, h_bf, h_next]
  have h_oidb : (r.oid == 0) = true := by simp; exact h_oid
  have h_nextb : (r.next == 0) = false := by simp; exact h_next
  clear HZ h_oid h_next
  go_enter Tryz.func64, Tryz.ntmps64
  go_wp2_with fail
  rw [hW.out]
  clear hW
  refine (CA W hbW).mono ?_
  rintro e w_af ⟨rfl, hb_af⟩
  rw [h_af]
  have B_af : Below w.heap.size w w_af := (hbW).trans (hb_af.mono (hbW).size)
  have b0_af := b0.below hb_af (b0).lt
  have b1_af := b1.below hb_af (b1).lt
  have x_af5 := b0_af.cell 5 _ rfl
  have x_af6 := b0_af.cell 6 _ rfl
  have x_af7 := b0_af.cell 7 _ rfl
  have x_af8 := b0_af.cell 8 _ rfl
  have x_af13 := b0_af.cell 13 _ rfl
  have x_af14 := b0_af.cell 14 _ rfl
  have y_af0 := b1_af.cell 0 _ rfl
  have y_af1 := b1_af.cell 1 _ rfl
  have y_af2 := b1_af.cell 2 _ rfl
  have y_af3 := b1_af.cell 3 _ rfl
  go_wp2_with fail
  refine (CB w_af B_af).mono ?_
  rintro e w_bf ⟨rfl, hb_bf⟩
  rw [h_bf]
  have B_bf : Below w.heap.size w w_bf := (B_af).trans (hb_bf.mono (B_af).size)
  have b0_bf := b0_af.below hb_bf (b0_af).lt
  have b1_bf := b1_af.below hb_bf (b1_af).lt
  have x_bf13 := b0_bf.cell 13 _ rfl
  have x_bf14 := b0_bf.cell 14 _ rfl
  go_wp2
  go_ret
  exact ⟨ret_bool HR.out.symm, B_bf⟩
 case pos =>
 by_cases h_txs : r.txs.length = 0
 case neg =>
  have HR : Hid (R = false) := by rw [Hid, HZ.out]; simp [h_oid, h_af, h_bf, h_next, h_txs]
  have h_oidb : (r.oid == 0) = true := by simp; exact h_oid
  have h_nextb : (r.next == 0) = true := by simp; exact h_next
  have h_txsb : ((r.txs.length : Int) == 0) = false := by simp; exact fun e => h_txs (by rw [e]; rfl)
  clear HZ h_oid h_next h_txs
  go_enter Tryz.func64, Tryz.ntmps64
  go_wp2_with fail
  rw [hW.out]
  clear hW
  refine (CA W hbW).mono ?_
  rintro e w_af ⟨rfl, hb_af⟩
  rw [h_af]
  have B_af : Below w.heap.size w w_af := (hbW).trans (hb_af.mono (hbW).size)
  have b0_af := b0.below hb_af (b0).lt
  have b1_af := b1.below hb_af (b1).lt
  have x_af5 := b0_af.cell 5 _ rfl
  have x_af6 := b0_af.cell 6 _ rfl
  have x_af7 := b0_af.cell 7 _ rfl
  have x_af8 := b0_af.cell 8 _ rfl
  have x_af13 := b0_af.cell 13 _ rfl
  have x_af14 := b0_af.cell 14 _ rfl
  have y_af0 := b1_af.cell 0 _ rfl
  have y_af1 := b1_af.cell 1 _ rfl
  have y_af2 := b1_af.cell 2 _ rfl
  have y_af3 := b1_af.cell 3 _ rfl
  go_wp2_with fail
  refine (CB w_af B_af).mono ?_
  rintro e w_bf ⟨rfl, hb_bf⟩
  rw [h_bf]
  have B_bf : Below w.heap.size w w_bf := (B_af).trans (hb_bf.mono (B_af).size)
  have b0_bf := b0_af.below hb_bf (b0_af).lt
  have b1_bf := b1_af.below hb_bf (b1_af).lt
  have x_bf13 := b0_bf.cell 13 _ rfl
  have x_bf14 := b0_bf.cell 14 _ rfl
  go_wp2
  go_ret
  exact ⟨ret_bool HR.out.symm, B_bf⟩
 case pos =>
 have HR : Hid (R = true) := by rw [Hid, HZ.out]; simp [h_oid, h_af, h_bf, h_next, h_txs]
 have h_oidb : (r.oid == 0) = true := by simp; exact h_oid
 have h_nextb : (r.next == 0) = true := by simp; exact h_next
 have h_txsb : ((r.txs.length : Int) == 0) = true := by simp; exact List.length_eq_zero_iff.1 h_txs
 clear HZ h_oid h_next h_txs
 go_enter Tryz.func64, Tryz.ntmps64
 go_wp2_with fail
 rw [hW.out]
 clear hW
 refine (CA W hbW).mono ?_
 rintro e w_af ⟨rfl, hb_af⟩
 rw [h_af]
 have B_af : Below w.heap.size w w_af := (hbW).trans (hb_af.mono (hbW).size)
 have b0_af := b0.below hb_af (b0).lt
 have b1_af := b1.below hb_af (b1).lt
 have x_af5 := b0_af.cell 5 _ rfl
 have x_af6 := b0_af.cell 6 _ rfl
 have x_af7 := b0_af.cell 7 _ rfl
 have x_af8 := b0_af.cell 8 _ rfl
 have x_af13 := b0_af.cell 13 _ rfl
 have x_af14 := b0_af.cell 14 _ rfl
 have y_af0 := b1_af.cell 0 _ rfl
 have y_af1 := b1_af.cell 1 _ rfl
 have y_af2 := b1_af.cell 2 _ rfl
 have y_af3 := b1_af.cell 3 _ rfl
 go_wp2_with fail
 refine (CB w_af B_af).mono ?_
 rintro e w_bf ⟨rfl, hb_bf⟩
 rw [h_bf]
 have B_bf : Below w.heap.size w w_bf := (B_af).trans (hb_bf.mono (B_af).size)
 have b0_bf := b0_af.below hb_bf (b0_af).lt
 have b1_bf := b1_af.below hb_bf (b1_af).lt
 have x_bf13 := b0_bf.cell 13 _ rfl
 have x_bf14 := b0_bf.cell 14 _ rfl
 go_wp2
 go_ret
 exact ⟨ret_bool HR.out.symm, B_bf⟩
def liveOk (lsn : Int) (ls : List LiveV) : Nat → Bool
 | 0 => inB (ls.getD 0 zeroL).tx 1 1000 && inB (ls.getD 0 zeroL).last 1 (lsn - 1)
 | k + 1 => inB (ls.getD (k + 1) zeroL).tx 1 1000 && inB (ls.getD (k + 1) zeroL).last 1 (lsn - 1) && decide ((ls.getD k zeroL).tx < (ls.getD (k + 1) zeroL).tx)
def livesB (lsn : Int) (ls : List LiveV) : Bool := (List.range ls.length).all (liveOk lsn ls) && decide (ls.length ≤ 20)
theorem livesB_no {lsn : Int} {ls : List LiveV} (k : Nat) (hk : k < ls.length) (h : liveOk lsn ls k = false) : livesB lsn ls = false := by
 have : (List.range ls.length).all (liveOk lsn ls) = false := by
  rw [List.all_eq_false]
  exact ⟨k, List.mem_range.2 hk, by rw [h]; decide⟩
 simp [livesB, this]
theorem livesB_all {lsn : Int} {ls : List LiveV} (h : ∀ k, k < ls.length → liveOk lsn ls k = true) : livesB lsn ls = decide (ls.length ≤ 20) := by
 have : (List.range ls.length).all (liveOk lsn ls) = true := by
  rw [List.all_eq_true]
  exact fun k hk => h k (List.mem_range.1 hk)
 simp [livesB, this]
theorem l4Lives_any (r : RecA) (w : World) (hr : ReadsL w r.aL r.txs) (hl : r.txs.length ≤ 1099511627776) (hn : 1 ≤ r.lsn ∧ r.lsn ≤ 1000000) :
  Calls Tryz.prog 65 #[.agg r.cells.toArray] w fun e w' => e = .returned (.bool (livesB r.lsn r.txs)) ∧ Below w.heap.size w w' := by
 obtain ⟨W, hW, b0, hbW, hsW⟩ := boxes1 w r.cells 39
 have HNO : Hid (∀ k, k < r.txs.length → liveOk r.lsn r.txs k = false → livesB r.lsn r.txs = false) := fun k hk h => livesB_no k hk h
 have HAL : Hid ((∀ k, k < r.txs.length → liveOk r.lsn r.txs k = true) → livesB r.lsn r.txs = decide (r.txs.length ≤ 20)) := fun h => livesB_all h
 generalize livesB r.lsn r.txs = R at *
 have hc0 := b0.cell 0 _ rfl
 have hc14 := b0.cell 14 _ rfl
 simp only [RecA.cells] at hW ⊢
 clear hsW b0
 generalize r.lsn = lsn at *
 generalize r.txs = ls at *
 generalize r.aL = aL at *
 have hr' := hr.below hbW
 clear hr
 go_enter Tryz.func65, Tryz.ntmps65
 go_wp2_with fail
 rw [hW.out]
 clear hW
 go_loopw [3] (fun i wr => ∃ k : Nat, k ≤ ls.length ∧ i = .int .i64 k ∧ Hid (∀ j, j < k → liveOk lsn ls j = true) ∧ Below W.heap.size W wr) (fun i _ => ls.length - (intOf i).toNat)
 case atStart => exact ⟨0, Nat.zero_le _, rfl, fun j hj => by omega, Below.refl _ _⟩
 case round =>
  obtain ⟨k, hk, rfl, hall, hbl⟩ := hrel
  have hbm : Below w.heap.size w wr := hbW.trans (hbl.mono hbW.size)
  have r0 := (hbl.cell (block_lt hc0)).trans hc0
  have r14 := (hbl.cell (block_lt hc14)).trans hc14
  have hrr := hr'.below hbl
  clear hc0 hc14 hr'
  by_cases hlt : k < ls.length
  ·obtain ⟨b, off, rfl, hcell⟩ := hrr (by intro e; rw [e] at hlt; simp at hlt)
   obtain ⟨c0, c1, _⟩ := hcell k hlt
   cases k with
   | zero =>
    clear hcell
    simp only [Nat.zero_mul, Nat.add_zero] at c0 c1
    have HL : Hid (liveOk lsn ls 0 = (inB (ls.getD 0 zeroL).tx 1 1000 && inB (ls.getD 0 zeroL).last 1 (lsn - 1))) := rfl
    generalize ls.getD 0 zeroL = z at *
    cases h1 : inB z.tx 1 1000 with
    | false =>
     have HR : Hid (R = false) := HNO.out 0 hlt (by rw [HL.out, h1]; rfl)
     clear HL HNO HAL
     go_wp2
     go_quiet ((go_at_call 35; exact Calls.quiet_of_same (l1In_any _ _ _ _)))
     go_wp2
     go_ret
     exact ⟨ret_bool HR.out.symm, by first | exact below_drewN hbm _ | exact hbm⟩
    | true =>
     cases h2 : inB z.last 1 (lsn - 1) with
     | false =>
      have HR : Hid (R = false) := HNO.out 0 hlt (by rw [HL.out, h1, h2]; rfl)
      clear HL HNO HAL
      go_wp2
      go_quiet ((go_at_call 35; exact Calls.quiet_of_same (l1In_any _ _ _ _)))
      go_wp2
      go_ret
      exact ⟨ret_bool HR.out.symm, by first | exact below_drewN hbm _ | exact hbm⟩
     | true =>
      have HR : Hid (∀ j, j < 1 → liveOk lsn ls j = true) := fun j hj => by
       obtain rfl : j = 0 := by omega
       rw [HL.out, h1, h2]
       rfl
      clear HL HNO HAL
      go_wp2
      go_quiet ((go_at_call 35; exact Calls.quiet_of_same (l1In_any _ _ _ _)))
      go_wp2
      go_roundw
      case rel => exact ⟨1, by omega, by go_num, HR, by first | exact below_drewN hbl _ | exact hbl⟩
      case measure => simp [intOf]; omega
   | succ j =>
    obtain ⟨d0, _, _⟩ := hcell j (by omega)
    clear hcell
    have HL : Hid (liveOk lsn ls (j + 1) = (inB (ls.getD (j + 1) zeroL).tx 1 1000 && inB (ls.getD (j + 1) zeroL).last 1 (lsn - 1) && decide ((ls.getD j zeroL).tx < (ls.getD (j + 1) zeroL).tx))) := rfl
    generalize ls.getD (j + 1) zeroL = z at *
    generalize ls.getD j zeroL = p at *
    cases h1 : inB z.tx 1 1000 with
    | false =>
     have HR : Hid (R = false) := HNO.out (j + 1) hlt (by rw [HL.out, h1]; rfl)
     clear HL HNO HAL
     go_wp2
     go_quiet ((go_at_call 35; exact Calls.quiet_of_same (l1In_any _ _ _ _)))
     go_wp2
     go_ret
     exact ⟨ret_bool HR.out.symm, by first | exact below_drewN hbm _ | exact hbm⟩
    | true =>
     cases h2 : inB z.last 1 (lsn - 1) with
     | false =>
      have HR : Hid (R = false) := HNO.out (j + 1) hlt (by rw [HL.out, h1, h2]; rfl)
      clear HL HNO HAL
      go_wp2
      go_quiet ((go_at_call 35; exact Calls.quiet_of_same (l1In_any _ _ _ _)))
      go_wp2
      go_ret
      exact ⟨ret_bool HR.out.symm, by first | exact below_drewN hbm _ | exact hbm⟩
     | true =>
      by_cases h3 : p.tx < z.tx
      case neg =>
       have HR : Hid (R = false) := HNO.out (j + 1) hlt (by rw [HL.out, h1, h2, decide_eq_false h3]; rfl)
       have h3b : decide (z.tx ≤ p.tx) = true := by simpa using h3
       clear HL HNO HAL
       go_wp2
       go_quiet ((go_at_call 35; exact Calls.quiet_of_same (l1In_any _ _ _ _)))
       go_wp2
       go_ret
       exact ⟨ret_bool HR.out.symm, by first | exact below_drewN hbm _ | exact hbm⟩
      case pos =>
       have HR : Hid (∀ i, i < j + 1 + 1 → liveOk lsn ls i = true) := fun i hi => by
        by_cases e : i = j + 1
        ·rw [e, HL.out, h1, h2, decide_eq_true h3]; rfl
        ·exact hall.out i (by omega)
       have h3b : decide (z.tx ≤ p.tx) = false := by simpa using h3
       clear HL HNO HAL
       go_wp2
       go_quiet ((go_at_call 35; exact Calls.quiet_of_same (l1In_any _ _ _ _)))
       go_wp2
       go_roundw
       case rel => exact ⟨j + 1 + 1, by omega, by go_num, HR, by first | exact below_drewN hbl _ | exact hbl⟩
       case measure => simp [intOf]; omega
  ·have HR : Hid (R = decide ((ls.length : Int) ≤ 20)) := by
    rw [Hid, HAL.out (fun j hj => hall.out j (by omega))]
    simp only [decide_eq_decide]
    omega
   clear HNO HAL
   go_wp2
   go_ret
   exact ⟨ret_bool HR.out.symm, hbm⟩
theorem Box.pslot {w : World} {B : Nat} {v : Value} {ss : List SlotA} {t : TypeId} (b : Box w B (v :: cellsS ss) t) (k : Nat) (hk : k < ss.length) :
  w.cell? ⟨B, 1 + k * 4, none⟩ = some (.bool (ss.getD k zeroS).v.has) ∧ w.cell? ⟨B, 1 + k * 4 + 1, none⟩ = some (.int .i64 (ss.getD k zeroS).v.o.kind) ∧
  w.cell? ⟨B, 1 + k * 4 + 2, none⟩ = some (.slice (ss.getD k zeroS).aI (ss.getD k zeroS).v.o.ints.length (ss.getD k zeroS).cI) ∧ w.cell? ⟨B, 1 + k * 4 + 3, none⟩ = some (.slice (ss.getD k zeroS).aR (ss.getD k zeroS).v.o.refs.length (ss.getD k zeroS).cR) ∧
  (∀ i, w.frozen? ⟨B, i, none⟩ = false) := by
 have key : ∀ j, j < 4 → (v :: cellsS ss)[1 + k * 4 + j]? = (ss.getD k zeroS).cells[j]? := fun j hj => by
  rw [show 1 + k * 4 + j = (k * 4 + j) + 1 by omega, List.getElem?_cons_succ]
  exact cellsS_at ss k j hk hj
 exact ⟨b.cell _ _ (key 0 (by omega)), b.cell _ _ (key 1 (by omega)), b.cell _ _ (key 2 (by omega)), b.cell _ _ (key 3 (by omega)), fun i => b.frozen i⟩
theorem slotB_of (o : ObjV) (a b c : Bool) (h1 : decide (o.kind = 0) = a) (h2 : decide (o.ints.length = 0) = b) (h3 : decide (o.refs.length = 0) = c) : slotB ⟨false, o⟩ = (a && (b && c)) := by
 rw [← h1, ← h2, ← h3]; rfl
theorem l3Slot_any (s : SlotA) (w : World) (hr : s.reads w) (hl : Fit [s]) :
  Calls Tryz.prog 63 #[.agg s.cells.toArray] w fun e w' => e = .returned (.bool (slotB s.v)) ∧ Below w.heap.size w w' := by
 obtain ⟨h1, h2⟩ := hl s (List.mem_singleton.2 rfl)
 obtain ⟨W, hW, b0, hbW, hsW⟩ := boxes1 w s.cells 36
 have hr' : s.reads W := ReadsO.below hr hbW
 obtain ⟨⟨h, o⟩, aI, cI, aR, cR⟩ := s
 simp only [SlotA.cells, SlotA.reads] at *
 cases h with
 | true =>
  have C1 := specObjOk_any o aI cI aR cR W hr' (by omega) (by omega)
  have HE : Hid (slotB ⟨true, o⟩ = okB o) := slotB_has rfl
  generalize slotB ⟨true, o⟩ = R at *
  go_enter Tryz.func63, Tryz.ntmps63
  go_wp2_with fail
  rw [hW.out]
  refine C1.mono ?_
  rintro e w1 ⟨rfl, hb1⟩
  go_wp2
  go_ret
  exact ⟨ret_bool HE.out.symm, hbW.trans (hb1.mono hbW.size)⟩
 | false =>
  have HE := slotB_of o
  generalize slotB ⟨false, o⟩ = R at *
  obtain ⟨k, ints, refs⟩ := o
  obtain ⟨x0, x1, x2, x3, _⟩ := b0.four
  simp only at *
  by_cases hk : k = 0
  case neg =>
   have HR : Hid (R = false) := HE false _ _ (decide_eq_false hk) rfl rfl
   have hkb : (k == 0) = false := by simpa using hk
   clear HE hk
   go_enter Tryz.func63, Tryz.ntmps63
   go_wp2
   go_ret
   exact ⟨ret_bool HR.out.symm, by rw [hW.out]; exact hbW⟩
  case pos =>
  subst hk
  by_cases hi : ints.length = 0
  case neg =>
   have HR : Hid (R = false) := HE true false _ (decide_eq_true rfl) (decide_eq_false hi) rfl
   have hib : ((ints.length : Int) == 0) = false := by simp; exact fun e => hi (by rw [e]; rfl)
   clear HE hi
   go_enter Tryz.func63, Tryz.ntmps63
   go_wp2
   go_ret
   exact ⟨ret_bool HR.out.symm, by rw [hW.out]; exact hbW⟩
  case pos =>
  by_cases hj : refs.length = 0
  case neg =>
   have HR : Hid (R = false) := HE true true false (decide_eq_true rfl) (decide_eq_true hi) (decide_eq_false hj)
   have hib : ((ints.length : Int) == 0) = true := by simp; exact List.length_eq_zero_iff.1 hi
   have hjb : ((refs.length : Int) == 0) = false := by simp; exact fun e => hj (by rw [e]; rfl)
   clear HE hi hj
   go_enter Tryz.func63, Tryz.ntmps63
   go_wp2
   go_ret
   exact ⟨ret_bool HR.out.symm, by rw [hW.out]; exact hbW⟩
  case pos =>
   have HR : Hid (R = true) := HE true true true (decide_eq_true rfl) (decide_eq_true hi) (decide_eq_true hj)
   have hib : ((ints.length : Int) == 0) = true := by simp; exact List.length_eq_zero_iff.1 hi
   have hjb : ((refs.length : Int) == 0) = true := by simp; exact List.length_eq_zero_iff.1 hj
   clear HE hi hj
   go_enter Tryz.func63, Tryz.ntmps63
   go_wp2
   go_ret
   exact ⟨ret_bool HR.out.symm, by rw [hW.out]; exact hbW⟩
def okR (r : RecV) : Bool :=
 inB r.lsn 1 1000000 && (slotB r.bf && (slotB r.af &&
  (if r.kind == 6 then zeroB r false false false false true && livesB r.lsn r.txs
   else inB r.tx 1 1000 && (inB r.prev 0 (r.lsn - 1) &&
   (if r.kind == 1 then zeroB r true true true false false && inB r.oid 1 31
    else if r.kind == 4 then zeroB r true true false true false && (inB r.oid 1 31 && inB r.next 0 (r.lsn - 1))
    else if r.kind == 2 then zeroB r true false false false false
    else if r.kind == 3 then zeroB r true false false false false
    else if r.kind == 5 then zeroB r true false false false false
    else false)))))
theorem inB_both {x l m : Int} (h : inB x l m = true) : l ≤ x ∧ x ≤ m := by simpa [inB] using h
theorem fifteen {w : World} {B : Nat} {x0 x1 x2 x3 x4 x5 x6 x7 x8 x9 x10 x11 x12 x13 x14 : Value} {t : TypeId} (b : Box w B [x0, x1, x2, x3, x4, x5, x6, x7, x8, x9, x10, x11, x12, x13, x14] t) :
  w.cell? ⟨B, 0, none⟩ = some x0 ∧ w.cell? ⟨B, 1, none⟩ = some x1 ∧ w.cell? ⟨B, 2, none⟩ = some x2 ∧ w.cell? ⟨B, 3, none⟩ = some x3 ∧ w.cell? ⟨B, 4, none⟩ = some x4 ∧ w.cell? ⟨B, 5, none⟩ = some x5 ∧ w.cell? ⟨B, 6, none⟩ = some x6 ∧ w.cell? ⟨B, 7, none⟩ = some x7 ∧ w.cell? ⟨B, 8, none⟩ = some x8 ∧ w.cell? ⟨B, 9, none⟩ = some x9 ∧ w.cell? ⟨B, 10, none⟩ = some x10 ∧ w.cell? ⟨B, 11, none⟩ = some x11 ∧ w.cell? ⟨B, 12, none⟩ = some x12 ∧ w.cell? ⟨B, 13, none⟩ = some x13 ∧ w.cell? ⟨B, 14, none⟩ = some x14 :=
 ⟨b.cell 0 _ rfl, b.cell 1 _ rfl, b.cell 2 _ rfl, b.cell 3 _ rfl, b.cell 4 _ rfl, b.cell 5 _ rfl, b.cell 6 _ rfl, b.cell 7 _ rfl, b.cell 8 _ rfl, b.cell 9 _ rfl, b.cell 10 _ rfl, b.cell 11 _ rfl, b.cell 12 _ rfl, b.cell 13 _ rfl, b.cell 14 _ rfl⟩
theorem specRecOk_any (r : RecA) (w : World) (hr : r.reads w) (hl : r.short 1099511627776) :
  Calls Tryz.prog 36 #[.agg r.cells.toArray] w fun e w' => e = .returned (.bool (okR r.v)) ∧ Below w.heap.size w w' := by
 obtain ⟨W, hW, b0, hbW, hsW⟩ := boxes1 w r.cells 39
 have HB : Hid (∀ u, Below w.heap.size w u → Calls _ _ _ _ _) := fun u hu => l3Slot_any r.bf u (ReadsO.below hr.bf hu) (fun s hs => by obtain rfl := List.mem_singleton.1 hs; exact hl.bf)
 have HA : Hid (∀ u, Below w.heap.size w u → Calls _ _ _ _ _) := fun u hu => l3Slot_any r.af u (ReadsO.below hr.af hu) (fun s hs => by obtain rfl := List.mem_singleton.1 hs; exact hl.af)
 have HC : Hid (∀ u, Below w.heap.size w u → Calls _ _ _ _ _) := fun u hu => l4Zero_check r u (hr.below hu) hl
 have HS : Hid (∀ u, Below w.heap.size w u → Calls _ _ _ _ _) := fun u hu => l4Zero_set r u (hr.below hu) hl
 have HK : Hid (∀ u, Below w.heap.size w u → Calls _ _ _ _ _) := fun u hu => l4Zero_back r u (hr.below hu) hl
 have HE : Hid (∀ u, Below w.heap.size w u → Calls _ _ _ _ _) := fun u hu => l4Zero_end r u (hr.below hu) hl
 have HL : Hid (∀ u, Below w.heap.size w u → 1 ≤ r.lsn ∧ r.lsn ≤ 1000000 → Calls _ _ _ _ _) := fun u hu hn => l4Lives_any r u (hr.txs.below hu) hl.txs hn
 have HX : Hid (∀ u, Below W.heap.size W u → Box u w.heap.size r.cells 39) := fun u hu => b0.below hu b0.lt
 have HZ : Hid (okR r.v = (inB r.lsn 1 1000000 && (slotB r.bf.v && (slotB r.af.v &&
  (if r.kind == 6 then zeroB r.v false false false false true && livesB r.lsn r.txs
   else inB r.tx 1 1000 && (inB r.prev 0 (r.lsn - 1) &&
   (if r.kind == 1 then zeroB r.v true true true false false && inB r.oid 1 31
    else if r.kind == 4 then zeroB r.v true true false true false && (inB r.oid 1 31 && inB r.next 0 (r.lsn - 1))
    else if r.kind == 2 then zeroB r.v true false false false false
    else if r.kind == 3 then zeroB r.v true false false false false
    else if r.kind == 5 then zeroB r.v true false false false false
    else false)))))) ) := rfl
 generalize okR r.v = R at *
 clear hsW hr hl b0
 simp only [RecA.cells, SlotA.cells] at *
 go_enter Tryz.func36, Tryz.ntmps36
 go_wp2_with fail
 rw [hW.out]
 clear hW
 obtain ⟨x0, x1, x2, x3, x4, x5, x6, x7, x8, x9, x10, x11, x12, x13, x14⟩ := fifteen (HX.out W (Below.refl _ _))
 have BW : Below W.heap.size W W := Below.refl _ _
 refine (l1In_any _ _ _ W).mono ?_
 rintro e u ⟨rfl, hu⟩
 rw [hu]
 clear hu u
 cases h0 : inB r.lsn 1 1000000 with
 | false =>
  have HR : Hid (R = false) := by rw [Hid, HZ.out]; simp [h0]
  clear HZ
  go_wp2
  go_ret
  exact ⟨ret_bool HR.out.symm, hbW⟩
 | true =>
  have hn := inB_both h0
  go_wp2_with fail
  refine (HB.out W hbW).mono ?_
  clear x0 x1 x2 x3 x4 x5 x6 x7 x8 x9 x10 x11 x12 x13 x14
  rintro e u1 ⟨rfl, hb_u1⟩
  have b_u1 : Below w.heap.size w u1 := (hbW).trans (hb_u1.mono (hbW).size)
  have l_u1 : Below W.heap.size W u1 := (BW).trans (hb_u1.mono (BW).size)
  obtain ⟨x0, x1, x2, x3, x4, x5, x6, x7, x8, x9, x10, x11, x12, x13, x14⟩ := fifteen (HX.out u1 l_u1)
  clear hb_u1
  cases h1 : slotB r.bf.v with
  | false =>
   have HR : Hid (R = false) := by rw [Hid, HZ.out]; simp [h0, h1]
   clear HZ
   go_wp2
   go_ret
   exact ⟨ret_bool HR.out.symm, b_u1⟩
  | true =>
   go_wp2_with fail
   refine (HA.out u1 b_u1).mono ?_
   clear x0 x1 x2 x3 x4 x5 x6 x7 x8 x9 x10 x11 x12 x13 x14
   rintro e u2 ⟨rfl, hb_u2⟩
   have b_u2 : Below w.heap.size w u2 := (b_u1).trans (hb_u2.mono (b_u1).size)
   have l_u2 : Below W.heap.size W u2 := (l_u1).trans (hb_u2.mono (l_u1).size)
   obtain ⟨x0, x1, x2, x3, x4, x5, x6, x7, x8, x9, x10, x11, x12, x13, x14⟩ := fifteen (HX.out u2 l_u2)
   clear hb_u2
   cases h2 : slotB r.af.v with
   | false =>
    have HR : Hid (R = false) := by rw [Hid, HZ.out]; simp [h0, h1, h2]
    clear HZ
    go_wp2
    go_ret
    exact ⟨ret_bool HR.out.symm, b_u2⟩
   | true =>
    cases hk6 : (r.kind == 6) with
    | true =>
     go_wp2_with fail
     refine (HC.out u2 b_u2).mono ?_
     clear x0 x1 x2 x3 x4 x5 x6 x7 x8 x9 x10 x11 x12 x13 x14
     rintro e u3 ⟨rfl, hb_u3⟩
     have b_u3 : Below w.heap.size w u3 := (b_u2).trans (hb_u3.mono (b_u2).size)
     have l_u3 : Below W.heap.size W u3 := (l_u2).trans (hb_u3.mono (l_u2).size)
     obtain ⟨x0, x1, x2, x3, x4, x5, x6, x7, x8, x9, x10, x11, x12, x13, x14⟩ := fifteen (HX.out u3 l_u3)
     clear hb_u3
     cases h3 : zeroB r.v false false false false true with
     | false =>
      have HR : Hid (R = false) := by rw [Hid, HZ.out]; simp [h0, h1, h2, hk6, h3]
      clear HZ
      go_wp2
      go_ret
      exact ⟨ret_bool HR.out.symm, b_u3⟩
     | true =>
      go_wp2_with fail
      refine (HL.out u3 b_u3 hn).mono ?_
      clear x0 x1 x2 x3 x4 x5 x6 x7 x8 x9 x10 x11 x12 x13 x14
      rintro e u4 ⟨rfl, hb_u4⟩
      have b_u4 : Below w.heap.size w u4 := (b_u3).trans (hb_u4.mono (b_u3).size)
      have l_u4 : Below W.heap.size W u4 := (l_u3).trans (hb_u4.mono (l_u3).size)
      obtain ⟨x0, x1, x2, x3, x4, x5, x6, x7, x8, x9, x10, x11, x12, x13, x14⟩ := fifteen (HX.out u4 l_u4)
      clear hb_u4
      cases h4 : livesB r.lsn r.txs with
      | false =>
       have HR : Hid (R = false) := by rw [Hid, HZ.out]; simp [h0, h1, h2, hk6, h3, h4]
       clear HZ
       go_wp2
       go_ret
       exact ⟨ret_bool HR.out.symm, b_u4⟩
      | true =>
       have HR : Hid (R = true) := by rw [Hid, HZ.out]; simp [h0, h1, h2, hk6, h3, h4]
       clear HZ
       go_wp2
       go_ret
       exact ⟨ret_bool HR.out.symm, b_u4⟩
    | false =>
     go_wp2_with fail
     refine (l1In_any _ _ _ u2).mono ?_
     rintro e v ⟨rfl, hv⟩
     rw [hv]
     clear hv v
     cases h3 : inB r.tx 1 1000 with
     | false =>
      have HR : Hid (R = false) := by rw [Hid, HZ.out]; simp [h0, h1, h2, hk6, h3]
      clear HZ
      go_wp2
      go_ret
      exact ⟨ret_bool HR.out.symm, b_u2⟩
     | true =>
      go_wp2_with fail
      refine (l1In_any _ _ _ u2).mono ?_
      rintro e v ⟨rfl, hv⟩
      rw [hv]
      clear hv v
      cases h4 : inB r.prev 0 (r.lsn - 1) with
      | false =>
       have HR : Hid (R = false) := by rw [Hid, HZ.out]; simp [h0, h1, h2, hk6, h3, h4]
       clear HZ
       go_wp2
       go_ret
       exact ⟨ret_bool HR.out.symm, b_u2⟩
      | true =>
       cases hk1 : (r.kind == 1) with
       | true =>
        go_wp2_with fail
        refine (HS.out u2 b_u2).mono ?_
        clear x0 x1 x2 x3 x4 x5 x6 x7 x8 x9 x10 x11 x12 x13 x14
        rintro e u3 ⟨rfl, hb_u3⟩
        have b_u3 : Below w.heap.size w u3 := (b_u2).trans (hb_u3.mono (b_u2).size)
        have l_u3 : Below W.heap.size W u3 := (l_u2).trans (hb_u3.mono (l_u2).size)
        obtain ⟨x0, x1, x2, x3, x4, x5, x6, x7, x8, x9, x10, x11, x12, x13, x14⟩ := fifteen (HX.out u3 l_u3)
        clear hb_u3
        cases h5 : zeroB r.v true true true false false with
        | false =>
         have HR : Hid (R = false) := by rw [Hid, HZ.out]; simp [h0, h1, h2, hk6, h3, h4, hk1, h5]
         clear HZ
         go_wp2
         go_ret
         exact ⟨ret_bool HR.out.symm, b_u3⟩
        | true =>
         go_wp2_with fail
         refine (l1In_any _ _ _ u3).mono ?_
         rintro e v ⟨rfl, hv⟩
         rw [hv]
         clear hv v
         cases h6 : inB r.oid 1 31 with
         | false =>
          have HR : Hid (R = false) := by rw [Hid, HZ.out]; simp [h0, h1, h2, hk6, h3, h4, hk1, h5, h6]
          clear HZ
          go_wp2
          go_ret
          exact ⟨ret_bool HR.out.symm, b_u3⟩
         | true =>
          have HR : Hid (R = true) := by rw [Hid, HZ.out]; simp [h0, h1, h2, hk6, h3, h4, hk1, h5, h6]
          clear HZ
          go_wp2
          go_ret
          exact ⟨ret_bool HR.out.symm, b_u3⟩
       | false =>
        cases hk4 : (r.kind == 4) with
        | true =>
         go_wp2_with fail
         refine (HK.out u2 b_u2).mono ?_
         clear x0 x1 x2 x3 x4 x5 x6 x7 x8 x9 x10 x11 x12 x13 x14
         rintro e u3 ⟨rfl, hb_u3⟩
         have b_u3 : Below w.heap.size w u3 := (b_u2).trans (hb_u3.mono (b_u2).size)
         have l_u3 : Below W.heap.size W u3 := (l_u2).trans (hb_u3.mono (l_u2).size)
         obtain ⟨x0, x1, x2, x3, x4, x5, x6, x7, x8, x9, x10, x11, x12, x13, x14⟩ := fifteen (HX.out u3 l_u3)
         clear hb_u3
         cases h5 : zeroB r.v true true false true false with
         | false =>
          have HR : Hid (R = false) := by rw [Hid, HZ.out]; simp [h0, h1, h2, hk6, h3, h4, hk1, hk4, h5]
          clear HZ
          go_wp2
          go_ret
          exact ⟨ret_bool HR.out.symm, b_u3⟩
         | true =>
          go_wp2_with fail
          refine (l1In_any _ _ _ u3).mono ?_
          rintro e v ⟨rfl, hv⟩
          rw [hv]
          clear hv v
          cases h6 : inB r.oid 1 31 with
          | false =>
           have HR : Hid (R = false) := by rw [Hid, HZ.out]; simp [h0, h1, h2, hk6, h3, h4, hk1, hk4, h5, h6]
           clear HZ
           go_wp2
           go_ret
           exact ⟨ret_bool HR.out.symm, b_u3⟩
          | true =>
           go_wp2_with fail
           refine (l1In_any _ _ _ u3).mono ?_
           rintro e v ⟨rfl, hv⟩
           rw [hv]
           clear hv v
           cases h7 : inB r.next 0 (r.lsn - 1) with
           | false =>
            have HR : Hid (R = false) := by rw [Hid, HZ.out]; simp [h0, h1, h2, hk6, h3, h4, hk1, hk4, h5, h6, h7]
            clear HZ
            go_wp2
            go_ret
            exact ⟨ret_bool HR.out.symm, b_u3⟩
           | true =>
            have HR : Hid (R = true) := by rw [Hid, HZ.out]; simp [h0, h1, h2, hk6, h3, h4, hk1, hk4, h5, h6, h7]
            clear HZ
            go_wp2
            go_ret
            exact ⟨ret_bool HR.out.symm, b_u3⟩
        | false =>
         cases hk2 : (r.kind == 2) with
         | true =>
          go_wp2_with fail
          refine (HE.out u2 b_u2).mono ?_
          clear x0 x1 x2 x3 x4 x5 x6 x7 x8 x9 x10 x11 x12 x13 x14
          rintro e u3 ⟨rfl, hb_u3⟩
          have b_u3 : Below w.heap.size w u3 := (b_u2).trans (hb_u3.mono (b_u2).size)
          have l_u3 : Below W.heap.size W u3 := (l_u2).trans (hb_u3.mono (l_u2).size)
          obtain ⟨x0, x1, x2, x3, x4, x5, x6, x7, x8, x9, x10, x11, x12, x13, x14⟩ := fifteen (HX.out u3 l_u3)
          clear hb_u3
          cases h5 : zeroB r.v true false false false false with
          | false =>
           have HR : Hid (R = false) := by rw [Hid, HZ.out]; simp [h0, h1, h2, hk6, h3, h4, hk1, hk4, hk2, h5]
           clear HZ
           go_wp2
           go_ret
           exact ⟨ret_bool HR.out.symm, b_u3⟩
          | true =>
           have HR : Hid (R = true) := by rw [Hid, HZ.out]; simp [h0, h1, h2, hk6, h3, h4, hk1, hk4, hk2, h5]
           clear HZ
           go_wp2
           go_ret
           exact ⟨ret_bool HR.out.symm, b_u3⟩
         | false =>
          cases hk3 : (r.kind == 3) with
          | true =>
           go_wp2_with fail
           refine (HE.out u2 b_u2).mono ?_
           clear x0 x1 x2 x3 x4 x5 x6 x7 x8 x9 x10 x11 x12 x13 x14
           rintro e u3 ⟨rfl, hb_u3⟩
           have b_u3 : Below w.heap.size w u3 := (b_u2).trans (hb_u3.mono (b_u2).size)
           have l_u3 : Below W.heap.size W u3 := (l_u2).trans (hb_u3.mono (l_u2).size)
           obtain ⟨x0, x1, x2, x3, x4, x5, x6, x7, x8, x9, x10, x11, x12, x13, x14⟩ := fifteen (HX.out u3 l_u3)
           clear hb_u3
           cases h5 : zeroB r.v true false false false false with
           | false =>
            have HR : Hid (R = false) := by rw [Hid, HZ.out]; simp [h0, h1, h2, hk6, h3, h4, hk1, hk4, hk2, hk3, h5]
            clear HZ
            go_wp2
            go_ret
            exact ⟨ret_bool HR.out.symm, b_u3⟩
           | true =>
            have HR : Hid (R = true) := by rw [Hid, HZ.out]; simp [h0, h1, h2, hk6, h3, h4, hk1, hk4, hk2, hk3, h5]
            clear HZ
            go_wp2
            go_ret
            exact ⟨ret_bool HR.out.symm, b_u3⟩
          | false =>
           cases hk5 : (r.kind == 5) with
           | true =>
            go_wp2_with fail
            refine (HE.out u2 b_u2).mono ?_
            clear x0 x1 x2 x3 x4 x5 x6 x7 x8 x9 x10 x11 x12 x13 x14
            rintro e u3 ⟨rfl, hb_u3⟩
            have b_u3 : Below w.heap.size w u3 := (b_u2).trans (hb_u3.mono (b_u2).size)
            have l_u3 : Below W.heap.size W u3 := (l_u2).trans (hb_u3.mono (l_u2).size)
            obtain ⟨x0, x1, x2, x3, x4, x5, x6, x7, x8, x9, x10, x11, x12, x13, x14⟩ := fifteen (HX.out u3 l_u3)
            clear hb_u3
            cases h5 : zeroB r.v true false false false false with
            | false =>
             have HR : Hid (R = false) := by rw [Hid, HZ.out]; simp [h0, h1, h2, hk6, h3, h4, hk1, hk4, hk2, hk3, hk5, h5]
             clear HZ
             go_wp2
             go_ret
             exact ⟨ret_bool HR.out.symm, b_u3⟩
            | true =>
             have HR : Hid (R = true) := by rw [Hid, HZ.out]; simp [h0, h1, h2, hk6, h3, h4, hk1, hk4, hk2, hk3, hk5, h5]
             clear HZ
             go_wp2
             go_ret
             exact ⟨ret_bool HR.out.symm, b_u3⟩
           | false =>
            have HR : Hid (R = false) := by rw [Hid, HZ.out]; simp [h0, h1, h2, hk6, h3, h4, hk1, hk4, hk2, hk3, hk5]
            clear HZ
            go_wp2
            go_ret
            exact ⟨ret_bool HR.out.symm, b_u2⟩
theorem okR_txs {r : RecV} (h : okR r = true) : r.txs.length ≤ 20 := by
 unfold okR at h
 simp only [Bool.and_eq_true] at h
 have h4 := h.2.2.2
 by_cases h6 : r.kind == 6
 ·rw [if_pos h6] at h4
  simp [livesB] at h4
  exact h4.2.2
 ·rw [if_neg h6] at h4
  have h5 := (Bool.and_eq_true _ _ ▸ (Bool.and_eq_true _ _ ▸ h4).2).2
  have hz : ∀ a b c d, zeroB r a b c d false = true → r.txs.length ≤ 20 := by
   intro a b c d hz
   simp only [zeroB, Bool.and_eq_true, Bool.false_or, decide_eq_true_eq] at hz
   omega
  split at h5
  ·exact hz _ _ _ _ (Bool.and_eq_true _ _ ▸ h5).1
  ·split at h5
   ·exact hz _ _ _ _ (Bool.and_eq_true _ _ ▸ h5).1
   ·split at h5
    ·exact hz _ _ _ _ h5
    ·split at h5
     ·exact hz _ _ _ _ h5
     ·split at h5
      ·exact hz _ _ _ _ h5
      ·exact absurd h5 (by decide)
theorem liveOk_bd {lsn : Int} {ls : List LiveV} {k : Nat} (h : liveOk lsn ls k = true) : (1 ≤ (ls.getD k zeroL).tx ∧ (ls.getD k zeroL).tx ≤ 1000) ∧ (1 ≤ (ls.getD k zeroL).last ∧ (ls.getD k zeroL).last < lsn) := by
 cases k with
 | zero => simp only [liveOk, inB, Bool.and_eq_true, decide_eq_true_eq] at h; omega
 | succ k => simp only [liveOk, inB, Bool.and_eq_true, decide_eq_true_eq] at h; omega
theorem livesB_bd {lsn : Int} {ls : List LiveV} (h : livesB lsn ls = true) : ls.length ≤ 20 ∧ ∀ t ∈ ls, (1 ≤ t.tx ∧ t.tx ≤ 1000) ∧ (1 ≤ t.last ∧ t.last < lsn) := by
 simp only [livesB, Bool.and_eq_true, List.all_eq_true, List.mem_range, decide_eq_true_eq] at h
 refine ⟨h.2, fun t ht => ?_⟩
 obtain ⟨k, hk, e⟩ := List.getElem_of_mem ht
 have := liveOk_bd (h.1 k hk)
 rw [show ls.getD k zeroL = t by simp [List.getD, hk, e]] at this
 exact this
structure Bd (r : RecV) : Prop where
 lsn : 1 ≤ r.lsn ∧ r.lsn ≤ 1000000
 bf : slotB r.bf = true
 af : slotB r.af = true
 tx : 0 ≤ r.tx ∧ r.tx ≤ 1000
 prev : 0 ≤ r.prev ∧ r.prev < r.lsn
 kind : 1 ≤ r.kind ∧ r.kind ≤ 6
 oid : 0 ≤ r.oid ∧ r.oid ≤ 31
 next : 0 ≤ r.next ∧ r.next < r.lsn
 txs : r.txs.length ≤ 20
 each : ∀ t ∈ r.txs, (1 ≤ t.tx ∧ t.tx ≤ 1000) ∧ (1 ≤ t.last ∧ t.last < r.lsn)
theorem okR_bd {r : RecV} (h : okR r = true) : Bd r := by
 have h20 := okR_txs h
 unfold okR at h
 simp only [Bool.and_eq_true] at h
 obtain ⟨h1, h2, h3, h4⟩ := h
 simp only [inB, decide_eq_true_eq] at h1
 have hno : ∀ a b c d, zeroB r a b c d false = true → ∀ t ∈ r.txs, (1 ≤ t.tx ∧ t.tx ≤ 1000) ∧ (1 ≤ t.last ∧ t.last < r.lsn) := by
  intro a b c d hz t ht
  simp only [zeroB, Bool.and_eq_true, Bool.false_or, decide_eq_true_eq] at hz
  have := List.length_eq_zero_iff.1 hz.2
  rw [this] at ht; cases ht
 split at h4
 ·rename_i hk
  simp only [Bool.and_eq_true] at h4
  obtain ⟨hz, hl⟩ := h4
  obtain ⟨_, he⟩ := livesB_bd hl
  simp only [zeroB, Bool.and_eq_true, Bool.false_or, Bool.true_or, decide_eq_true_eq, beq_iff_eq] at hz hk
  exact ⟨h1, h2, h3, by omega, by omega, by omega, by omega, by omega, h20, he⟩
 ·simp only [Bool.and_eq_true, inB, decide_eq_true_eq] at h4
  obtain ⟨h5, h6, h7⟩ := h4
  split at h7
  ·rename_i hk
   simp only [Bool.and_eq_true, decide_eq_true_eq] at h7
   obtain ⟨hz, ho⟩ := h7
   have he := hno _ _ _ _ hz
   simp only [zeroB, Bool.and_eq_true, Bool.false_or, Bool.true_or, decide_eq_true_eq, beq_iff_eq] at hz hk
   exact ⟨h1, h2, h3, by omega, by omega, by omega, by omega, by omega, h20, he⟩
  ·split at h7
   ·rename_i hk
    simp only [Bool.and_eq_true, decide_eq_true_eq] at h7
    obtain ⟨hz, ho, hx⟩ := h7
    have he := hno _ _ _ _ hz
    simp only [beq_iff_eq] at hk
    exact ⟨h1, h2, h3, by omega, by omega, by omega, by omega, by omega, h20, he⟩
   ·have fin : zeroB r true false false false false = true → (1 ≤ r.kind ∧ r.kind ≤ 6) → Bd r := fun hz hk => by
     have he := hno _ _ _ _ hz
     simp only [zeroB, Bool.and_eq_true, Bool.false_or, Bool.true_or, decide_eq_true_eq] at hz
     exact ⟨h1, h2, h3, by omega, by omega, by omega, by omega, by omega, h20, he⟩
    split at h7
    ·rename_i hk; exact fin h7 (by simp only [beq_iff_eq] at hk; omega)
    ·split at h7
     ·rename_i hk; exact fin h7 (by simp only [beq_iff_eq] at hk; omega)
     ·split at h7
      ·rename_i hk; exact fin h7 (by simp only [beq_iff_eq] at hk; omega)
      ·cases h7
def noR : RecV := ⟨0, 0, 0, 0, 0, noS, noS, 0, []⟩
theorem equalInts_any (a b : Option Addr) (ca cb : Nat) (xs ys : List Int) (w : World) (ha : ReadsI w a xs) (hb : ReadsI w b ys) (hl : xs.length ≤ 1099511627776) (hl2 : ys.length ≤ 1099511627776) :
  Calls Tryz.prog 125 #[.slice a xs.length ca, .slice b ys.length cb] w fun e w' => e = .returned (.bool (decide (xs = ys))) ∧ ∃ n, w' = w.drewN n := by
 by_cases hle : xs.length = ys.length
 case neg =>
  have HE : Hid (_ = _) := ne_len hle
  have hle' : ((xs.length : Int) == (ys.length : Int)) = false := by simp; omega
  go_enter Tryz.func125, Tryz.ntmps125
  go_wp2
  go_ret
  exact ⟨ret_bool HE.out.symm, 0, rfl⟩
 case pos =>
 have HL : Hid (xs.length = ys.length) := hle
 have hle' : ((xs.length : Int) == (ys.length : Int)) = true := by simp; omega
 rcases ha.cases with rfl | ⟨b1, o1, rfl, hpos, hc1⟩
 ·obtain rfl : ys = [] := List.length_eq_zero_iff.1 (by simpa using hle.symm)
  have HE : Hid (decide (([] : List Int) = []) = true) := by simp [Hid]
  clear hle hle' HL
  go_enter Tryz.func125, Tryz.ntmps125
  go_wp2
  refine wp_loop_rounds 1 ?_
  rw [rounds_succ]
  go_wp2
  go_ret
  exact ⟨ret_bool HE.out.symm, 0, rfl⟩
 ·rcases hb.cases with rfl | ⟨b2, o2, rfl, _, hc2⟩
  ·simp at hle; simp [hle] at hpos
  ·clear hle
   go_enter Tryz.func125, Tryz.ntmps125
   go_wp2
   go_loopw [13] (fun i wr => ∃ k : Nat, k ≤ xs.length ∧ i = .int .i64 k ∧ Hid (∀ t, t < k → xs.getD t 0 = ys.getD t 0) ∧ ∃ n, wr = w.drewN n) (fun i _ => xs.length - (intOf i).toNat)
   case atStart => exact ⟨0, Nat.zero_le _, rfl, fun t ht => by omega, 0, rfl⟩
   case round =>
    obtain ⟨k, hk, rfl, hall, n, rfl⟩ := hrel
    by_cases hlt : k < xs.length
    ·have h1 := hc1 k hlt
     have h2 := hc2 k (by have := HL.out; omega)
     have hlt2 : (k : Int) < (ys.length : Int) := by have := HL.out; omega
     clear hc1 hc2
     by_cases hz : xs.getD k 0 = ys.getD k 0
     ·have HN : Hid (∀ t, t < k + 1 → xs.getD t 0 = ys.getD t 0) := by
       intro t ht
       by_cases e : t = k
       ·rw [e]; exact hz
       ·exact hall.out t (by omega)
      rw [← hz] at h2
      clear hz
      generalize xs.getD k 0 = z at *
      go_wp2
      go_quiet (fail)
      go_wp2
      go_roundw
      case rel => exact ⟨k + 1, by omega, by go_num, HN, _, rfl⟩
      case measure => simp [intOf]; omega
     ·have HE : Hid (_ = _) := ne_at k hz
      have hzb : (xs.getD k 0 == ys.getD k 0) = false := by simpa using hz
      clear hz
      generalize xs.getD k 0 = z at *
      generalize ys.getD k 0 = y at *
      go_wp2
      go_quiet (fail)
      go_wp2
      go_ret
      exact ⟨ret_bool HE.out.symm, n + nq, by first | rfl | simp⟩
    ·have HE : Hid (_ = _) := eq_all HL.out (fun t ht => hall.out t (by omega))
     go_wp2
     go_ret
     exact ⟨ret_bool HE.out.symm, n, rfl⟩
theorem implSameObj_any (o p : ObjV) (aI : Option Addr) (cI : Nat) (aR : Option Addr) (cR : Nat) (bI : Option Addr) (dI : Nat) (bR : Option Addr) (dR : Nat) (w : World) (ha : ReadsO w aI cI aR cR o) (hb : ReadsO w bI dI bR dR p) (h1 : o.ints.length ≤ 1099511627776) (h2 : o.refs.length ≤ 1099511627776) (h3 : p.ints.length ≤ 1099511627776) (h4 : p.refs.length ≤ 1099511627776) :
  Calls Tryz.prog 113 #[.agg #[.int .i64 o.kind, .slice aI o.ints.length cI, .slice aR o.refs.length cR], .agg #[.int .i64 p.kind, .slice bI p.ints.length dI, .slice bR p.refs.length dR]] w fun e w' => e = .returned (.bool (sameO o p)) ∧ Below w.heap.size w w' := by
 obtain ⟨k, ints, refs⟩ := o
 obtain ⟨k', ints', refs'⟩ := p
 obtain ⟨haI, haR, _, _⟩ := ha
 obtain ⟨hbI, hbR, _, _⟩ := hb
 simp only at *
 obtain ⟨W, hW, b0, b1, hbW, hsW⟩ := boxes2 w [.int .i64 k, .slice aI ints.length cI, .slice aR refs.length cR] [.int .i64 k', .slice bI ints'.length dI, .slice bR refs'.length dR] 34 34
 by_cases hk : k = k'
 case neg =>
  have HE : Hid (sameO ⟨k, ints, refs⟩ ⟨k', ints', refs'⟩ = false) := by simp [Hid, sameO, hk]
  have hkb : (k == k') = false := by simpa using hk
  clear hk
  go_enter Tryz.func113, Tryz.ntmps113
  go_wp2
  go_ret
  exact ⟨ret_bool HE.out.symm, by rw [hW.out]; exact hbW⟩
 case pos =>
 subst hk
 have HE : Hid (sameO ⟨k, ints, refs⟩ ⟨k, ints', refs'⟩ = (decide (ints = ints') && decide (refs = refs'))) := by simp [Hid, sameO]
 go_enter Tryz.func113, Tryz.ntmps113
 go_wp2_with fail
 rw [hW.out]
 refine (equalInts_any aI bI cI dI ints ints' W (haI.below hbW) (hbI.below hbW) h1 h3).mono ?_
 rintro e w1 ⟨rfl, n1, rfl⟩
 have c0 := (b0.drewN n1).cell 2 _ rfl
 have c1 := (b1.drewN n1).cell 2 _ rfl
 have hb1 : Below w.heap.size w (W.drewN n1) := below_drewN hbW n1
 cases hd : decide (ints = ints') with
 | false =>
  rw [hd] at HE
  clear hd
  go_wp2
  go_ret
  exact ⟨ret_bool (by rw [HE.out]; rfl), hb1⟩
 | true =>
  rw [hd] at HE
  clear hd
  go_wp2_with fail
  refine (equalInts_any aR bR cR dR refs refs' (W.drewN n1) (haR.below hb1) (hbR.below hb1) h2 h4).mono ?_
  rintro e w2 ⟨rfl, n2, rfl⟩
  generalize decide (refs = refs') = D at *
  go_wp2
  go_ret
  exact ⟨ret_bool (by rw [HE.out]; rfl), below_drewN hbW (n1 + n2)⟩
theorem lives_oneCell (zs : List LiveV) : ∀ v ∈ cellsL zs, v.oneCell' = true := by
 intro v hv
 obtain ⟨s, _, hs⟩ := List.mem_flatMap.1 hv
 simp only [LiveV.cells, List.mem_cons, List.not_mem_nil, or_false] at hs
 rcases hs with rfl | rfl | rfl <;> rfl
theorem append_lives {w : World} {ops : Array Oper} {rest : List Oper} {o : Oper} {act : Act} {Q : Exit → Act → World → Prop} (hgd : o.guard = none) (s x : Operand)
  (ho : o.op = .call { callee := .builtin .append, args := #[s, x], argTypes := #[37, 37] })
  (lo hi : Nat) (a : Option Addr) (c : Nat) (xs : List LiveV) (hs : act.eval s = .slice a xs.length c) (hown : OwnL w lo hi a c xs)
  (sa : Option Addr) (sc : Nat) (zs : List LiveV) (hx : act.eval x = .slice sa zs.length sc) (hr : ReadsL w sa zs) (hc : sa = none → sc = 0)
  (hb : xs.length + zs.length ≤ 1099511627776) (hlo : lo ≤ w.heap.size)
  (h : ∀ a' c' ys w', Hid (ys = xs ++ zs) → OwnL w' lo w'.heap.size a' c' ys → w.grownBy w' (Value.slice a xs.length c).ownBlock → wpList Tryz.prog ops Q rest (act.put o.dst (.slice a' ys.length c')) w') :
  wpList Tryz.prog ops Q (o :: rest) act w := by
 obtain ⟨i0, hi0, hz0, hz1, hz2⟩ := info_parts Tryz.infoLive
 have fin : ∀ v' w', w'.ownsRow lo 112 3 v' (xs.length + zs.length) (cellsL xs ++ cellsL zs) → w.grownBy w' (Value.slice a xs.length c).ownBlock → wpList Tryz.prog ops Q rest (act.put o.dst v') w' := by
  intro v' w' h1 h2
  rw [← cellsL_app, ← List.length_append] at h1
  have sh : ∃ a' c', v' = .slice a' (xs ++ zs).length c' := by
   rcases h1.2 with ⟨rfl, h0⟩ | ⟨g, cap, cur, rfl, _⟩
   ·exact ⟨none, 0, by rw [h0]⟩
   ·exact ⟨_, _, rfl⟩
  obtain ⟨a', c', rfl⟩ := sh
  exact h a' c' (xs ++ zs) w' rfl ⟨h1, Nat.le_refl _, fun k hk => (h1.lt k hk).2⟩ h2
 cases sa with
 | none =>
  have hz : zs = [] := by
   by_cases e : zs = []
   ·exact e
   ·obtain ⟨b, off, hh, _⟩ := hr e
    cases hh
  subst hz
  have := hc rfl
  subst this
  exact wpList_append_own_none hgd s x 37 ho lo 112 i0 3 Tryz.underlying37 hi0 _ _ _ hs hown.1 hx (fin _ w (by simpa [cellsL] using hown.1) (World.grownBy.refl _ _))
 | some ad =>
  refine wpList_append_own w hgd s x 37 ho lo 112 i0 (.agg #[.int .i64 0, .int .i64 0, .bool false]) 3 24 Tryz.underlying37 hi0 hz0 hz1 hz2 rfl (by decide) _ _ _ hs hown.1 ad zs.length sc (cellsL zs) hx (by rw [cellsL_len]) ?_ (lives_oneCell _) (by simp only [maxLen]; omega) (by omega) hlo (fun v' w' h1 h2 _ => fin v' w' h1 h2)
  intro j u hj
  have hjl : j < zs.length * 3 := by rw [← cellsL_len]; exact (List.getElem?_eq_some_iff.1 hj).1
  have hne : zs ≠ [] := by intro e; simp [e] at hjl
  obtain ⟨b, off, hh, hcell⟩ := hr hne
  cases hh
  have hat := cellsL_at zs (j / 3) (j % 3) (by omega) (Nat.mod_lt _ (by omega))
  rw [show j / 3 * 3 + j % 3 = j by omega, hj] at hat
  obtain ⟨k0, k1, k2⟩ := hcell (j / 3) (by omega)
  rw [Addr_add]
  rcases (by omega : j % 3 = 0 ∨ j % 3 = 1 ∨ j % 3 = 2) with h' | h' | h' <;> rw [h'] at hat <;> simp only [LiveV.cells, List.getElem?_cons_zero, List.getElem?_cons_succ, Option.some.injEq] at hat
  ·rw [show off + j = off + j / 3 * 3 by omega, k0, hat]
  ·rw [show off + j = off + j / 3 * 3 + 1 by omega, k1, hat]
  ·rw [show off + j = off + j / 3 * 3 + 2 by omega, k2, hat]
theorem readsL_one (w : World) (z : LiveV) (t : TypeId) : ReadsL (w.alloc (.cells #[.int .i64 z.tx, .int .i64 z.last, .bool z.aborts] t)) (some ⟨w.heap.size, 0, none⟩) [z] := by
 intro _
 refine ⟨w.heap.size, 0, rfl, fun k hk => ?_⟩
 obtain rfl : k = 0 := by simpa using hk
 have b : Box (w.alloc (.cells #[.int .i64 z.tx, .int .i64 z.last, .bool z.aborts] t)) w.heap.size [.int .i64 z.tx, .int .i64 z.last, .bool z.aborts] t := box_new _ _ _
 exact ⟨b.cell 0 _ rfl, b.cell 1 _ rfl, b.cell 2 _ rfl⟩
structure HoldV where
 tx : Int
 oid : Int
def HoldV.cells (l : HoldV) : List Value := [.int .i64 l.tx, .int .i64 l.oid]
def zeroH : HoldV := ⟨0, 0⟩
def cellsH (ls : List HoldV) : List Value := ls.flatMap HoldV.cells
theorem cellsH_len (ls : List HoldV) : (cellsH ls).length = ls.length * 2 := by
 induction ls with
 | nil => rfl
 | cons s r ih => simp only [cellsH, List.flatMap_cons, List.length_append, HoldV.cells, List.length_cons, List.length_nil] at *; omega
theorem cellsH_app (a b : List HoldV) : cellsH (a ++ b) = cellsH a ++ cellsH b := by simp [cellsH]
theorem cellsH_at (ls : List HoldV) (k j : Nat) (hk : k < ls.length) (hj : j < 2) : (cellsH ls)[k * 2 + j]? = (ls.getD k zeroH).cells[j]? := by
 induction ls generalizing k with
 | nil => simp at hk
 | cons s r ih =>
  have e : cellsH (s :: r) = s.cells ++ cellsH r := by simp [cellsH]
  have l3 : s.cells.length = 2 := rfl
  rw [e]
  cases k with
  | zero => rw [List.getElem?_append_left (by rw [l3]; omega)]; simp
  | succ k =>
   rw [List.getElem?_append_right (by rw [l3]; omega), l3]
   have := ih k (by simpa using hk)
   rw [show (k + 1) * 2 + j - 2 = k * 2 + j by omega, this]
   simp
def ReadsH (w : World) (a : Option Addr) (ls : List HoldV) : Prop := ls ≠ [] → ∃ b off, a = some ⟨b, off, none⟩ ∧ ∀ k, k < ls.length → w.cell? ⟨b, off + k * 2, none⟩ = some (.int .i64 (ls.getD k zeroH).tx) ∧ w.cell? ⟨b, off + k * 2 + 1, none⟩ = some (.int .i64 (ls.getD k zeroH).oid)
theorem ReadsH.below {w w' : World} {a : Option Addr} {ls : List HoldV} (h : ReadsH w a ls) (hb : Below w.heap.size w w') : ReadsH w' a ls := by
 intro hne
 obtain ⟨b, off, ha, hc⟩ := h hne
 refine ⟨b, off, ha, fun k hk => ?_⟩
 obtain ⟨h0, h1⟩ := hc k hk
 have hlt := block_lt h0
 exact ⟨by rw [hb.cell (p := ⟨b, off + k * 2, none⟩) hlt]; exact h0, by rw [hb.cell (p := ⟨b, off + k * 2 + 1, none⟩) hlt]; exact h1⟩
theorem ReadsH.cases {w : World} {a : Option Addr} {ls : List HoldV} (h : ReadsH w a ls) : ls = [] ∨ ∃ b off, a = some ⟨b, off, none⟩ ∧ 0 < ls.length ∧ ∀ k, k < ls.length → w.cell? ⟨b, off + k * 2, none⟩ = some (.int .i64 (ls.getD k zeroH).tx) ∧ w.cell? ⟨b, off + k * 2 + 1, none⟩ = some (.int .i64 (ls.getD k zeroH).oid) := by
 by_cases e : ls = []
 ·exact .inl e
 ·obtain ⟨b, off, ha, hc⟩ := h e
  exact .inr ⟨b, off, ha, List.length_pos_iff.2 e, hc⟩
def OwnH (w : World) (lo hi : Nat) (a : Option Addr) (c : Nat) (ls : List HoldV) : Prop :=
 w.ownsRow lo 178 2 (.slice a ls.length c) ls.length (cellsH ls) ∧ hi ≤ w.heap.size ∧ ∀ k, (Value.slice a ls.length c).ownBlock = some k → k < hi
theorem OwnH.lt {w : World} {lo hi : Nat} {a : Option Addr} {c : Nat} {ls : List HoldV} (h : OwnH w lo hi a c ls) : ∀ k, (Value.slice a ls.length c).ownBlock = some k → lo ≤ k ∧ k < hi := fun k hk => ⟨(h.1.lt k hk).1, h.2.2 k hk⟩
theorem OwnH.touch {w w' : World} {lo hi : Nat} {a : Option Addr} {c : Nat} {ls : List HoldV} {bl : List Nat} (h : OwnH w lo hi a c ls) (ht : Touch bl w w') (hd : ∀ k, (Value.slice a ls.length c).ownBlock = some k → k ∉ bl) : OwnH w' lo hi a c ls :=
 ⟨ownsRow_block h.1 (fun k hk => ht.block k (h.1.lt k hk).2 (hd k hk)), Nat.le_trans h.2.1 ht.size, h.2.2⟩
theorem OwnH.within {w w' : World} {lo hi l r : Nat} {a : Option Addr} {c : Nat} {ls : List HoldV} (h : OwnH w lo hi a c ls) (hw : Within l r w w') (hd : hi ≤ l ∨ r ≤ lo) : OwnH w' lo hi a c ls :=
 ⟨ownsRow_block h.1 (fun k hk => hw.block k (by have := h.2.2 k hk; have := h.2.1; omega) (by have := h.lt k hk; omega)), Nat.le_trans h.2.1 hw.size, h.2.2⟩
theorem OwnH.below {w w' : World} {lo hi : Nat} {a : Option Addr} {c : Nat} {ls : List HoldV} (h : OwnH w lo hi a c ls) (hb : Below w.heap.size w w') : OwnH w' lo hi a c ls :=
 h.within (Within.of_below (lo := w.heap.size) (hi := w.heap.size) hb) (.inl h.2.1)
theorem OwnH.widen {w : World} {lo hi lo' hi' : Nat} {a : Option Addr} {c : Nat} {ls : List HoldV} (h : OwnH w lo hi a c ls) (h1 : lo' ≤ lo) (h2 : hi ≤ hi') (h3 : hi' ≤ w.heap.size) : OwnH w lo' hi' a c ls :=
 ⟨ownsRow_base h.1 (fun k hk => by have := h.lt k hk; omega), h3, fun k hk => by have := h.lt k hk; omega⟩
theorem ownH_nil (w : World) (lo hi : Nat) (h : hi ≤ w.heap.size) : OwnH w lo hi none 0 [] := ⟨⟨by simp [cellsH], .inl ⟨rfl, rfl⟩⟩, h, fun k hk => by cases hk⟩
theorem row_hold {w : World} {base g n cap : Nat} {ls : List HoldV} (h : w.ownsRow base 178 2 (.slice (some ⟨g, 0, none⟩) n cap) n (cellsH ls)) (hn : ls.length = n) (k : Nat) (hk : k < n) :
  w.cell? ⟨g, k * 2, none⟩ = some (.int .i64 (ls.getD k zeroH).tx) ∧ w.cell? ⟨g, k * 2 + 1, none⟩ = some (.int .i64 (ls.getD k zeroH).oid) ∧ (∀ i, w.frozen? ⟨g, i, none⟩ = false) := by
 have a0 := cellsH_at ls k 0 (by omega) (by omega)
 have a1 := cellsH_at ls k 1 (by omega) (by omega)
 simp only [HoldV.cells, Nat.add_zero, List.getElem?_cons_zero, List.getElem?_cons_succ] at a0 a1
 exact ⟨by rw [h.cellAt (k * 2) (by omega)]; exact a0, by rw [h.cellAt (k * 2 + 1) (by omega)]; exact a1, fun i => h.frozenAt i⟩
theorem OwnH.reads {w : World} {lo hi : Nat} {a : Option Addr} {c : Nat} {ls : List HoldV} (h : OwnH w lo hi a c ls) : ReadsH w a ls := by
 intro hne
 rcases h.1.2 with ⟨_, h0⟩ | ⟨g, cap', cur, hv, hb, hg, hr⟩
 ·exact absurd (List.length_eq_zero_iff.1 h0) hne
 ·simp only [Value.slice.injEq] at hv
  obtain ⟨rfl, _, rfl⟩ := hv
  refine ⟨g, 0, rfl, fun k hk => ?_⟩
  obtain ⟨a0, a1, _⟩ := row_hold h.1 rfl k hk
  rw [Nat.zero_add]
  exact ⟨a0, a1⟩
theorem Tryz.infoHold : (Tryz.prog.info? 178).map (fun i => (i.zero, i.size, i.bytes)) = some (some (.agg #[.int .i64 0, .int .i64 0]), 2, 16) := by kernel_rfl
theorem holds_oneCell (zs : List HoldV) : ∀ v ∈ cellsH zs, v.oneCell' = true := by
 intro v hv
 obtain ⟨s, _, hs⟩ := List.mem_flatMap.1 hv
 simp only [HoldV.cells, List.mem_cons, List.not_mem_nil, or_false] at hs
 rcases hs with rfl | rfl <;> rfl
theorem append_holds {w : World} {ops : Array Oper} {rest : List Oper} {o : Oper} {act : Act} {Q : Exit → Act → World → Prop} (hgd : o.guard = none) (s x : Operand)
  (ho : o.op = .call { callee := .builtin .append, args := #[s, x], argTypes := #[126, 126] })
  (lo hi : Nat) (a : Option Addr) (c : Nat) (xs : List HoldV) (hs : act.eval s = .slice a xs.length c) (hown : OwnH w lo hi a c xs)
  (sa : Option Addr) (sc : Nat) (zs : List HoldV) (hx : act.eval x = .slice sa zs.length sc) (hr : ReadsH w sa zs) (hc : sa = none → sc = 0)
  (hb : xs.length + zs.length ≤ 1099511627776) (hlo : lo ≤ w.heap.size)
  (h : ∀ a' c' ys w', Hid (ys = xs ++ zs) → OwnH w' lo w'.heap.size a' c' ys → w.grownBy w' (Value.slice a xs.length c).ownBlock → wpList Tryz.prog ops Q rest (act.put o.dst (.slice a' ys.length c')) w') :
  wpList Tryz.prog ops Q (o :: rest) act w := by
 obtain ⟨i0, hi0, hz0, hz1, hz2⟩ := info_parts Tryz.infoHold
 have fin : ∀ v' w', w'.ownsRow lo 178 2 v' (xs.length + zs.length) (cellsH xs ++ cellsH zs) → w.grownBy w' (Value.slice a xs.length c).ownBlock → wpList Tryz.prog ops Q rest (act.put o.dst v') w' := by
  intro v' w' h1 h2
  rw [← cellsH_app, ← List.length_append] at h1
  have sh : ∃ a' c', v' = .slice a' (xs ++ zs).length c' := by
   rcases h1.2 with ⟨rfl, h0⟩ | ⟨g, cap, cur, rfl, _⟩
   ·exact ⟨none, 0, by rw [h0]⟩
   ·exact ⟨_, _, rfl⟩
  obtain ⟨a', c', rfl⟩ := sh
  exact h a' c' (xs ++ zs) w' rfl ⟨h1, Nat.le_refl _, fun k hk => (h1.lt k hk).2⟩ h2
 cases sa with
 | none =>
  have hz : zs = [] := by
   by_cases e : zs = []
   ·exact e
   ·obtain ⟨b, off, hh, _⟩ := hr e
    cases hh
  subst hz
  have := hc rfl
  subst this
  exact wpList_append_own_none hgd s x 126 ho lo 178 i0 2 Tryz.underlying126 hi0 _ _ _ hs hown.1 hx (fin _ w (by simpa [cellsH] using hown.1) (World.grownBy.refl _ _))
 | some ad =>
  refine wpList_append_own w hgd s x 126 ho lo 178 i0 (.agg #[.int .i64 0, .int .i64 0]) 2 16 Tryz.underlying126 hi0 hz0 hz1 hz2 rfl (by decide) _ _ _ hs hown.1 ad zs.length sc (cellsH zs) hx (by rw [cellsH_len]) ?_ (holds_oneCell _) (by simp only [maxLen]; omega) (by omega) hlo (fun v' w' h1 h2 _ => fin v' w' h1 h2)
  intro j u hj
  have hjl : j < zs.length * 2 := by rw [← cellsH_len]; exact (List.getElem?_eq_some_iff.1 hj).1
  have hne : zs ≠ [] := by intro e; simp [e] at hjl
  obtain ⟨b, off, hh, hcell⟩ := hr hne
  cases hh
  have hat := cellsH_at zs (j / 2) (j % 2) (by omega) (Nat.mod_lt _ (by omega))
  rw [show j / 2 * 2 + j % 2 = j by omega, hj] at hat
  obtain ⟨k0, k1⟩ := hcell (j / 2) (by omega)
  rw [Addr_add]
  rcases (by omega : j % 2 = 0 ∨ j % 2 = 1) with h' | h' <;> rw [h'] at hat <;> simp only [HoldV.cells, List.getElem?_cons_zero, List.getElem?_cons_succ, Option.some.injEq] at hat
  ·rw [show off + j = off + j / 2 * 2 by omega, k0, hat]
  ·rw [show off + j = off + j / 2 * 2 + 1 by omega, k1, hat]
theorem readsH_one (w : World) (z : HoldV) (t : TypeId) : ReadsH (w.alloc (.cells #[.int .i64 z.tx, .int .i64 z.oid] t)) (some ⟨w.heap.size, 0, none⟩) [z] := by
 intro _
 refine ⟨w.heap.size, 0, rfl, fun k hk => ?_⟩
 obtain rfl : k = 0 := by simpa using hk
 have b : Box (w.alloc (.cells #[.int .i64 z.tx, .int .i64 z.oid] t)) w.heap.size [.int .i64 z.tx, .int .i64 z.oid] t := box_new _ _ _
 exact ⟨b.cell 0 _ rfl, b.cell 1 _ rfl⟩
def CurAt (w : World) (B : Nat) (zs : List Int) : Prop :=
 ∃ (a : Option Addr) (c i : Nat) (h : Int), w.heap[B]? = some (.cells #[.slice a zs.length c, .int .i64 i, .int .i64 h] 96 (0, 0)) ∧ i ≤ zs.length ∧ Reads w a zs ∧ (zs ≠ [] → ∀ b off, a = some ⟨b, off, none⟩ → b < B)
theorem cell_of3 {w : World} {B : Nat} {v0 v1 v2 : Value} {t : TypeId} (h : w.heap[B]? = some (.cells #[v0, v1, v2] t (0, 0))) :
  w.cell? ⟨B, 0, none⟩ = some v0 ∧ w.cell? ⟨B, 1, none⟩ = some v1 ∧ w.cell? ⟨B, 2, none⟩ = some v2 ∧ (∀ o, w.frozen? ⟨B, o, none⟩ = false) := by
 refine ⟨?_, ?_, ?_, fun o => ?_⟩
 ·simp [World.cell?, h]
 ·simp [World.cell?, h]
 ·simp [World.cell?, h]
 ·simp [World.frozen?, h]
theorem set_of3 {w : World} {B : Nat} {v0 v1 v2 u : Value} {t : TypeId} (h : w.heap[B]? = some (.cells #[v0, v1, v2] t (0, 0))) :
  (w.setCell ⟨B, 1, none⟩ u).heap[B]? = some (.cells #[v0, u, v2] t (0, 0)) ∧ (w.setCell ⟨B, 2, none⟩ u).heap[B]? = some (.cells #[v0, v1, u] t (0, 0)) := by
 constructor
 ·rw [heap_setCell_same w B 1 _ t u h]; simp
 ·rw [heap_setCell_same w B 2 _ t u h]; simp
theorem grown_set (w : World) (B o : Nat) (u : Value) : w.grownBy (w.setCell ⟨B, o, none⟩ u) (some B) :=
 ⟨rfl, rfl, rfl, by simp, fun k _ hk => heap_setCell_other w ⟨B, o, none⟩ k u (fun e => hk (by simp [e]))⟩
theorem grown_drew_set (w : World) (n B o : Nat) (u : Value) : w.grownBy ((w.drewN n).setCell ⟨B, o, none⟩ u) (some B) :=
 ⟨rfl, rfl, rfl, by simp, fun k _ hk => heap_setCell_other (w.drewN n) ⟨B, o, none⟩ k u (fun e => hk (by simp [e]))⟩
theorem Reads.grown {w w' : World} {a : Option Addr} {zs : List Int} {B : Nat} (h : Reads w a zs) (hg : w.grownBy w' (some B)) (hne : zs ≠ [] → ∀ b off, a = some ⟨b, off, none⟩ → b ≠ B) : Reads w' a zs := by
 refine ⟨h.1, fun e => ?_⟩
 obtain ⟨b, off, ha, hc⟩ := h.2 e
 refine ⟨b, off, ha, fun i hi => hg.cell (hc i hi) ?_⟩
 intro he
 exact hne e b off ha (Option.some.inj he)
theorem CurAt.lt {w : World} {B : Nat} {zs : List Int} (h : CurAt w B zs) : B < w.heap.size := by
 obtain ⟨a, c, i, h, hh, _⟩ := h
 exact (Array.getElem?_eq_some_iff.1 hh).1
theorem CurAt.kept {w w' : World} {B : Nat} {zs : List Int} {row : Option Nat} (h : CurAt w B zs) (hg : w.grownBy w' row) (hrow : ∀ k, row = some k → B < k) : CurAt w' B zs := by
 have hB := h.lt
 obtain ⟨a, c, i, h, hh, hi, hr, hlt⟩ := h
 refine ⟨a, c, i, h, ?_, hi, ⟨hr.1, fun e => ?_⟩, hlt⟩
 ·rw [hg.block B hB (fun e => by have := hrow B e.symm; omega)]; exact hh
 ·obtain ⟨b, off, ha, hc⟩ := hr.2 e
  refine ⟨b, off, ha, fun j hj => hg.cell (hc j hj) ?_⟩
  intro he
  have h1 := hlt e b off ha
  have h2 := hrow b he.symm
  omega
theorem CurAt.alloc {w : World} {B : Nat} {zs : List Int} (h : CurAt w B zs) (o : Obj) : CurAt (w.alloc o) B zs := h.kept (World.grownBy_alloc w o none) (fun k e => by cases e)
theorem CurAt.below {w w' : World} {B : Nat} {zs : List Int} (h : CurAt w B zs) (hb : Below w.heap.size w w') : CurAt w' B zs :=
 h.kept (row := none) ⟨hb.os, hb.tape, hb.output, hb.size, fun k hk _ => hb.block k hk⟩ (fun k e => by cases e)
theorem grownBy_new {w w1 w2 : World} {r row : Option Nat} (h : w.grownBy w1 r) (hg : w1.grownBy w2 row) (hrow : ∀ k, row = some k → w.heap.size ≤ k) : w.grownBy w2 r :=
 ⟨hg.os.trans h.os, hg.tape.trans h.tape, hg.output.trans h.output, Nat.le_trans h.size hg.size, fun k hk hr => (hg.block k (Nat.lt_of_lt_of_le hk h.size) (fun e => by have := hrow k e.symm; omega)).trans (h.block k hk hr)⟩
theorem i64_and255 (n : Int) : bits .and .i64 n 255 = n % 256 := by
 have h1 : (BitVec.ofInt 64 255).toNat = 2 ^ 8 - 1 := by decide
 have key : (BitVec.ofInt 64 n &&& BitVec.ofInt 64 255).toNat = (n % ((2 ^ 64 : Nat) : Int)).toNat % 2 ^ 8 := by
  rw [BitVec.toNat_and, BitVec.toNat_ofInt, h1, Nat.and_two_pow_sub_one_eq_mod]
 show IntKind.i64.wrap ((BitVec.ofInt 64 n &&& BitVec.ofInt 64 255).toNat : Nat) = n % 256
 rw [key, IntKind.wrap_i64]
 omega
theorem ret_nat {a : Int} (h0 : 0 ≤ a) : Ending.returned (.int .i64 a) = .returned (.int .i64 ((a.toNat : Nat) : Int)) := by rw [Int.toNat_of_nonneg h0]
theorem l1Byte_any (B : Nat) (zs : List Int) (w : World) (hc : CurAt w B zs) (hl : zs.length ≤ 70368744177664) :
  Calls Tryz.prog 72 #[.pointer (some ⟨B, 0, none⟩)] w fun e w' => ∃ x : Nat, e = .returned (.int .i64 x) ∧ x < 256 ∧ CurAt w' B zs ∧ w.grownBy w' (some B) := by
 obtain ⟨a, c, i, h, hh, hi, hr, hlt0⟩ := hc
 have hne : zs ≠ [] → ∀ b off, a = some ⟨b, off, none⟩ → b ≠ B := fun h b off e => Nat.ne_of_lt (hlt0 h b off e)
 obtain ⟨c0, c1, c2, hf⟩ := cell_of3 hh
 have hf2 := hf 2
 clear hf
 have ha := i64_and255
 go_enter Tryz.func72, Tryz.ntmps72
 go_wp2
 generalize wrap64 (wrap64 (h * 6364136223846793005) + 1442695040888963407) = h1
 have hh1 := (set_of3 (u := .int .i64 h1) hh).2
 have hg1 := grown_set w B 2 (.int .i64 h1)
 have hr1 := hr.grown hg1 hne
 clear c0 c1 c2 hf2 hh hr
 generalize w.setCell ⟨B, 2, none⟩ (.int .i64 h1) = w1 at *
 obtain ⟨c0, c1, c2, hf⟩ := cell_of3 hh1
 have hf1 := hf 1
 clear hf
 go_quiet (fail)
 go_wp2
 have hxb : 0 ≤ bits .xor .i64 (h1 / 8589934592) (h1 / 140737488355328) % 256 ∧ bits .xor .i64 (h1 / 8589934592) (h1 / 140737488355328) % 256 < 256 := by omega
 generalize bits .xor .i64 (h1 / 8589934592) (h1 / 140737488355328) % 256 = y at *
 by_cases hlt : i < zs.length
 ·rcases hr1.cases with rfl | ⟨b, off, rfl, hpos, hcell⟩
  ·simp at hlt
  have hck := hcell i hlt
  have hby := bytes_at hr1.byte i
  clear hcell
  generalize zs.getD i 0 = z at *
  go_quiet (fail)
  go_wp2
  go_quiet (fail)
  go_wp2
  go_ret
  refine ⟨((y + z) % 256).toNat, ret_nat (by omega), by omega, ⟨some ⟨b, off, none⟩, c, i + 1, h1, ?_, by omega, ?_, hlt0⟩, ?_⟩
  ·exact (set_of3 (u := .int .i64 ((i : Int) + 1)) hh1).1
  ·exact hr1.grown (grown_drew_set w1 _ B 1 _) hne
  ·exact grownBy_trans hg1 (grown_drew_set w1 _ B 1 _)
 ·go_quiet (fail)
  go_wp2
  go_ret
  exact ⟨y.toNat, ret_nat hxb.1, by omega, ⟨a, c, i, h1, hh1, hi, hr1, hlt0⟩, ⟨hg1.os, hg1.tape, hg1.output, hg1.size, hg1.block⟩⟩
theorem l1Below_any (B : Nat) (zs : List Int) (n : Int) (w : World) (hc : CurAt w B zs) (hl : zs.length ≤ 70368744177664) (hn : n ≤ 1000000000) :
  Calls Tryz.prog 41 #[.pointer (some ⟨B, 0, none⟩), .int .i64 n] w fun e w' => ∃ x : Nat, e = .returned (.int .i64 x) ∧ (0 < n → (x : Int) < n) ∧ CurAt w' B zs ∧ w.grownBy w' (some B) := by
 by_cases h0 : n ≤ 0
 ·go_enter Tryz.func41, Tryz.ntmps41
  go_wp2
  go_ret
  exact ⟨0, rfl, fun h => by omega, hc, World.grownBy.refl _ _⟩
 by_cases h1 : n ≤ 256
 ·go_enter Tryz.func41, Tryz.ntmps41
  go_wp2_with fail
  refine (l1Byte_any B zs w hc hl).mono ?_
  rintro e w1 ⟨x, rfl, hx, hc1, hg1⟩
  have hnz : ¬ n = 0 := by omega
  go_wp2
  go_ret
  exact ⟨((x : Int) % n).toNat, ret_nat (Int.emod_nonneg _ hnz), fun h => by have := Int.emod_nonneg (x : Int) hnz; have := Int.emod_lt_of_pos (x : Int) h; omega, hc1, hg1⟩
 ·go_enter Tryz.func41, Tryz.ntmps41
  go_wp2_with fail
  refine (l1Byte_any B zs w hc hl).mono ?_
  rintro e w1 ⟨x, rfl, hx, hc1, hg1⟩
  go_wp2_with fail
  refine (l1Byte_any B zs w1 hc1 hl).mono ?_
  rintro e w2 ⟨y, rfl, hy, hc2, hg2⟩
  go_wp2_with fail
  refine (l1Byte_any B zs w2 hc2 hl).mono ?_
  rintro e w3 ⟨z, rfl, hz, hc3, hg3⟩
  have hnz : ¬ n = 0 := by omega
  clear hc hc1 hc2
  go_wp2
  go_ret
  exact ⟨(((x : Int) * 65536 + (y : Int) * 256 + (z : Int)) % n).toNat, ret_nat (Int.emod_nonneg _ hnz), fun h => by have := Int.emod_nonneg ((x : Int) * 65536 + (y : Int) * 256 + (z : Int)) hnz; have := Int.emod_lt_of_pos ((x : Int) * 65536 + (y : Int) * 256 + (z : Int)) h; omega, hc3, grownBy_trans (grownBy_trans hg1 hg2) hg3⟩
theorem l1Int_any (B : Nat) (zs : List Int) (na : Option Addr) (nc : Nat) (ns : List Int) (w : World) (hc : CurAt w B zs) (hl : zs.length ≤ 70368744177664) (hn : ReadsI w na ns) (hne : ∀ b off, na = some ⟨b, off, none⟩ → b ≠ B) (h1 : 1 ≤ ns.length) (h2 : ns.length ≤ 1000) :
  Calls Tryz.prog 31 #[.pointer (some ⟨B, 0, none⟩), .slice na ns.length nc] w fun e w' => ∃ j : Nat, j < ns.length ∧ e = .returned (.int .i64 (ns.getD j 0)) ∧ CurAt w' B zs ∧ w.grownBy w' (some B) := by
 have HN : Hid (ReadsI w na ns) := hn
 have HNE : Hid (∀ b off, na = some ⟨b, off, none⟩ → b ≠ B) := hne
 obtain ⟨b, off, rfl, _⟩ := hn (by intro e; simp [e] at h1)
 clear hn hne
 go_enter Tryz.func31, Tryz.ntmps31
 go_wp2_with fail
 refine (l1Below_any B zs ns.length w hc hl (by omega)).mono ?_
 rintro e w1 ⟨x, rfl, hx, hc1, hg1⟩
 have hx' : x < ns.length := by have := hx (by omega); omega
 obtain ⟨b', off', hh, hcell⟩ := (HN.out.grown hg1 HNE.out) (by intro e; simp [e] at h1)
 cases hh
 have hcx := hcell x hx'
 clear hcell hx
 generalize hv : ns.getD x 0 = v at *
 have HV : Hid (ns.getD x 0 = v) := hv
 clear hv
 go_wp2
 go_ret
 exact ⟨x, hx', by rw [HV.out]; rfl, hc1, hg1⟩
theorem l1New_any (a : Option Addr) (c : Nat) (zs : List Int) (w : World) (hr : Reads w a zs) (hl : zs.length ≤ 70368744177664) :
  Calls Tryz.prog 28 #[.slice a zs.length c] w fun e w' => e = .returned (.pointer (some ⟨w.heap.size, 0, none⟩)) ∧ CurAt w' w.heap.size zs ∧ Below w.heap.size w w' := by
 have HW : Hid (zs ≠ [] → ∀ b off, a = some ⟨b, off, none⟩ → b < w.heap.size) := by
  intro hne b off e
  obtain ⟨b', off', ha, hcc⟩ := hr.2 hne
  rw [ha] at e
  cases e
  exact block_lt (hcc 0 (List.length_pos_iff.2 hne))
 have HR : Hid (Reads w a zs) := hr
 have fin : ∀ h : Int, CurAt (w.alloc (.cells #[.slice a zs.length c, .int .i64 0, .int .i64 h] 96)) w.heap.size zs := fun h => ⟨a, c, 0, h, heap_alloc_new w _, by omega, HR.out.alloc _, HW.out⟩
 have FIN : Hid (∀ h : Int, CurAt (w.alloc (.cells #[.slice a zs.length c, .int .i64 0, .int .i64 h] 96)) w.heap.size zs) := fin
 clear fin
 rcases hr.cases with rfl | ⟨b, off, rfl, hpos, hcell⟩
 ·clear hr
  go_enter Tryz.func28, Tryz.ntmps28
  go_wp2
  refine wp_loop_rounds 1 ?_
  rw [rounds_succ]
  go_wp2
  go_ret
  exact ⟨rfl, FIN.out _, (Below.refl _ _).alloc (Nat.le_refl _) _⟩
 ·have hby := hr.byte
  clear hr
  go_enter Tryz.func28, Tryz.ntmps28
  go_wp2
  go_loop [3, 4] (fun hv i => ∃ (k : Nat) (h : Int), k ≤ zs.length ∧ k ≤ 4000 ∧ i = .int .i64 k ∧ hv = .int .i64 h) (fun _ i => 4000 - (intOf i).toNat)
  case atStart => exact ⟨0, _, by omega, by omega, rfl, rfl⟩
  case round =>
   obtain ⟨k, h, hk, hk4, rfl, rfl⟩ := hrel
   by_cases h1 : k < zs.length
   ·by_cases h2 : k < 4000
    ·have hck := hcell k h1
     have hbk := bytes_at hby k
     clear hcell hby
     generalize zs.getD k 0 = z at *
     go_wp2
     go_round
     case rel => exact ⟨k + 1, _, by omega, by omega, by go_num, rfl⟩
     case measure => simp [intOf]; omega
    ·go_wp2
     go_ret
     exact ⟨rfl, FIN.out _, (Below.refl _ _).alloc (Nat.le_refl _) _⟩
   ·go_wp2
    go_ret
    exact ⟨rfl, FIN.out _, (Below.refl _ _).alloc (Nat.le_refl _) _⟩
theorem run_append_ints {w : World} (ty : TypeId) (lo hi : Nat) (a : Option Addr) (c : Nat) (xs : List Int) (hown : OwnI w lo hi a c xs)
  (sa : Option Addr) (sc : Nat) (zs : List Int) (hr : ReadsI w sa zs) (hc : sa = none → sc = 0) (hb : xs.length + zs.length ≤ 1099511627776) (hlo : lo ≤ w.heap.size) :
  ∃ a' c' ys w', (Builtin.append_ #[32, 32] ty #[.slice a xs.length c, .slice sa zs.length sc]).run Tryz.prog w = .ok (.slice a' ys.length c') w' ∧ Hid (ys = xs ++ zs) ∧ OwnI w' lo w'.heap.size a' c' ys ∧ w.grownBy w' (Value.slice a xs.length c).ownBlock ∧
   (∀ k, (Value.slice a' ys.length c').ownBlock = some k → (Value.slice a xs.length c).ownBlock = some k ∨ k = w.heap.size) := by
 obtain ⟨i0, hi0, hz0, hz1, hz2⟩ := info_parts Tryz.infoInt
 cases sa with
 | none =>
  have hz : zs = [] := by
   by_cases e : zs = []
   ·exact e
   ·obtain ⟨b, off, hh, _⟩ := hr e
    cases hh
  subst hz
  have := hc rfl
  subst this
  refine ⟨a, c, xs, w, run_append_owned_none (P := Tryz.prog) (w := w) lo 32 ty 3 i0 1 Tryz.underlying32 hi0 _ _ _ hown.1, (by simp [Hid]), ⟨hown.1, Nat.le_refl _, fun k hk => (hown.1.lt k hk).2⟩, World.grownBy.refl _ _, fun k hk => .inl hk⟩
 | some ad =>
  obtain ⟨v', w', h1, h2, h3, _, h5⟩ := run_append_own_at (P := Tryz.prog) w lo 32 ty 3 i0 (.int .i64 0) 1 8 Tryz.underlying32 hi0 hz0 hz1 hz2 rfl (by decide) _ _ _ hown.1 ad zs.length sc (zs.map (Value.int .i64)) (by simp) (by
   intro j u hj
   have hjl : j < zs.length := by
    by_cases e : j < zs.length
    ·exact e
    ·simp [List.getElem?_eq_none (Nat.le_of_not_lt e)] at hj
   have hne : zs ≠ [] := by intro e; simp [e] at hjl
   obtain ⟨b, off, hh, hcell⟩ := hr hne
   cases hh
   rw [Addr_add, hcell j hjl]
   simpa [hjl] using hj) (ints_oneCell _ _) (by simp only [maxLen]; omega) (by omega) hlo
  rw [← List.map_append, ← List.length_append] at h2
  have sh : ∃ a' c', v' = .slice a' (xs ++ zs).length c' := by
   rcases h2.2 with ⟨rfl, h0⟩ | ⟨g, cap, cur, rfl, _⟩
   ·exact ⟨none, 0, by rw [h0]⟩
   ·exact ⟨_, _, rfl⟩
  obtain ⟨a', c', rfl⟩ := sh
  refine ⟨a', c', xs ++ zs, w', h1, rfl, ⟨h2, Nat.le_refl _, fun k hk => (h2.lt k hk).2⟩, h3, fun k hk => ?_⟩
  rcases h5 with h5 | h5
  ·exact .inl (by rw [← h5]; exact hk)
  ·rw [h5] at hk
   exact .inr (Option.some.inj hk).symm
theorem step_append_ints {w : World} {ops : Array Oper} {o : Oper} {act : Act} {K : Act → World → Prop} {Q : Exit → Act → World → Prop} {E : Prop} (hgd : o.guard = none) (s x : Operand)
  (ho : o.op = .call { callee := .builtin .append, args := #[s, x], argTypes := #[32, 32] })
  (lo hi : Nat) (a : Option Addr) (c : Nat) (xs : List Int) (hs : act.eval s = .slice a xs.length c) (hown : OwnI w lo hi a c xs)
  (sa : Option Addr) (sc : Nat) (zs : List Int) (hx : act.eval x = .slice sa zs.length sc) (hr : ReadsI w sa zs) (hc : sa = none → sc = 0)
  (hb : xs.length + zs.length ≤ 1099511627776) (hlo : lo ≤ w.heap.size)
  (h : ∀ a' c' ys w', Hid (ys = xs ++ zs) → OwnI w' lo w'.heap.size a' c' ys → w.grownBy w' (Value.slice a xs.length c).ownBlock →
   (∀ k, (Value.slice a' ys.length c').ownBlock = some k → (Value.slice a xs.length c).ownBlock = some k ∨ k = w.heap.size) → K (act.put o.dst (.slice a' ys.length c')) w') :
  if Region.wanted o (yielded ops act.tmps) = true then Oper.wp Tryz.prog o act w K Q else E := by
 have hw : Region.wanted o (yielded ops act.tmps) = true := by simp [Region.wanted, hgd]
 rw [if_pos hw]
 obtain ⟨a', c', ys, w', hrun, h1, h2, h3, h4⟩ := run_append_ints (w := w) o.type lo hi a c xs hown sa sc zs hr hc hb hlo
 unfold Oper.wp execOp
 simp only [ho, resolve, invoke, builtin, Sem.run_bind, Sem.run_pure, Result.andThen_ok, List.map_toArray, List.map_cons, List.map_nil, hs, hx, hrun]
 exact h a' c' ys w' h1 h2 h3 h4
structure ObjAt (w : World) (lo Bo : Nat) (o : ObjV) (aI : Option Addr) (cI : Nat) (aR : Option Addr) (cR : Nat) : Prop where
 box : Box w Bo [.int .i64 o.kind, .slice aI o.ints.length cI, .slice aR o.refs.length cR] 34
 own : OwnO w lo w.heap.size aI cI aR cR o
 lt : Bo < lo
theorem OwnO.kept {w w' : World} {lo hi : Nat} {aI : Option Addr} {cI : Nat} {aR : Option Addr} {cR : Nat} {o : ObjV} {B : Nat} (h : OwnO w lo hi aI cI aR cR o) (hg : w.grownBy w' (some B)) (hB : B < lo) : OwnO w' lo w'.heap.size aI cI aR cR o := by
 have h1 := h.ints.kept hg (fun k hk e => by have := (h.ints.lt k hk).1; cases e; omega)
 have h2 := h.refs.kept hg (fun k hk e => by have := (h.refs.lt k hk).1; cases e; omega)
 exact ⟨h1.widen (Nat.le_refl _) h1.2.1 (Nat.le_refl _), h2.widen (Nat.le_refl _) h2.2.1 (Nat.le_refl _), h.apart⟩
theorem ObjAt.kept {w w' : World} {lo Bo : Nat} {aI : Option Addr} {cI : Nat} {aR : Option Addr} {cR : Nat} {o : ObjV} {B : Nat} (h : ObjAt w lo Bo o aI cI aR cR) (hg : w.grownBy w' (some B)) (hB : B < Bo) : ObjAt w' lo Bo o aI cI aR cR :=
 ⟨h.box.block (hg.block Bo h.box.lt (fun e => by cases e; omega)), h.own.kept hg (by have := h.lt; omega), h.lt⟩
theorem ObjAt.alloc {w : World} {lo Bo : Nat} {aI : Option Addr} {cI : Nat} {aR : Option Addr} {cR : Nat} {o : ObjV} (h : ObjAt w lo Bo o aI cI aR cR) (ob : Obj) : ObjAt (w.alloc ob) lo Bo o aI cI aR cR :=
 ⟨h.box.alloc ob, (h.own.below ((Below.refl _ _).alloc (Nat.le_refl _) ob)).widen (Nat.le_refl _) (by simp) (Nat.le_refl _), h.lt⟩
theorem ObjAt.three {w : World} {lo Bo : Nat} {aI : Option Addr} {cI : Nat} {aR : Option Addr} {cR : Nat} {o : ObjV} (h : ObjAt w lo Bo o aI cI aR cR) :
  w.cell? ⟨Bo, 0, none⟩ = some (.int .i64 o.kind) ∧ w.cell? ⟨Bo, 1, none⟩ = some (.slice aI o.ints.length cI) ∧ w.cell? ⟨Bo, 2, none⟩ = some (.slice aR o.refs.length cR) ∧ w.frozen? ⟨Bo, 0, none⟩ = false ∧ w.frozen? ⟨Bo, 1, none⟩ = false ∧ w.frozen? ⟨Bo, 2, none⟩ = false := h.box.three
theorem Box.grown {w w' : World} {C B : Nat} {vs : List Value} {t : TypeId} (h : Box w C vs t) (hg : w.grownBy w' (some B)) (hne : C ≠ B) : Box w' C vs t := h.block (hg.block C h.lt (fun e => hne (Option.some.inj e)))
theorem CurAt.drew {w : World} {B : Nat} {zs : List Int} (h : CurAt w B zs) : CurAt w.drew B zs := h
theorem grown_drew (w : World) (r : Option Nat) : w.grownBy w.drew r := ⟨rfl, rfl, rfl, Nat.le_refl _, fun _ _ _ => rfl⟩
theorem ObjAt.pushI {w0 w w' : World} {lo Bo B : Nat} {aI : Option Addr} {cI : Nat} {aR : Option Addr} {cR : Nat} {o : ObjV} {zs : List Int} (h : ObjAt w lo Bo o aI cI aR cR) (hc : CurAt w B zs) (hB : B < Bo) (hg0 : w0.grownBy w (some B)) (h0 : w0.heap.size ≤ Bo)
  {a' : Option Addr} {c' : Nat} {ys : List Int} (ho : OwnI w' lo w'.heap.size a' c' ys) (hg : w.grownBy w' (Value.slice aI o.ints.length cI).ownBlock)
  (hat : ∀ k, (Value.slice a' ys.length c').ownBlock = some k → (Value.slice aI o.ints.length cI).ownBlock = some k ∨ k = w.heap.size) :
  (w'.cell? ⟨Bo, 1, none⟩ = some (.slice aI o.ints.length cI) ∧ w'.frozen? ⟨Bo, 1, none⟩ = false) ∧
  ObjAt (w'.setCell ⟨Bo, 1, none⟩ (.slice a' ys.length c')) lo Bo ⟨o.kind, ys, o.refs⟩ a' c' aR cR ∧ CurAt (w'.setCell ⟨Bo, 1, none⟩ (.slice a' ys.length c')) B zs ∧ w0.grownBy (w'.setCell ⟨Bo, 1, none⟩ (.slice a' ys.length c')) (some B) ∧ (∀ b, b < lo → b ≠ Bo → b < w.heap.size → (w'.setCell ⟨Bo, 1, none⟩ (.slice a' ys.length c')).heap[b]? = w.heap[b]?) := by
 have hlt := h.lt
 have hb' : Box w' Bo _ _ := h.box.block (hg.block Bo h.box.lt (fun e => by have := (h.own.ints.lt Bo e.symm).1; omega))
 have hbs := hb'.set 1 (.slice a' ys.length c')
 simp only [List.set] at hbs
 have hgs := grown_set w' Bo 1 (.slice a' ys.length c')
 have hR' := h.own.refs.kept hg (fun k hk e => h.own.apart k e hk)
 have hI2 := ho.kept hgs (fun k hk e => by have := (ho.lt k hk).1; cases e; omega)
 have hR2 := hR'.kept hgs (fun k hk e => by have := (hR'.lt k hk).1; cases e; omega)
 refine ⟨⟨hb'.cell 1 _ rfl, hb'.frozen 1⟩, ⟨hbs, ⟨hI2.widen (Nat.le_refl _) hI2.2.1 (Nat.le_refl _), hR2.widen (Nat.le_refl _) hR2.2.1 (Nat.le_refl _), fun k hk => ?_⟩, hlt⟩, ?_, ?_, ?_⟩
 ·rcases hat k hk with e | e
  ·exact h.own.apart k e
  ·intro e'
   have := (h.own.refs.lt k e').2
   omega
 ·exact (hc.kept hg (fun k e => by have := (h.own.ints.lt k e).1; omega)).kept hgs (fun k e => by cases e; omega)
 ·exact grownBy_new (grownBy_new hg0 hg (fun k e => by have := (h.own.ints.lt k e).1; omega)) hgs (fun k e => by cases e; omega)
 ·intro b hb hn hbl
  rw [hgs.block b (by have := hg.size; omega) (fun e => hn (Option.some.inj e))]
  exact hg.block b hbl (fun e => by have := (h.own.ints.lt b e.symm).1; omega)
theorem ObjAt.pushR {w0 w w' : World} {lo Bo B : Nat} {aI : Option Addr} {cI : Nat} {aR : Option Addr} {cR : Nat} {o : ObjV} {zs : List Int} (h : ObjAt w lo Bo o aI cI aR cR) (hc : CurAt w B zs) (hB : B < Bo) (hg0 : w0.grownBy w (some B)) (h0 : w0.heap.size ≤ Bo)
  {a' : Option Addr} {c' : Nat} {ys : List Int} (ho : OwnI w' lo w'.heap.size a' c' ys) (hg : w.grownBy w' (Value.slice aR o.refs.length cR).ownBlock)
  (hat : ∀ k, (Value.slice a' ys.length c').ownBlock = some k → (Value.slice aR o.refs.length cR).ownBlock = some k ∨ k = w.heap.size) :
  (w'.cell? ⟨Bo, 2, none⟩ = some (.slice aR o.refs.length cR) ∧ w'.frozen? ⟨Bo, 2, none⟩ = false) ∧
  ObjAt (w'.setCell ⟨Bo, 2, none⟩ (.slice a' ys.length c')) lo Bo ⟨o.kind, o.ints, ys⟩ aI cI a' c' ∧ CurAt (w'.setCell ⟨Bo, 2, none⟩ (.slice a' ys.length c')) B zs ∧ w0.grownBy (w'.setCell ⟨Bo, 2, none⟩ (.slice a' ys.length c')) (some B) ∧ (∀ b, b < lo → b ≠ Bo → b < w.heap.size → (w'.setCell ⟨Bo, 2, none⟩ (.slice a' ys.length c')).heap[b]? = w.heap[b]?) := by
 have hlt := h.lt
 have hb' : Box w' Bo _ _ := h.box.block (hg.block Bo h.box.lt (fun e => by have := (h.own.refs.lt Bo e.symm).1; omega))
 have hbs := hb'.set 2 (.slice a' ys.length c')
 simp only [List.set] at hbs
 have hgs := grown_set w' Bo 2 (.slice a' ys.length c')
 have hI' := h.own.ints.kept hg (fun k hk e => h.own.apart k hk e)
 have hR2 := ho.kept hgs (fun k hk e => by have := (ho.lt k hk).1; cases e; omega)
 have hI2 := hI'.kept hgs (fun k hk e => by have := (hI'.lt k hk).1; cases e; omega)
 refine ⟨⟨hb'.cell 2 _ rfl, hb'.frozen 2⟩, ⟨hbs, ⟨hI2.widen (Nat.le_refl _) hI2.2.1 (Nat.le_refl _), hR2.widen (Nat.le_refl _) hR2.2.1 (Nat.le_refl _), fun k hk => ?_⟩, hlt⟩, ?_, ?_, ?_⟩
 ·intro e'
  rcases hat k e' with e | e
  ·exact h.own.apart k hk e
  ·have := (h.own.ints.lt k hk).2
   omega
 ·exact (hc.kept hg (fun k e => by have := (h.own.refs.lt k e).1; omega)).kept hgs (fun k e => by cases e; omega)
 ·exact grownBy_new (grownBy_new hg0 hg (fun k e => by have := (h.own.refs.lt k e).1; omega)) hgs (fun k e => by cases e; omega)
 ·intro b hb hn hbl
  rw [hgs.block b (by have := hg.size; omega) (fun e => hn (Option.some.inj e))]
  exact hg.block b hbl (fun e => by have := (h.own.refs.lt b e.symm).1; omega)
theorem blA {W w' : World} (h : Below W.heap.size W w') (o : Obj) : Below W.heap.size W (w'.alloc o) := h.alloc h.size o
theorem blG {W w' w2 : World} {g : Nat} (h : Below W.heap.size W w') (hg : w'.grownBy w2 (some g)) (hn : W.heap.size ≤ g) : Below W.heap.size W w2 := h.grown hg h.size (fun k e => by cases e; exact hn)
theorem ownI_box0 {w : World} {g lo : Nat} (h : Box w g [] 3) (hlo : lo ≤ g) : OwnI w lo w.heap.size (some ⟨g, 0, none⟩) 0 [] :=
 ⟨⟨by simp, .inr ⟨g, 0, #[], rfl, hlo, h, Nat.le_refl _, by simp [maxLen], rfl, rfl⟩⟩, Nat.le_refl _, fun k hk => by cases hk; exact h.lt⟩
theorem l2Copy_any (o : ObjV) (aI : Option Addr) (cI : Nat) (aR : Option Addr) (cR : Nat) (w : World) (hr : ReadsO w aI cI aR cR o) (hlI : o.ints.length ≤ 1099511627776) (hlR : o.refs.length ≤ 1099511627776) :
  Calls Tryz.prog 103 #[.agg #[.int .i64 o.kind, .slice aI o.ints.length cI, .slice aR o.refs.length cR]] w fun e w' => ∃ aI' cI' aR' cR', e = .returned (.agg #[.int .i64 o.kind, .slice aI' o.ints.length cI', .slice aR' o.refs.length cR']) ∧
   OwnO w' w.heap.size w'.heap.size aI' cI' aR' cR' o ∧ Below w.heap.size w w' := by
 obtain ⟨k, ints, refs⟩ := o
 obtain ⟨hI, hR, hni, hnr⟩ := hr
 simp only at *
 obtain ⟨W, hW, b0, b1, hbW, hsW⟩ := boxes2 w [.int .i64 k, .slice aI ints.length cI, .slice aR refs.length cR] [.int .i64 0, .slice none 0 0, .slice none 0 0] 34 34
 have hI' := hI.below hbW
 have hR' := hR.below hbW
 have hwW : w.heap.size + 1 < W.heap.size := by omega
 clear hsW hI hR
 go_enter Tryz.func103, Tryz.ntmps103
 go_wp2_with fail
 rw [hW.out]
 clear hW
 have hkeep : ∀ w'', Below W.heap.size W w'' → Box w'' w.heap.size [.int .i64 k, .slice aI ints.length cI, .slice aR refs.length cR] 34 ∧ Box w'' (w.heap.size + 1) [.int .i64 0, .slice none 0 0, .slice none 0 0] 34 :=
  fun w'' hh => ⟨b0.below hh b0.lt, b1.below hh b1.lt⟩
 have hcells : ∀ w'', Below W.heap.size W w'' → (w''.cell? ⟨w.heap.size, 0, none⟩ = some (.int .i64 k) ∧ w''.cell? ⟨w.heap.size, 1, none⟩ = some (.slice aI ints.length cI) ∧ w''.cell? ⟨w.heap.size, 2, none⟩ = some (.slice aR refs.length cR)) ∧ (w''.cell? ⟨w.heap.size + 1, 0, none⟩ = some (.int .i64 0) ∧ w''.cell? ⟨w.heap.size + 1, 1, none⟩ = some (.slice none 0 0) ∧ w''.cell? ⟨w.heap.size + 1, 2, none⟩ = some (.slice none 0 0)) ∧ (w''.frozen? ⟨w.heap.size + 1, 0, none⟩ = false ∧ w''.frozen? ⟨w.heap.size + 1, 1, none⟩ = false ∧ w''.frozen? ⟨w.heap.size + 1, 2, none⟩ = false) := by
  intro w'' hh
  obtain ⟨ba, bb⟩ := hkeep w'' hh
  exact ⟨⟨ba.cell 0 _ rfl, ba.cell 1 _ rfl, ba.cell 2 _ rfl⟩, ⟨bb.cell 0 _ rfl, bb.cell 1 _ rfl, bb.cell 2 _ rfl⟩, bb.frozen 0, bb.frozen 1, bb.frozen 2⟩
 have hh := hcells W (Below.refl _ _)
 have q1 : Box (W.drew.alloc (.cells #[] 3)) W.heap.size [] 3 := box_new W.drew [] _
 have q2a : Box ((W.drew.alloc (.cells #[] 3)).alloc (.cells #[] 3)) W.heap.size [] 3 := (box_new W.drew [] _).alloc _
 have q2b : Box ((W.drew.alloc (.cells #[] 3)).alloc (.cells #[] 3)) (W.heap.size + 1) [] 3 := by
  have := box_new (W.drew.alloc (.cells #[] 3)) [] 3
  simpa using this
 have Q1 : Hid (_ ∧ _ ∧ _) := ⟨q1, q2a, q2b⟩
 clear q1 q2a q2b
 have HK : Hid _ := hkeep
 have HC : Hid _ := hcells
 have hne : ¬ (w.heap.size = w.heap.size + 1) := by omega
 have HNI : Hid _ := hni
 have HNR : Hid _ := hnr
 clear hkeep hcells b0 b1 hni hnr
 go_region_held3 (fun w'' => w''.cell? ⟨w.heap.size, 0, none⟩ = some (.int .i64 k) ∧ w''.cell? ⟨w.heap.size, 1, none⟩ = some (.slice aI ints.length cI) ∧ w''.cell? ⟨w.heap.size, 2, none⟩ = some (.slice aR refs.length cR))
  (first | exact (HC.out _ (by first | exact hb2 | exact hb1 | exact blA hb2 _ | exact blA hb1 _ | exact (Below.refl _ _).drew | exact blA (Below.refl _ _).drew _ | exact blA (blA (Below.refl _ _).drew _) _ | fail)).1 | exact ⟨((((HK.out _ (by first | exact hb2 | exact hb1 | fail)).1.other hne).other hne).other hne).cell 0 _ rfl, ((((HK.out _ (by first | exact hb2 | exact hb1 | fail)).1.other hne).other hne).other hne).cell 1 _ rfl, ((((HK.out _ (by first | exact hb2 | exact hb1 | fail)).1.other hne).other hne).other hne).cell 2 _ rfl⟩ | go_keep | fail)
  ((first
   | (refine step_append_ints rfl (.tmp 5) (.tmp 7) (by rfl) (w.heap.size + 1 + 1) _ _ _ [] (by rfl) (ownI_box0 (by first | exact Q1.out.1 | exact Q1.out.2.1 | exact Q1.out.2.2 | assumption | exact (Q1.out.2.2).grown hg1 (by dsimp only; omega) | exact (Q1.out.2.1).grown hg1 (by dsimp only; omega) | exact box_new _ [] _ | fail) (by first | omega | (have := hb1.size; omega))) aI cI ints (by rfl) (hI'.below (by first | exact hb2 | exact hb1 | exact blA hb2 _ | exact blA hb1 _ | exact (Below.refl _ _).drew | exact blA (Below.refl _ _).drew _ | exact blA (blA (Below.refl _ _).drew _) _ | fail)) HNI.out (by simp only [List.length_nil]; omega) (Nat.le_trans (by omega) (Below.size (B := W.heap.size) (w := W) (by first | exact hb2 | exact hb1 | exact blA hb2 _ | exact blA hb1 _ | exact (Below.refl _ _).drew | exact blA (Below.refl _ _).drew _ | exact blA (blA (Below.refl _ _).drew _) _ | fail))) ?_; intro a1 c1 y1 u1 hy1 hO1 hg1 hat1; have HA1 : Hid _ := hat1; clear hat1; have hyy : ints = y1 := (by simpa using hy1.out.symm); subst hyy; have hb1 := blG (W := W) (by first | exact hb2 | exact hb1 | exact blA hb2 _ | exact blA hb1 _ | exact (Below.refl _ _).drew | exact blA (Below.refl _ _).drew _ | exact blA (blA (Below.refl _ _).drew _) _ | fail) hg1 (by dsimp only; omega))
   | (refine step_append_ints rfl (.tmp 9) (.tmp 11) (by rfl) (w.heap.size + 1 + 1) _ _ _ [] (by rfl) (ownI_box0 (by first | exact Q1.out.1 | exact Q1.out.2.1 | exact Q1.out.2.2 | assumption | exact (Q1.out.2.2).grown hg1 (by dsimp only; omega) | exact (Q1.out.2.1).grown hg1 (by dsimp only; omega) | exact box_new _ [] _ | fail) (by first | omega | (have := hb1.size; omega))) aR cR refs (by rfl) (hR'.below (by first | exact hb2 | exact hb1 | exact blA hb2 _ | exact blA hb1 _ | exact (Below.refl _ _).drew | exact blA (Below.refl _ _).drew _ | exact blA (blA (Below.refl _ _).drew _) _ | fail)) HNR.out (by simp only [List.length_nil]; omega) (Nat.le_trans (by omega) (Below.size (B := W.heap.size) (w := W) (by first | exact hb2 | exact hb1 | exact blA hb2 _ | exact blA hb1 _ | exact (Below.refl _ _).drew | exact blA (Below.refl _ _).drew _ | exact blA (blA (Below.refl _ _).drew _) _ | fail))) ?_; intro a2 c2 y2 u2 hy2 hO2 hg2 hat2; have HA2 : Hid _ := hat2; clear hat2; have hyy : refs = y2 := (by simpa using hy2.out.symm); subst hyy; have hb2 := blG (W := W) (by first | exact hb2 | exact hb1 | exact blA hb2 _ | exact blA hb1 _ | exact (Below.refl _ _).drew | exact blA (Below.refl _ _).drew _ | exact blA (blA (Below.refl _ _).drew _) _ | fail) hg2 (by dsimp only; first | omega | (have := hb1.size; omega)); obtain ⟨⟨m0, m1, m2⟩, ⟨n0, n1, n2⟩, e0, e1, e2⟩ := HC.out _ hb2) | fail))
 all_goals
  have hO1' : OwnI u2 (w.heap.size + 1 + 1) u2.heap.size a1 c1 ints := by
   first
   | exact (hO1.kept hg2 (fun k hk e => by have h1 := HA1.out k hk; have h2 := (hO1.lt k hk).2; simp [Value.ownBlock] at h1 e; omega)).widen (Nat.le_refl _) hg2.size (Nat.le_refl _)
   | exact ((hO1.below ((Below.refl _ _).alloc (Nat.le_refl _) _)).kept hg2 (fun k hk e => by have h2 := (hO1.lt k hk).2; simp [Value.ownBlock] at e; omega)).widen (Nat.le_refl _) (Nat.le_trans (by simp) hg2.size) (Nat.le_refl _)
   | fail
  have hap : ∀ k, (Value.slice a1 ints.length c1).ownBlock = some k → (Value.slice a2 refs.length c2).ownBlock ≠ some k := by
   intro k hk hk'
   have h1 := HA1.out k hk
   have h2 := HA2.out k hk'
   have h3 := (hO1.lt k hk).2
   simp [Value.ownBlock] at h1 h2
   omega
  obtain ⟨WF, hWF, bF, hwF, hsF⟩ := box3_fill (HK.out _ hb2).2 (.int .i64 k) (.slice a1 ints.length c1) (.slice a2 refs.length c2)
  clear HA1 HA2 hg1 hg2 Q1 hb1 hO1
  rw [hWF.out]
  go_wp2
  obtain ⟨q0, q1, q2, _, _, _⟩ := bF.three
  have hs2 := hb2.size
  have hOF : OwnO WF (w.heap.size + 1 + 1) u2.heap.size a1 c1 a2 c2 ⟨k, ints, refs⟩ := (⟨hO1', hO2, hap⟩ : OwnO u2 (w.heap.size + 1 + 1) u2.heap.size a1 c1 a2 c2 ⟨k, ints, refs⟩).within hwF (.inr (by omega))
  exact bodyPost_ret (v := .agg #[.int .i64 k, .slice a1 ints.length c1, .slice a2 refs.length c2]) (by simp [results, Tryz.results103, go_sem, q0, q1, q2]) rfl ⟨a1, c1, a2, c2, rfl, hOF.widen (by omega) (by omega) (Nat.le_refl _), (hbW.trans (hb2.mono (by omega))).trans (hwF.below (by omega) (by omega))⟩
end Go.Proofs.YtoboickdkednkaaGreatDoor
namespace Go.Proofs.YtoboickdkednkaaGreatDoor
open Go.RowKit
theorem set_cons1 (v x : Value) (L : List Value) (i : Nat) : (v :: L).set (1 + i) x = v :: L.set i x := by rw [Nat.add_comm, List.set_cons_succ]
theorem pslot_fill {w : World} {B : Nat} {v : Value} {ss : List SlotA} {ty : TypeId} (b : Box w B (v :: cellsS ss) ty) (k : Nat) (hk : k < ss.length) (t : SlotA) :
  ∃ W, Hid ((((w.setCell ⟨B, 1 + k * 4, none⟩ (.bool t.v.has)).setCell ⟨B, 1 + k * 4 + 1, none⟩ (.int .i64 t.v.o.kind)).setCell ⟨B, 1 + k * 4 + 2, none⟩ (.slice t.aI t.v.o.ints.length t.cI)).setCell ⟨B, 1 + k * 4 + 3, none⟩ (.slice t.aR t.v.o.refs.length t.cR) = W) ∧ Box W B (v :: cellsS (ss.set k t)) ty ∧ Within B (B + 1) w W ∧ W.heap.size = w.heap.size := by
 refine ⟨_, rfl, ?_, ?_, ?_⟩
 ·have := (((b.set (1 + k * 4) (.bool t.v.has)).set (1 + k * 4 + 1) (.int .i64 t.v.o.kind)).set (1 + k * 4 + 2) (.slice t.aI t.v.o.ints.length t.cI)).set (1 + k * 4 + 3) (.slice t.aR t.v.o.refs.length t.cR)
  rw [Nat.add_assoc, Nat.add_assoc 1 (k * 4) 2, Nat.add_assoc 1 (k * 4) 3, set_cons1, set_cons1, set_cons1, set_cons1, cellsS_set ss k hk t] at this
  rw [Nat.add_assoc, Nat.add_assoc 1 (k * 4) 2, Nat.add_assoc 1 (k * 4) 3]
  exact this
 ·exact (((within_set w B _ _ (by omega)).trans (within_set _ B _ _ (by omega))).trans (within_set _ B _ _ (by omega))).trans (within_set _ B _ _ (by omega))
 ·simp
end Go.Proofs.YtoboickdkednkaaGreatDoor