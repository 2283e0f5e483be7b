/- Several texts in one, in their order. -/
import Derived.Test.YtoboickdkednkabDoorPBringx2
import Derived.Deep.MidRow
import Derived.Test.YtoboickdkednkabDoorPBringx1
import Derived.Deep.RegionHeld3
import Derived.Deep.QuietTactic
import Derived.BigQuiet
import Derived.WalkKit
import Derived.Test.YtoboickdkednkabDoorProg
set_option maxHeartbeats 8000000
set_option maxRecDepth 100000
namespace Go.Proofs.YtoboickdkednkabDoor
open Go.RowKit
theorem Box.range {w : World} {B : Nat} {t : TypeId} (pre cs post : List Value) (b : Box w B (pre ++ (cs ++ post)) t) : w.rangeAt B pre.length cs := by
 intro j v hv
 have hj : j < cs.length := (List.getElem?_eq_some_iff.1 hv).1
 refine b.cell _ v ?_
 rw [List.getElem?_append_right (by omega), List.getElem?_append_left (by omega)]
 rw [show pre.length + j - pre.length = j by omega]
 exact hv
theorem Box.there {w : World} {B : Nat} {vs : List Value} {t : TypeId} (b : Box w B vs t) (o n : Nat) (h : o + n ≤ vs.length) : w.there B o n := fun j hj =>
 ⟨by rw [b.cell (o + j) _ (List.getElem?_eq_getElem (by omega))]; rfl, b.frozen _⟩
theorem set_range (pre post : List Value) : ∀ (old cs : List Value), old.length = cs.length → ∀ (w : World) (B : Nat) (t : TypeId), Box w B (pre ++ (old ++ post)) t → Box (w.setCells B pre.length cs) B (pre ++ (cs ++ post)) t := by
 intro old
 induction old generalizing pre with
 | nil => intro cs h w B t b; obtain rfl := List.length_eq_zero_iff.1 h.symm; exact b
 | cons x r ih =>
  intro cs h w B t b
  obtain ⟨c, cr, rfl⟩ : ∃ c cr, cs = c :: cr := by
   cases cs with
   | nil => simp at h
   | cons c cr => exact ⟨c, cr, rfl⟩
  have hb := b.set pre.length c
  rw [List.set_append_right _ _ (Nat.le_refl _), Nat.sub_self] at hb
  simp only [List.cons_append, List.set_cons_zero] at hb
  have hb' : Box (w.setCell ⟨B, pre.length, none⟩ c) B ((pre ++ [c]) ++ (r ++ post)) t := by simpa using hb
  have := ih (pre ++ [c]) cr (by simpa using h) _ B t hb'
  simp only [List.length_append, List.length_singleton] at this
  rw [World.setCells]
  simpa using this
theorem range_fill {w : World} {B : Nat} {t : TypeId} (pre old cs post : List Value) (b : Box w B (pre ++ (old ++ post)) t) (h : old.length = cs.length) :
  ∃ W, Hid (w.setCells B pre.length cs = W) ∧ Box W B (pre ++ (cs ++ post)) t ∧ Within B (B + 1) w W ∧ W.heap.size = w.heap.size := by
 refine ⟨_, rfl, set_range pre post old cs h w B t b, within_setCells _ _ _ _, ?_⟩
 have h1 := (within_setCells B pre.length cs w).size
 have : ∀ (vs : List Value) (o : Nat) (w : World), (w.setCells B o vs).heap.size = w.heap.size := by
  intro vs
  induction vs with
  | nil => intro o w; rfl
  | cons v r ih => intro o w; rw [World.setCells, ih]; simp
 exact this _ _ _
theorem oneS (ss : List SlotA) : ∀ v ∈ cellsS ss, v.oneCell' = true := by
 intro v hv
 obtain ⟨s, _, hs⟩ := List.mem_flatMap.1 hv
 simp only [SlotA.cells, List.mem_cons, List.not_mem_nil, or_false] at hs
 rcases hs with rfl | rfl | rfl | rfl <;> rfl
structure PageA where
 lsn : Int
 ss : List SlotA
def PageA.cells (p : PageA) : List Value := .int .i64 p.lsn :: cellsS p.ss
theorem oneP (p : PageA) : ∀ v ∈ p.cells, v.oneCell' = true := by
 intro v hv
 rcases List.mem_cons.1 hv with rfl | h
 ·rfl
 ·exact oneS _ v h
theorem page_len (p : PageA) (h : p.ss.length = 4) : p.cells.length = 17 := by simp [PageA.cells, cellsS_len, h]
structure RecV where
 lsn : Int
 tx : Int
 prev : Int
 kind : Int
 oid : Int
 bf : SlotV
 af : SlotV
 next : Int
 txs : List LiveV
structure RecA where
 lsn : Int
 tx : Int
 prev : Int
 kind : Int
 oid : Int
 bf : SlotA
 af : SlotA
 next : Int
 txs : List LiveV
 aL : Option Addr
 cL : Nat
def RecA.v (r : RecA) : RecV := ⟨r.lsn, r.tx, r.prev, r.kind, r.oid, r.bf.v, r.af.v, r.next, r.txs⟩
def RecA.cells (r : RecA) : List Value := [.int .i64 r.lsn, .int .i64 r.tx, .int .i64 r.prev, .int .i64 r.kind, .int .i64 r.oid, .bool r.bf.v.has, .int .i64 r.bf.v.o.kind, .slice r.bf.aI r.bf.v.o.ints.length r.bf.cI, .slice r.bf.aR r.bf.v.o.refs.length r.bf.cR, .bool r.af.v.has, .int .i64 r.af.v.o.kind, .slice r.af.aI r.af.v.o.ints.length r.af.cI, .slice r.af.aR r.af.v.o.refs.length r.af.cR, .int .i64 r.next, .slice r.aL r.txs.length r.cL]
structure RecA.reads (w : World) (r : RecA) : Prop where
 bf : r.bf.reads w
 af : r.af.reads w
 txs : ReadsL w r.aL r.txs
theorem RecA.reads.below {w w' : World} {r : RecA} (h : r.reads w) (hb : Below w.heap.size w w') : r.reads w' := ⟨ReadsO.below h.bf hb, ReadsO.below h.af hb, h.txs.below hb⟩
def RecA.blocks (r : RecA) : List Nat := r.bf.blocks ++ (r.af.blocks ++ (Value.slice r.aL r.txs.length r.cL).ownBlock.toList)
def szOf (n : Nat) (left : Int) : Int := if left - n < 0 then -1 else left - n
theorem szIntS_any (a : Option Addr) (c n : Nat) (left : Int) (w : World) (hn : n ≤ 9223372036854775807) (h0 : 0 ≤ left ∧ left ≤ 1048576) :
  Calls Tryd.prog 66 #[.slice a n c, .int .i64 left] w fun e w' => e = .returned (.int .i64 (szOf n left)) ∧ w' = w := by
 by_cases h : left - n < 0
 ·have HS : Hid (szOf n left = -1) := by unfold szOf; rw [Hid, if_pos h]
  go_enter Tryd.func66, Tryd.ntmps66
  go_wp2
  go_ret
  exact ⟨ret_int HS.out.symm, rfl⟩
 ·have HS : Hid (szOf n left = left - n) := by unfold szOf; rw [Hid, if_neg h]
  go_enter Tryd.func66, Tryd.ntmps66
  go_wp2
  go_ret
  exact ⟨ret_int HS.out.symm, rfl⟩
def szObjOf (o : ObjV) (left : Int) : Int := if left - o.ints.length < 0 then -1 else if left - o.ints.length - o.refs.length < 0 then -1 else left - o.ints.length - o.refs.length
theorem szObj_any (o : ObjV) (aI : Option Addr) (cI : Nat) (aR : Option Addr) (cR : Nat) (left : Int) (w : World) (hnI : o.ints.length ≤ 9223372036854775807) (hnR : o.refs.length ≤ 9223372036854775807) (h0 : 0 ≤ left ∧ left ≤ 1048576) :
  Calls Tryd.prog 56 #[.agg #[.int .i64 o.kind, .slice aI o.ints.length cI, .slice aR o.refs.length cR], .int .i64 left] w fun e w' => e = .returned (.int .i64 (szObjOf o left)) ∧ Below w.heap.size w w' := by
 obtain ⟨k, ints, refs⟩ := o
 simp only at *
 obtain ⟨W, hW, b0, hbW, hsW⟩ := boxes1 w [.int .i64 k, .slice aI ints.length cI, .slice aR refs.length cR] 27
 have c2 := b0.cell 2 _ rfl
 by_cases h : left - ints.length < 0
 ·have HS : Hid (szObjOf ⟨k, ints, refs⟩ left = -1) := by unfold szObjOf; rw [Hid, if_pos h]
  have HZ : Hid (szOf ints.length left = -1) := by unfold szOf; rw [Hid, if_pos h]
  go_enter Tryd.func56, Tryd.ntmps56
  go_wp2_with fail
  rw [hW.out]
  refine (szIntS_any aI cI ints.length left W hnI h0).mono ?_
  rintro e w' ⟨rfl, rfl⟩
  rw [HZ.out]
  go_wp2
  go_ret
  exact ⟨ret_int HS.out.symm, hbW⟩
 ·have HZ : Hid (szOf ints.length left = left - ints.length) := by unfold szOf; rw [Hid, if_neg h]
  have hn1 : ¬ left < ints.length := by omega
  by_cases h2 : left - ints.length - refs.length < 0
  ·have HS : Hid (szObjOf ⟨k, ints, refs⟩ left = -1) := by unfold szObjOf; rw [Hid, if_neg h, if_pos h2]
   have HZ2 : Hid (szOf refs.length (left - ints.length) = -1) := by unfold szOf; rw [Hid, if_pos h2]
   go_enter Tryd.func56, Tryd.ntmps56
   go_wp2_with fail
   rw [hW.out]
   refine (szIntS_any aI cI ints.length left W hnI h0).mono ?_
   rintro e w' ⟨rfl, rfl⟩
   rw [HZ.out]
   go_wp2_with fail
   refine (szIntS_any aR cR refs.length (left - ints.length) _ hnR (by omega)).mono ?_
   rintro e w' ⟨rfl, rfl⟩
   rw [HZ2.out]
   go_wp2
   go_ret
   exact ⟨ret_int HS.out.symm, hbW⟩
  ·have HS : Hid (szObjOf ⟨k, ints, refs⟩ left = left - ints.length - refs.length) := by unfold szObjOf; rw [Hid, if_neg h, if_neg h2]
   have HZ2 : Hid (szOf refs.length (left - ints.length) = left - ints.length - refs.length) := by unfold szOf; rw [Hid, if_neg h2]
   go_enter Tryd.func56, Tryd.ntmps56
   go_wp2_with fail
   rw [hW.out]
   refine (szIntS_any aI cI ints.length left W hnI h0).mono ?_
   rintro e w' ⟨rfl, rfl⟩
   rw [HZ.out]
   go_wp2_with fail
   refine (szIntS_any aR cR refs.length (left - ints.length) _ hnR (by omega)).mono ?_
   rintro e w' ⟨rfl, rfl⟩
   rw [HZ2.out]
   go_wp2
   go_ret
   exact ⟨ret_int HS.out.symm, hbW⟩
def SzAns (ss : List SlotA) (left z : Int) : Prop := z < 0 ∨ (0 ≤ z ∧ z ≤ left ∧ ∀ s ∈ ss, s.v.o.ints.length ≤ 1048576 ∧ s.v.o.refs.length ≤ 1048576)
theorem szAns_obj (s : SlotA) (left : Int) (h : 0 ≤ left ∧ left ≤ 1048576) : SzAns [s] left (szObjOf s.v.o left) := by
 unfold SzAns szObjOf
 split
 ·exact .inl (by omega)
 ·split
  ·exact .inl (by omega)
  ·exact .inr ⟨by omega, by omega, by intro t ht; obtain rfl := List.mem_singleton.1 ht; omega⟩
def Small (ss : List SlotA) : Prop := ∀ s ∈ ss, s.v.o.ints.length ≤ 9223372036854775807 ∧ s.v.o.refs.length ≤ 9223372036854775807
theorem szSlot_any (s : SlotA) (left : Int) (w : World) (hn : Small [s]) (h0 : 0 ≤ left ∧ left ≤ 1048576) :
  Calls Tryd.prog 42 #[.agg s.cells.toArray, .int .i64 left] w fun e w' => ∃ z, e = .returned (.int .i64 z) ∧ SzAns [s] left z ∧ Below w.heap.size w w' := by
 have HA : Hid _ := szAns_obj s left h0
 obtain ⟨h1, h2⟩ := hn s (List.mem_singleton.2 rfl)
 obtain ⟨W, hW, b0, hbW, hsW⟩ := boxes1 w s.cells 29
 simp only [SlotA.cells] at *
 go_enter Tryd.func42, Tryd.ntmps42
 go_wp2_with fail
 rw [hW.out]
 refine (szObj_any s.v.o s.aI s.cI s.aR s.cR left W h1 h2 h0).mono ?_
 rintro e w1 ⟨rfl, hb1⟩
 generalize szObjOf s.v.o left = z at *
 clear hsW
 by_cases hz : z < 0
 ·go_wp2
  go_ret
  exact ⟨-1, rfl, .inl (by omega), hbW.trans (hb1.mono hbW.size)⟩
 ·go_wp2
  go_ret
  exact ⟨z, rfl, HA.out, hbW.trans (hb1.mono hbW.size)⟩
theorem szSlotA4_any (ss : List SlotA) (h4 : ss.length = 4) (left : Int) (w : World) (hn : Small ss) (h0 : 0 ≤ left ∧ left ≤ 1048576) :
  Calls Tryd.prog 19 #[.agg (cellsS ss).toArray, .int .i64 left] w fun e w' => ∃ z, e = .returned (.int .i64 z) ∧ SzAns ss left z ∧ Below w.heap.size w w' := by
 obtain ⟨W, hW, b0, hbW, hsW⟩ := boxes1 w (cellsS ss) 30
 have H4 : Hid (ss.length = 4) := h4
 clear hsW h4
 go_enter Tryd.func19, Tryd.ntmps19
 go_wp2_with fail
 rw [hW.out]
 clear hW
 go_loopw [1, 5] (fun l i wr => ∃ (k : Nat) (z : Int), i = .int .i64 k ∧ l = .int .i64 z ∧ k ≤ 4 ∧ (0 ≤ z ∧ z ≤ left) ∧ Hid (∀ s ∈ ss.take k, s.v.o.ints.length ≤ 1048576 ∧ s.v.o.refs.length ≤ 1048576) ∧ Below W.heap.size W wr)
  (fun _ i _ => 4 - (intOf i).toNat)
 case atStart => exact ⟨0, left, rfl, rfl, by omega, by omega, by intro s hs; simp at hs, Below.refl _ _⟩
 case round =>
  obtain ⟨k, z, rfl, rfl, hk, hz, hsm, hbl⟩ := hrel
  have b0r := b0.below hbl b0.lt
  by_cases hlt : k < 4
  ·have hkl : k < ss.length := by rw [H4.out]; exact hlt
   obtain ⟨c0, c1, c2, c3, _⟩ := b0r.slot k hkl
   have hnk : Small [ss.getD k zeroS] := fun s hs => by obtain rfl := List.mem_singleton.1 hs; exact hn _ (getD_mem hkl)
   have HV : Hid (∀ s ∈ ss.take (k + 1), s ∈ ss.take k ∨ s = ss.getD k zeroS) := by
    intro s hs
    rw [List.take_add_one, List.mem_append] at hs
    rcases hs with hs | hs
    ·exact .inl hs
    ·right
     simp only [List.getD, hkl, List.getElem?_eq_getElem, Option.toList_some, List.mem_singleton] at hs ⊢
     simpa using hs
   generalize ss.getD k zeroS = s at *
   go_wp2_with fail
   refine (szSlot_any s z wr hnk (by omega)).mono ?_
   clear c0 c1 c2 c3
   rintro e w1 ⟨z1, rfl, hz1, hb1⟩
   rcases hz1 with hneg | ⟨hp, hle, hs1⟩
   ·go_wp2
    go_ret
    exact ⟨-1, rfl, .inl (by omega), (hbW.trans (hbl.mono hbW.size)).trans (hb1.mono (Nat.le_trans hbW.size hbl.size))⟩
   ·have hz1n : ¬ z1 < 0 := by omega
    have HS : Hid (∀ s ∈ ss.take (k + 1), s.v.o.ints.length ≤ 1048576 ∧ s.v.o.refs.length ≤ 1048576) := by
     intro t ht
     rcases HV.out t ht with h | rfl
     ·exact hsm.out t h
     ·exact hs1 _ (List.mem_singleton.2 rfl)
    clear hs1 HV
    go_wp2_with fail
    go_roundw
    case rel => exact ⟨k + 1, z1, by go_num, rfl, by omega, by omega, HS, hbl.trans (hb1.mono hbl.size)⟩
    case measure => simp [intOf]; omega
  ·have hkk : ¬ (k : Int) < 4 := by omega
   have HS : Hid (∀ s ∈ ss, s.v.o.ints.length ≤ 1048576 ∧ s.v.o.refs.length ≤ 1048576) := by
    have h := hsm.out
    rw [List.take_of_length_le (by rw [H4.out]; omega)] at h
    exact h
   go_wp2
   go_ret
   exact ⟨z, rfl, .inr ⟨hz.1, hz.2, HS.out⟩, hbW.trans (hbl.mono hbW.size)⟩
theorem szPage_any (p : PageA) (h4 : p.ss.length = 4) (left : Int) (w : World) (hn : Small p.ss) (h0 : 0 ≤ left ∧ left ≤ 1048576) :
  Calls Tryd.prog 5 #[.agg p.cells.toArray, .int .i64 left] w fun e w' => ∃ z, e = .returned (.int .i64 z) ∧ SzAns p.ss left z ∧ Below w.heap.size w w' := by
 obtain ⟨n, ss⟩ := p
 simp only [PageA.cells] at *
 obtain ⟨W, hW, b0, hbW, hsW⟩ := boxes1 w (.int .i64 n :: cellsS ss) 32
 have hrg0 : W.rangeAt w.heap.size 1 (cellsS ss) := Box.range [.int .i64 n] (cellsS ss) [] (by simpa using b0)
 have hi0 : (Tryd.prog.info? 30).map (·.size) = some (cellsS ss).length := by rw [cellsS_len, h4]; kernel_rfl
 go_enter Tryd.func5, Tryd.ntmps5
 go_wp2_with (first | (guard_target = wpList _ _ _ (Oper.mk (some 6) _ _ _ _ _ :: _) _ _; refine wpList_load_mid rfl 30 (.tmp 5) rfl w.heap.size 1 rfl (cellsS ss) _ (by rw [hW.out]; exact hrg0) Tryd.underlying30 rfl hi0 ?_) | fail)
 rw [hW.out]
 clear hW hrg0 hi0 hsW
 refine (szSlotA4_any ss h4 left W hn h0).mono ?_
 rintro e w1 ⟨z, rfl, hz, hb1⟩
 have HZ : Hid _ := hz
 clear hz
 by_cases hneg : z < 0
 ·go_wp2
  go_ret
  exact ⟨-1, rfl, .inl (by omega), hbW.trans (hb1.mono hbW.size)⟩
 ·go_wp2
  go_ret
  exact ⟨z, rfl, HZ.out, hbW.trans (hb1.mono hbW.size)⟩
theorem eqSlot_same (s t : SlotA) (he : t.v = s.v) (w : World) (hs : s.reads w) (ht : t.reads w) (hlI : s.v.o.ints.length ≤ 1099511627776) (hlR : s.v.o.refs.length ≤ 1099511627776) :
  Calls Tryd.prog 53 #[.agg s.cells.toArray, .agg t.cells.toArray] w fun e w' => e = .returned (.bool true) ∧ Below w.heap.size w w' := by
 obtain ⟨v, aI, cI, aR, cR⟩ := s
 obtain ⟨v', bI, dI, bR, dR⟩ := t
 simp only at he
 subst he
 obtain ⟨h, ⟨k, ints, refs⟩⟩ := v'
 simp only [SlotA.cells, SlotA.reads] at *
 obtain ⟨W, hW, b0, b1, hbW, hsW⟩ := boxes2 w [.bool h, .int .i64 k, .slice aI ints.length cI, .slice aR refs.length cR] [.bool h, .int .i64 k, .slice bI ints.length dI, .slice bR refs.length dR] 40 40
 go_enter Tryd.func53, Tryd.ntmps53
 go_wp2_with fail
 rw [hW.out]
 clear hW
 refine (eqObj_same ⟨k, ints, refs⟩ aI cI aR cR bI dI bR dR W (hs.below hbW) (ht.below hbW) hlI hlR).mono ?_
 rintro e w1 ⟨rfl, hb1⟩
 go_wp2
 go_ret
 exact ⟨rfl, hbW.trans (hb1.mono hbW.size)⟩
theorem same_at {ss ts : List SlotA} (h : ts.map (·.v) = ss.map (·.v)) (k : Nat) : (ts.getD k zeroS).v = (ss.getD k zeroS).v := by
 have := congrArg (fun l => l[k]?) h
 simp only [List.getElem?_map] at this
 simp only [List.getD]
 cases h1 : ts[k]? <;> cases h2 : ss[k]? <;> simp_all
theorem eqSlotA4_same (ss ts : List SlotA) (h4 : ss.length = 4) (he : ts.map (·.v) = ss.map (·.v)) (w : World) (hs : ReadsS w ss) (ht : ReadsS w ts) (hl : ∀ s ∈ ss, s.v.o.ints.length ≤ 1099511627776 ∧ s.v.o.refs.length ≤ 1099511627776) :
  Calls Tryd.prog 36 #[.agg (cellsS ss).toArray, .agg (cellsS ts).toArray] w fun e w' => e = .returned (.bool true) ∧ Below w.heap.size w w' := by
 have htl : ts.length = 4 := by have := congrArg List.length he; simp only [List.length_map] at this; omega
 obtain ⟨W, hW, b0, b1, hbW, hsW⟩ := boxes2 w (cellsS ss) (cellsS ts) 41 41
 have H4 : Hid (ss.length = 4 ∧ ts.length = 4) := ⟨h4, htl⟩
 have HE : Hid _ := he
 clear hsW h4 htl he
 go_enter Tryd.func36, Tryd.ntmps36
 go_wp2_with fail
 rw [hW.out]
 clear hW
 go_loopw [5] (fun i wr => ∃ (k : Nat), i = .int .i64 k ∧ k ≤ 4 ∧ Below W.heap.size W wr)
  (fun i _ => 4 - (intOf i).toNat)
 case atStart => exact ⟨0, rfl, by omega, Below.refl _ _⟩
 case round =>
  obtain ⟨k, rfl, hk, hbl⟩ := hrel
  by_cases hlt : k < 4
  ·have hkl : k < ss.length := by rw [H4.out.1]; exact hlt
   have hkt : k < ts.length := by rw [H4.out.2]; exact hlt
   have hi0 : (0 : Int) ≤ (k : Int) := by omega
   have hi4 : (k : Int) < 4 := by omega
   have HC : Hid (∀ w'', Below W.heap.size W w'' → _ ∧ _) := fun w'' hh => ⟨(b0.below hh b0.lt).slot k hkl, (b1.below hh b1.lt).slot k hkt⟩
   have hsk := fun w'' (hh : Below W.heap.size W w'') => (hs _ (getD_mem hkl)).below (hbW.trans (hh.mono hbW.size))
   have htk := fun w'' (hh : Below W.heap.size W w'') => (ht _ (getD_mem hkt)).below (hbW.trans (hh.mono hbW.size))
   have hlk := hl _ (getD_mem hkl)
   have hv := same_at HE.out k
   generalize ss.getD k zeroS = s at *
   generalize ts.getD k zeroS = t at *
   have HS : Hid (∀ w1, Below W.heap.size W w1 → (w1.cell? ⟨w.heap.size, k * 4, none⟩ = some (.bool s.v.has) ∧ w1.cell? ⟨w.heap.size, k * 4 + 1, none⟩ = some (.int .i64 s.v.o.kind) ∧ w1.cell? ⟨w.heap.size, k * 4 + 2, none⟩ = some (.slice s.aI s.v.o.ints.length s.cI) ∧ w1.cell? ⟨w.heap.size, k * 4 + 3, none⟩ = some (.slice s.aR s.v.o.refs.length s.cR)) ∧ (w1.cell? ⟨(w.heap.size + 1), k * 4, none⟩ = some (.bool t.v.has) ∧ w1.cell? ⟨(w.heap.size + 1), k * 4 + 1, none⟩ = some (.int .i64 t.v.o.kind) ∧ w1.cell? ⟨(w.heap.size + 1), k * 4 + 2, none⟩ = some (.slice t.aI t.v.o.ints.length t.cI) ∧ w1.cell? ⟨(w.heap.size + 1), k * 4 + 3, none⟩ = some (.slice t.aR t.v.o.refs.length t.cR))) := fun w1 hh => by
    obtain ⟨⟨c0, c1, c2, c3, _⟩, ⟨d0, d1, d2, d3, _⟩⟩ := HC.out w1 hh
    exact ⟨⟨c0, c1, c2, c3⟩, d0, d1, d2, d3⟩
   have HR : Hid (_ ∧ _ ∧ _) := ⟨hsk, htk, hlk⟩
   have hh := HS.out wr hbl
   have HV : Hid (t.v = s.v) := hv
   clear HC hsk htk hlk hv
   go_wp2_with fail
   go_region_held3 (fun w1 => (w1.cell? ⟨w.heap.size, k * 4, none⟩ = some (.bool s.v.has) ∧ w1.cell? ⟨w.heap.size, k * 4 + 1, none⟩ = some (.int .i64 s.v.o.kind) ∧ w1.cell? ⟨w.heap.size, k * 4 + 2, none⟩ = some (.slice s.aI s.v.o.ints.length s.cI) ∧ w1.cell? ⟨w.heap.size, k * 4 + 3, none⟩ = some (.slice s.aR s.v.o.refs.length s.cR)) ∧ (w1.cell? ⟨(w.heap.size + 1), k * 4, none⟩ = some (.bool t.v.has) ∧ w1.cell? ⟨(w.heap.size + 1), k * 4 + 1, none⟩ = some (.int .i64 t.v.o.kind) ∧ w1.cell? ⟨(w.heap.size + 1), k * 4 + 2, none⟩ = some (.slice t.aI t.v.o.ints.length t.cI) ∧ w1.cell? ⟨(w.heap.size + 1), k * 4 + 3, none⟩ = some (.slice t.aR t.v.o.refs.length t.cR)))
    (first | exact HS.out _ hw2 | go_keep | fail)
    ((first | (go_at_call 53; refine (eqSlot_same s t HV.out _ (HR.out.1 _ hbl.drew) (HR.out.2.1 _ hbl.drew) HR.out.2.2.1 HR.out.2.2.2).mono ?_; rintro e w2 ⟨rfl, hb2⟩; have hw2 : Below W.heap.size W w2 := (hbl.drew).trans (hb2.mono hbl.size)) | fail))
   all_goals
    go_wp2_with fail
    go_roundw
    case rel => exact ⟨k + 1, by go_num, by omega, hw2⟩
    case measure => simp [intOf]; omega
  ·have hkk : ¬ (k : Int) < 4 := by omega
   go_wp2
   go_ret
   exact ⟨rfl, hbW.trans (hbl.mono hbW.size)⟩
theorem eqPage_same (n : Int) (ss ts : List SlotA) (h4 : ss.length = 4) (he : ts.map (·.v) = ss.map (·.v)) (w : World) (hs : ReadsS w ss) (ht : ReadsS w ts) (hl : ∀ s ∈ ss, s.v.o.ints.length ≤ 1099511627776 ∧ s.v.o.refs.length ≤ 1099511627776) :
  Calls Tryd.prog 12 #[.agg (PageA.cells ⟨n, ss⟩).toArray, .agg (PageA.cells ⟨n, ts⟩).toArray] w fun e w' => e = .returned (.bool true) ∧ Below w.heap.size w w' := by
 have htl : ts.length = 4 := by have := congrArg List.length he; simp only [List.length_map] at this; omega
 simp only [PageA.cells]
 obtain ⟨W, hW, b0, b1, hbW, hsW⟩ := boxes2 w (.int .i64 n :: cellsS ss) (.int .i64 n :: cellsS ts) 43 43
 have hrg0 : W.rangeAt w.heap.size 1 (cellsS ss) := Box.range [.int .i64 n] (cellsS ss) [] (by simpa using b0)
 have hrg1 : W.rangeAt (w.heap.size + 1) 1 (cellsS ts) := Box.range [.int .i64 n] (cellsS ts) [] (by simpa using b1)
 have hi0 : (Tryd.prog.info? 41).map (·.size) = some (cellsS ss).length := by rw [cellsS_len, h4]; kernel_rfl
 have hi1 : (Tryd.prog.info? 41).map (·.size) = some (cellsS ts).length := by rw [cellsS_len, htl]; kernel_rfl
 have HI : Hid (_ ∧ _) := ⟨hi0, hi1⟩
 have HR : Hid (_ ∧ _) := ⟨hrg0, hrg1⟩
 clear hi0 hi1 hrg0 hrg1 hsW htl
 go_enter Tryd.func12, Tryd.ntmps12
 go_wp2_with (first | (guard_target = wpList _ _ _ (Oper.mk (some 11) _ _ _ _ _ :: _) _ _; refine wpList_load_mid rfl 41 (.tmp 10) rfl w.heap.size 1 rfl (cellsS ss) _ (by rw [hW.out]; exact HR.out.1) Tryd.underlying41 rfl HI.out.1 ?_) | (guard_target = wpList _ _ _ (Oper.mk (some 13) _ _ _ _ _ :: _) _ _; refine wpList_load_mid rfl 41 (.tmp 12) rfl (w.heap.size + 1) 1 rfl (cellsS ts) _ (by rw [hW.out]; exact HR.out.2) Tryd.underlying41 rfl HI.out.2 ?_) | fail)
 rw [hW.out]
 clear hW
 refine (eqSlotA4_same ss ts h4 he W (hs.below hbW) (ht.below hbW) hl).mono ?_
 rintro e w1 ⟨rfl, hb1⟩
 go_wp2
 go_ret
 exact ⟨rfl, hbW.trans (hb1.mono hbW.size)⟩
structure RecA.short (r : RecA) (m : Nat) : Prop where
 bf : r.bf.v.o.ints.length ≤ m ∧ r.bf.v.o.refs.length ≤ m
 af : r.af.v.o.ints.length ≤ m ∧ r.af.v.o.refs.length ≤ m
 txs : r.txs.length ≤ m
theorem ne_at {xs ys : List Int} (j : Nat) (h : xs.getD j 0 ≠ ys.getD j 0) : decide (xs = ys) = false := by
 rw [decide_eq_false_iff_not]
 intro e
 exact h (by rw [e])
theorem ne_len {xs ys : List Int} (h : xs.length ≠ ys.length) : decide (xs = ys) = false := by
 rw [decide_eq_false_iff_not]
 intro e
 exact h (by rw [e])
theorem eq_all {xs ys : List Int} (hl : xs.length = ys.length) (h : ∀ t, t < xs.length → xs.getD t 0 = ys.getD t 0) : decide (xs = ys) = true := by
 rw [decide_eq_true_eq]
 apply List.ext_getElem hl
 intro i h1 h2
 have := h i h1
 simpa [List.getD, h1, h2] using this
def sameO (a b : ObjV) : Bool := decide (a.kind = b.kind) && (decide (a.ints = b.ints) && decide (a.refs = b.refs))
end Go.Proofs.YtoboickdkednkabDoor
namespace Go.Proofs.YtoboickdkednkabDoor
def inB (x l m : Int) : Bool := decide (l ≤ x ∧ x ≤ m)
end Go.Proofs.YtoboickdkednkabDoor
namespace Go.Proofs.YtoboickdkednkabDoor
open Go.RowKit
theorem l1In_any (x l m : Int) (w : World) : Calls Tryd.prog 22 #[.int .i64 x, .int .i64 l, .int .i64 m] w fun e w' => e = .returned (.bool (inB x l m)) ∧ w' = w := by
 by_cases h1 : l ≤ x
 ·by_cases h2 : x ≤ m
  ·have HB : Hid (inB x l m = true) := by simp [Hid, inB, h1, h2]
   go_enter Tryd.func22, Tryd.ntmps22
   go_wp2
   go_ret
   exact ⟨ret_bool HB.out.symm, rfl⟩
  ·have HB : Hid (inB x l m = false) := by simp [Hid, inB, h2]
   go_enter Tryd.func22, Tryd.ntmps22
   go_wp2
   go_ret
   exact ⟨ret_bool HB.out.symm, rfl⟩
 ·have HB : Hid (inB x l m = false) := by simp [Hid, inB, h1]
  go_enter Tryd.func22, Tryd.ntmps22
  go_wp2
  go_ret
  exact ⟨ret_bool HB.out.symm, rfl⟩
def okB (o : ObjV) : Bool := inB o.kind 1 99 && (decide (o.ints.length ≤ 5) && (decide (o.refs.length ≤ 5) && (o.ints.all (fun z => inB z (-1000000) 1000000) && o.refs.all (fun z => inB z 0 31))))
theorem okB_kind {o : ObjV} (h : inB o.kind 1 99 = false) : okB o = false := by simp [okB, h]
theorem okB_ints {o : ObjV} (h : ¬ o.ints.length ≤ 5) : okB o = false := by simp [okB, h]
theorem okB_refs {o : ObjV} (h : ¬ o.refs.length ≤ 5) : okB o = false := by simp [okB, h]
theorem okB_int {o : ObjV} (j : Nat) (hj : j < o.ints.length) (h : inB (o.ints.getD j 0) (-1000000) 1000000 = false) : okB o = false := by
 have : (o.ints.all (fun z => inB z (-1000000) 1000000)) = false := by
  rw [List.all_eq_false]
  exact ⟨o.ints.getD j 0, by simp [List.getD, hj], by rw [h]; decide⟩
 simp [okB, this]
theorem okB_ref {o : ObjV} (j : Nat) (hj : j < o.refs.length) (h : inB (o.refs.getD j 0) 0 31 = false) : okB o = false := by
 have : (o.refs.all (fun z => inB z 0 31)) = false := by
  rw [List.all_eq_false]
  exact ⟨o.refs.getD j 0, by simp [List.getD, hj], by rw [h]; decide⟩
 simp [okB, this]
theorem okB_true {o : ObjV} (h1 : inB o.kind 1 99 = true) (h2 : o.ints.length ≤ 5) (h3 : o.refs.length ≤ 5) (h4 : ∀ j, j < o.ints.length → inB (o.ints.getD j 0) (-1000000) 1000000 = true) (h5 : ∀ j, j < o.refs.length → inB (o.refs.getD j 0) 0 31 = true) : okB o = true := by
 have a4 : (o.ints.all (fun z => inB z (-1000000) 1000000)) = true := by
  rw [List.all_eq_true]
  intro z hz
  obtain ⟨j, hj, rfl⟩ := List.getElem_of_mem hz
  have := h4 j hj
  simpa [List.getD, hj] using this
 have a5 : (o.refs.all (fun z => inB z 0 31)) = true := by
  rw [List.all_eq_true]
  intro z hz
  obtain ⟨j, hj, rfl⟩ := List.getElem_of_mem hz
  have := h5 j hj
  simpa [List.getD, hj] using this
 simp [okB, h1, h2, h3, a4, a5]
theorem specObjOk_any (o : ObjV) (aI : Option Addr) (cI : Nat) (aR : Option Addr) (cR : Nat) (w : World) (hr : ReadsO w aI cI aR cR o) (hnI : o.ints.length ≤ 140737488355328) (hnR : o.refs.length ≤ 140737488355328) :
  Calls Tryd.prog 57 #[.agg #[.int .i64 o.kind, .slice aI o.ints.length cI, .slice aR o.refs.length cR]] w fun e w' => e = .returned (.bool (okB o)) ∧ Below w.heap.size w w' := by
 obtain ⟨k, ints, refs⟩ := o
 obtain ⟨hI, hR, _, _⟩ := hr
 simp only at *
 obtain ⟨W, hW, b0, hbW, hsW⟩ := boxes1 w [.int .i64 k, .slice aI ints.length cI, .slice aR refs.length cR] 38
 have hI' := hI.below hbW
 have hR' := hR.below hbW
 have x1 := b0.cell 1 _ rfl
 have x2 := b0.cell 2 _ rfl
 cases hk : inB k 1 99 with
 | false =>
  have HK : Hid (_ = _) := hk
  have HE : Hid (okB ⟨k, ints, refs⟩ = false) := okB_kind hk
  clear hk
  go_enter Tryd.func57, Tryd.ntmps57
  go_wp2_with fail
  rw [hW.out]
  refine (l1In_any _ _ _ _).mono ?_
  rintro e w' ⟨rfl, rfl⟩
  rw [HK.out]
  go_wp2
  go_ret
  exact ⟨ret_bool HE.out.symm, hbW⟩
 | true =>
 have HK : Hid (_ = _) := hk
 clear hk
 by_cases h5 : ints.length ≤ 5
 case neg =>
  have HE : Hid (okB ⟨k, ints, refs⟩ = false) := okB_ints h5
  go_enter Tryd.func57, Tryd.ntmps57
  go_wp2_with fail
  rw [hW.out]
  refine (l1In_any _ _ _ _).mono ?_
  rintro e w' ⟨rfl, rfl⟩
  rw [HK.out]
  go_wp2
  go_ret
  exact ⟨ret_bool HE.out.symm, hbW⟩
 case pos =>
 by_cases h6 : refs.length ≤ 5
 case neg =>
  have HE : Hid (okB ⟨k, ints, refs⟩ = false) := okB_refs h6
  go_enter Tryd.func57, Tryd.ntmps57
  go_wp2_with fail
  rw [hW.out]
  refine (l1In_any _ _ _ _).mono ?_
  rintro e w' ⟨rfl, rfl⟩
  rw [HK.out]
  go_wp2
  go_ret
  exact ⟨ret_bool HE.out.symm, hbW⟩
 case pos =>
 go_enter Tryd.func57, Tryd.ntmps57
 go_wp2_with fail
 rw [hW.out]
 refine (l1In_any _ _ _ _).mono ?_
 rintro e w' ⟨rfl, rfl⟩
 rw [HK.out]
 go_wp2
 go_loop [3] (fun i => ∃ j : Nat, j ≤ ints.length ∧ i = .int .i64 j ∧ Hid (∀ t, t < j → inB (ints.getD t 0) (-1000000) 1000000 = true)) (fun i => ints.length - (intOf i).toNat)
 case atStart => exact ⟨0, by omega, rfl, fun t ht => by omega⟩
 case round =>
  obtain ⟨j, hj, rfl, hall⟩ := hrel
  by_cases hlt : j < ints.length
  ·rcases hI'.cases with rfl | ⟨b, off, rfl, hpos, hcell⟩
   ·simp at hlt
   have hc := hcell j hlt
   clear hcell
   cases hz : inB (ints.getD j 0) (-1000000) 1000000 with
   | false =>
    have HE : Hid (okB ⟨k, ints, refs⟩ = false) := okB_int j hlt hz
    have HZ : Hid (_ = _) := hz
    clear hz
    generalize ints.getD j 0 = z at *
    go_wp2_with fail
    refine (l1In_any _ _ _ _).mono ?_
    rintro e w' ⟨rfl, rfl⟩
    rw [HZ.out]
    go_wp2
    go_ret
    exact ⟨ret_bool HE.out.symm, hbW⟩
   | true =>
    have HN : Hid (∀ t, t < j + 1 → inB (ints.getD t 0) (-1000000) 1000000 = true) := by
     intro t ht
     by_cases e : t = j
     ·rw [e]; exact hz
     ·exact hall.out t (by omega)
    have HZ : Hid (_ = _) := hz
    clear hz
    generalize ints.getD j 0 = z at *
    go_wp2_with fail
    refine (l1In_any _ _ _ _).mono ?_
    rintro e w' ⟨rfl, rfl⟩
    rw [HZ.out]
    go_wp2
    go_round
    case rel => exact ⟨j + 1, by omega, by go_num, HN⟩
    case measure => simp [intOf]; omega
  ·have HALL : Hid (∀ t, t < ints.length → inB (ints.getD t 0) (-1000000) 1000000 = true) := fun t ht => hall.out t (by omega)
   go_wp2
   go_loop [4] (fun i => ∃ j : Nat, j ≤ refs.length ∧ i = .int .i64 j ∧ Hid (∀ t, t < j → inB (refs.getD t 0) 0 31 = true)) (fun i => refs.length - (intOf i).toNat)
   case atStart => exact ⟨0, by omega, rfl, fun t ht => by omega⟩
   case round =>
    obtain ⟨i, hi, rfl, hall2⟩ := hrel
    by_cases hlt2 : i < refs.length
    ·rcases hR'.cases with rfl | ⟨b, off, rfl, hpos, hcell⟩
     ·simp at hlt2
     have hc := hcell i hlt2
     clear hcell
     cases hz : inB (refs.getD i 0) 0 31 with
     | false =>
      have HE : Hid (okB ⟨k, ints, refs⟩ = false) := okB_ref i hlt2 hz
      have HZ : Hid (_ = _) := hz
      clear hz
      generalize refs.getD i 0 = z at *
      go_wp2_with fail
      refine (l1In_any _ _ _ _).mono ?_
      rintro e w' ⟨rfl, rfl⟩
      rw [HZ.out]
      go_wp2
      go_ret
      exact ⟨ret_bool HE.out.symm, hbW⟩
     | true =>
      have HN : Hid (∀ t, t < i + 1 → inB (refs.getD t 0) 0 31 = true) := by
       intro t ht
       by_cases e : t = i
       ·rw [e]; exact hz
       ·exact hall2.out t (by omega)
      have HZ : Hid (_ = _) := hz
      clear hz
      generalize refs.getD i 0 = z at *
      go_wp2_with fail
      refine (l1In_any _ _ _ _).mono ?_
      rintro e w' ⟨rfl, rfl⟩
      rw [HZ.out]
      go_wp2
      go_round
      case rel => exact ⟨i + 1, by omega, by go_num, HN⟩
      case measure => simp [intOf]; omega
    ·have HE : Hid (okB ⟨k, ints, refs⟩ = true) := okB_true HK.out h5 h6 HALL.out (fun t ht => hall2.out t (by simp only at ht; omega))
     go_wp2
     go_ret
     exact ⟨ret_bool HE.out.symm, hbW⟩
end Go.Proofs.YtoboickdkednkabDoor
namespace Go.Proofs.YtoboickdkednkabDoor
def groupsN : Nat → Nat → List Int
 | 0, m => [(m : Int)]
 | f + 1, m => if m < 128 then [(m : Int)] else ((m % 128 + 128 : Nat) : Int) :: groupsN f (m / 128)
def groups (m : Nat) : List Int := groupsN 64 m
def clampI (n : Int) : Int := if n > 1000000000000 then 1000000000000 else if n < -1000000000000 then -1000000000000 else n
def zig (n : Int) : Nat := if 0 ≤ clampI n then (2 * clampI n).toNat else (-2 * clampI n - 1).toNat
def putOf (n : Int) : List Int := groups (zig n)
end Go.Proofs.YtoboickdkednkabDoor
namespace Go.Proofs.YtoboickdkednkabDoor
open Go.RowKit
end Go.Proofs.YtoboickdkednkabDoor