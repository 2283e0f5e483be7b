/- Several texts in one, in their order. -/
import Derived.Test.YtoboickdkednkabDoorPBringx3
import Derived.Test.YtoboickdkednkabDoorPBringx4
import Derived.Test.YtoboickdkednkabDoorProg
import Derived.Test.YtoboickdkednkabDoorPBringx1
import Derived.Deep.QuietTactic
import Derived.BigQuiet
import Derived.Test.YtoboickdkednkabDoorPBringx2
set_option maxHeartbeats 8000000
set_option maxRecDepth 100000
namespace Go.Proofs.YtoboickdkednkabDoor
open Go.RowKit
def frameOf (zs : List Int) : List Int := (putOf zs.length ++ zs) ++ four (crcOf zs)
def Fit (ss : List SlotA) : Prop := ∀ s ∈ ss, s.v.o.ints.length ≤ 1099511627776 ∧ s.v.o.refs.length ≤ 1099511627776
def noS : SlotV := ⟨false, noO⟩
def slotB (s : SlotV) : Bool := if s.has then okB s.o else (decide (s.o.kind = 0) && (decide (s.o.ints.length = 0) && decide (s.o.refs.length = 0)))
def okP (n : Int) (vs : List SlotV) : Bool := vs.all slotB && inB n 0 1000000
theorem slotB_has {s : SlotV} (h : s.has = true) : slotB s = okB s.o := by unfold slotB; rw [if_pos h]
def nextSlotOf (zs : List Int) (s : Int × Bool) : SlotV × (Int × Bool) :=
 if (nextOf zs s).2.2 = true ∨ (nextOf zs s).1 = 0 then (noS, (nextOf zs s).2) else
 if (nextOf zs s).1 < 0 ∨ (zs.length : Int) - (nextOf zs s).2.1 < (nextOf zs s).1 then (noS, ((nextOf zs s).2.1, true)) else
 (⟨true, (getPair ((zs.drop (nextOf zs s).2.1.toNat).take (nextOf zs s).1.toNat)).1⟩, ((nextOf zs s).2.1 + (nextOf zs s).1, !(getPair ((zs.drop (nextOf zs s).2.1.toNat).take (nextOf zs s).1.toNat)).2))
theorem Box.pslot {w : World} {B : Nat} {v : Value} {ss : List SlotA} {t : TypeId} (b : Box w B (v :: cellsS ss) t) (k : Nat) (hk : k < ss.length) :
  w.cell? ⟨B, 1 + k * 4, none⟩ = some (.bool (ss.getD k zeroS).v.has) ∧ w.cell? ⟨B, 1 + k * 4 + 1, none⟩ = some (.int .i64 (ss.getD k zeroS).v.o.kind) ∧
  w.cell? ⟨B, 1 + k * 4 + 2, none⟩ = some (.slice (ss.getD k zeroS).aI (ss.getD k zeroS).v.o.ints.length (ss.getD k zeroS).cI) ∧ w.cell? ⟨B, 1 + k * 4 + 3, none⟩ = some (.slice (ss.getD k zeroS).aR (ss.getD k zeroS).v.o.refs.length (ss.getD k zeroS).cR) ∧
  (∀ i, w.frozen? ⟨B, i, none⟩ = false) := by
 have key : ∀ j, j < 4 → (v :: cellsS ss)[1 + k * 4 + j]? = (ss.getD k zeroS).cells[j]? := fun j hj => by
  rw [show 1 + k * 4 + j = (k * 4 + j) + 1 by omega, List.getElem?_cons_succ]
  exact cellsS_at ss k j hk hj
 exact ⟨b.cell _ _ (key 0 (by omega)), b.cell _ _ (key 1 (by omega)), b.cell _ _ (key 2 (by omega)), b.cell _ _ (key 3 (by omega)), fun i => b.frozen i⟩
theorem slotB_of (o : ObjV) (a b c : Bool) (h1 : decide (o.kind = 0) = a) (h2 : decide (o.ints.length = 0) = b) (h3 : decide (o.refs.length = 0) = c) : slotB ⟨false, o⟩ = (a && (b && c)) := by
 rw [← h1, ← h2, ← h3]; rfl
theorem l3Slot_any (s : SlotA) (w : World) (hr : s.reads w) (hl : Fit [s]) :
  Calls Tryd.prog 44 #[.agg s.cells.toArray] w fun e w' => e = .returned (.bool (slotB s.v)) ∧ Below w.heap.size w w' := by
 obtain ⟨h1, h2⟩ := hl s (List.mem_singleton.2 rfl)
 obtain ⟨W, hW, b0, hbW, hsW⟩ := boxes1 w s.cells 40
 have hr' : s.reads W := ReadsO.below hr hbW
 obtain ⟨⟨h, o⟩, aI, cI, aR, cR⟩ := s
 simp only [SlotA.cells, SlotA.reads] at *
 cases h with
 | true =>
  have C1 := specObjOk_any o aI cI aR cR W hr' (by omega) (by omega)
  have HE : Hid (slotB ⟨true, o⟩ = okB o) := slotB_has rfl
  generalize slotB ⟨true, o⟩ = R at *
  go_enter Tryd.func44, Tryd.ntmps44
  go_wp2_with fail
  rw [hW.out]
  refine C1.mono ?_
  rintro e w1 ⟨rfl, hb1⟩
  go_wp2
  go_ret
  exact ⟨ret_bool HE.out.symm, hbW.trans (hb1.mono hbW.size)⟩
 | false =>
  have HE := slotB_of o
  generalize slotB ⟨false, o⟩ = R at *
  obtain ⟨k, ints, refs⟩ := o
  obtain ⟨x0, x1, x2, x3, _⟩ := b0.four
  simp only at *
  by_cases hk : k = 0
  case neg =>
   have HR : Hid (R = false) := HE false _ _ (decide_eq_false hk) rfl rfl
   have hkb : (k == 0) = false := by simpa using hk
   clear HE hk
   go_enter Tryd.func44, Tryd.ntmps44
   go_wp2
   go_ret
   exact ⟨ret_bool HR.out.symm, by rw [hW.out]; exact hbW⟩
  case pos =>
  subst hk
  by_cases hi : ints.length = 0
  case neg =>
   have HR : Hid (R = false) := HE true false _ (decide_eq_true rfl) (decide_eq_false hi) rfl
   have hib : ((ints.length : Int) == 0) = false := by simp; exact fun e => hi (by rw [e]; rfl)
   clear HE hi
   go_enter Tryd.func44, Tryd.ntmps44
   go_wp2
   go_ret
   exact ⟨ret_bool HR.out.symm, by rw [hW.out]; exact hbW⟩
  case pos =>
  by_cases hj : refs.length = 0
  case neg =>
   have HR : Hid (R = false) := HE true true false (decide_eq_true rfl) (decide_eq_true hi) (decide_eq_false hj)
   have hib : ((ints.length : Int) == 0) = true := by simp; exact List.length_eq_zero_iff.1 hi
   have hjb : ((refs.length : Int) == 0) = false := by simp; exact fun e => hj (by rw [e]; rfl)
   clear HE hi hj
   go_enter Tryd.func44, Tryd.ntmps44
   go_wp2
   go_ret
   exact ⟨ret_bool HR.out.symm, by rw [hW.out]; exact hbW⟩
  case pos =>
   have HR : Hid (R = true) := HE true true true (decide_eq_true rfl) (decide_eq_true hi) (decide_eq_true hj)
   have hib : ((ints.length : Int) == 0) = true := by simp; exact List.length_eq_zero_iff.1 hi
   have hjb : ((refs.length : Int) == 0) = true := by simp; exact List.length_eq_zero_iff.1 hj
   clear HE hi hj
   go_enter Tryd.func44, Tryd.ntmps44
   go_wp2
   go_ret
   exact ⟨ret_bool HR.out.symm, by rw [hW.out]; exact hbW⟩
theorem okP_no {n : Int} {ss : List SlotA} (k : Nat) (hk : k < ss.length) (h : slotB (ss.getD k zeroS).v = false) : okP n (ss.map (·.v)) = false := by
 have : (ss.map (·.v)).all slotB = false := by
  rw [List.all_eq_false]
  exact ⟨(ss.getD k zeroS).v, List.mem_map.2 ⟨_, getD_mem hk, rfl⟩, by rw [h]; decide⟩
 simp [okP, this]
theorem okP_all {n : Int} {ss : List SlotA} (h : ∀ j, j < ss.length → slotB (ss.getD j zeroS).v = true) : okP n (ss.map (·.v)) = inB n 0 1000000 := by
 have : (ss.map (·.v)).all slotB = true := by
  rw [List.all_eq_true]
  intro v hv
  obtain ⟨s, hs, rfl⟩ := List.mem_map.1 hv
  obtain ⟨j, hj, rfl⟩ := List.getElem_of_mem hs
  have := h j hj
  simpa [List.getD, hj] using this
 simp [okP, this]
theorem specPageOk_any (p : PageA) (h4 : p.ss.length = 4) (w : World) (hr : ReadsS w p.ss) (hl : Fit p.ss) :
  Calls Tryd.prog 23 #[.agg p.cells.toArray] w fun e w' => e = .returned (.bool (okP p.lsn (p.ss.map (·.v)))) ∧ Below w.heap.size w w' := by
 obtain ⟨n, ss⟩ := p
 simp only [PageA.cells] at *
 obtain ⟨W, hW, b0, hbW, hsW⟩ := boxes1 w (.int .i64 n :: cellsS ss) 43
 have H4 : Hid (ss.length = 4) := h4
 have HNO : Hid (∀ k, k < ss.length → slotB (ss.getD k zeroS).v = false → okP n (ss.map (·.v)) = false) := fun k hk h => okP_no k hk h
 have HAL : Hid ((∀ j, j < ss.length → slotB (ss.getD j zeroS).v = true) → okP n (ss.map (·.v)) = inB n 0 1000000) := fun h => okP_all h
 generalize okP n (ss.map (·.v)) = R at *
 clear hsW h4
 go_enter Tryd.func23, Tryd.ntmps23
 go_wp2_with fail
 rw [hW.out]
 clear hW
 go_loopw [3] (fun i wr => ∃ (k : Nat), i = .int .i64 k ∧ k ≤ 4 ∧ Hid (∀ j, j < k → slotB (ss.getD j zeroS).v = true) ∧ Below W.heap.size W wr)
  (fun i _ => 4 - (intOf i).toNat)
 case atStart => exact ⟨0, rfl, by omega, fun j hj => by omega, Below.refl _ _⟩
 case round =>
  obtain ⟨k, rfl, hk, hall, hbl⟩ := hrel
  have b0r := b0.below hbl b0.lt
  have hbT : Below w.heap.size w wr := hbW.trans (hbl.mono hbW.size)
  by_cases hlt : k < 4
  ·have hkl : k < ss.length := by rw [H4.out]; exact hlt
   obtain ⟨c0, c1, c2, c3, _⟩ := b0r.pslot k hkl
   have hi0 : (0 : Int) ≤ (k : Int) := by omega
   have hi4 : (k : Int) < 4 := by omega
   have hrk := (hr _ (getD_mem hkl)).below hbT
   have hlk : Fit [ss.getD k zeroS] := fun s hs => by obtain rfl := List.mem_singleton.1 hs; exact hl _ (getD_mem hkl)
   have C := l3Slot_any (ss.getD k zeroS) wr hrk hlk
   simp only [SlotA.cells] at C
   cases hz : slotB (ss.getD k zeroS).v with
   | false =>
    have HR : Hid (R = false) := HNO.out k hkl hz
    rw [hz] at C
    clear hz
    generalize ss.getD k zeroS = s at *
    go_wp2_with fail
    refine C.mono ?_
    rintro e w1 ⟨rfl, hb1⟩
    go_wp2
    go_ret
    exact ⟨ret_bool HR.out.symm, hbT.trans (hb1.mono hbT.size)⟩
   | true =>
    have HN : Hid (∀ j, j < k + 1 → slotB (ss.getD j zeroS).v = true) := by
     intro j hj
     by_cases e : j = k
     ·rw [e]; exact hz
     ·exact hall.out j (by omega)
    rw [hz] at C
    clear hz hrk hlk
    generalize hs : ss.getD k zeroS = s at *
    clear hs
    go_wp2_with fail
    refine C.mono ?_
    rintro e w1 ⟨rfl, hb1⟩
    clear C
    go_wp2_with fail
    go_roundw
    case rel => exact ⟨k + 1, by go_num, by omega, HN, hbl.trans (hb1.mono hbl.size)⟩
    case measure => simp [intOf]; omega
  ·have hkk : ¬ (k : Int) < 4 := by omega
   have HR : Hid (R = inB n 0 1000000) := HAL.out (fun j hj => hall.out j (by rw [H4.out] at hj; omega))
   have c0 := b0r.cell 0 _ rfl
   go_wp2_with fail
   refine (l1In_any _ _ _ _).mono ?_
   rintro e w' ⟨rfl, rfl⟩
   go_wp2
   go_ret
   exact ⟨ret_bool HR.out.symm, hbT⟩
end Go.Proofs.YtoboickdkednkabDoor
namespace Go.Proofs.YtoboickdkednkabDoor
open Go.RowKit
end Go.Proofs.YtoboickdkednkabDoor