/- Several texts in one, in their order. -/
import Derived.Test.YtoboickdkednkaaGreatDoorPFnTornx5
import Derived.Deep.RegionHeld3
import Derived.Test.YtoboickdkednkaaGreatDoorPFnTornx3
import Derived.Test.YtoboickdkednkaaGreatDoorPFnTornx4
import Derived.Deep.CutRange
import Derived.Deep.RegionLaw
import Derived.Deep.DrawnRows
import Derived.Test.YtoboickdkednkaaGreatDoorPFnTornx1
set_option maxHeartbeats 8000000
set_option maxRecDepth 100000
namespace Go.Proofs.YtoboickdkednkaaGreatDoor
open Go.RowKit
theorem kind_setDeed (tx prev oid : Int) (b a : SlotA) (w : World) : Calls Tryz.prog 95 #[.agg #[.int .i64 tx, .int .i64 prev, .int .i64 oid, .bool b.v.has, .int .i64 b.v.o.kind, .slice b.aI b.v.o.ints.length b.cI, .slice b.aR b.v.o.refs.length b.cR, .bool a.v.has, .int .i64 a.v.o.kind, .slice a.aI a.v.o.ints.length a.cI, .slice a.aR a.v.o.refs.length a.cR]] w fun e w' => e = .returned (.int .i64 1) ∧ Below w.heap.size w w' := by
 go_enter Tryz.func95, Tryz.ntmps95
 go_wp2
 go_ret
 exact ⟨rfl, (Below.refl _ _).alloc (Nat.le_refl _) _⟩
theorem kind_commitDeed (tx prev : Int) (w : World) : Calls Tryz.prog 97 #[.agg #[.int .i64 tx, .int .i64 prev]] w fun e w' => e = .returned (.int .i64 2) ∧ Below w.heap.size w w' := by
 go_enter Tryz.func97, Tryz.ntmps97
 go_wp2
 go_ret
 exact ⟨rfl, (Below.refl _ _).alloc (Nat.le_refl _) _⟩
theorem kind_abortDeed (tx prev : Int) (w : World) : Calls Tryz.prog 98 #[.agg #[.int .i64 tx, .int .i64 prev]] w fun e w' => e = .returned (.int .i64 3) ∧ Below w.heap.size w w' := by
 go_enter Tryz.func98, Tryz.ntmps98
 go_wp2
 go_ret
 exact ⟨rfl, (Below.refl _ _).alloc (Nat.le_refl _) _⟩
theorem kind_backDeed (tx prev oid : Int) (a : SlotA) (next : Int) (w : World) : Calls Tryz.prog 99 #[.agg #[.int .i64 tx, .int .i64 prev, .int .i64 oid, .bool a.v.has, .int .i64 a.v.o.kind, .slice a.aI a.v.o.ints.length a.cI, .slice a.aR a.v.o.refs.length a.cR, .int .i64 next]] w fun e w' => e = .returned (.int .i64 4) ∧ Below w.heap.size w w' := by
 go_enter Tryz.func99, Tryz.ntmps99
 go_wp2
 go_ret
 exact ⟨rfl, (Below.refl _ _).alloc (Nat.le_refl _) _⟩
theorem kind_endDeed (tx prev : Int) (w : World) : Calls Tryz.prog 100 #[.agg #[.int .i64 tx, .int .i64 prev]] w fun e w' => e = .returned (.int .i64 5) ∧ Below w.heap.size w w' := by
 go_enter Tryz.func100, Tryz.ntmps100
 go_wp2
 go_ret
 exact ⟨rfl, (Below.refl _ _).alloc (Nat.le_refl _) _⟩
theorem kind_checkDeed (ls : List LiveV) (aL : Option Addr) (cL : Nat) (w : World) : Calls Tryz.prog 101 #[.agg #[.slice aL ls.length cL]] w fun e w' => e = .returned (.int .i64 6) ∧ Below w.heap.size w w' := by
 go_enter Tryz.func101, Tryz.ntmps101
 go_wp2
 go_ret
 exact ⟨rfl, (Below.refl _ _).alloc (Nat.le_refl _) _⟩
theorem rec_load {w : World} {B : Nat} (r : RecA) (b : Box w B r.cells 39) : (loadVar 39 ⟨B, 0, none⟩).run Tryz.prog w = .ok (.agg r.cells.toArray) w :=
 run_loadVar_mid (P := Tryz.prog) w B 0 39 r.cells _ (Box.range [] r.cells [] (by simpa using b)) Tryz.underlying39 rfl (by show _ = some 15; kernel_rfl)
def recA (n tx prev kind : Int) : RecA := ⟨n, tx, prev, kind, 0, zeroS, zeroS, 0, [], none, 0⟩
theorem recAt_any (n tx prev kind : Int) (w : World) : Calls Tryz.prog 96 #[.int .i64 n, .agg #[.int .i64 tx, .int .i64 prev], .int .i64 kind] w fun e w' => e = .returned (.agg (recA n tx prev kind).cells.toArray) ∧ Below w.heap.size w w' := by
 obtain ⟨W, hW, b0, b1, hbW, hsW⟩ := boxes2 w [.int .i64 tx, .int .i64 prev] (recA n tx prev kind).cells 132 39
 have HL : Hid (_ = _) := rec_load (recA n tx prev kind) b1
 simp only [recA, RecA.cells, zeroS, List.length_nil] at hW
 clear hsW b0 b1
 go_enter Tryz.func96, Tryz.ntmps96
 go_wp2
 refine bodyPost_ret (v := .agg (recA n tx prev kind).cells.toArray) (results_one Tryz.results96 rfl ?_) rfl ⟨rfl, ?_⟩
 ·rw [show _ = W from hW.out]; exact HL.out
 ·rw [show _ = W from hW.out]; exact hbW
theorem recOf_set (n : Int) (tx prev oid : Int) (b a : SlotA) (w : World) :
  Calls Tryz.prog 69 #[.int .i64 n, issetDeed (setD tx prev oid b a)] w fun e w' => e = .returned (.agg (RecA.cells (⟨n, tx, prev, 1, oid, b, a, 0, [], none, 0⟩)).toArray) ∧ Below w.heap.size w w' := by
 obtain ⟨W, hW, b0, b1, hbW, hsW⟩ := boxes2 w [.int .i64 0, .int .i64 0, .int .i64 0, .int .i64 0, .int .i64 0, .bool false, .int .i64 0, .slice none 0 0, .slice none 0 0, .bool false, .int .i64 0, .slice none 0 0, .slice none 0 0, .int .i64 0, .slice none 0 0] [.int .i64 tx, .int .i64 prev, .int .i64 oid, .bool b.v.has, .int .i64 b.v.o.kind, .slice b.aI b.v.o.ints.length b.cI, .slice b.aR b.v.o.refs.length b.cR, .bool a.v.has, .int .i64 a.v.o.kind, .slice a.aI a.v.o.ints.length a.cI, .slice a.aR a.v.o.refs.length a.cR] 39 134
 simp only [issetDeed, setD]
 have a_setDeed := fun W => yes_setDeed W (.agg #[.int .i64 tx, .int .i64 prev, .int .i64 oid, .bool b.v.has, .int .i64 b.v.o.kind, .slice b.aI b.v.o.ints.length b.cI, .slice b.aR b.v.o.refs.length b.cR, .bool a.v.has, .int .i64 a.v.o.kind, .slice a.aI a.v.o.ints.length a.cI, .slice a.aR a.v.o.refs.length a.cR])
 have HB : Hid (∀ u, Below W.heap.size W u → Box u w.heap.size [.int .i64 0, .int .i64 0, .int .i64 0, .int .i64 0, .int .i64 0, .bool false, .int .i64 0, .slice none 0 0, .slice none 0 0, .bool false, .int .i64 0, .slice none 0 0, .slice none 0 0, .int .i64 0, .slice none 0 0] 39 ∧ Box u (w.heap.size + 1) [.int .i64 tx, .int .i64 prev, .int .i64 oid, .bool b.v.has, .int .i64 b.v.o.kind, .slice b.aI b.v.o.ints.length b.cI, .slice b.aR b.v.o.refs.length b.cR, .bool a.v.has, .int .i64 a.v.o.kind, .slice a.aI a.v.o.ints.length a.cI, .slice a.aR a.v.o.refs.length a.cR] 134) := fun u hu => ⟨b0.below hu b0.lt, b1.below hu b1.lt⟩
 have HC : Hid (∀ w', Box w' (w.heap.size + 1) [.int .i64 tx, .int .i64 prev, .int .i64 oid, .bool b.v.has, .int .i64 b.v.o.kind, .slice b.aI b.v.o.ints.length b.cI, .slice b.aR b.v.o.refs.length b.cR, .bool a.v.has, .int .i64 a.v.o.kind, .slice a.aI a.v.o.ints.length a.cI, .slice a.aR a.v.o.refs.length a.cR] 134 → w'.cell? ⟨w.heap.size + 1, 0, none⟩ = some (.int .i64 tx) ∧ w'.cell? ⟨w.heap.size + 1, 1, none⟩ = some (.int .i64 prev) ∧ w'.cell? ⟨w.heap.size + 1, 2, none⟩ = some (.int .i64 oid) ∧ w'.cell? ⟨w.heap.size + 1, 3, none⟩ = some (.bool b.v.has) ∧ w'.cell? ⟨w.heap.size + 1, 4, none⟩ = some (.int .i64 b.v.o.kind) ∧ w'.cell? ⟨w.heap.size + 1, 5, none⟩ = some (.slice b.aI b.v.o.ints.length b.cI) ∧ w'.cell? ⟨w.heap.size + 1, 6, none⟩ = some (.slice b.aR b.v.o.refs.length b.cR) ∧ w'.cell? ⟨w.heap.size + 1, 7, none⟩ = some (.bool a.v.has) ∧ w'.cell? ⟨w.heap.size + 1, 8, none⟩ = some (.int .i64 a.v.o.kind) ∧ w'.cell? ⟨w.heap.size + 1, 9, none⟩ = some (.slice a.aI a.v.o.ints.length a.cI) ∧ w'.cell? ⟨w.heap.size + 1, 10, none⟩ = some (.slice a.aR a.v.o.refs.length a.cR)) := fun w' b => ⟨b.cell 0 _ rfl, b.cell 1 _ rfl, b.cell 2 _ rfl, b.cell 3 _ rfl, b.cell 4 _ rfl, b.cell 5 _ rfl, b.cell 6 _ rfl, b.cell 7 _ rfl, b.cell 8 _ rfl, b.cell 9 _ rfl, b.cell 10 _ rfl⟩
 have hh := HC.out W b1
 have hlt := b1.lt
 have HI : Hid ((Tryz.prog.info? 39).map (·.size) = some 15) := by rw [Hid]; kernel_rfl
 have HO : Hid (_) := all_oneCell_toArray (oneR (⟨n, tx, prev, 1, oid, b, a, 0, [], none, 0⟩))
 clear hsW b0 b1
 go_enter Tryz.func69, Tryz.ntmps69
 go_wp2_with fail
 rw [hW.out]
 clear hW a_setDeed
 refine wp_region_held_drew (S := fun w' => w'.cell? ⟨w.heap.size + 1, 0, none⟩ = some (.int .i64 tx) ∧ w'.cell? ⟨w.heap.size + 1, 1, none⟩ = some (.int .i64 prev) ∧ w'.cell? ⟨w.heap.size + 1, 2, none⟩ = some (.int .i64 oid) ∧ w'.cell? ⟨w.heap.size + 1, 3, none⟩ = some (.bool b.v.has) ∧ w'.cell? ⟨w.heap.size + 1, 4, none⟩ = some (.int .i64 b.v.o.kind) ∧ w'.cell? ⟨w.heap.size + 1, 5, none⟩ = some (.slice b.aI b.v.o.ints.length b.cI) ∧ w'.cell? ⟨w.heap.size + 1, 6, none⟩ = some (.slice b.aR b.v.o.refs.length b.cR) ∧ w'.cell? ⟨w.heap.size + 1, 7, none⟩ = some (.bool a.v.has) ∧ w'.cell? ⟨w.heap.size + 1, 8, none⟩ = some (.int .i64 a.v.o.kind) ∧ w'.cell? ⟨w.heap.size + 1, 9, none⟩ = some (.slice a.aI a.v.o.ints.length a.cI) ∧ w'.cell? ⟨w.heap.size + 1, 10, none⟩ = some (.slice a.aR a.v.o.refs.length a.cR)) (by kernel_rfl) (HC.out _ (HB.out _ (Below.refl _ _).drew).2) (fun hHeld => ?_)
 refine tk 0 (v := .int .i64 n) rfl (Or.inl ⟨by rfl, ?_⟩) hHeld ?_
 ·intro w' hSw
  go_simp <;> rfl
 try simp only [Act.put, zA, zB, zD, zE, zF]
 refine tk 1 (v := .pointer (some ⟨w.heap.size + 1, 0, none⟩)) rfl (Or.inl ⟨by rfl, ?_⟩) hHeld ?_
 ·intro w' hSw
  go_simp <;> rfl
 try simp only [Act.put, zA, zB, zC, zD, zE, zF]
 refine tk 2 (v := .pointer (some ⟨w.heap.size + 1, 0, none⟩)) rfl (Or.inl ⟨by rfl, ?_⟩) hHeld ?_
 ·intro w' hSw
  go_simp <;> rfl
 try simp only [Act.put, zA, zB, zC, zD, zE, zF]
 refine tk 3 (v := .int .i64 tx) rfl (Or.inl ⟨by rfl, ?_⟩) hHeld ?_
 ·intro w' hSw
  go_simp <;> rfl
 try simp only [Act.put, zA, zB, zC, zD, zE, zF]
 refine tk 4 (v := .pointer (some ⟨w.heap.size + 1, 0, none⟩)) rfl (Or.inl ⟨by rfl, ?_⟩) hHeld ?_
 ·intro w' hSw
  go_simp <;> rfl
 try simp only [Act.put, zA, zB, zC, zD, zE, zF]
 refine tk 5 (v := .pointer (some ⟨w.heap.size + 1, 1, none⟩)) rfl (Or.inl ⟨by rfl, ?_⟩) hHeld ?_
 ·intro w' hSw
  go_simp <;> rfl
 try simp only [Act.put, zA, zB, zC, zD, zE, zF]
 refine tk 6 (v := .int .i64 prev) rfl (Or.inl ⟨by rfl, ?_⟩) hHeld ?_
 ·intro w' hSw
  go_simp <;> rfl
 try simp only [Act.put, zA, zB, zC, zD, zE, zF]
 refine tk 7 (v := .agg #[.int .i64 tx, .int .i64 prev, .int .i64 oid, .bool b.v.has, .int .i64 b.v.o.kind, .slice b.aI b.v.o.ints.length b.cI, .slice b.aR b.v.o.refs.length b.cR, .bool a.v.has, .int .i64 a.v.o.kind, .slice a.aI a.v.o.ints.length a.cI, .slice a.aR a.v.o.refs.length a.cR]) rfl (Or.inl ⟨by rfl, ?_⟩) hHeld ?_
 ·intro w' hSw
  go_simp <;> rfl
 try simp only [Act.put, zA, zB, zC, zD, zE, zF]
 refine tk 9 (v := .pointer (some ⟨w.heap.size + 1, 2, none⟩)) rfl (Or.inl ⟨by rfl, ?_⟩) hHeld ?_
 ·intro w' hSw
  go_simp <;> rfl
 try simp only [Act.put, zA, zB, zC, zD, zE, zF]
 refine tk 10 (v := .int .i64 oid) rfl (Or.inl ⟨by rfl, ?_⟩) hHeld ?_
 ·intro w' hSw
  go_simp <;> rfl
 try simp only [Act.put, zA, zB, zC, zD, zE, zF]
 refine tk 11 (v := .pointer (some ⟨w.heap.size + 1, 3, none⟩)) rfl (Or.inl ⟨by rfl, ?_⟩) hHeld ?_
 ·intro w' hSw
  go_simp <;> rfl
 try simp only [Act.put, zA, zB, zC, zD, zE, zF]
 refine tk 12 (v := .agg #[.bool b.v.has, .int .i64 b.v.o.kind, .slice b.aI b.v.o.ints.length b.cI, .slice b.aR b.v.o.refs.length b.cR]) rfl (Or.inl ⟨by rfl, ?_⟩) hHeld ?_
 ·intro w' hSw
  go_simp <;> rfl
 try simp only [Act.put, zA, zB, zC, zD, zE, zF]
 refine tk 13 (v := .pointer (some ⟨w.heap.size + 1, 7, none⟩)) rfl (Or.inl ⟨by rfl, ?_⟩) hHeld ?_
 ·intro w' hSw
  go_simp <;> rfl
 try simp only [Act.put, zA, zB, zC, zD, zE, zF]
 refine tk 14 (v := .agg #[.bool a.v.has, .int .i64 a.v.o.kind, .slice a.aI a.v.o.ints.length a.cI, .slice a.aR a.v.o.refs.length a.cR]) rfl (Or.inl ⟨by rfl, ?_⟩) hHeld ?_
 ·intro w' hSw
  go_simp <;> rfl
 try simp only [Act.put, zA, zB, zC, zD, zE, zF]
 refine wpAnyH_ready (rs := [8]) (by kernel_rfl) (by simp) ?_
 refine AllReadyH.cons rfl (fun K hK => ?_) AllReadyH.nil
 go_simp
 refine (kind_setDeed tx prev oid b a _).mono ?_
 rintro e u1 ⟨rfl, hb1⟩
 have hB1 : Below W.heap.size W u1 := ((Below.refl _ _).drew).trans hb1
 refine hK.out _ _ (HC.out _ (HB.out _ hB1).2) (fun hHeld => ?_)
 clear hK K
 try simp only [Act.put, zA, zB, zC, zD, zE, zF]
 have hBL := hB1
 refine tk 15 (v := .agg (RecA.cells (⟨n, tx, prev, 1, oid, b, a, 0, [], none, 0⟩)).toArray) rfl (Or.inl ⟨by rfl, ?_⟩) hHeld ?_
 ·intro w' hSw
  go_simp <;> rfl
 try simp only [Act.put, zA, zB, zC, zD, zE, zF]
 obtain ⟨WF, hWF, bF, hwF, hsF⟩ := range_fill [] [.int .i64 0, .int .i64 0, .int .i64 0, .int .i64 0, .int .i64 0, .bool false, .int .i64 0, .slice none 0 0, .slice none 0 0, .bool false, .int .i64 0, .slice none 0 0, .slice none 0 0, .int .i64 0, .slice none 0 0] (RecA.cells (⟨n, tx, prev, 1, oid, b, a, 0, [], none, 0⟩)) [] (by simpa using (HB.out _ hBL).1) rfl
 have HF : Hid (Below w.heap.size w WF) := (hbW.trans (hBL.mono hbW.size)).trans (hwF.below (by omega) (by have := hBL.size; omega))
 have HLD : Hid (_ = _) := rec_load (⟨n, tx, prev, 1, oid, b, a, 0, [], none, 0⟩) (by simpa using bF)
 have HS : Hid (WF.cell? ⟨w.heap.size + 1, 0, none⟩ = some (.int .i64 tx) ∧ WF.cell? ⟨w.heap.size + 1, 1, none⟩ = some (.int .i64 prev) ∧ WF.cell? ⟨w.heap.size + 1, 2, none⟩ = some (.int .i64 oid) ∧ WF.cell? ⟨w.heap.size + 1, 3, none⟩ = some (.bool b.v.has) ∧ WF.cell? ⟨w.heap.size + 1, 4, none⟩ = some (.int .i64 b.v.o.kind) ∧ WF.cell? ⟨w.heap.size + 1, 5, none⟩ = some (.slice b.aI b.v.o.ints.length b.cI) ∧ WF.cell? ⟨w.heap.size + 1, 6, none⟩ = some (.slice b.aR b.v.o.refs.length b.cR) ∧ WF.cell? ⟨w.heap.size + 1, 7, none⟩ = some (.bool a.v.has) ∧ WF.cell? ⟨w.heap.size + 1, 8, none⟩ = some (.int .i64 a.v.o.kind) ∧ WF.cell? ⟨w.heap.size + 1, 9, none⟩ = some (.slice a.aI a.v.o.ints.length a.cI) ∧ WF.cell? ⟨w.heap.size + 1, 10, none⟩ = some (.slice a.aR a.v.o.refs.length a.cR)) := HC.out _ ((HB.out _ hBL).2.within hwF (by omega))
 refine wpAnyH_ready (rs := [16]) (by kernel_rfl) (by simp) ?_
 refine AllReadyH.cons rfl (fun K hK => ?_) AllReadyH.nil
 rw [if_pos (by rfl)]
 refine wp_store_mid 39 (.tmp 4) (.tmp 30) rfl w.heap.size 0 (RecA.cells (⟨n, tx, prev, 1, oid, b, a, 0, [], none, 0⟩)).toArray rfl rfl ((HB.out _ hBL).1.there 0 _ (by show 0 + 15 ≤ 15; decide)) HI.out HO.out ?_
 have HW : Hid (u1.setCells w.heap.size 0 (RecA.cells (⟨n, tx, prev, 1, oid, b, a, 0, [], none, 0⟩)).toArray.toList = WF) := hWF.out
 rw [HW.out]
 refine hK.out _ _ HS.out (fun hHeld => ?_)
 refine wpAnyH_done (by kernel_rfl) ?_ _
 clear hwF hWF HW hK K HS
 go_wp2
 exact bodyPost_ret (v := .agg (RecA.cells (⟨n, tx, prev, 1, oid, b, a, 0, [], none, 0⟩)).toArray) (results_one Tryz.results69 rfl HLD.out) rfl ⟨rfl, HF.out⟩
theorem recOf_commit (n : Int) (tx prev : Int) (w : World) :
  Calls Tryz.prog 69 #[.int .i64 n, iscommitDeed (linkD tx prev)] w fun e w' => e = .returned (.agg (RecA.cells (recA n tx prev 2)).toArray) ∧ Below w.heap.size w w' := by
 obtain ⟨W, hW, b0, b1, hbW, hsW⟩ := boxes2 w [.int .i64 0, .int .i64 0, .int .i64 0, .int .i64 0, .int .i64 0, .bool false, .int .i64 0, .slice none 0 0, .slice none 0 0, .bool false, .int .i64 0, .slice none 0 0, .slice none 0 0, .int .i64 0, .slice none 0 0] [.int .i64 tx, .int .i64 prev] 39 136
 simp only [iscommitDeed, linkD]
 have a_setDeed := fun W => no_setDeed W 136 (.agg #[.int .i64 tx, .int .i64 prev]) (by decide)
 have a_commitDeed := fun W => yes_commitDeed W (.agg #[.int .i64 tx, .int .i64 prev])
 have HB : Hid (∀ u, Below W.heap.size W u → Box u w.heap.size [.int .i64 0, .int .i64 0, .int .i64 0, .int .i64 0, .int .i64 0, .bool false, .int .i64 0, .slice none 0 0, .slice none 0 0, .bool false, .int .i64 0, .slice none 0 0, .slice none 0 0, .int .i64 0, .slice none 0 0] 39 ∧ Box u (w.heap.size + 1) [.int .i64 tx, .int .i64 prev] 136) := fun u hu => ⟨b0.below hu b0.lt, b1.below hu b1.lt⟩
 have HC : Hid (∀ w', Box w' (w.heap.size + 1) [.int .i64 tx, .int .i64 prev] 136 → w'.cell? ⟨w.heap.size + 1, 0, none⟩ = some (.int .i64 tx) ∧ w'.cell? ⟨w.heap.size + 1, 1, none⟩ = some (.int .i64 prev)) := fun w' b => ⟨b.cell 0 _ rfl, b.cell 1 _ rfl⟩
 have hh := HC.out W b1
 have hlt := b1.lt
 have HI : Hid ((Tryz.prog.info? 39).map (·.size) = some 15) := by rw [Hid]; kernel_rfl
 have HO : Hid (_) := all_oneCell_toArray (oneR (recA n tx prev 2))
 clear hsW b0 b1
 go_enter Tryz.func69, Tryz.ntmps69
 go_wp2_with fail
 rw [hW.out]
 clear hW a_setDeed a_commitDeed
 refine wp_region_held_drew (S := fun w' => w'.cell? ⟨w.heap.size + 1, 0, none⟩ = some (.int .i64 tx) ∧ w'.cell? ⟨w.heap.size + 1, 1, none⟩ = some (.int .i64 prev)) (by kernel_rfl) (HC.out _ (HB.out _ (Below.refl _ _).drew).2) (fun hHeld => ?_)
 refine tk 0 (v := .int .i64 n) rfl (Or.inl ⟨by rfl, ?_⟩) hHeld ?_
 ·intro w' hSw
  go_simp <;> rfl
 try simp only [Act.put, zA, zB, zD, zE, zF]
 refine tk 1 (v := .pointer (some ⟨w.heap.size + 1, 0, none⟩)) rfl (Or.inl ⟨by rfl, ?_⟩) hHeld ?_
 ·intro w' hSw
  go_simp <;> rfl
 try simp only [Act.put, zA, zB, zC, zD, zE, zF]
 refine tk 2 (v := .agg #[.int .i64 tx, .int .i64 prev]) rfl (Or.inl ⟨by rfl, ?_⟩) hHeld ?_
 ·intro w' hSw
  go_simp <;> rfl
 try simp only [Act.put, zA, zB, zC, zD, zE, zF]
 refine tk 3 (v := .agg #[.int .i64 tx, .int .i64 prev]) rfl (Or.inl ⟨by rfl, ?_⟩) hHeld ?_
 ·intro w' hSw
  go_simp <;> rfl
 try simp only [Act.put, zA, zB, zC, zD, zE, zF]
 refine wpAnyH_ready (rs := [4]) (by kernel_rfl) (by simp) ?_
 refine AllReadyH.cons rfl (fun K hK => ?_) AllReadyH.nil
 go_simp
 refine (kind_commitDeed tx prev _).mono ?_
 rintro e u1 ⟨rfl, hb1⟩
 have hB1 : Below W.heap.size W u1 := ((Below.refl _ _).drew).trans hb1
 refine hK.out _ _ (HC.out _ (HB.out _ hB1).2) (fun hHeld => ?_)
 clear hK K
 try simp only [Act.put, zA, zB, zC, zD, zE, zF]
 refine wpAnyH_ready (rs := [5]) (by kernel_rfl) (by simp) ?_
 refine AllReadyH.cons rfl (fun K hK => ?_) AllReadyH.nil
 go_simp
 refine (recAt_any n tx prev 2 _).mono ?_
 rintro e u2 ⟨rfl, hb2⟩
 have hBL : Below W.heap.size W u2 := hB1.trans (hb2.mono hB1.size)
 refine hK.out _ _ (HC.out _ (HB.out _ hBL).2) (fun hHeld => ?_)
 clear hK K
 try simp only [Act.put, zA, zB, zC, zD, zE, zF]
 obtain ⟨WF, hWF, bF, hwF, hsF⟩ := range_fill [] [.int .i64 0, .int .i64 0, .int .i64 0, .int .i64 0, .int .i64 0, .bool false, .int .i64 0, .slice none 0 0, .slice none 0 0, .bool false, .int .i64 0, .slice none 0 0, .slice none 0 0, .int .i64 0, .slice none 0 0] (RecA.cells (recA n tx prev 2)) [] (by simpa using (HB.out _ hBL).1) rfl
 have HF : Hid (Below w.heap.size w WF) := (hbW.trans (hBL.mono hbW.size)).trans (hwF.below (by omega) (by have := hBL.size; omega))
 have HLD : Hid (_ = _) := rec_load (recA n tx prev 2) (by simpa using bF)
 have HS : Hid (WF.cell? ⟨w.heap.size + 1, 0, none⟩ = some (.int .i64 tx) ∧ WF.cell? ⟨w.heap.size + 1, 1, none⟩ = some (.int .i64 prev)) := HC.out _ ((HB.out _ hBL).2.within hwF (by omega))
 refine wpAnyH_ready (rs := [6]) (by kernel_rfl) (by simp) ?_
 refine AllReadyH.cons rfl (fun K hK => ?_) AllReadyH.nil
 rw [if_pos (by rfl)]
 refine wp_store_mid 39 (.tmp 4) (.tmp 39) rfl w.heap.size 0 (RecA.cells (recA n tx prev 2)).toArray rfl rfl ((HB.out _ hBL).1.there 0 _ (by show 0 + 15 ≤ 15; decide)) HI.out HO.out ?_
 have HW : Hid (u2.setCells w.heap.size 0 (RecA.cells (recA n tx prev 2)).toArray.toList = WF) := hWF.out
 rw [HW.out]
 refine hK.out _ _ HS.out (fun hHeld => ?_)
 refine wpAnyH_done (by kernel_rfl) ?_ _
 clear hwF hWF HW hK K HS
 go_wp2
 exact bodyPost_ret (v := .agg (RecA.cells (recA n tx prev 2)).toArray) (results_one Tryz.results69 rfl HLD.out) rfl ⟨rfl, HF.out⟩
theorem recOf_abort (n : Int) (tx prev : Int) (w : World) :
  Calls Tryz.prog 69 #[.int .i64 n, isabortDeed (linkD tx prev)] w fun e w' => e = .returned (.agg (RecA.cells (recA n tx prev 3)).toArray) ∧ Below w.heap.size w w' := by
 obtain ⟨W, hW, b0, b1, hbW, hsW⟩ := boxes2 w [.int .i64 0, .int .i64 0, .int .i64 0, .int .i64 0, .int .i64 0, .bool false, .int .i64 0, .slice none 0 0, .slice none 0 0, .bool false, .int .i64 0, .slice none 0 0, .slice none 0 0, .int .i64 0, .slice none 0 0] [.int .i64 tx, .int .i64 prev] 39 137
 simp only [isabortDeed, linkD]
 have a_setDeed := fun W => no_setDeed W 137 (.agg #[.int .i64 tx, .int .i64 prev]) (by decide)
 have a_commitDeed := fun W => no_commitDeed W 137 (.agg #[.int .i64 tx, .int .i64 prev]) (by decide)
 have a_abortDeed := fun W => yes_abortDeed W (.agg #[.int .i64 tx, .int .i64 prev])
 have HB : Hid (∀ u, Below W.heap.size W u → Box u w.heap.size [.int .i64 0, .int .i64 0, .int .i64 0, .int .i64 0, .int .i64 0, .bool false, .int .i64 0, .slice none 0 0, .slice none 0 0, .bool false, .int .i64 0, .slice none 0 0, .slice none 0 0, .int .i64 0, .slice none 0 0] 39 ∧ Box u (w.heap.size + 1) [.int .i64 tx, .int .i64 prev] 137) := fun u hu => ⟨b0.below hu b0.lt, b1.below hu b1.lt⟩
 have HC : Hid (∀ w', Box w' (w.heap.size + 1) [.int .i64 tx, .int .i64 prev] 137 → w'.cell? ⟨w.heap.size + 1, 0, none⟩ = some (.int .i64 tx) ∧ w'.cell? ⟨w.heap.size + 1, 1, none⟩ = some (.int .i64 prev)) := fun w' b => ⟨b.cell 0 _ rfl, b.cell 1 _ rfl⟩
 have hh := HC.out W b1
 have hlt := b1.lt
 have HI : Hid ((Tryz.prog.info? 39).map (·.size) = some 15) := by rw [Hid]; kernel_rfl
 have HO : Hid (_) := all_oneCell_toArray (oneR (recA n tx prev 3))
 clear hsW b0 b1
 go_enter Tryz.func69, Tryz.ntmps69
 go_wp2_with fail
 rw [hW.out]
 clear hW a_setDeed a_commitDeed a_abortDeed
 refine wp_region_held_drew (S := fun w' => w'.cell? ⟨w.heap.size + 1, 0, none⟩ = some (.int .i64 tx) ∧ w'.cell? ⟨w.heap.size + 1, 1, none⟩ = some (.int .i64 prev)) (by kernel_rfl) (HC.out _ (HB.out _ (Below.refl _ _).drew).2) (fun hHeld => ?_)
 refine tk 0 (v := .int .i64 n) rfl (Or.inl ⟨by rfl, ?_⟩) hHeld ?_
 ·intro w' hSw
  go_simp <;> rfl
 try simp only [Act.put, zA, zB, zD, zE, zF]
 refine tk 1 (v := .pointer (some ⟨w.heap.size + 1, 0, none⟩)) rfl (Or.inl ⟨by rfl, ?_⟩) hHeld ?_
 ·intro w' hSw
  go_simp <;> rfl
 try simp only [Act.put, zA, zB, zC, zD, zE, zF]
 refine tk 2 (v := .agg #[.int .i64 tx, .int .i64 prev]) rfl (Or.inl ⟨by rfl, ?_⟩) hHeld ?_
 ·intro w' hSw
  go_simp <;> rfl
 try simp only [Act.put, zA, zB, zC, zD, zE, zF]
 refine tk 3 (v := .agg #[.int .i64 tx, .int .i64 prev]) rfl (Or.inl ⟨by rfl, ?_⟩) hHeld ?_
 ·intro w' hSw
  go_simp <;> rfl
 try simp only [Act.put, zA, zB, zC, zD, zE, zF]
 refine wpAnyH_ready (rs := [4]) (by kernel_rfl) (by simp) ?_
 refine AllReadyH.cons rfl (fun K hK => ?_) AllReadyH.nil
 go_simp
 refine (kind_abortDeed tx prev _).mono ?_
 rintro e u1 ⟨rfl, hb1⟩
 have hB1 : Below W.heap.size W u1 := ((Below.refl _ _).drew).trans hb1
 refine hK.out _ _ (HC.out _ (HB.out _ hB1).2) (fun hHeld => ?_)
 clear hK K
 try simp only [Act.put, zA, zB, zC, zD, zE, zF]
 refine wpAnyH_ready (rs := [5]) (by kernel_rfl) (by simp) ?_
 refine AllReadyH.cons rfl (fun K hK => ?_) AllReadyH.nil
 go_simp
 refine (recAt_any n tx prev 3 _).mono ?_
 rintro e u2 ⟨rfl, hb2⟩
 have hBL : Below W.heap.size W u2 := hB1.trans (hb2.mono hB1.size)
 refine hK.out _ _ (HC.out _ (HB.out _ hBL).2) (fun hHeld => ?_)
 clear hK K
 try simp only [Act.put, zA, zB, zC, zD, zE, zF]
 obtain ⟨WF, hWF, bF, hwF, hsF⟩ := range_fill [] [.int .i64 0, .int .i64 0, .int .i64 0, .int .i64 0, .int .i64 0, .bool false, .int .i64 0, .slice none 0 0, .slice none 0 0, .bool false, .int .i64 0, .slice none 0 0, .slice none 0 0, .int .i64 0, .slice none 0 0] (RecA.cells (recA n tx prev 3)) [] (by simpa using (HB.out _ hBL).1) rfl
 have HF : Hid (Below w.heap.size w WF) := (hbW.trans (hBL.mono hbW.size)).trans (hwF.below (by omega) (by have := hBL.size; omega))
 have HLD : Hid (_ = _) := rec_load (recA n tx prev 3) (by simpa using bF)
 have HS : Hid (WF.cell? ⟨w.heap.size + 1, 0, none⟩ = some (.int .i64 tx) ∧ WF.cell? ⟨w.heap.size + 1, 1, none⟩ = some (.int .i64 prev)) := HC.out _ ((HB.out _ hBL).2.within hwF (by omega))
 refine wpAnyH_ready (rs := [6]) (by kernel_rfl) (by simp) ?_
 refine AllReadyH.cons rfl (fun K hK => ?_) AllReadyH.nil
 rw [if_pos (by rfl)]
 refine wp_store_mid 39 (.tmp 4) (.tmp 48) rfl w.heap.size 0 (RecA.cells (recA n tx prev 3)).toArray rfl rfl ((HB.out _ hBL).1.there 0 _ (by show 0 + 15 ≤ 15; decide)) HI.out HO.out ?_
 have HW : Hid (u2.setCells w.heap.size 0 (RecA.cells (recA n tx prev 3)).toArray.toList = WF) := hWF.out
 rw [HW.out]
 refine hK.out _ _ HS.out (fun hHeld => ?_)
 refine wpAnyH_done (by kernel_rfl) ?_ _
 clear hwF hWF HW hK K HS
 go_wp2
 exact bodyPost_ret (v := .agg (RecA.cells (recA n tx prev 3)).toArray) (results_one Tryz.results69 rfl HLD.out) rfl ⟨rfl, HF.out⟩
theorem recOf_back (n : Int) (tx prev oid : Int) (a : SlotA) (next : Int) (w : World) :
  Calls Tryz.prog 69 #[.int .i64 n, isbackDeed (backD tx prev oid a next)] w fun e w' => e = .returned (.agg (RecA.cells (⟨n, tx, prev, 4, oid, zeroS, a, next, [], none, 0⟩)).toArray) ∧ Below w.heap.size w w' := by
 obtain ⟨W, hW, b0, b1, hbW, hsW⟩ := boxes2 w [.int .i64 0, .int .i64 0, .int .i64 0, .int .i64 0, .int .i64 0, .bool false, .int .i64 0, .slice none 0 0, .slice none 0 0, .bool false, .int .i64 0, .slice none 0 0, .slice none 0 0, .int .i64 0, .slice none 0 0] [.int .i64 tx, .int .i64 prev, .int .i64 oid, .bool a.v.has, .int .i64 a.v.o.kind, .slice a.aI a.v.o.ints.length a.cI, .slice a.aR a.v.o.refs.length a.cR, .int .i64 next] 39 139
 simp only [isbackDeed, backD]
 have a_setDeed := fun W => no_setDeed W 139 (.agg #[.int .i64 tx, .int .i64 prev, .int .i64 oid, .bool a.v.has, .int .i64 a.v.o.kind, .slice a.aI a.v.o.ints.length a.cI, .slice a.aR a.v.o.refs.length a.cR, .int .i64 next]) (by decide)
 have a_commitDeed := fun W => no_commitDeed W 139 (.agg #[.int .i64 tx, .int .i64 prev, .int .i64 oid, .bool a.v.has, .int .i64 a.v.o.kind, .slice a.aI a.v.o.ints.length a.cI, .slice a.aR a.v.o.refs.length a.cR, .int .i64 next]) (by decide)
 have a_abortDeed := fun W => no_abortDeed W 139 (.agg #[.int .i64 tx, .int .i64 prev, .int .i64 oid, .bool a.v.has, .int .i64 a.v.o.kind, .slice a.aI a.v.o.ints.length a.cI, .slice a.aR a.v.o.refs.length a.cR, .int .i64 next]) (by decide)
 have a_backDeed := fun W => yes_backDeed W (.agg #[.int .i64 tx, .int .i64 prev, .int .i64 oid, .bool a.v.has, .int .i64 a.v.o.kind, .slice a.aI a.v.o.ints.length a.cI, .slice a.aR a.v.o.refs.length a.cR, .int .i64 next])
 have HB : Hid (∀ u, Below W.heap.size W u → Box u w.heap.size [.int .i64 0, .int .i64 0, .int .i64 0, .int .i64 0, .int .i64 0, .bool false, .int .i64 0, .slice none 0 0, .slice none 0 0, .bool false, .int .i64 0, .slice none 0 0, .slice none 0 0, .int .i64 0, .slice none 0 0] 39 ∧ Box u (w.heap.size + 1) [.int .i64 tx, .int .i64 prev, .int .i64 oid, .bool a.v.has, .int .i64 a.v.o.kind, .slice a.aI a.v.o.ints.length a.cI, .slice a.aR a.v.o.refs.length a.cR, .int .i64 next] 139) := fun u hu => ⟨b0.below hu b0.lt, b1.below hu b1.lt⟩
 have HC : Hid (∀ w', Box w' (w.heap.size + 1) [.int .i64 tx, .int .i64 prev, .int .i64 oid, .bool a.v.has, .int .i64 a.v.o.kind, .slice a.aI a.v.o.ints.length a.cI, .slice a.aR a.v.o.refs.length a.cR, .int .i64 next] 139 → w'.cell? ⟨w.heap.size + 1, 0, none⟩ = some (.int .i64 tx) ∧ w'.cell? ⟨w.heap.size + 1, 1, none⟩ = some (.int .i64 prev) ∧ w'.cell? ⟨w.heap.size + 1, 2, none⟩ = some (.int .i64 oid) ∧ w'.cell? ⟨w.heap.size + 1, 3, none⟩ = some (.bool a.v.has) ∧ w'.cell? ⟨w.heap.size + 1, 4, none⟩ = some (.int .i64 a.v.o.kind) ∧ w'.cell? ⟨w.heap.size + 1, 5, none⟩ = some (.slice a.aI a.v.o.ints.length a.cI) ∧ w'.cell? ⟨w.heap.size + 1, 6, none⟩ = some (.slice a.aR a.v.o.refs.length a.cR) ∧ w'.cell? ⟨w.heap.size + 1, 7, none⟩ = some (.int .i64 next)) := fun w' b => ⟨b.cell 0 _ rfl, b.cell 1 _ rfl, b.cell 2 _ rfl, b.cell 3 _ rfl, b.cell 4 _ rfl, b.cell 5 _ rfl, b.cell 6 _ rfl, b.cell 7 _ rfl⟩
 have hh := HC.out W b1
 have hlt := b1.lt
 have HI : Hid ((Tryz.prog.info? 39).map (·.size) = some 15) := by rw [Hid]; kernel_rfl
 have HO : Hid (_) := all_oneCell_toArray (oneR (⟨n, tx, prev, 4, oid, zeroS, a, next, [], none, 0⟩))
 clear hsW b0 b1
 go_enter Tryz.func69, Tryz.ntmps69
 go_wp2_with fail
 rw [hW.out]
 clear hW a_setDeed a_commitDeed a_abortDeed a_backDeed
 refine wp_region_held_drew (S := fun w' => w'.cell? ⟨w.heap.size + 1, 0, none⟩ = some (.int .i64 tx) ∧ w'.cell? ⟨w.heap.size + 1, 1, none⟩ = some (.int .i64 prev) ∧ w'.cell? ⟨w.heap.size + 1, 2, none⟩ = some (.int .i64 oid) ∧ w'.cell? ⟨w.heap.size + 1, 3, none⟩ = some (.bool a.v.has) ∧ w'.cell? ⟨w.heap.size + 1, 4, none⟩ = some (.int .i64 a.v.o.kind) ∧ w'.cell? ⟨w.heap.size + 1, 5, none⟩ = some (.slice a.aI a.v.o.ints.length a.cI) ∧ w'.cell? ⟨w.heap.size + 1, 6, none⟩ = some (.slice a.aR a.v.o.refs.length a.cR) ∧ w'.cell? ⟨w.heap.size + 1, 7, none⟩ = some (.int .i64 next)) (by kernel_rfl) (HC.out _ (HB.out _ (Below.refl _ _).drew).2) (fun hHeld => ?_)
 refine tk 0 (v := .int .i64 n) rfl (Or.inl ⟨by rfl, ?_⟩) hHeld ?_
 ·intro w' hSw
  go_simp <;> rfl
 try simp only [Act.put, zA, zB, zD, zE, zF]
 refine tk 1 (v := .pointer (some ⟨w.heap.size + 1, 0, none⟩)) rfl (Or.inl ⟨by rfl, ?_⟩) hHeld ?_
 ·intro w' hSw
  go_simp <;> rfl
 try simp only [Act.put, zA, zB, zC, zD, zE, zF]
 refine tk 2 (v := .pointer (some ⟨w.heap.size + 1, 0, none⟩)) rfl (Or.inl ⟨by rfl, ?_⟩) hHeld ?_
 ·intro w' hSw
  go_simp <;> rfl
 try simp only [Act.put, zA, zB, zC, zD, zE, zF]
 refine tk 3 (v := .int .i64 tx) rfl (Or.inl ⟨by rfl, ?_⟩) hHeld ?_
 ·intro w' hSw
  go_simp <;> rfl
 try simp only [Act.put, zA, zB, zC, zD, zE, zF]
 refine tk 4 (v := .pointer (some ⟨w.heap.size + 1, 0, none⟩)) rfl (Or.inl ⟨by rfl, ?_⟩) hHeld ?_
 ·intro w' hSw
  go_simp <;> rfl
 try simp only [Act.put, zA, zB, zC, zD, zE, zF]
 refine tk 5 (v := .pointer (some ⟨w.heap.size + 1, 1, none⟩)) rfl (Or.inl ⟨by rfl, ?_⟩) hHeld ?_
 ·intro w' hSw
  go_simp <;> rfl
 try simp only [Act.put, zA, zB, zC, zD, zE, zF]
 refine tk 6 (v := .int .i64 prev) rfl (Or.inl ⟨by rfl, ?_⟩) hHeld ?_
 ·intro w' hSw
  go_simp <;> rfl
 try simp only [Act.put, zA, zB, zC, zD, zE, zF]
 refine tk 7 (v := .agg #[.int .i64 tx, .int .i64 prev, .int .i64 oid, .bool a.v.has, .int .i64 a.v.o.kind, .slice a.aI a.v.o.ints.length a.cI, .slice a.aR a.v.o.refs.length a.cR, .int .i64 next]) rfl (Or.inl ⟨by rfl, ?_⟩) hHeld ?_
 ·intro w' hSw
  go_simp <;> rfl
 try simp only [Act.put, zA, zB, zC, zD, zE, zF]
 refine tk 9 (v := .pointer (some ⟨w.heap.size + 1, 2, none⟩)) rfl (Or.inl ⟨by rfl, ?_⟩) hHeld ?_
 ·intro w' hSw
  go_simp <;> rfl
 try simp only [Act.put, zA, zB, zC, zD, zE, zF]
 refine tk 10 (v := .int .i64 oid) rfl (Or.inl ⟨by rfl, ?_⟩) hHeld ?_
 ·intro w' hSw
  go_simp <;> rfl
 try simp only [Act.put, zA, zB, zC, zD, zE, zF]
 refine tk 11 (v := .pointer (some ⟨w.heap.size + 1, 3, none⟩)) rfl (Or.inl ⟨by rfl, ?_⟩) hHeld ?_
 ·intro w' hSw
  go_simp <;> rfl
 try simp only [Act.put, zA, zB, zC, zD, zE, zF]
 refine tk 12 (v := .agg #[.bool a.v.has, .int .i64 a.v.o.kind, .slice a.aI a.v.o.ints.length a.cI, .slice a.aR a.v.o.refs.length a.cR]) rfl (Or.inl ⟨by rfl, ?_⟩) hHeld ?_
 ·intro w' hSw
  go_simp <;> rfl
 try simp only [Act.put, zA, zB, zC, zD, zE, zF]
 refine tk 13 (v := .pointer (some ⟨w.heap.size + 1, 7, none⟩)) rfl (Or.inl ⟨by rfl, ?_⟩) hHeld ?_
 ·intro w' hSw
  go_simp <;> rfl
 try simp only [Act.put, zA, zB, zC, zD, zE, zF]
 refine tk 14 (v := .int .i64 next) rfl (Or.inl ⟨by rfl, ?_⟩) hHeld ?_
 ·intro w' hSw
  go_simp <;> rfl
 try simp only [Act.put, zA, zB, zC, zD, zE, zF]
 refine wpAnyH_ready (rs := [8]) (by kernel_rfl) (by simp) ?_
 refine AllReadyH.cons rfl (fun K hK => ?_) AllReadyH.nil
 go_simp
 refine (kind_backDeed tx prev oid a next _).mono ?_
 rintro e u1 ⟨rfl, hb1⟩
 have hB1 : Below W.heap.size W u1 := ((Below.refl _ _).drew).trans hb1
 refine hK.out _ _ (HC.out _ (HB.out _ hB1).2) (fun hHeld => ?_)
 clear hK K
 try simp only [Act.put, zA, zB, zC, zD, zE, zF]
 have hBL := hB1
 refine tk 15 (v := .agg (RecA.cells (⟨n, tx, prev, 4, oid, zeroS, a, next, [], none, 0⟩)).toArray) rfl (Or.inl ⟨by rfl, ?_⟩) hHeld ?_
 ·intro w' hSw
  go_simp <;> rfl
 try simp only [Act.put, zA, zB, zC, zD, zE, zF]
 obtain ⟨WF, hWF, bF, hwF, hsF⟩ := range_fill [] [.int .i64 0, .int .i64 0, .int .i64 0, .int .i64 0, .int .i64 0, .bool false, .int .i64 0, .slice none 0 0, .slice none 0 0, .bool false, .int .i64 0, .slice none 0 0, .slice none 0 0, .int .i64 0, .slice none 0 0] (RecA.cells (⟨n, tx, prev, 4, oid, zeroS, a, next, [], none, 0⟩)) [] (by simpa using (HB.out _ hBL).1) rfl
 have HF : Hid (Below w.heap.size w WF) := (hbW.trans (hBL.mono hbW.size)).trans (hwF.below (by omega) (by have := hBL.size; omega))
 have HLD : Hid (_ = _) := rec_load (⟨n, tx, prev, 4, oid, zeroS, a, next, [], none, 0⟩) (by simpa using bF)
 have HS : Hid (WF.cell? ⟨w.heap.size + 1, 0, none⟩ = some (.int .i64 tx) ∧ WF.cell? ⟨w.heap.size + 1, 1, none⟩ = some (.int .i64 prev) ∧ WF.cell? ⟨w.heap.size + 1, 2, none⟩ = some (.int .i64 oid) ∧ WF.cell? ⟨w.heap.size + 1, 3, none⟩ = some (.bool a.v.has) ∧ WF.cell? ⟨w.heap.size + 1, 4, none⟩ = some (.int .i64 a.v.o.kind) ∧ WF.cell? ⟨w.heap.size + 1, 5, none⟩ = some (.slice a.aI a.v.o.ints.length a.cI) ∧ WF.cell? ⟨w.heap.size + 1, 6, none⟩ = some (.slice a.aR a.v.o.refs.length a.cR) ∧ WF.cell? ⟨w.heap.size + 1, 7, none⟩ = some (.int .i64 next)) := HC.out _ ((HB.out _ hBL).2.within hwF (by omega))
 refine wpAnyH_ready (rs := [16]) (by kernel_rfl) (by simp) ?_
 refine AllReadyH.cons rfl (fun K hK => ?_) AllReadyH.nil
 rw [if_pos (by rfl)]
 refine wp_store_mid 39 (.tmp 4) (.tmp 67) rfl w.heap.size 0 (RecA.cells (⟨n, tx, prev, 4, oid, zeroS, a, next, [], none, 0⟩)).toArray rfl rfl ((HB.out _ hBL).1.there 0 _ (by show 0 + 15 ≤ 15; decide)) HI.out HO.out ?_
 have HW : Hid (u1.setCells w.heap.size 0 (RecA.cells (⟨n, tx, prev, 4, oid, zeroS, a, next, [], none, 0⟩)).toArray.toList = WF) := hWF.out
 rw [HW.out]
 refine hK.out _ _ HS.out (fun hHeld => ?_)
 refine wpAnyH_done (by kernel_rfl) ?_ _
 clear hwF hWF HW hK K HS
 go_wp2
 exact bodyPost_ret (v := .agg (RecA.cells (⟨n, tx, prev, 4, oid, zeroS, a, next, [], none, 0⟩)).toArray) (results_one Tryz.results69 rfl HLD.out) rfl ⟨rfl, HF.out⟩
theorem recOf_end (n : Int) (tx prev : Int) (w : World) :
  Calls Tryz.prog 69 #[.int .i64 n, isendDeed (linkD tx prev)] w fun e w' => e = .returned (.agg (RecA.cells (recA n tx prev 5)).toArray) ∧ Below w.heap.size w w' := by
 obtain ⟨W, hW, b0, b1, hbW, hsW⟩ := boxes2 w [.int .i64 0, .int .i64 0, .int .i64 0, .int .i64 0, .int .i64 0, .bool false, .int .i64 0, .slice none 0 0, .slice none 0 0, .bool false, .int .i64 0, .slice none 0 0, .slice none 0 0, .int .i64 0, .slice none 0 0] [.int .i64 tx, .int .i64 prev] 39 140
 simp only [isendDeed, linkD]
 have a_setDeed := fun W => no_setDeed W 140 (.agg #[.int .i64 tx, .int .i64 prev]) (by decide)
 have a_commitDeed := fun W => no_commitDeed W 140 (.agg #[.int .i64 tx, .int .i64 prev]) (by decide)
 have a_abortDeed := fun W => no_abortDeed W 140 (.agg #[.int .i64 tx, .int .i64 prev]) (by decide)
 have a_backDeed := fun W => no_backDeed W 140 (.agg #[.int .i64 tx, .int .i64 prev]) (by decide)
 have a_endDeed := fun W => yes_endDeed W (.agg #[.int .i64 tx, .int .i64 prev])
 have HB : Hid (∀ u, Below W.heap.size W u → Box u w.heap.size [.int .i64 0, .int .i64 0, .int .i64 0, .int .i64 0, .int .i64 0, .bool false, .int .i64 0, .slice none 0 0, .slice none 0 0, .bool false, .int .i64 0, .slice none 0 0, .slice none 0 0, .int .i64 0, .slice none 0 0] 39 ∧ Box u (w.heap.size + 1) [.int .i64 tx, .int .i64 prev] 140) := fun u hu => ⟨b0.below hu b0.lt, b1.below hu b1.lt⟩
 have HC : Hid (∀ w', Box w' (w.heap.size + 1) [.int .i64 tx, .int .i64 prev] 140 → w'.cell? ⟨w.heap.size + 1, 0, none⟩ = some (.int .i64 tx) ∧ w'.cell? ⟨w.heap.size + 1, 1, none⟩ = some (.int .i64 prev)) := fun w' b => ⟨b.cell 0 _ rfl, b.cell 1 _ rfl⟩
 have hh := HC.out W b1
 have hlt := b1.lt
 have HI : Hid ((Tryz.prog.info? 39).map (·.size) = some 15) := by rw [Hid]; kernel_rfl
 have HO : Hid (_) := all_oneCell_toArray (oneR (recA n tx prev 5))
 clear hsW b0 b1
 go_enter Tryz.func69, Tryz.ntmps69
 go_wp2_with fail
 rw [hW.out]
 clear hW a_setDeed a_commitDeed a_abortDeed a_backDeed a_endDeed
 refine wp_region_held_drew (S := fun w' => w'.cell? ⟨w.heap.size + 1, 0, none⟩ = some (.int .i64 tx) ∧ w'.cell? ⟨w.heap.size + 1, 1, none⟩ = some (.int .i64 prev)) (by kernel_rfl) (HC.out _ (HB.out _ (Below.refl _ _).drew).2) (fun hHeld => ?_)
 refine tk 0 (v := .int .i64 n) rfl (Or.inl ⟨by rfl, ?_⟩) hHeld ?_
 ·intro w' hSw
  go_simp <;> rfl
 try simp only [Act.put, zA, zB, zD, zE, zF]
 refine tk 1 (v := .pointer (some ⟨w.heap.size + 1, 0, none⟩)) rfl (Or.inl ⟨by rfl, ?_⟩) hHeld ?_
 ·intro w' hSw
  go_simp <;> rfl
 try simp only [Act.put, zA, zB, zC, zD, zE, zF]
 refine tk 2 (v := .agg #[.int .i64 tx, .int .i64 prev]) rfl (Or.inl ⟨by rfl, ?_⟩) hHeld ?_
 ·intro w' hSw
  go_simp <;> rfl
 try simp only [Act.put, zA, zB, zC, zD, zE, zF]
 refine tk 3 (v := .agg #[.int .i64 tx, .int .i64 prev]) rfl (Or.inl ⟨by rfl, ?_⟩) hHeld ?_
 ·intro w' hSw
  go_simp <;> rfl
 try simp only [Act.put, zA, zB, zC, zD, zE, zF]
 refine wpAnyH_ready (rs := [4]) (by kernel_rfl) (by simp) ?_
 refine AllReadyH.cons rfl (fun K hK => ?_) AllReadyH.nil
 go_simp
 refine (kind_endDeed tx prev _).mono ?_
 rintro e u1 ⟨rfl, hb1⟩
 have hB1 : Below W.heap.size W u1 := ((Below.refl _ _).drew).trans hb1
 refine hK.out _ _ (HC.out _ (HB.out _ hB1).2) (fun hHeld => ?_)
 clear hK K
 try simp only [Act.put, zA, zB, zC, zD, zE, zF]
 refine wpAnyH_ready (rs := [5]) (by kernel_rfl) (by simp) ?_
 refine AllReadyH.cons rfl (fun K hK => ?_) AllReadyH.nil
 go_simp
 refine (recAt_any n tx prev 5 _).mono ?_
 rintro e u2 ⟨rfl, hb2⟩
 have hBL : Below W.heap.size W u2 := hB1.trans (hb2.mono hB1.size)
 refine hK.out _ _ (HC.out _ (HB.out _ hBL).2) (fun hHeld => ?_)
 clear hK K
 try simp only [Act.put, zA, zB, zC, zD, zE, zF]
 obtain ⟨WF, hWF, bF, hwF, hsF⟩ := range_fill [] [.int .i64 0, .int .i64 0, .int .i64 0, .int .i64 0, .int .i64 0, .bool false, .int .i64 0, .slice none 0 0, .slice none 0 0, .bool false, .int .i64 0, .slice none 0 0, .slice none 0 0, .int .i64 0, .slice none 0 0] (RecA.cells (recA n tx prev 5)) [] (by simpa using (HB.out _ hBL).1) rfl
 have HF : Hid (Below w.heap.size w WF) := (hbW.trans (hBL.mono hbW.size)).trans (hwF.below (by omega) (by have := hBL.size; omega))
 have HLD : Hid (_ = _) := rec_load (recA n tx prev 5) (by simpa using bF)
 have HS : Hid (WF.cell? ⟨w.heap.size + 1, 0, none⟩ = some (.int .i64 tx) ∧ WF.cell? ⟨w.heap.size + 1, 1, none⟩ = some (.int .i64 prev)) := HC.out _ ((HB.out _ hBL).2.within hwF (by omega))
 refine wpAnyH_ready (rs := [6]) (by kernel_rfl) (by simp) ?_
 refine AllReadyH.cons rfl (fun K hK => ?_) AllReadyH.nil
 rw [if_pos (by rfl)]
 refine wp_store_mid 39 (.tmp 4) (.tmp 76) rfl w.heap.size 0 (RecA.cells (recA n tx prev 5)).toArray rfl rfl ((HB.out _ hBL).1.there 0 _ (by show 0 + 15 ≤ 15; decide)) HI.out HO.out ?_
 have HW : Hid (u2.setCells w.heap.size 0 (RecA.cells (recA n tx prev 5)).toArray.toList = WF) := hWF.out
 rw [HW.out]
 refine hK.out _ _ HS.out (fun hHeld => ?_)
 refine wpAnyH_done (by kernel_rfl) ?_ _
 clear hwF hWF HW hK K HS
 go_wp2
 exact bodyPost_ret (v := .agg (RecA.cells (recA n tx prev 5)).toArray) (results_one Tryz.results69 rfl HLD.out) rfl ⟨rfl, HF.out⟩
theorem recOf_check (n : Int) (ls : List LiveV) (aL : Option Addr) (cL : Nat) (w : World) :
  Calls Tryz.prog 69 #[.int .i64 n, ischeckDeed (checkD ls aL cL)] w fun e w' => e = .returned (.agg (RecA.cells (⟨n, 0, 0, 6, 0, zeroS, zeroS, 0, ls, aL, cL⟩)).toArray) ∧ Below w.heap.size w w' := by
 obtain ⟨W, hW, b0, b1, hbW, hsW⟩ := boxes2 w [.int .i64 0, .int .i64 0, .int .i64 0, .int .i64 0, .int .i64 0, .bool false, .int .i64 0, .slice none 0 0, .slice none 0 0, .bool false, .int .i64 0, .slice none 0 0, .slice none 0 0, .int .i64 0, .slice none 0 0] [.slice aL ls.length cL] 39 142
 simp only [ischeckDeed, checkD]
 have a_setDeed := fun W => no_setDeed W 142 (.agg #[.slice aL ls.length cL]) (by decide)
 have a_commitDeed := fun W => no_commitDeed W 142 (.agg #[.slice aL ls.length cL]) (by decide)
 have a_abortDeed := fun W => no_abortDeed W 142 (.agg #[.slice aL ls.length cL]) (by decide)
 have a_backDeed := fun W => no_backDeed W 142 (.agg #[.slice aL ls.length cL]) (by decide)
 have a_endDeed := fun W => no_endDeed W 142 (.agg #[.slice aL ls.length cL]) (by decide)
 have a_checkDeed := fun W => yes_checkDeed W (.agg #[.slice aL ls.length cL])
 have HB : Hid (∀ u, Below W.heap.size W u → Box u w.heap.size [.int .i64 0, .int .i64 0, .int .i64 0, .int .i64 0, .int .i64 0, .bool false, .int .i64 0, .slice none 0 0, .slice none 0 0, .bool false, .int .i64 0, .slice none 0 0, .slice none 0 0, .int .i64 0, .slice none 0 0] 39 ∧ Box u (w.heap.size + 1) [.slice aL ls.length cL] 142) := fun u hu => ⟨b0.below hu b0.lt, b1.below hu b1.lt⟩
 have HC : Hid (∀ w', Box w' (w.heap.size + 1) [.slice aL ls.length cL] 142 → w'.cell? ⟨w.heap.size + 1, 0, none⟩ = some (.slice aL ls.length cL)) := fun w' b => b.cell 0 _ rfl
 have hh := HC.out W b1
 have hlt := b1.lt
 have HI : Hid ((Tryz.prog.info? 39).map (·.size) = some 15) := by rw [Hid]; kernel_rfl
 have HO : Hid (_) := all_oneCell_toArray (oneR (⟨n, 0, 0, 6, 0, zeroS, zeroS, 0, ls, aL, cL⟩))
 clear hsW b0 b1
 go_enter Tryz.func69, Tryz.ntmps69
 go_wp2_with fail
 rw [hW.out]
 clear hW a_setDeed a_commitDeed a_abortDeed a_backDeed a_endDeed a_checkDeed
 refine wp_region_held_drew (S := fun w' => w'.cell? ⟨w.heap.size + 1, 0, none⟩ = some (.slice aL ls.length cL)) (by kernel_rfl) (HC.out _ (HB.out _ (Below.refl _ _).drew).2) (fun hHeld => ?_)
 refine tk 0 (v := .int .i64 n) rfl (Or.inl ⟨by rfl, ?_⟩) hHeld ?_
 ·intro w' hSw
  go_simp <;> rfl
 try simp only [Act.put, zA, zB, zD, zE, zF]
 refine tk 1 (v := .agg #[.slice aL ls.length cL]) rfl (Or.inl ⟨by rfl, ?_⟩) hHeld ?_
 ·intro w' hSw
  go_simp <;> rfl
 try simp only [Act.put, zA, zB, zC, zD, zE, zF]
 refine tk 3 (v := .pointer (some ⟨w.heap.size + 1, 0, none⟩)) rfl (Or.inl ⟨by rfl, ?_⟩) hHeld ?_
 ·intro w' hSw
  go_simp <;> rfl
 try simp only [Act.put, zA, zB, zC, zD, zE, zF]
 refine tk 4 (v := .slice aL ls.length cL) rfl (Or.inl ⟨by rfl, ?_⟩) hHeld ?_
 ·intro w' hSw
  go_simp <;> rfl
 try simp only [Act.put, zA, zB, zC, zD, zE, zF]
 refine wpAnyH_ready (rs := [2]) (by kernel_rfl) (by simp) ?_
 refine AllReadyH.cons rfl (fun K hK => ?_) AllReadyH.nil
 go_simp
 refine (kind_checkDeed ls aL cL _).mono ?_
 rintro e u1 ⟨rfl, hb1⟩
 have hB1 : Below W.heap.size W u1 := ((Below.refl _ _).drew).trans hb1
 refine hK.out _ _ (HC.out _ (HB.out _ hB1).2) (fun hHeld => ?_)
 clear hK K
 try simp only [Act.put, zA, zB, zC, zD, zE, zF]
 have hBL := hB1
 refine tk 5 (v := .agg (RecA.cells (⟨n, 0, 0, 6, 0, zeroS, zeroS, 0, ls, aL, cL⟩)).toArray) rfl (Or.inl ⟨by rfl, ?_⟩) hHeld ?_
 ·intro w' hSw
  go_simp <;> rfl
 try simp only [Act.put, zA, zB, zC, zD, zE, zF]
 obtain ⟨WF, hWF, bF, hwF, hsF⟩ := range_fill [] [.int .i64 0, .int .i64 0, .int .i64 0, .int .i64 0, .int .i64 0, .bool false, .int .i64 0, .slice none 0 0, .slice none 0 0, .bool false, .int .i64 0, .slice none 0 0, .slice none 0 0, .int .i64 0, .slice none 0 0] (RecA.cells (⟨n, 0, 0, 6, 0, zeroS, zeroS, 0, ls, aL, cL⟩)) [] (by simpa using (HB.out _ hBL).1) rfl
 have HF : Hid (Below w.heap.size w WF) := (hbW.trans (hBL.mono hbW.size)).trans (hwF.below (by omega) (by have := hBL.size; omega))
 have HLD : Hid (_ = _) := rec_load (⟨n, 0, 0, 6, 0, zeroS, zeroS, 0, ls, aL, cL⟩) (by simpa using bF)
 have HS : Hid (WF.cell? ⟨w.heap.size + 1, 0, none⟩ = some (.slice aL ls.length cL)) := HC.out _ ((HB.out _ hBL).2.within hwF (by omega))
 refine wpAnyH_ready (rs := [6]) (by kernel_rfl) (by simp) ?_
 refine AllReadyH.cons rfl (fun K hK => ?_) AllReadyH.nil
 rw [if_pos (by rfl)]
 refine wp_store_mid 39 (.tmp 4) (.tmp 85) rfl w.heap.size 0 (RecA.cells (⟨n, 0, 0, 6, 0, zeroS, zeroS, 0, ls, aL, cL⟩)).toArray rfl rfl ((HB.out _ hBL).1.there 0 _ (by show 0 + 15 ≤ 15; decide)) HI.out HO.out ?_
 have HW : Hid (u1.setCells w.heap.size 0 (RecA.cells (⟨n, 0, 0, 6, 0, zeroS, zeroS, 0, ls, aL, cL⟩)).toArray.toList = WF) := hWF.out
 rw [HW.out]
 refine hK.out _ _ HS.out (fun hHeld => ?_)
 refine wpAnyH_done (by kernel_rfl) ?_ _
 clear hwF hWF HW hK K HS
 go_wp2
 exact bodyPost_ret (v := .agg (RecA.cells (⟨n, 0, 0, 6, 0, zeroS, zeroS, 0, ls, aL, cL⟩)).toArray) (results_one Tryz.results69 rfl HLD.out) rfl ⟨rfl, HF.out⟩
theorem recOf_nil (n : Int) (w : World) : Calls Tryz.prog 69 #[.int .i64 n, .nilIface] w fun e w' => e = .returned (.agg (recA 0 0 0 0).cells.toArray) ∧ Below w.heap.size w w' := by
 obtain ⟨W, hW, b1, hbW, hsW⟩ := boxes1 w (recA 0 0 0 0).cells 39
 have HL : Hid (_ = _) := rec_load (recA 0 0 0 0) b1
 simp only [recA, RecA.cells, zeroS, List.length_nil] at hW
 clear hsW b1
 have a_setDeed := nil_setDeed
 have a_commitDeed := nil_commitDeed
 have a_abortDeed := nil_abortDeed
 have a_backDeed := nil_backDeed
 have a_endDeed := nil_endDeed
 have a_checkDeed := nil_checkDeed
 go_enter Tryz.func69, Tryz.ntmps69
 go_wp2
 refine bodyPost_ret (v := .agg (recA 0 0 0 0).cells.toArray) (results_one Tryz.results69 rfl ?_) rfl ⟨rfl, ?_⟩
 ·rw [show _ = W from hW.out]; exact HL.out
 ·rw [show _ = W from hW.out]; exact hbW
def backV (r : RecV) (n p : Int) : RecV := ⟨n, r.tx, p, 4, r.oid, noS, r.bf, r.prev, []⟩
def undoV (r : RecV) (n p : Int) : RecV := if okR r = true ∧ r.kind = 1 ∧ okR (backV r n p) = true then backV r n p else noR
theorem undoV_bad {r : RecV} {n p : Int} (h : okR r = false) : undoV r n p = noR := by unfold undoV; rw [if_neg]; rintro ⟨h1, _⟩; rw [h] at h1; cases h1
theorem undoV_kind {r : RecV} {n p : Int} (h : ¬ r.kind = 1) : undoV r n p = noR := by unfold undoV; rw [if_neg]; rintro ⟨_, h1, _⟩; exact h h1
theorem undoV_no {r : RecV} {n p : Int} (h : okR (backV r n p) = false) : undoV r n p = noR := by unfold undoV; rw [if_neg]; rintro ⟨_, _, h1⟩; rw [h] at h1; cases h1
theorem undoV_yes {r : RecV} {n p : Int} (h1 : okR r = true) (h2 : r.kind = 1) (h3 : okR (backV r n p) = true) : undoV r n p = backV r n p := by unfold undoV; rw [if_pos ⟨h1, h2, h3⟩]
theorem zero_own (w : World) (lo hi : Nat) (h : hi ≤ w.heap.size) : zeroS.own w lo hi := ⟨ownI_nil _ _ _ h, ownI_nil _ _ _ h, fun k hk => by cases hk⟩
theorem own_zeroR (w : World) (lo hi : Nat) (h : hi ≤ w.heap.size) : zeroR.own w lo hi := ⟨zero_own w lo hi h, zero_own w lo hi h, ownL_nil w lo hi h, by decide⟩
def backA (n tx p oid : Int) (t : SlotA) (x : Int) : RecA := ⟨n, tx, p, 4, oid, zeroS, t, x, [], none, 0⟩
theorem own_backA {w : World} {lo hi : Nat} {t : SlotA} (n tx p oid x : Int) (h : t.own w lo hi) (hh : hi ≤ w.heap.size) : (backA n tx p oid t x).own w lo hi :=
 ⟨zero_own w lo hi hh, h, ownL_nil w lo hi hh, by
  show ([] ++ (t.blocks ++ [])).Nodup
  rw [List.nil_append, List.append_nil]
  exact SlotA.blocks_nodup h⟩
theorem rec_out {w : World} {C : Nat} (q : RecA) (old : List Value) (ho : old.length = 15) (bC : Box w C old 39) :
  ∃ WF, Hid (w.setCells C 0 q.cells = WF) ∧ Within C (C + 1) w WF ∧ WF.heap.size = w.heap.size ∧ Hid (w.there C 0 q.cells.toArray.size) ∧ Hid ((loadVar 39 ⟨C, 0, none⟩).run Tryz.prog WF = .ok (.agg q.cells.toArray) WF) ∧ Box WF C q.cells 39 := by
 obtain ⟨WF, hWF, bF, hwF, hsF⟩ := range_fill [] old q.cells [] (by simpa using bC) (by rw [ho]; rfl)
 have bF' : Box WF C q.cells 39 := by simpa using bF
 exact ⟨WF, hWF, hwF, hsF, bC.there 0 _ (by rw [ho]; show 0 + 15 ≤ 15; decide), rec_load q bF', bF'⟩
theorem rec_info (q : RecA) : (Tryz.prog.info? 39).map (·.size) = some q.cells.length := by show _ = some 15; kernel_rfl
theorem rec_one (q : RecA) : q.cells.toArray.all (·.oneCell') = true := all_oneCell_toArray (oneR q)
theorem Tryz.infoRec : (Tryz.prog.info? 39).map (fun i => (i.zero, i.size, i.bytes)) = some (some (.agg zeroR.cells.toArray), 15, 200) := by kernel_rfl
theorem ownsRow_at {w : World} {base : Nat} {e : TypeId} {size n : Nat} {v : Value} {xs : List Value} (h : w.ownsRow base e size v n xs) {k : Nat} (hk : v.ownBlock = some k) : ∃ cur, w.heap[k]? = some (.cells cur e (0, 0)) := by
 rcases h.2 with ⟨rfl, _⟩ | ⟨g, cap, cur, rfl, _, hg, _⟩
 ·cases hk
 ·cases hk
  exact ⟨cur, hg⟩
theorem row_apart {w : World} {base lo hi n : Nat} {v : Value} {xs : List Value} {r : RecA} (h : w.ownsRow base 39 15 v n xs) (hr : r.own w lo hi) : ∀ k, v.ownBlock = some k → k ∉ r.blocks := by
 intro k hk hm
 obtain ⟨cur, hc⟩ := ownsRow_at h hk
 simp only [RecA.blocks, SlotA.blocks, List.mem_append, Option.mem_toList] at hm
 have no : ∀ {b2 s2 n2 : Nat} {e2 : TypeId} {v2 : Value} {x2 : List Value}, w.ownsRow b2 e2 s2 v2 n2 x2 → v2.ownBlock = some k → e2 = 39 := by
  intro b2 s2 n2 e2 v2 x2 h2 hk2
  obtain ⟨cur2, hc2⟩ := ownsRow_at h2 hk2
  rw [hc] at hc2
  simp only [Option.some.injEq, Obj.cells.injEq] at hc2
  exact hc2.2.1.symm
 rcases hm with (h1 | h1) | (h1 | h1) | h1
 ·have := no hr.bf.ints.1 h1; cases this
 ·have := no hr.bf.refs.1 h1; cases this
 ·have := no hr.af.ints.1 h1; cases this
 ·have := no hr.af.refs.1 h1; cases this
 ·have := no hr.txs.1 h1; cases this
theorem Tryz.infoSeat : (Tryz.prog.info? 172).map (fun i => (i.zero, i.size, i.bytes)) = some (some (.agg zeroSt.cells.toArray), 20, 280) := by kernel_rfl
theorem rowSt_apart {w : World} {base lo hi n : Nat} {v : Value} {xs : List Value} {r : SeatA} (h : w.ownsRow base 172 20 v n xs) (hr : r.own w lo hi) : ∀ k, v.ownBlock = some k → k ∉ r.blocks := by
 intro k hk hm
 obtain ⟨cur, hc⟩ := ownsRow_at h hk
 have no : ∀ {b2 s2 n2 : Nat} {e2 : TypeId} {v2 : Value} {x2 : List Value}, w.ownsRow b2 e2 s2 v2 n2 x2 → v2.ownBlock = some k → e2 = 172 := by
  intro b2 s2 n2 e2 v2 x2 h2 hk2
  obtain ⟨cur2, hc2⟩ := ownsRow_at h2 hk2
  rw [hc] at hc2
  simp only [Option.some.injEq, Obj.cells.injEq] at hc2
  exact hc2.2.1.symm
 obtain ⟨x, hx, hm⟩ := List.mem_flatMap.1 hm
 simp only [SlotA.blocks, List.mem_append, Option.mem_toList] at hm
 rcases hm with h1 | h1
 ·have := no (hr.each x hx).ints.1 h1; cases this
 ·have := no (hr.each x hx).refs.1 h1; cases this
structure LogV where
 recs : List RecV
 sure : Int
structure LogA where
 recs : List RecA
 sure : Int
 a : Option Addr
 c : Nat
def LogA.v (l : LogA) : LogV := ⟨l.recs.map RecA.v, l.sure⟩
def LogA.cells (l : LogA) : List Value := [.slice l.a l.recs.length l.c, .int .i64 l.sure]
def LogA.reads (w : World) (l : LogA) : Prop := ReadsRs w l.a l.recs
def LogA.own (w : World) (lo hi : Nat) (l : LogA) : Prop := OwnRs w lo hi l.a l.c l.recs
structure LogA.short (l : LogA) (m : Nat) : Prop where
 len : l.recs.length ≤ m
 each : ∀ r ∈ l.recs, r.short m
theorem LogA.short.at {l : LogA} {m : Nat} (h : l.short m) (k : Nat) (hk : k < l.recs.length) : (l.recs.getD k zeroR).short m := h.each _ (recD_mem _ k hk)
theorem mapV_len {rs ts : List RecA} (h : ts.map RecA.v = rs.map RecA.v) : ts.length = rs.length := by simpa using congrArg List.length h
theorem LogA.short_wide {l : LogA} (hl : l.short 1048576) : l.short 1099511627776 := ⟨by have := hl.len; omega, fun r hr => Go.Proofs.YtoboickdkednkaaGreatDoor.short_wide (hl.each r hr)⟩
structure EngV where
 disk : List (Int × List SlotV)
 seats : List SeatV
 hand : Int
 log : LogV
 txs : List LiveV
 holds : List HoldV
 next : Int
 down : Bool
structure EngA where
 disk : List PageA
 seats : List SeatA
 aS : Option Addr
 cS : Nat
 hand : Int
 log : LogA
 txs : List LiveV
 aT : Option Addr
 cT : Nat
 holds : List HoldV
 aH : Option Addr
 cH : Nat
 next : Int
 down : Bool
def EngA.v (e : EngA) : EngV := ⟨e.disk.map (fun p => (p.lsn, p.ss.map (·.v))), e.seats.map SeatA.v, e.hand, e.log.v, e.txs, e.holds, e.next, e.down⟩
def cellsPs (ps : List PageA) : List Value := ps.flatMap PageA.cells
def EngA.tail (e : EngA) : List Value := [.slice e.aS e.seats.length e.cS, .int .i64 e.hand, .slice e.log.a e.log.recs.length e.log.c, .int .i64 e.log.sure, .slice e.aT e.txs.length e.cT, .slice e.aH e.holds.length e.cH, .int .i64 e.next, .bool e.down]
def EngA.cells (e : EngA) : List Value := cellsPs e.disk ++ e.tail
structure EngA.shape (e : EngA) : Prop where
 eight : e.disk.length = 8
 four : ∀ p ∈ e.disk, p.ss.length = 4
theorem cellsPs_len : ∀ (ps : List PageA), (∀ p ∈ ps, p.ss.length = 4) → (cellsPs ps).length = ps.length * 17 := by
 intro ps
 induction ps with
 | nil => intro _; rfl
 | cons p r ih =>
  intro h
  have h1 := ih (fun q hq => h q (List.mem_cons_of_mem _ hq))
  have h2 := page_len p (h p List.mem_cons_self)
  simp only [cellsPs, List.flatMap_cons, List.length_append, List.length_cons] at h1 ⊢
  omega
theorem EngA.disk_len {e : EngA} (h : e.shape) : (cellsPs e.disk).length = 136 := by rw [cellsPs_len _ h.four, h.eight]
theorem EngA.cells_len {e : EngA} (h : e.shape) : e.cells.length = 144 := by rw [EngA.cells, List.length_append, EngA.disk_len h]; rfl
theorem EngA.cell_at {w : World} {B : Nat} {t : TypeId} {e : EngA} (h : e.shape) (b : Box w B e.cells t) (j : Nat) (v : Value) (hv : e.tail[j]? = some v) : w.cell? ⟨B, 136 + j, none⟩ = some v := by
 refine b.cell (136 + j) v ?_
 rw [EngA.cells, List.getElem?_append_right (by rw [EngA.disk_len h]; omega), EngA.disk_len h, show 136 + j - 136 = j by omega]
 exact hv
theorem cellsPs_split (ps : List PageA) (k : Nat) (hk : k < ps.length) : cellsPs ps = cellsPs (ps.take k) ++ (ps[k].cells ++ cellsPs (ps.drop (k + 1))) := by
 have e : ps = ps.take k ++ ps[k] :: ps.drop (k + 1) := by
  conv => lhs; rw [← List.take_append_drop k ps, List.drop_eq_getElem_cons hk]
 conv => lhs; rw [e]
 simp only [cellsPs, List.flatMap_append, List.flatMap_cons]
theorem EngA.page_at {w : World} {B : Nat} {t : TypeId} {e : EngA} (h : e.shape) (b : Box w B e.cells t) (k : Nat) (hk : k < e.disk.length) : w.rangeAt B (k * 17) e.disk[k].cells := by
 have e1 : e.cells = cellsPs (e.disk.take k) ++ (e.disk[k].cells ++ (cellsPs (e.disk.drop (k + 1)) ++ e.tail)) := by rw [EngA.cells, cellsPs_split e.disk k hk]; simp
 have b' := b
 rw [e1] at b'
 have := Box.range _ _ _ b'
 rwa [cellsPs_len _ (fun p hp => h.four p (List.mem_of_mem_take hp)), List.length_take, Nat.min_eq_left (Nat.le_of_lt hk)] at this
def rowOf (a : Option Addr) (n c : Nat) : List Nat := (Value.slice a n c).ownBlock.toList
def EngA.diskBl (e : EngA) : List Nat := (e.disk.flatMap (·.ss)).flatMap SlotA.blocks
def EngA.blocks (e : EngA) : List Nat := e.diskBl ++ (blocksSts e.aS e.cS e.seats ++ (blocksRs e.log.a e.log.c e.log.recs ++ (rowOf e.aT e.txs.length e.cT ++ rowOf e.aH e.holds.length e.cH)))
structure EngA.own (w : World) (lo hi : Nat) (e : EngA) : Prop where
 disk : OwnS w lo hi (e.disk.flatMap (·.ss))
 pool : OwnSts w lo hi e.aS e.cS e.seats
 log : OwnRs w lo hi e.log.a e.log.c e.log.recs
 txs : OwnL w lo hi e.aT e.cT e.txs
 holds : OwnH w lo hi e.aH e.cH e.holds
 apart : e.blocks.Nodup
theorem OwnS.touch {w w' : World} {lo hi : Nat} {ss : List SlotA} {bl : List Nat} (h : OwnS w lo hi ss) (ht : Touch bl w w') (hd : ∀ k ∈ ss.flatMap SlotA.blocks, k ∉ bl) : OwnS w' lo hi ss :=
 ⟨fun x hx => SlotA.touch (h.each x hx) ht (fun k hk => hd k (List.mem_flatMap.2 ⟨x, hx, hk⟩)), h.apart⟩
theorem EngA.own.blocks_lt {w : World} {lo hi : Nat} {e : EngA} (h : e.own w lo hi) : ∀ k ∈ e.blocks, lo ≤ k ∧ k < hi := by
 intro k hk
 simp only [EngA.blocks, List.mem_append] at hk
 rcases hk with hk | hk | hk | hk | hk
 ·exact h.disk.blocks_lt k hk
 ·exact h.pool.blocks_lt k hk
 ·exact h.log.blocks_lt k hk
 ·exact h.txs.lt k (Option.mem_toList.1 hk)
 ·exact h.holds.lt k (Option.mem_toList.1 hk)
theorem EngA.own.touch {w w' : World} {lo hi : Nat} {e : EngA} {bl : List Nat} (h : e.own w lo hi) (ht : Touch bl w w') (hd : ∀ k ∈ e.blocks, k ∉ bl) : e.own w' lo hi := by
 simp only [EngA.blocks, List.mem_append] at hd
 exact ⟨h.disk.touch ht (fun k hk => hd k (.inl hk)), h.pool.touch ht (fun k hk => hd k (.inr (.inl hk))), h.log.touch ht (fun k hk => hd k (.inr (.inr (.inl hk)))), h.txs.touch ht (fun k hk => hd k (.inr (.inr (.inr (.inl (Option.mem_toList.2 hk)))))), h.holds.touch ht (fun k hk => hd k (.inr (.inr (.inr (.inr (Option.mem_toList.2 hk)))))), h.apart⟩
theorem EngA.own.below {w w' : World} {lo hi : Nat} {e : EngA} (h : e.own w lo hi) (hb : Below w.heap.size w w') : e.own w' lo hi :=
 ⟨h.disk.below hb, h.pool.below hb, h.log.below hb, h.txs.below hb, h.holds.below hb, h.apart⟩
theorem EngA.own.widen {w : World} {lo hi lo' hi' : Nat} {e : EngA} (h : e.own w lo hi) (h1 : lo' ≤ lo) (h2 : hi ≤ hi') (h3 : hi' ≤ w.heap.size) : e.own w lo' hi' :=
 ⟨h.disk.widen h1 h2 h3, h.pool.widen h1 h2 h3, h.log.widen h1 h2 h3, h.txs.widen h1 h2 h3, h.holds.widen h1 h2 h3, h.apart⟩
theorem Tryz.infoEng : (Tryz.prog.info? 128).map (·.size) = some 144 := by kernel_rfl
def zeroP : PageA := ⟨0, [zeroS, zeroS, zeroS, zeroS]⟩
def zeroE : EngA := ⟨[zeroP, zeroP, zeroP, zeroP, zeroP, zeroP, zeroP, zeroP], [], none, 0, 0, ⟨[], 0, none, 0⟩, [], none, 0, [], none, 0, 0, false⟩
theorem Tryz.zeroEng : (Tryz.prog.info? 128).map (·.zero) = some (some (.agg zeroE.cells.toArray)) := by kernel_rfl
def liveFrom (tx : Int) : List LiveV → Nat → Int
 | [], _ => -1
 | l :: r, k => if l.tx = tx then (k : Int) else liveFrom tx r (k + 1)
def liveOf (ls : List LiveV) (tx : Int) : Int := liveFrom tx ls 0
def holdFrom (oid : Int) : List HoldV → Int
 | [] => 0
 | l :: r => if l.oid = oid then l.tx else holdFrom oid r
def seatFrom (no : Int) : List SeatV → Nat → Int
 | [], _ => -1
 | l :: r, k => if l.no = no then (k : Int) else seatFrom no r (k + 1)
def seatedOf (ss : List SeatV) (no : Int) : Int := seatFrom no ss 0
def lastFrom (tx : Int) (rs : List RecV) : Nat → Int
 | 0 => 0
 | k + 1 => if (rs.getD k zeroR.v).tx = tx then (k : Int) + 1 else lastFrom tx rs k
def lastOf (rs : List RecV) (tx : Int) : Int := lastFrom tx rs rs.length
theorem dropL_at (ls : List LiveV) (k : Nat) (h : k < ls.length) : ls.drop k = ls.getD k zeroL :: ls.drop (k + 1) := by
 rw [List.drop_eq_getElem_cons h]
 simp [List.getD, h]
theorem dropH_at (ls : List HoldV) (k : Nat) (h : k < ls.length) : ls.drop k = ls.getD k zeroH :: ls.drop (k + 1) := by
 rw [List.drop_eq_getElem_cons h]
 simp [List.getD, h]
theorem dropSt_at (ls : List SeatA) (k : Nat) (h : k < ls.length) : (ls.map SeatA.v).drop k = (ls.getD k zeroSt).v :: (ls.map SeatA.v).drop (k + 1) := by
 rw [List.drop_eq_getElem_cons (by simpa using h)]
 simp [List.getD, h]
theorem l7Live_any (e : EngA) (hsh : e.shape) (tx : Int) (w : World) (hr : ReadsL w e.aT e.txs) (hl : e.txs.length ≤ 1099511627776) :
  Calls Tryz.prog 134 #[.agg e.cells.toArray, .int .i64 tx] w fun r w' => r = .returned (.int .i64 (liveOf e.txs tx)) ∧ Below w.heap.size w w' := by
 obtain ⟨W, hW, b0, hbW, hsW⟩ := boxes1 w e.cells 128
 have HT : Hid (∀ u, Below W.heap.size W u → u.cell? ⟨w.heap.size, 140, none⟩ = some (.slice e.aT e.txs.length e.cT)) := fun u hu => EngA.cell_at hsh (b0.below hu b0.lt) 4 _ rfl
 have HR : Hid (∀ u, Below W.heap.size W u → ReadsL u e.aT e.txs) := fun u hu => hr.below (hbW.trans (hu.mono hbW.size))
 have HF : Hid (liveFrom tx (e.txs.drop 0) 0 = liveOf e.txs tx) := rfl
 generalize liveOf e.txs tx = R at *
 generalize e.cells = cs at *
 generalize e.txs = ls at *
 generalize e.aT = a at *
 generalize e.cT = c at *
 clear hsW b0 hsh hr
 go_enter Tryz.func134, Tryz.ntmps134
 go_wp2_with fail
 rw [hW.out]
 clear hW
 go_loopw [5] (fun i wr => ∃ (k : Nat), i = .int .i64 k ∧ k ≤ ls.length ∧ Hid (liveFrom tx (ls.drop k) k = R) ∧ Below W.heap.size W wr)
  (fun i _ => ls.length - (intOf i).toNat)
 case atStart => exact ⟨0, rfl, by omega, HF, Below.refl _ _⟩
 case round =>
  obtain ⟨k, rfl, hk, hR, hbl⟩ := hrel
  have x0 := HT.out wr hbl
  have hrr := HR.out wr hbl
  have hbT : Below w.heap.size w wr := hbW.trans (hbl.mono hbW.size)
  by_cases hlt : k < ls.length
  ·obtain ⟨b, off, rfl, hcell⟩ := hrr (by rintro rfl; simp at hlt)
   obtain ⟨c0, _, _⟩ := hcell k hlt
   clear hcell
   have hkk : (k : Int) < (ls.length : Int) := by omega
   have hi0 : (0 : Int) ≤ (k : Int) := by omega
   have HR2 : Hid ((if (ls.getD k zeroL).tx = tx then (k : Int) else liveFrom tx (ls.drop (k + 1)) (k + 1)) = R) := by
    have h := hR.out
    rw [dropL_at ls k hlt, liveFrom] at h
    exact h
   generalize ls.getD k zeroL = z at *
   by_cases hq : z.tx = tx
   ·have HR3 : Hid ((k : Int) = R) := by have h := HR2.out; rw [if_pos hq] at h; exact h
    have hqb : (z.tx == tx) = true := by simpa using hq
    clear hq hR HR2
    go_wp2
    go_ret
    exact ⟨ret_int HR3.out, hbT⟩
   ·have HR3 : Hid (liveFrom tx (ls.drop (k + 1)) (k + 1) = R) := by have h := HR2.out; rw [if_neg hq] at h; exact h
    have hqb : (z.tx == tx) = false := by simpa using hq
    clear hq hR HR2
    go_wp2_with fail
    go_roundw
    case rel => exact ⟨k + 1, by go_num, by omega, HR3, hbl⟩
    case measure => simp [intOf]; omega
  ·have hkk : ¬ (k : Int) < (ls.length : Int) := by omega
   have HR' : Hid (-1 = R) := by
    have h := hR.out
    rw [List.drop_eq_nil_of_le (by omega), liveFrom] at h
    exact h
   clear hR
   go_wp2
   go_ret
   exact ⟨ret_int HR'.out, hbT⟩
theorem l7Holder_any (e : EngA) (hsh : e.shape) (oid : Int) (w : World) (hr : ReadsH w e.aH e.holds) (hl : e.holds.length ≤ 1099511627776) :
  Calls Tryz.prog 120 #[.agg e.cells.toArray, .int .i64 oid] w fun r w' => r = .returned (.int .i64 (holdFrom oid e.holds)) ∧ Below w.heap.size w w' := by
 obtain ⟨W, hW, b0, hbW, hsW⟩ := boxes1 w e.cells 128
 have HT : Hid (∀ u, Below W.heap.size W u → u.cell? ⟨w.heap.size, 141, none⟩ = some (.slice e.aH e.holds.length e.cH)) := fun u hu => EngA.cell_at hsh (b0.below hu b0.lt) 5 _ rfl
 have HR : Hid (∀ u, Below W.heap.size W u → ReadsH u e.aH e.holds) := fun u hu => hr.below (hbW.trans (hu.mono hbW.size))
 have HF : Hid (holdFrom oid (e.holds.drop 0) = holdFrom oid e.holds) := rfl
 generalize holdFrom oid e.holds = R at *
 generalize e.cells = cs at *
 generalize e.holds = ls at *
 generalize e.aH = a at *
 generalize e.cH = c at *
 clear hsW b0 hsh hr
 go_enter Tryz.func120, Tryz.ntmps120
 go_wp2_with fail
 rw [hW.out]
 clear hW
 go_loopw [5] (fun i wr => ∃ (k : Nat), i = .int .i64 k ∧ k ≤ ls.length ∧ Hid (holdFrom oid (ls.drop k) = R) ∧ Below W.heap.size W wr)
  (fun i _ => ls.length - (intOf i).toNat)
 case atStart => exact ⟨0, rfl, by omega, HF, Below.refl _ _⟩
 case round =>
  obtain ⟨k, rfl, hk, hR, hbl⟩ := hrel
  have x0 := HT.out wr hbl
  have hrr := HR.out wr hbl
  have hbT : Below w.heap.size w wr := hbW.trans (hbl.mono hbW.size)
  by_cases hlt : k < ls.length
  ·obtain ⟨b, off, rfl, hcell⟩ := hrr (by rintro rfl; simp at hlt)
   obtain ⟨c1, c0⟩ := hcell k hlt
   clear hcell
   have hkk : (k : Int) < (ls.length : Int) := by omega
   have hi0 : (0 : Int) ≤ (k : Int) := by omega
   have HR2 : Hid ((if (ls.getD k zeroH).oid = oid then (ls.getD k zeroH).tx else holdFrom oid (ls.drop (k + 1))) = R) := by
    have h := hR.out
    rw [dropH_at ls k hlt, holdFrom] at h
    exact h
   generalize ls.getD k zeroH = z at *
   by_cases hq : z.oid = oid
   ·have HR3 : Hid (z.tx = R) := by have h := HR2.out; rw [if_pos hq] at h; exact h
    have hqb : (z.oid == oid) = true := by simpa using hq
    clear hq hR HR2
    go_wp2
    go_ret
    exact ⟨ret_int HR3.out, hbT⟩
   ·have HR3 : Hid (holdFrom oid (ls.drop (k + 1)) = R) := by have h := HR2.out; rw [if_neg hq] at h; exact h
    have hqb : (z.oid == oid) = false := by simpa using hq
    clear hq hR HR2
    go_wp2_with fail
    go_roundw
    case rel => exact ⟨k + 1, by go_num, by omega, HR3, hbl⟩
    case measure => simp [intOf]; omega
  ·have hkk : ¬ (k : Int) < (ls.length : Int) := by omega
   have HR' : Hid (0 = R) := by
    have h := hR.out
    rw [List.drop_eq_nil_of_le (by omega), holdFrom] at h
    exact h
   clear hR
   go_wp2
   go_ret
   exact ⟨ret_int HR'.out, hbT⟩
theorem specSeated_any (a : Option Addr) (c : Nat) (ls : List SeatA) (hand no : Int) (w : World) (hr : ReadsSts w a ls) (hl : ls.length ≤ 1099511627776) :
  Calls Tryz.prog 131 #[.agg #[.slice a ls.length c, .int .i64 hand], .int .i64 no] w fun r w' => r = .returned (.int .i64 (seatedOf (ls.map SeatA.v) no)) ∧ Below w.heap.size w w' := by
 obtain ⟨W, hW, b0, hbW, hsW⟩ := boxes1 w [.slice a ls.length c, .int .i64 hand] 125
 have HT : Hid (∀ u, Below W.heap.size W u → u.cell? ⟨w.heap.size, 0, none⟩ = some (.slice a ls.length c)) := fun u hu => (b0.below hu b0.lt).cell 0 _ rfl
 have HR : Hid (∀ u, Below W.heap.size W u → ReadsSts u a ls) := fun u hu => hr.below (hbW.trans (hu.mono hbW.size))
 have HF : Hid (seatFrom no ((ls.map SeatA.v).drop 0) 0 = seatedOf (ls.map SeatA.v) no) := rfl
 generalize seatedOf (ls.map SeatA.v) no = R at *
 clear hsW b0 hr
 go_enter Tryz.func131, Tryz.ntmps131
 go_wp2_with fail
 rw [hW.out]
 clear hW
 go_loopw [5] (fun i wr => ∃ (k : Nat), i = .int .i64 k ∧ k ≤ ls.length ∧ Hid (seatFrom no ((ls.map SeatA.v).drop k) k = R) ∧ Below W.heap.size W wr)
  (fun i _ => ls.length - (intOf i).toNat)
 case atStart => exact ⟨0, rfl, by omega, HF, Below.refl _ _⟩
 case round =>
  obtain ⟨k, rfl, hk, hR, hbl⟩ := hrel
  have x0 := HT.out wr hbl
  have hrr := HR.out wr hbl
  have hbT : Below w.heap.size w wr := hbW.trans (hbl.mono hbW.size)
  by_cases hlt : k < ls.length
  ·obtain ⟨b, off, rfl, hcell⟩ := hrr (by rintro rfl; simp at hlt)
   have c0 := (hcell k hlt).1 0 _ rfl
   simp only [Nat.add_zero] at c0
   clear hcell
   have hkk : (k : Int) < (ls.length : Int) := by omega
   have hi0 : (0 : Int) ≤ (k : Int) := by omega
   have HR2 : Hid ((if (ls.getD k zeroSt).no = no then (k : Int) else seatFrom no ((ls.map SeatA.v).drop (k + 1)) (k + 1)) = R) := by
    have h := hR.out
    rw [dropSt_at ls k hlt, seatFrom] at h
    exact h
   generalize ls.getD k zeroSt = z at *
   by_cases hq : z.no = no
   ·have HR3 : Hid ((k : Int) = R) := by have h := HR2.out; rw [if_pos hq] at h; exact h
    have hqb : (z.no == no) = true := by simpa using hq
    clear hq hR HR2
    go_wp2
    go_ret
    exact ⟨ret_int HR3.out, hbT⟩
   ·have HR3 : Hid (seatFrom no ((ls.map SeatA.v).drop (k + 1)) (k + 1) = R) := by have h := HR2.out; rw [if_neg hq] at h; exact h
    have hqb : (z.no == no) = false := by simpa using hq
    clear hq hR HR2
    go_wp2_with fail
    go_roundw
    case rel => exact ⟨k + 1, by go_num, by omega, HR3, hbl⟩
    case measure => simp [intOf]; omega
  ·have hkk : ¬ (k : Int) < (ls.length : Int) := by omega
   have HR' : Hid (-1 = R) := by
    have h := hR.out
    rw [List.drop_eq_nil_of_le (by rw [List.length_map]; omega), seatFrom] at h
    exact h
   clear hR
   go_wp2
   go_ret
   exact ⟨ret_int HR'.out, hbT⟩
theorem recV_at (rs : List RecA) (k : Nat) : (rs.map RecA.v).getD k zeroR.v = (rs.getD k zeroR).v := by
 simp only [List.getD, List.getElem?_map]
 cases rs[k]? <;> rfl
theorem l7Last_any (l : LogA) (tx : Int) (w : World) (hr : l.reads w) (hl : l.recs.length ≤ 1099511627776) :
  Calls Tryz.prog 127 #[.agg l.cells.toArray, .int .i64 tx] w fun r w' => r = .returned (.int .i64 (lastOf (l.recs.map RecA.v) tx)) ∧ Below w.heap.size w w' := by
 obtain ⟨rs, sure, a, c⟩ := l
 simp only [LogA.cells, LogA.reads] at *
 obtain ⟨W, hW, b0, hbW, hsW⟩ := boxes1 w [.slice a rs.length c, .int .i64 sure] 26
 have HT : Hid (∀ u, Below W.heap.size W u → u.cell? ⟨w.heap.size, 0, none⟩ = some (.slice a rs.length c)) := fun u hu => (b0.below hu b0.lt).cell 0 _ rfl
 have HR : Hid (∀ u, Below W.heap.size W u → ReadsRs u a rs) := fun u hu => hr.below (hbW.trans (hu.mono hbW.size))
 have HF : Hid (lastFrom tx (rs.map RecA.v) rs.length = lastOf (rs.map RecA.v) tx) := by rw [Hid, lastOf, List.length_map]
 generalize lastOf (rs.map RecA.v) tx = R at *
 have x0 := HT.out W (Below.refl _ _)
 clear hsW b0 hr
 go_enter Tryz.func127, Tryz.ntmps127
 go_wp2_with fail
 rw [hW.out]
 clear hW x0
 go_loopw [5] (fun i wr => ∃ (k : Nat), i = .int .i64 ((k : Int) - 1) ∧ k ≤ rs.length ∧ Hid (lastFrom tx (rs.map RecA.v) k = R) ∧ Below W.heap.size W wr)
  (fun i _ => (intOf i + 1).toNat)
 case atStart => exact ⟨rs.length, by go_num, by omega, HF, Below.refl _ _⟩
 case round =>
  obtain ⟨k, rfl, hk, hR, hbl⟩ := hrel
  have x0 := HT.out wr hbl
  have hrr := HR.out wr hbl
  have hbT : Below w.heap.size w wr := hbW.trans (hbl.mono hbW.size)
  cases k with
  | zero =>
   have HR' : Hid (0 = R) := hR.out
   clear hR
   go_wp2
   go_ret
   exact ⟨ret_int HR'.out, hbT⟩
  | succ k =>
   obtain ⟨b, off, rfl, hcell⟩ := hrr (by rintro rfl; simp at hk)
   have c0 := (hcell k (by omega)).1 1 _ rfl
   clear hcell
   have hkk : (k : Int) < (rs.length : Int) := by omega
   have hi0 : (0 : Int) ≤ (k : Int) := by omega
   have HR2 : Hid ((if (rs.getD k zeroR).tx = tx then (k : Int) + 1 else lastFrom tx (rs.map RecA.v) k) = R) := by
    have h := hR.out
    rw [lastFrom, recV_at] at h
    exact h
   have hk1 : ((k + 1 : Nat) : Int) - 1 = (k : Int) := by omega
   rw [hk1]
   generalize rs.getD k zeroR = z at *
   by_cases hq : z.tx = tx
   ·have HR3 : Hid ((k : Int) + 1 = R) := by have h := HR2.out; rw [if_pos hq] at h; exact h
    have hqb : (z.tx == tx) = true := by simpa using hq
    clear hq hR HR2
    go_wp2
    go_ret
    exact ⟨ret_int HR3.out, hbT⟩
   ·have HR3 : Hid (lastFrom tx (rs.map RecA.v) k = R) := by have h := HR2.out; rw [if_neg hq] at h; exact h
    have hqb : (z.tx == tx) = false := by simpa using hq
    clear hq hR HR2
    go_wp2_with fail
    go_roundw
    case rel => exact ⟨k, by go_num, by omega, HR3, hbl⟩
    case measure => simp [intOf]
def RecA.with (r : RecA) (t1 t2 : SlotA) (aL : Option Addr) (cL : Nat) : RecA := ⟨r.lsn, r.tx, r.prev, r.kind, r.oid, t1, t2, r.next, r.txs, aL, cL⟩
theorem with_v {r : RecA} {t1 t2 : SlotA} {aL : Option Addr} {cL : Nat} (h1 : t1.v = r.bf.v) (h2 : t2.v = r.af.v) : (r.with t1 t2 aL cL).v = r.v := by simp only [RecA.with, RecA.v, h1, h2]
theorem ownL_lit {w W : World} (h : w.alloc (.cells #[] 112) = W) : OwnL W w.heap.size W.heap.size (some ⟨w.heap.size, 0, none⟩) 0 [] := by
 subst h
 refine ⟨World.ownsRow_lit (size := 3) w #[] 0 (Nat.le_refl _) (by simp [maxLen]) rfl, Nat.le_refl _, fun k hk => ?_⟩
 simp [Value.ownBlock] at hk
 rw [World.size_alloc]
 omega
theorem l5CopyRec_own (r : RecA) (w : World) (hr : r.reads w) (hl : r.short 1099511627776) (hc : r.aL = none → r.cL = 0) :
  Calls Tryz.prog 44 #[.agg r.cells.toArray] w fun e w' => ∃ t : RecA, e = .returned (.agg t.cells.toArray) ∧ Hid (t.v = r.v) ∧ t.own w' w.heap.size w'.heap.size ∧ Below w.heap.size w w' := by
 obtain ⟨W, hW, b0, b1, hbW, hsW⟩ := boxes2 w r.cells [.int .i64 0, .int .i64 0, .int .i64 0, .int .i64 0, .int .i64 0, .bool false, .int .i64 0, .slice none 0 0, .slice none 0 0, .bool false, .int .i64 0, .slice none 0 0, .slice none 0 0, .int .i64 0, .slice none 0 0] 39 39
 have hs0 : w.heap.size + 1 < W.heap.size := by omega
 clear hsW
 have C1 := l3CopySlot_own r.bf W (ReadsO.below hr.bf hbW) hl.bf.1 hl.bf.2
 have HC : Hid (r.aL = none → r.cL = 0) := hc
 have HWV : Hid (∀ (t1 t2 : SlotA) (aL : Option Addr) (cL : Nat), t1.v = r.bf.v → t2.v = r.af.v → (r.with t1 t2 aL cL).v = r.v) := fun t1 t2 aL cL h1 h2 => with_v h1 h2
 have HWC : Hid (∀ (t1 t2 : SlotA) (aL : Option Addr) (cL : Nat), (r.with t1 t2 aL cL).cells = [.int .i64 r.lsn, .int .i64 r.tx, .int .i64 r.prev, .int .i64 r.kind, .int .i64 r.oid, .bool t1.v.has, .int .i64 t1.v.o.kind, .slice t1.aI t1.v.o.ints.length t1.cI, .slice t1.aR t1.v.o.refs.length t1.cR, .bool t2.v.has, .int .i64 t2.v.o.kind, .slice t2.aI t2.v.o.ints.length t2.cI, .slice t2.aR t2.v.o.refs.length t2.cR, .int .i64 r.next, .slice aL r.txs.length cL]) := fun _ _ _ _ => rfl
 simp only [RecA.cells] at b0 hW ⊢
 simp only [SlotA.cells] at C1
 clear hc
 go_enter Tryz.func44, Tryz.ntmps44
 go_wp2_with fail
 rw [hW.out]
 clear hW
 refine C1.mono ?_
 clear C1
 rintro e w1 ⟨t1, rfl, hv1, ho1, hb1⟩
 have b01 := b0.below hb1 b0.lt
 have b11 := b1.below hb1 b1.lt
 have hs1 := hb1.size
 clear b0 b1
 have x5 := b01.cell 5 _ rfl
 have xf5 := b01.frozen 5
 have x6 := b01.cell 6 _ rfl
 have xf6 := b01.frozen 6
 have x7 := b01.cell 7 _ rfl
 have xf7 := b01.frozen 7
 have x8 := b01.cell 8 _ rfl
 have xf8 := b01.frozen 8
 obtain ⟨W2, hW2, b02, hw2, hs2⟩ := box_quad b01 5 6 7 8 (.bool t1.v.has) (.int .i64 t1.v.o.kind) (.slice t1.aI t1.v.o.ints.length t1.cI) (.slice t1.aR t1.v.o.refs.length t1.cR)
 have hs2a := Nat.le_of_eq hs2
 have hs2b := Nat.le_of_eq hs2.symm
 clear hs2
 simp only [List.set] at b02
 have b12 := b11.within hw2 (by omega)
 have hB2 : Below w.heap.size w W2 := (hbW.trans (hb1.mono (by omega))).trans (hw2.below (by omega) (by omega))
 have ho2 := OwnO.within ho1 hw2 (.inr (by omega))
 have C2 := l3CopySlot_own r.af W2 (ReadsO.below hr.af hB2) hl.af.1 hl.af.2
 simp only [SlotA.cells] at C2
 clear b01 b11 hw2 ho1
 go_upto_region 2 with fail
 rw [hW2.out]
 clear x5 x6 x7 x8 xf5 xf6 xf7 xf8 hW2
 have y9 := b02.cell 9 _ rfl
 have y10 := b02.cell 10 _ rfl
 have y11 := b02.cell 11 _ rfl
 have y12 := b02.cell 12 _ rfl
 go_wp2_with fail
 refine C2.mono ?_
 clear C2 y9 y10 y11 y12
 rintro e w3 ⟨t2, rfl, hv2, ho3, hb3⟩
 have b03 := b02.below hb3 b02.lt
 have b13 := b12.below hb3 b12.lt
 have hs3 := hb3.size
 have ho23 := OwnO.below ho2 hb3
 clear b02 b12 ho2
 have x9 := b03.cell 9 _ rfl
 have xf9 := b03.frozen 9
 have x10 := b03.cell 10 _ rfl
 have xf10 := b03.frozen 10
 have x11 := b03.cell 11 _ rfl
 have xf11 := b03.frozen 11
 have x12 := b03.cell 12 _ rfl
 have xf12 := b03.frozen 12
 obtain ⟨W4, hW4, b04, hw4, hs4⟩ := box_quad b03 9 10 11 12 (.bool t2.v.has) (.int .i64 t2.v.o.kind) (.slice t2.aI t2.v.o.ints.length t2.cI) (.slice t2.aR t2.v.o.refs.length t2.cR)
 have hs4a := Nat.le_of_eq hs4
 have hs4b := Nat.le_of_eq hs4.symm
 clear hs4
 simp only [List.set] at b04
 have b14 := b13.within hw4 (by omega)
 have hB4 : Below w.heap.size w W4 := (hB2.trans (hb3.mono (by omega))).trans (hw4.below (by omega) (by omega))
 have hoA4 := OwnO.within ho23 hw4 (.inr (by omega))
 have hoB4 := OwnO.within ho3 hw4 (.inr (by omega))
 clear b03 b13 hw4 ho3 ho23 hb3
 go_upto_region 3 with fail
 rw [hW4.out]
 clear x9 x10 x11 x12 xf9 xf10 xf11 xf12 hW4
 obtain ⟨W5, hW5, bE, hb5, hs5⟩ := boxes1 W4 [] 112
 have hs5a := Nat.le_of_eq hs5
 have hs5b := Nat.le_of_eq hs5.symm
 clear hs5
 have hW5' : W4.alloc (.cells #[] 112) = W5 := hW5.out
 have HW5 : Hid (W4.alloc (.cells #[] 112) = W5) := hW5'
 have oE := ownL_lit hW5'
 clear bE hW5 hW5'
 have b05 := b04.below hb5 b04.lt
 have b15 := b14.below hb5 b14.lt
 have hoA5 := OwnO.below hoA4 hb5
 have hoB5 := OwnO.below hoB4 hb5
 have hB5 : Below w.heap.size w W5 := hB4.trans (hb5.mono (by omega))
 have k14 := b05.cell 14 _ rfl
 have k14' : (W4.alloc (.cells #[] 112)).cell? ⟨w.heap.size, 14, none⟩ = some (.slice r.aL r.txs.length r.cL) := by rw [HW5.out]; exact k14
 have hA1 : ([] : List LiveV).length + r.txs.length ≤ 1099511627776 := by have := hl.txs; simp only [List.length_nil]; omega
 have hrt : ReadsL W5 r.aL r.txs := hr.txs.below hB5
 have hs5' := hb5.size
 clear b04 b14 hoA4 hoB4
 have HNC : Hid (r.aL = none → r.cL = 0) := HC.out
 go_wp2_with (at_builtin; refine append_lives rfl _ _ rfl W4.heap.size _ (some ⟨W4.heap.size, 0, none⟩) 0 [] rfl (by rw [HW5.out]; exact oE) r.aL r.cL r.txs rfl (by rw [HW5.out]; exact hrt) HNC.out hA1 (by rw [HW5.out]; omega) ?_)
 intro aL cL ys w6 hys o6 g6
 rw [HW5.out] at g6
 have hw6 : Within W4.heap.size W5.heap.size W5 w6 := Within.of_grown g6 (fun j hj => oE.lt j hj)
 have hs6 := hw6.size
 have b06 := b05.within hw6 (by omega)
 have b16 := b15.within hw6 (by omega)
 have hoA6 := OwnO.within hoA5 hw6 (.inl (by omega))
 have hoB6 := OwnO.within hoB5 hw6 (.inl (by omega))
 have hB6 : Below w.heap.size w w6 := hB5.trans (hw6.below (by omega) (by omega))
 obtain rfl : ys = r.txs := hys.out.trans (List.nil_append _)
 clear hys g6 hw6 oE b05 b15 hoA5 hoB5 k14 k14' hrt HW5
 have HAP : Hid ((t1.blocks ++ (t2.blocks ++ (Value.slice aL r.txs.length cL).ownBlock.toList)).Nodup) := rec_apart (c := W4.heap.size) (OwnO.widen hoA6 (Nat.le_refl _) (show _ ≤ W2.heap.size by omega) (by omega)) (OwnO.widen hoB6 (Nat.le_refl _) (show _ ≤ W4.heap.size by omega) (by omega)) o6 (by omega)
 have x14 := b06.cell 14 _ rfl
 have f14 := b06.frozen 14
 obtain ⟨W7, hW7, b07, hw7, hs7⟩ := box_set b06 14 (.slice aL r.txs.length cL)
 have hs7a := Nat.le_of_eq hs7
 have hs7b := Nat.le_of_eq hs7.symm
 clear hs7
 simp only [List.set] at b07
 have b17 := b16.within hw7 (by omega)
 have b07' : Box W7 w.heap.size (r.with t1 t2 aL cL).cells 39 := by rw [HWC.out]; exact b07
 have hoA7 := OwnO.within hoA6 hw7 (.inr (by omega))
 have hoB7 := OwnO.within hoB6 hw7 (.inr (by omega))
 have o7 := o6.within hw7 (.inr (by omega))
 have hB7 : Below w.heap.size w W7 := hB6.trans (hw7.below (by omega) (by omega))
 clear hw7 b06 b16 hoA6 hoB6 o6
 go_upto_region 4 with fail
 rw [hW7.out]
 clear x14 f14 hW7
 obtain ⟨WF, hWF, hwF, hsF, HTF, HLF, bF⟩ := rec_out (r.with t1 t2 aL cL) _ rfl b17
 have hsFa := Nat.le_of_eq hsF
 have hsFb := Nat.le_of_eq hsF.symm
 clear hsF
 have hoF : (r.with t1 t2 aL cL).own WF w.heap.size WF.heap.size := ⟨OwnO.widen (OwnO.within hoA7 hwF (.inr (by omega))) (by omega) (by omega) (Nat.le_refl _), OwnO.widen (OwnO.within hoB7 hwF (.inr (by omega))) (by omega) (by omega) (Nat.le_refl _), (o7.within hwF (.inr (by omega))).widen (by omega) (by omega) (Nat.le_refl _), HAP.out⟩
 have hbF : Below w.heap.size w WF := hB7.trans (hwF.below (by omega) (by omega))
 have HF : Hid (_ ∧ _ ∧ _) := ⟨HWV.out t1 t2 aL cL hv1.out hv2.out, hoF, hbF⟩
 have rT : W7.rangeAt w.heap.size 0 (r.with t1 t2 aL cL).cells := Box.range [] _ [] (by simpa using b07')
 clear hoF hbF bF hwF b07 b07' b17 hoA7 hoB7 o7 HAP HWC HWV
 generalize r.with t1 t2 aL cL = TT at *
 go_wp2_with (first | (guard_target = wpList _ _ _ (Oper.mk (some 16) _ _ _ _ _ :: _) _ _; refine wpList_load_mid rfl 39 (.tmp 1) rfl w.heap.size 0 rfl TT.cells _ rT Tryz.underlying39 rfl (rec_info _) ?_) | (guard_target = wpList _ _ _ (Oper.mk none (Op.store _ (Operand.tmp 2) _) _ _ _ _ :: _) _ _; refine wpList_store_mid rfl 39 (.tmp 2) (.tmp 16) rfl (w.heap.size + 1) 0 TT.cells.toArray rfl rfl HTF.out (rec_info _) (rec_one _) ?_) | fail)
 rw [hWF.out]
 exact bodyPost_ret (v := .agg TT.cells.toArray) (results_one Tryz.results44 rfl HLF.out) rfl ⟨TT, rfl, HF.out.1, HF.out.2.1, HF.out.2.2⟩
end Go.Proofs.YtoboickdkednkaaGreatDoor
namespace Go.Proofs.YtoboickdkednkaaGreatDoor
open Go.RowKit
attribute [local go_sem ↓] Go.wp_at_zero Go.wp_at_succ
theorem copyRec_own (r : RecA) (w : World) (hr : r.reads w) (hl : r.short 1099511627776) (hc : r.aL = none → r.cL = 0) :
  Calls Tryz.prog 62 #[.agg r.cells.toArray] w fun e w' => ∃ t : RecA, e = .returned (.agg t.cells.toArray) ∧ Hid (t.v = r.v) ∧ t.own w' w.heap.size w'.heap.size ∧ Below w.heap.size w w' := by
 obtain ⟨W, hW, b0, b1, hbW, hsW⟩ := boxes2 w r.cells [.int .i64 0, .int .i64 0, .int .i64 0, .int .i64 0, .int .i64 0, .bool false, .int .i64 0, .slice none 0 0, .slice none 0 0, .bool false, .int .i64 0, .slice none 0 0, .slice none 0 0, .int .i64 0, .slice none 0 0] 39 39
 have hs0 : w.heap.size + 1 < W.heap.size := by omega
 clear hsW
 have HC1 : Hid (∀ u, Below W.heap.size W u → Calls _ _ _ _ _) := fun u hu => copySlot_own r.bf u (ReadsO.below hr.bf (hbW.trans (hu.mono (by omega)))) hl.bf.1 hl.bf.2
 have HC2 : Hid (∀ u, Below W.heap.size W u → Calls _ _ _ _ _) := fun u hu => copySlot_own r.af u (ReadsO.below hr.af (hbW.trans (hu.mono (by omega)))) hl.af.1 hl.af.2
 have HC : Hid (r.aL = none → r.cL = 0) := hc
 have HWV : Hid (∀ (t1 t2 : SlotA) (aL : Option Addr) (cL : Nat), t1.v = r.bf.v → t2.v = r.af.v → (r.with t1 t2 aL cL).v = r.v) := fun t1 t2 aL cL h1 h2 => with_v h1 h2
 have HWC : Hid (∀ (t1 t2 : SlotA) (aL : Option Addr) (cL : Nat), (r.with t1 t2 aL cL).cells = [.int .i64 r.lsn, .int .i64 r.tx, .int .i64 r.prev, .int .i64 r.kind, .int .i64 r.oid, .bool t1.v.has, .int .i64 t1.v.o.kind, .slice t1.aI t1.v.o.ints.length t1.cI, .slice t1.aR t1.v.o.refs.length t1.cR, .bool t2.v.has, .int .i64 t2.v.o.kind, .slice t2.aI t2.v.o.ints.length t2.cI, .slice t2.aR t2.v.o.refs.length t2.cR, .int .i64 r.next, .slice aL r.txs.length cL]) := fun _ _ _ _ => rfl
 simp only [RecA.cells] at b0 hW ⊢
 simp only [SlotA.cells] at HC1 HC2
 clear hc
 go_enter Tryz.func62, Tryz.ntmps62
 go_wp2_with fail
 rw [hW.out]
 clear hW
 have x5 := b0.cell 5 _ rfl
 have x6 := b0.cell 6 _ rfl
 have x7 := b0.cell 7 _ rfl
 have x8 := b0.cell 8 _ rfl
 have x9 := b0.cell 9 _ rfl
 have x10 := b0.cell 10 _ rfl
 have x11 := b0.cell 11 _ rfl
 have x12 := b0.cell 12 _ rfl
 have HBX : Hid (∀ u, Below W.heap.size W u → Box u w.heap.size _ _) := fun u hu => b0.below hu b0.lt
 have HBY : Hid (∀ u, Below W.heap.size W u → Box u (w.heap.size + 1) _ _) := fun u hu => b1.below hu b1.lt
 clear b0 b1
 go_region_law ((first
  | (go_simp; go_at_call 85; refine (HC1.out _ (Below.refl _ _).drew).mono ?_; clear HC1; rintro e u1 ⟨t1, rfl, hv1, ho1, hb1⟩; have hb1' := (Below.refl W.heap.size W).drew.trans hb1; have z9 := (HBX.out u1 hb1').cell 9 _ rfl; have z10 := (HBX.out u1 hb1').cell 10 _ rfl; have z11 := (HBX.out u1 hb1').cell 11 _ rfl; have z12 := (HBX.out u1 hb1').cell 12 _ rfl)
  | (go_simp; go_at_call 85; refine (HC2.out _ hb1').mono ?_; clear HC2; rintro e u2 ⟨t2, rfl, hv2, ho2, hb2⟩; have hb2' := hb1'.trans (hb2.mono hb1'.size); have y5 := (HBX.out u2 hb2').cell 5 _ rfl; have y6 := (HBX.out u2 hb2').cell 6 _ rfl; have y7 := (HBX.out u2 hb2').cell 7 _ rfl; have y8 := (HBX.out u2 hb2').cell 8 _ rfl; have y9 := (HBX.out u2 hb2').cell 9 _ rfl; have y10 := (HBX.out u2 hb2').cell 10 _ rfl; have y11 := (HBX.out u2 hb2').cell 11 _ rfl; have y12 := (HBX.out u2 hb2').cell 12 _ rfl; have g5 := (HBX.out u2 hb2').frozen 5; have g6 := (HBX.out u2 hb2').frozen 6; have g7 := (HBX.out u2 hb2').frozen 7; have g8 := (HBX.out u2 hb2').frozen 8; have g9 := (HBX.out u2 hb2').frozen 9; have g10 := (HBX.out u2 hb2').frozen 10; have g11 := (HBX.out u2 hb2').frozen 11; have g12 := (HBX.out u2 hb2').frozen 12)
  | fail))
 all_goals
  have hs1 := hb1'.size
  have hs2 := hb2.size
  have b02 := HBX.out u2 hb2'
  have b12 := HBY.out u2 hb2'
  have hB2 : Below w.heap.size w u2 := hbW.trans (hb2'.mono (by omega))
  have ho12 : t1.own u2 W.heap.size u1.heap.size := OwnO.below ho1 hb2
  obtain ⟨Wa, hWa, b0a, hwa, hsa⟩ := box_quad b02 5 6 7 8 (.bool t1.v.has) (.int .i64 t1.v.o.kind) (.slice t1.aI t1.v.o.ints.length t1.cI) (.slice t1.aR t1.v.o.refs.length t1.cR)
  obtain ⟨Wb, hWb, b0b, hwb, hsb⟩ := box_quad b0a 9 10 11 12 (.bool t2.v.has) (.int .i64 t2.v.o.kind) (.slice t2.aI t2.v.o.ints.length t2.cI) (.slice t2.aR t2.v.o.refs.length t2.cR)
  have hsaa := Nat.le_of_eq hsa
  have hsab := Nat.le_of_eq hsa.symm
  have hsba := Nat.le_of_eq hsb
  have hsbb := Nat.le_of_eq hsb.symm
  simp only [List.set] at b0b
  rw [hWa.out, hWb.out]
  have b1b := (b12.within hwa (by omega)).within hwb (by omega)
  have hoA := OwnO.within (OwnO.within ho12 hwa (.inr (by omega))) hwb (.inr (by omega))
  have hoB := OwnO.within (OwnO.within ho2 hwa (.inr (by omega))) hwb (.inr (by omega))
  have hB4 : Below w.heap.size w Wb := (hB2.trans (hwa.below (by omega) (by omega))).trans (hwb.below (by omega) (by omega))
  clear hWa hWb b02 b12 b0a hwa hwb hsa hsb ho1 ho2 ho12 hb1 hb2 hb1' hb2' x5 x6 x7 x8 x9 x10 x11 x12 z9 z10 z11 z12 y5 y6 y7 y8 y9 y10 y11 y12 g5 g6 g7 g8 g9 g10 g11 g12 HBX HBY hB2
  have x14 := b0b.cell 14 _ rfl
  have hA1 : ([] : List LiveV).length + r.txs.length ≤ 1099511627776 := by have := hl.txs; simp only [List.length_nil]; omega
  have hrt : ReadsL Wb r.aL r.txs := hr.txs.below hB4
  have oE := ownL_nil Wb Wb.heap.size Wb.heap.size (Nat.le_refl _)
  go_wp2_with (at_builtin; refine append_lives rfl _ _ rfl Wb.heap.size _ none 0 [] rfl oE r.aL r.cL r.txs rfl hrt HC.out hA1 (Nat.le_refl _) ?_)
  intro aL cL ys w6 hys o6 g6
  have hw6 : Within Wb.heap.size Wb.heap.size Wb w6 := Within.of_grown g6 (fun j hj => by cases hj)
  have hs6 := hw6.size
  have b06 := b0b.within hw6 (by omega)
  have b16 := b1b.within hw6 (by omega)
  have hoA6 := OwnO.within hoA hw6 (.inl (by omega))
  have hoB6 := OwnO.within hoB hw6 (.inl (by omega))
  have hB6 : Below w.heap.size w w6 := hB4.trans (hw6.below (by omega) (by omega))
  obtain rfl : ys = r.txs := hys.out.trans (List.nil_append _)
  clear hys g6 hw6 oE b0b b1b hoA hoB x14 hrt
  have HAP : Hid ((t1.blocks ++ (t2.blocks ++ (Value.slice aL r.txs.length cL).ownBlock.toList)).Nodup) := rec_apart (c := Wb.heap.size) hoA6 (OwnO.widen hoB6 (Nat.le_refl _) (show _ ≤ Wb.heap.size by omega) (by omega)) o6 (by omega)
  have x14 := b06.cell 14 _ rfl
  have f14 := b06.frozen 14
  obtain ⟨W7, hW7, b07, hw7, hs7⟩ := box_set b06 14 (.slice aL r.txs.length cL)
  have hs7a := Nat.le_of_eq hs7
  have hs7b := Nat.le_of_eq hs7.symm
  clear hs7
  simp only [List.set] at b07
  have b17 := b16.within hw7 (by omega)
  have b07' : Box W7 w.heap.size (r.with t1 t2 aL cL).cells 39 := by rw [HWC.out]; exact b07
  have hoA7 := OwnO.within hoA6 hw7 (.inr (by omega))
  have hoB7 := OwnO.within hoB6 hw7 (.inr (by omega))
  have o7 := o6.within hw7 (.inr (by omega))
  have hB7 : Below w.heap.size w W7 := hB6.trans (hw7.below (by omega) (by omega))
  clear hw7 b06 b16 hoA6 hoB6 o6
  go_upto_region 3 with fail
  rw [hW7.out]
  clear x14 f14 hW7
  obtain ⟨WF, hWF, hwF, hsF, HTF, HLF, bF⟩ := rec_out (r.with t1 t2 aL cL) _ rfl b17
  have hsFa := Nat.le_of_eq hsF
  have hsFb := Nat.le_of_eq hsF.symm
  clear hsF
  have hoF : (r.with t1 t2 aL cL).own WF w.heap.size WF.heap.size := ⟨OwnO.widen (OwnO.within hoA7 hwF (.inr (by omega))) (by omega) (by omega) (Nat.le_refl _), OwnO.widen (OwnO.within hoB7 hwF (.inr (by omega))) (by omega) (by omega) (Nat.le_refl _), (o7.within hwF (.inr (by omega))).widen (by omega) (by omega) (Nat.le_refl _), HAP.out⟩
  have hbF : Below w.heap.size w WF := hB7.trans (hwF.below (by omega) (by omega))
  have HF : Hid (_ ∧ _ ∧ _) := ⟨HWV.out t1 t2 aL cL hv1.out hv2.out, hoF, hbF⟩
  have rT : W7.rangeAt w.heap.size 0 (r.with t1 t2 aL cL).cells := Box.range [] _ [] (by simpa using b07')
  clear hoF hbF bF hwF b07 b07' b17 hoA7 hoB7 o7 HAP HWC HWV
  generalize r.with t1 t2 aL cL = TT at *
  go_wp2_with (first | (guard_target = wpList _ _ _ (Oper.mk (some 15) _ _ _ _ _ :: _) _ _; refine wpList_load_mid rfl 39 (.tmp 1) rfl w.heap.size 0 rfl TT.cells _ rT Tryz.underlying39 rfl (rec_info _) ?_) | (guard_target = wpList _ _ _ (Oper.mk none (Op.store _ (Operand.tmp 2) _) _ _ _ _ :: _) _ _; refine wpList_store_mid rfl 39 (.tmp 2) (.tmp 15) rfl (w.heap.size + 1) 0 TT.cells.toArray rfl rfl HTF.out (rec_info _) (rec_one _) ?_) | fail)
  rw [hWF.out]
  exact bodyPost_ret (v := .agg TT.cells.toArray) (results_one Tryz.results62 rfl HLF.out) rfl ⟨TT, rfl, HF.out.1, HF.out.2.1, HF.out.2.2⟩
end Go.Proofs.YtoboickdkednkaaGreatDoor
namespace Go.Proofs.YtoboickdkednkaaGreatDoor
open Go.RowKit
theorem rep_len (n : Nat) (r : RecA) : (List.replicate n r).length = n := by simp
theorem zero_cellsRs (n : Nat) : (madeCells (Value.agg zeroR.cells.toArray).cells (n * 15)).toList = cellsRs (List.replicate n zeroR) := by
 apply List.ext_getElem?
 intro i
 by_cases h : i < n * 15
 ·have e := cellsRs_at (List.replicate n zeroR) (i / 15) (i % 15) (by simp; omega) (Nat.mod_lt _ (by omega))
  rw [show i / 15 * 15 + i % 15 = i by omega] at e
  rw [e]
  have hg : (List.replicate n zeroR).getD (i / 15) zeroR = zeroR := by simp [List.getD, show i / 15 < n by omega]
  rw [hg]
  simp only [madeCells, Array.toList_map, List.getElem?_map, Array.toList_range, List.getElem?_range h, Option.map_some]
  have hm : i % 15 < 15 := Nat.mod_lt _ (by omega)
  have hz : ∀ j, j < 15 → some ((Value.agg zeroR.cells.toArray).cells[j]!) = zeroR.cells[j]? := by
   intro j hj
   rcases (by omega : j = 0 ∨ j = 1 ∨ j = 2 ∨ j = 3 ∨ j = 4 ∨ j = 5 ∨ j = 6 ∨ j = 7 ∨ j = 8 ∨ j = 9 ∨ j = 10 ∨ j = 11 ∨ j = 12 ∨ j = 13 ∨ j = 14) with rfl | rfl | rfl | rfl | rfl | rfl | rfl | rfl | rfl | rfl | rfl | rfl | rfl | rfl | rfl <;> rfl
  exact hz _ hm
 ·rw [List.getElem?_eq_none (by simp [size_madeCells]; omega), List.getElem?_eq_none (by rw [cellsRs_len]; simp; omega)]
theorem own_zeroRs {w : World} {lo hi g c : Nat} (n : Nat) (h : w.ownsRow lo 39 15 (.slice (some ⟨g, 0, none⟩) n c) n (cellsRs (List.replicate n zeroR))) (ht : hi ≤ w.heap.size) (hg : g < hi) : OwnRs w lo hi (some ⟨g, 0, none⟩) c (List.replicate n zeroR) := by
 refine ⟨by rw [rep_len]; exact h, ht, fun k hk => by cases hk; exact hg, fun r hr => ?_, ?_⟩
 ·rw [(List.mem_replicate.1 hr).2]
  exact own_zeroR w lo hi ht
 ·have e : (List.replicate n zeroR).flatMap RecA.blocks = [] := by
   rw [List.flatMap_eq_nil_iff]
   intro r hr
   rw [(List.mem_replicate.1 hr).2]
   rfl
  rw [e]
  simp [Value.ownBlock]
def Came (rs ts : List RecA) (k : Nat) : Prop := ts.length = k ∧ ts.map RecA.v = (rs.take k).map RecA.v
theorem came_none (rs : List RecA) : Came rs [] 0 := ⟨rfl, by simp⟩
theorem Came.snoc {rs ts : List RecA} {k : Nat} (h : Came rs ts k) (hk : k < rs.length) {q : RecA} (hq : q.v = (rs.getD k zeroR).v) : Came rs (ts ++ [q]) (k + 1) := by
 refine ⟨by simp [h.1], ?_⟩
 have e : rs.getD k zeroR = rs[k] := by simp [List.getD, hk]
 rw [List.map_append, h.2, List.take_succ_eq_append_getElem hk, List.map_append, List.map_singleton, List.map_singleton, hq, e]
theorem Came.all {rs ts : List RecA} (h : Came rs ts rs.length) : ts.map RecA.v = rs.map RecA.v := by
 have := h.2
 rwa [List.take_length] at this
theorem range_below {w w' : World} {b o : Nat} {r : RecA} (h : w.rangeAt b o r.cells) (hb : Below w.heap.size w w') : w'.rangeAt b o r.cells := rangeAt_below h hb (rangeR_lt h)
end Go.Proofs.YtoboickdkednkaaGreatDoor
namespace Go.Proofs.YtoboickdkednkaaGreatDoor
open Go.ChangeShapes Go.WideShapes Go.ChangeAt Go.RowKit
structure InLog (w : World) (l : LogA) : Prop where
 recs : ReadsRs w l.a l.recs
 each : ∀ r ∈ l.recs, InRec w r
 len : l.recs.length ≤ maxLen
 num : InI64 l.sure
theorem InLog.short {w : World} {l : LogA} (h : InLog w l) : l.short 9223372036854775807 := ⟨by have := h.len; simp only [maxLen] at this; omega, fun r hr => (h.each r hr).short⟩
section
variable {H : Type} {enc : TypeId × Value → H} {w : World} {base : Nat} {spare : Nat → Bool} {held : Bool}
theorem Tryz.cellsRcs : Tryz.prog.cellsOf 44 = 1 := by kernel_rfl
theorem Tryz.cellsLg : Tryz.prog.cellsOf 46 = 2 := by kernel_rfl
theorem trod_recs {fuel : Nat} {cs : List Value} {x : DataW H × List MemPlace} (h : DataW.trod enc Tryz.prog w base spare held fuel 44 cs = some x) :
  ∃ (a : Option Addr) (c : Nat) (rs : List RecA), cs = [.slice a rs.length c] ∧ ReadsRs w a rs ∧ (∀ r ∈ rs, InRec w r) ∧ rs.length ≤ maxLen := by
 rcases DataW.trod_slice Tryz.underlying44 h with ⟨rfl, _⟩ | ⟨a, len, cap, elems, rest, n, _, rfl, _, _, hl, hm, hlen, hel, _, _⟩
 ·exact ⟨none, 0, [], rfl, ReadsRs.nil _ _, fun r hr => by simp at hr, by simp⟩
 rw [Tryz.cellsRc] at hel
 have each : ∀ i, i < len → ∃ t : RecA, w.cells? base (a.add (i * 15)) 15 = some t.cells ∧ InRec w t := by
  intro i hi
  have hy := hel i hi
  rw [List.getElem?_eq_getElem (by omega : i < elems.length), Option.bind_eq_some_iff] at hy
  obtain ⟨cs', hcs, hy'⟩ := hy
  obtain ⟨t, e, ht⟩ := trod_rec hy'
  exact ⟨t, by rw [hcs, e], ht⟩
 obtain ⟨f, hf⟩ : ∃ f : Nat → RecA, ∀ i, i < len → w.cells? base (a.add (i * 15)) 15 = some (f i).cells ∧ InRec w (f i) := by
  refine ⟨fun i => if h : i < len then (each i h).choose else zeroR, fun i hi => ?_⟩
  simp only [dif_pos hi]
  exact (each i hi).choose_spec
 refine ⟨some a, cap, (List.range len).map f, by simp, ?_, ?_, by simp; omega⟩
 ·intro hne
  have hpos := List.length_pos_iff.2 hne
  simp only [List.length_map, List.length_range] at hpos ⊢
  obtain ⟨b, off, spot⟩ := a
  have c0 := (World.cells?_some (hf 0 hpos).1).2.2 0 (by decide)
  have hspot : spot = none := by simpa [Addr.add] using World.cell?_spot c0
  subst hspot
  refine ⟨b, off, rfl, fun k hk => ?_⟩
  have e : ((List.range len).map f).getD k zeroR = f k := by simp [List.getD, hk]
  rw [e]
  have hc := (World.cells?_some (hf k hk).1).2.2
  refine ⟨fun j v hv => ?_, (hf k hk).2.reads⟩
  have hj : j < 15 := by have := (List.getElem?_eq_some_iff.1 hv).1; rwa [cellsR_len] at this
  have d := hc j (by simpa using hj)
  simp only [Addr_add] at d
  rw [d, hv]
 ·intro r hr
  obtain ⟨k, hk, rfl⟩ := List.mem_map.1 hr
  exact (hf k (List.mem_range.1 hk)).2
theorem trod_log {fuel : Nat} {cs : List Value} {x : DataW H × List MemPlace} (h : DataW.trod enc Tryz.prog w base spare held fuel 46 cs = some x) :
  ∃ l : LogA, cs = l.cells ∧ InLog w l := by
 obtain ⟨xs, n, _, _, hlen, hxl, hf⟩ := DataW.trod_struct Tryz.underlying46 h
 rw [Tryz.cellsLg] at hlen
 match cs, hlen with
 | [v0, v1], _ =>
  have f0 := hf 0 _ rfl
  have f1 := hf 1 _ rfl
  obtain ⟨y0, hx0⟩ := some_at xs 0 (by rw [hxl]; decide)
  rw [hx0] at f0
  obtain ⟨y1, hx1⟩ := some_at xs 1 (by rw [hxl]; decide)
  rw [hx1] at f1
  simp only [List.getElem_toArray, List.getElem_cons_zero, List.getElem_cons_succ, Tryz.cellsI, Tryz.cellsRcs, List.drop, List.take] at f0 f1
  obtain ⟨a, c, rs, e0, h0, h1, h2⟩ := trod_recs f0
  obtain ⟨m, e1, w1⟩ := trod_num f1
  simp only [List.cons.injEq, and_true] at e0 e1
  subst e0 e1
  exact ⟨⟨rs, m, a, c⟩, rfl, h0, h1, h2, w1⟩
theorem open_log {b0 : Nat} {v : Value} {d : DataW H} {ps : List MemPlace} (hval : Value.okWide Tryz.prog w .any b0 46 v) (h : DataW.Trod enc Tryz.prog w base spare held 46 v d ps) :
  ∃ l : LogA, v = .agg l.cells.toArray ∧ InLog w l := by
 obtain ⟨cs, rfl, hcs⟩ := okWide_struct Tryz.underlying46 hval
 obtain ⟨fuel, hf⟩ := h
 have e : (Value.agg cs).cells.toList = cs.toList := rfl
 rw [e] at hf
 obtain ⟨r, hc, rest⟩ := trod_log hf
 refine ⟨r, ?_, rest⟩
 congr 1
 apply Array.toList_inj.1
 rw [hc]
end
end Go.Proofs.YtoboickdkednkaaGreatDoor
namespace Go.Proofs.YtoboickdkednkaaGreatDoor
open Go.RowKit
theorem LogA.reads.below {w w' : World} {l : LogA} (h : l.reads w) (hb : Below w.heap.size w w') : l.reads w' := ReadsRs.below h hb
theorem LogA.own.reads {w : World} {lo hi : Nat} {l : LogA} (h : l.own w lo hi) : l.reads w := OwnRs.reads h
theorem LogA.own.below {w w' : World} {lo hi : Nat} {l : LogA} (h : l.own w lo hi) (hb : Below w.heap.size w w') : l.own w' lo hi := OwnRs.below h hb
theorem LogA.own.within {w w' : World} {lo hi a b : Nat} {l : LogA} (h : l.own w lo hi) (hw : Within a b w w') (hd : hi ≤ a ∨ b ≤ lo) : l.own w' lo hi := OwnRs.within h hw hd
theorem LogA.own.widen {w : World} {lo hi lo' hi' : Nat} {l : LogA} (h : l.own w lo hi) (h1 : lo' ≤ lo) (h2 : hi ≤ hi') (h3 : hi' ≤ w.heap.size) : l.own w lo' hi' := OwnRs.widen h h1 h2 h3
def LogA.blocks (l : LogA) : List Nat := blocksRs l.a l.c l.recs
theorem LogA.own.blocks_lt {w : World} {lo hi : Nat} {l : LogA} (h : l.own w lo hi) : ∀ k ∈ l.blocks, lo ≤ k ∧ k < hi := OwnRs.blocks_lt h
theorem LogA.own.touch {w w' : World} {lo hi : Nat} {l : LogA} {bl : List Nat} (h : l.own w lo hi) (ht : Touch bl w w') (hd : ∀ k ∈ l.blocks, k ∉ bl) : l.own w' lo hi := OwnRs.touch h ht hd
theorem oneLog (l : LogA) : ∀ v ∈ l.cells, v.oneCell' = true := by
 intro v hv
 simp only [LogA.cells, List.mem_cons, List.not_mem_nil, or_false] at hv
 rcases hv with rfl | rfl <;> rfl
theorem InLog.reads {w : World} {l : LogA} (h : InLog w l) : l.reads w := h.recs
theorem log_one (q : LogA) : q.cells.toArray.all (·.oneCell') = true := all_oneCell_toArray (oneLog q)
theorem log_info (q : LogA) : (Tryz.prog.info? 26).map (·.size) = some q.cells.length := by show _ = some 2; kernel_rfl
theorem log_load {w : World} {C : Nat} (q : LogA) (b : Box w C q.cells 26) : (loadVar 26 ⟨C, 0, none⟩).run Tryz.prog w = .ok (.agg q.cells.toArray) w :=
 run_loadVar_mid (P := Tryz.prog) w C 0 26 q.cells _ (Box.range [] q.cells [] (by simpa using b)) Tryz.underlying26 rfl (log_info q)
theorem log_out {w : World} {C : Nat} (q : LogA) (old : List Value) (ho : old.length = 2) (bC : Box w C old 26) :
  ∃ WF, Hid (w.setCells C 0 q.cells = WF) ∧ Within C (C + 1) w WF ∧ WF.heap.size = w.heap.size ∧ Hid (w.there C 0 q.cells.toArray.size) ∧ Hid ((loadVar 26 ⟨C, 0, none⟩).run Tryz.prog WF = .ok (.agg q.cells.toArray) WF) ∧ Box WF C q.cells 26 := by
 obtain ⟨WF, hWF, bF, hwF, hsF⟩ := range_fill [] old q.cells [] (by simpa using bC) (by rw [ho]; rfl)
 have bF' : Box WF C q.cells 26 := by simpa using bF
 exact ⟨WF, hWF, hwF, hsF, bC.there 0 _ (by rw [ho]; show 0 + 2 ≤ 2; decide), log_load q bF', bF'⟩
theorem box2_fill {w : World} {B : Nat} {x0 x1 : Value} {t : TypeId} (b : Box w B [x0, x1] t) (v0 v1 : Value) :
  ∃ W, Hid ((w.setCell ⟨B, 0, none⟩ v0).setCell ⟨B, 1, none⟩ v1 = W) ∧ Box W B [v0, v1] t ∧ Within B (B + 1) w W ∧ W.heap.size = w.heap.size := by
 refine ⟨_, rfl, by simpa using (b.set 0 v0).set 1 v1, (within_set w B 0 v0 (by omega)).trans (within_set _ B 1 v1 (by omega)), by simp⟩
end Go.Proofs.YtoboickdkednkaaGreatDoor