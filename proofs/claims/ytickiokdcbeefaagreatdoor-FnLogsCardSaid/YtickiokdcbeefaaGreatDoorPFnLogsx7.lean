/- Several texts in one, in their order. -/
import Derived.Test.YtickiokdcbeefaaGreatDoorPFnLogsx6
import Derived.Deep.RegionHeld3
import Derived.Test.YtickiokdcbeefaaGreatDoorPFnLogsx3
import Derived.Test.YtickiokdcbeefaaGreatDoorPFnLogsx4
import Derived.Deep.CutRange
import Derived.Deep.RegionLaw
import Derived.Deep.DrawnRows
import Derived.Test.YtickiokdcbeefaaGreatDoorPFnLogsx2
import Derived.Test.YtickiokdcbeefaaGreatDoorPFnLogsx1
set_option maxHeartbeats 8000000
set_option maxRecDepth 100000
namespace Go.Proofs.YtickiokdcbeefaaGreatDoor
open Go.RowKit
theorem kind_setDeed (tx prev oid : Int) (b a : SlotA) (w : World) : Calls Tryz.prog 82 #[.agg #[.int .i64 tx, .int .i64 prev, .int .i64 oid, .bool b.v.has, .int .i64 b.v.o.kind, .slice b.aI b.v.o.ints.length b.cI, .slice b.aR b.v.o.refs.length b.cR, .bool a.v.has, .int .i64 a.v.o.kind, .slice a.aI a.v.o.ints.length a.cI, .slice a.aR a.v.o.refs.length a.cR]] w fun e w' => e = .returned (.int .i64 1) ∧ Below w.heap.size w w' := by
 go_enter Tryz.func82, Tryz.ntmps82
 go_wp2
 go_ret
 exact ⟨rfl, (Below.refl _ _).alloc (Nat.le_refl _) _⟩
theorem kind_commitDeed (tx prev : Int) (w : World) : Calls Tryz.prog 84 #[.agg #[.int .i64 tx, .int .i64 prev]] w fun e w' => e = .returned (.int .i64 2) ∧ Below w.heap.size w w' := by
 go_enter Tryz.func84, Tryz.ntmps84
 go_wp2
 go_ret
 exact ⟨rfl, (Below.refl _ _).alloc (Nat.le_refl _) _⟩
theorem kind_abortDeed (tx prev : Int) (w : World) : Calls Tryz.prog 85 #[.agg #[.int .i64 tx, .int .i64 prev]] w fun e w' => e = .returned (.int .i64 3) ∧ Below w.heap.size w w' := by
 go_enter Tryz.func85, Tryz.ntmps85
 go_wp2
 go_ret
 exact ⟨rfl, (Below.refl _ _).alloc (Nat.le_refl _) _⟩
theorem kind_backDeed (tx prev oid : Int) (a : SlotA) (next : Int) (w : World) : Calls Tryz.prog 86 #[.agg #[.int .i64 tx, .int .i64 prev, .int .i64 oid, .bool a.v.has, .int .i64 a.v.o.kind, .slice a.aI a.v.o.ints.length a.cI, .slice a.aR a.v.o.refs.length a.cR, .int .i64 next]] w fun e w' => e = .returned (.int .i64 4) ∧ Below w.heap.size w w' := by
 go_enter Tryz.func86, Tryz.ntmps86
 go_wp2
 go_ret
 exact ⟨rfl, (Below.refl _ _).alloc (Nat.le_refl _) _⟩
theorem kind_endDeed (tx prev : Int) (w : World) : Calls Tryz.prog 87 #[.agg #[.int .i64 tx, .int .i64 prev]] w fun e w' => e = .returned (.int .i64 5) ∧ Below w.heap.size w w' := by
 go_enter Tryz.func87, Tryz.ntmps87
 go_wp2
 go_ret
 exact ⟨rfl, (Below.refl _ _).alloc (Nat.le_refl _) _⟩
theorem kind_checkDeed (ls : List LiveV) (aL : Option Addr) (cL : Nat) (w : World) : Calls Tryz.prog 88 #[.agg #[.slice aL ls.length cL]] w fun e w' => e = .returned (.int .i64 6) ∧ Below w.heap.size w w' := by
 go_enter Tryz.func88, Tryz.ntmps88
 go_wp2
 go_ret
 exact ⟨rfl, (Below.refl _ _).alloc (Nat.le_refl _) _⟩
theorem rec_load {w : World} {B : Nat} (r : RecA) (b : Box w B r.cells 42) : (loadVar 42 ⟨B, 0, none⟩).run Tryz.prog w = .ok (.agg r.cells.toArray) w :=
 run_loadVar_mid (P := Tryz.prog) w B 0 42 r.cells _ (Box.range [] r.cells [] (by simpa using b)) Tryz.underlying42 rfl (by show _ = some 15; kernel_rfl)
def recA (n tx prev kind : Int) : RecA := ⟨n, tx, prev, kind, 0, zeroS, zeroS, 0, [], none, 0⟩
theorem recAt_any (n tx prev kind : Int) (w : World) : Calls Tryz.prog 83 #[.int .i64 n, .agg #[.int .i64 tx, .int .i64 prev], .int .i64 kind] w fun e w' => e = .returned (.agg (recA n tx prev kind).cells.toArray) ∧ Below w.heap.size w w' := by
 obtain ⟨W, hW, b0, b1, hbW, hsW⟩ := boxes2 w [.int .i64 tx, .int .i64 prev] (recA n tx prev kind).cells 112 42
 have HL : Hid (_ = _) := rec_load (recA n tx prev kind) b1
 simp only [recA, RecA.cells, zeroS, List.length_nil] at hW
 clear hsW b0 b1
 go_enter Tryz.func83, Tryz.ntmps83
 go_wp2
 refine bodyPost_ret (v := .agg (recA n tx prev kind).cells.toArray) (results_one Tryz.results83 rfl ?_) rfl ⟨rfl, ?_⟩
 ·rw [show _ = W from hW.out]; exact HL.out
 ·rw [show _ = W from hW.out]; exact hbW
theorem recOf_set (n : Int) (tx prev oid : Int) (b a : SlotA) (w : World) :
  Calls Tryz.prog 57 #[.int .i64 n, issetDeed (setD tx prev oid b a)] w fun e w' => e = .returned (.agg (RecA.cells (⟨n, tx, prev, 1, oid, b, a, 0, [], none, 0⟩)).toArray) ∧ Below w.heap.size w w' := by
 obtain ⟨W, hW, b0, b1, hbW, hsW⟩ := boxes2 w [.int .i64 0, .int .i64 0, .int .i64 0, .int .i64 0, .int .i64 0, .bool false, .int .i64 0, .slice none 0 0, .slice none 0 0, .bool false, .int .i64 0, .slice none 0 0, .slice none 0 0, .int .i64 0, .slice none 0 0] [.int .i64 tx, .int .i64 prev, .int .i64 oid, .bool b.v.has, .int .i64 b.v.o.kind, .slice b.aI b.v.o.ints.length b.cI, .slice b.aR b.v.o.refs.length b.cR, .bool a.v.has, .int .i64 a.v.o.kind, .slice a.aI a.v.o.ints.length a.cI, .slice a.aR a.v.o.refs.length a.cR] 42 114
 simp only [issetDeed, setD]
 have a_setDeed := fun W => yes_setDeed W (.agg #[.int .i64 tx, .int .i64 prev, .int .i64 oid, .bool b.v.has, .int .i64 b.v.o.kind, .slice b.aI b.v.o.ints.length b.cI, .slice b.aR b.v.o.refs.length b.cR, .bool a.v.has, .int .i64 a.v.o.kind, .slice a.aI a.v.o.ints.length a.cI, .slice a.aR a.v.o.refs.length a.cR])
 have HB : Hid (∀ u, Below W.heap.size W u → Box u w.heap.size [.int .i64 0, .int .i64 0, .int .i64 0, .int .i64 0, .int .i64 0, .bool false, .int .i64 0, .slice none 0 0, .slice none 0 0, .bool false, .int .i64 0, .slice none 0 0, .slice none 0 0, .int .i64 0, .slice none 0 0] 42 ∧ Box u (w.heap.size + 1) [.int .i64 tx, .int .i64 prev, .int .i64 oid, .bool b.v.has, .int .i64 b.v.o.kind, .slice b.aI b.v.o.ints.length b.cI, .slice b.aR b.v.o.refs.length b.cR, .bool a.v.has, .int .i64 a.v.o.kind, .slice a.aI a.v.o.ints.length a.cI, .slice a.aR a.v.o.refs.length a.cR] 114) := fun u hu => ⟨b0.below hu b0.lt, b1.below hu b1.lt⟩
 have HC : Hid (∀ w', Box w' (w.heap.size + 1) [.int .i64 tx, .int .i64 prev, .int .i64 oid, .bool b.v.has, .int .i64 b.v.o.kind, .slice b.aI b.v.o.ints.length b.cI, .slice b.aR b.v.o.refs.length b.cR, .bool a.v.has, .int .i64 a.v.o.kind, .slice a.aI a.v.o.ints.length a.cI, .slice a.aR a.v.o.refs.length a.cR] 114 → w'.cell? ⟨w.heap.size + 1, 0, none⟩ = some (.int .i64 tx) ∧ w'.cell? ⟨w.heap.size + 1, 1, none⟩ = some (.int .i64 prev) ∧ w'.cell? ⟨w.heap.size + 1, 2, none⟩ = some (.int .i64 oid) ∧ w'.cell? ⟨w.heap.size + 1, 3, none⟩ = some (.bool b.v.has) ∧ w'.cell? ⟨w.heap.size + 1, 4, none⟩ = some (.int .i64 b.v.o.kind) ∧ w'.cell? ⟨w.heap.size + 1, 5, none⟩ = some (.slice b.aI b.v.o.ints.length b.cI) ∧ w'.cell? ⟨w.heap.size + 1, 6, none⟩ = some (.slice b.aR b.v.o.refs.length b.cR) ∧ w'.cell? ⟨w.heap.size + 1, 7, none⟩ = some (.bool a.v.has) ∧ w'.cell? ⟨w.heap.size + 1, 8, none⟩ = some (.int .i64 a.v.o.kind) ∧ w'.cell? ⟨w.heap.size + 1, 9, none⟩ = some (.slice a.aI a.v.o.ints.length a.cI) ∧ w'.cell? ⟨w.heap.size + 1, 10, none⟩ = some (.slice a.aR a.v.o.refs.length a.cR)) := fun w' b => ⟨b.cell 0 _ rfl, b.cell 1 _ rfl, b.cell 2 _ rfl, b.cell 3 _ rfl, b.cell 4 _ rfl, b.cell 5 _ rfl, b.cell 6 _ rfl, b.cell 7 _ rfl, b.cell 8 _ rfl, b.cell 9 _ rfl, b.cell 10 _ rfl⟩
 have hh := HC.out W b1
 have hlt := b1.lt
 have HI : Hid ((Tryz.prog.info? 42).map (·.size) = some 15) := by rw [Hid]; kernel_rfl
 have HO : Hid (_) := all_oneCell_toArray (oneR (⟨n, tx, prev, 1, oid, b, a, 0, [], none, 0⟩))
 clear hsW b0 b1
 go_enter Tryz.func57, Tryz.ntmps57
 go_wp2_with fail
 rw [hW.out]
 clear hW a_setDeed
 refine wp_region_held_drew (S := fun w' => w'.cell? ⟨w.heap.size + 1, 0, none⟩ = some (.int .i64 tx) ∧ w'.cell? ⟨w.heap.size + 1, 1, none⟩ = some (.int .i64 prev) ∧ w'.cell? ⟨w.heap.size + 1, 2, none⟩ = some (.int .i64 oid) ∧ w'.cell? ⟨w.heap.size + 1, 3, none⟩ = some (.bool b.v.has) ∧ w'.cell? ⟨w.heap.size + 1, 4, none⟩ = some (.int .i64 b.v.o.kind) ∧ w'.cell? ⟨w.heap.size + 1, 5, none⟩ = some (.slice b.aI b.v.o.ints.length b.cI) ∧ w'.cell? ⟨w.heap.size + 1, 6, none⟩ = some (.slice b.aR b.v.o.refs.length b.cR) ∧ w'.cell? ⟨w.heap.size + 1, 7, none⟩ = some (.bool a.v.has) ∧ w'.cell? ⟨w.heap.size + 1, 8, none⟩ = some (.int .i64 a.v.o.kind) ∧ w'.cell? ⟨w.heap.size + 1, 9, none⟩ = some (.slice a.aI a.v.o.ints.length a.cI) ∧ w'.cell? ⟨w.heap.size + 1, 10, none⟩ = some (.slice a.aR a.v.o.refs.length a.cR)) (by kernel_rfl) (HC.out _ (HB.out _ (Below.refl _ _).drew).2) (fun hHeld => ?_)
 refine tk 0 (v := .int .i64 n) rfl (Or.inl ⟨by rfl, ?_⟩) hHeld ?_
 ·intro w' hSw
  go_simp <;> rfl
 try simp only [Act.put, zA, zB, zD, zE, zF]
 refine tk 1 (v := .pointer (some ⟨w.heap.size + 1, 0, none⟩)) rfl (Or.inl ⟨by rfl, ?_⟩) hHeld ?_
 ·intro w' hSw
  go_simp <;> rfl
 try simp only [Act.put, zA, zB, zC, zD, zE, zF]
 refine tk 2 (v := .pointer (some ⟨w.heap.size + 1, 0, none⟩)) rfl (Or.inl ⟨by rfl, ?_⟩) hHeld ?_
 ·intro w' hSw
  go_simp <;> rfl
 try simp only [Act.put, zA, zB, zC, zD, zE, zF]
 refine tk 3 (v := .int .i64 tx) rfl (Or.inl ⟨by rfl, ?_⟩) hHeld ?_
 ·intro w' hSw
  go_simp <;> rfl
 try simp only [Act.put, zA, zB, zC, zD, zE, zF]
 refine tk 4 (v := .pointer (some ⟨w.heap.size + 1, 0, none⟩)) rfl (Or.inl ⟨by rfl, ?_⟩) hHeld ?_
 ·intro w' hSw
  go_simp <;> rfl
 try simp only [Act.put, zA, zB, zC, zD, zE, zF]
 refine tk 5 (v := .pointer (some ⟨w.heap.size + 1, 1, none⟩)) rfl (Or.inl ⟨by rfl, ?_⟩) hHeld ?_
 ·intro w' hSw
  go_simp <;> rfl
 try simp only [Act.put, zA, zB, zC, zD, zE, zF]
 refine tk 6 (v := .int .i64 prev) rfl (Or.inl ⟨by rfl, ?_⟩) hHeld ?_
 ·intro w' hSw
  go_simp <;> rfl
 try simp only [Act.put, zA, zB, zC, zD, zE, zF]
 refine tk 7 (v := .agg #[.int .i64 tx, .int .i64 prev, .int .i64 oid, .bool b.v.has, .int .i64 b.v.o.kind, .slice b.aI b.v.o.ints.length b.cI, .slice b.aR b.v.o.refs.length b.cR, .bool a.v.has, .int .i64 a.v.o.kind, .slice a.aI a.v.o.ints.length a.cI, .slice a.aR a.v.o.refs.length a.cR]) rfl (Or.inl ⟨by rfl, ?_⟩) hHeld ?_
 ·intro w' hSw
  go_simp <;> rfl
 try simp only [Act.put, zA, zB, zC, zD, zE, zF]
 refine tk 9 (v := .pointer (some ⟨w.heap.size + 1, 2, none⟩)) rfl (Or.inl ⟨by rfl, ?_⟩) hHeld ?_
 ·intro w' hSw
  go_simp <;> rfl
 try simp only [Act.put, zA, zB, zC, zD, zE, zF]
 refine tk 10 (v := .int .i64 oid) rfl (Or.inl ⟨by rfl, ?_⟩) hHeld ?_
 ·intro w' hSw
  go_simp <;> rfl
 try simp only [Act.put, zA, zB, zC, zD, zE, zF]
 refine tk 11 (v := .pointer (some ⟨w.heap.size + 1, 3, none⟩)) rfl (Or.inl ⟨by rfl, ?_⟩) hHeld ?_
 ·intro w' hSw
  go_simp <;> rfl
 try simp only [Act.put, zA, zB, zC, zD, zE, zF]
 refine tk 12 (v := .agg #[.bool b.v.has, .int .i64 b.v.o.kind, .slice b.aI b.v.o.ints.length b.cI, .slice b.aR b.v.o.refs.length b.cR]) rfl (Or.inl ⟨by rfl, ?_⟩) hHeld ?_
 ·intro w' hSw
  go_simp <;> rfl
 try simp only [Act.put, zA, zB, zC, zD, zE, zF]
 refine tk 13 (v := .pointer (some ⟨w.heap.size + 1, 7, none⟩)) rfl (Or.inl ⟨by rfl, ?_⟩) hHeld ?_
 ·intro w' hSw
  go_simp <;> rfl
 try simp only [Act.put, zA, zB, zC, zD, zE, zF]
 refine tk 14 (v := .agg #[.bool a.v.has, .int .i64 a.v.o.kind, .slice a.aI a.v.o.ints.length a.cI, .slice a.aR a.v.o.refs.length a.cR]) rfl (Or.inl ⟨by rfl, ?_⟩) hHeld ?_
 ·intro w' hSw
  go_simp <;> rfl
 try simp only [Act.put, zA, zB, zC, zD, zE, zF]
 refine wpAnyH_ready (rs := [8]) (by kernel_rfl) (by simp) ?_
 refine AllReadyH.cons rfl (fun K hK => ?_) AllReadyH.nil
 go_simp
 refine (kind_setDeed tx prev oid b a _).mono ?_
 rintro e u1 ⟨rfl, hb1⟩
 have hB1 : Below W.heap.size W u1 := ((Below.refl _ _).drew).trans hb1
 refine hK.out _ _ (HC.out _ (HB.out _ hB1).2) (fun hHeld => ?_)
 clear hK K
 try simp only [Act.put, zA, zB, zC, zD, zE, zF]
 have hBL := hB1
 refine tk 15 (v := .agg (RecA.cells (⟨n, tx, prev, 1, oid, b, a, 0, [], none, 0⟩)).toArray) rfl (Or.inl ⟨by rfl, ?_⟩) hHeld ?_
 ·intro w' hSw
  go_simp <;> rfl
 try simp only [Act.put, zA, zB, zC, zD, zE, zF]
 obtain ⟨WF, hWF, bF, hwF, hsF⟩ := range_fill [] [.int .i64 0, .int .i64 0, .int .i64 0, .int .i64 0, .int .i64 0, .bool false, .int .i64 0, .slice none 0 0, .slice none 0 0, .bool false, .int .i64 0, .slice none 0 0, .slice none 0 0, .int .i64 0, .slice none 0 0] (RecA.cells (⟨n, tx, prev, 1, oid, b, a, 0, [], none, 0⟩)) [] (by simpa using (HB.out _ hBL).1) rfl
 have HF : Hid (Below w.heap.size w WF) := (hbW.trans (hBL.mono hbW.size)).trans (hwF.below (by omega) (by have := hBL.size; omega))
 have HLD : Hid (_ = _) := rec_load (⟨n, tx, prev, 1, oid, b, a, 0, [], none, 0⟩) (by simpa using bF)
 have HS : Hid (WF.cell? ⟨w.heap.size + 1, 0, none⟩ = some (.int .i64 tx) ∧ WF.cell? ⟨w.heap.size + 1, 1, none⟩ = some (.int .i64 prev) ∧ WF.cell? ⟨w.heap.size + 1, 2, none⟩ = some (.int .i64 oid) ∧ WF.cell? ⟨w.heap.size + 1, 3, none⟩ = some (.bool b.v.has) ∧ WF.cell? ⟨w.heap.size + 1, 4, none⟩ = some (.int .i64 b.v.o.kind) ∧ WF.cell? ⟨w.heap.size + 1, 5, none⟩ = some (.slice b.aI b.v.o.ints.length b.cI) ∧ WF.cell? ⟨w.heap.size + 1, 6, none⟩ = some (.slice b.aR b.v.o.refs.length b.cR) ∧ WF.cell? ⟨w.heap.size + 1, 7, none⟩ = some (.bool a.v.has) ∧ WF.cell? ⟨w.heap.size + 1, 8, none⟩ = some (.int .i64 a.v.o.kind) ∧ WF.cell? ⟨w.heap.size + 1, 9, none⟩ = some (.slice a.aI a.v.o.ints.length a.cI) ∧ WF.cell? ⟨w.heap.size + 1, 10, none⟩ = some (.slice a.aR a.v.o.refs.length a.cR)) := HC.out _ ((HB.out _ hBL).2.within hwF (by omega))
 refine wpAnyH_ready (rs := [16]) (by kernel_rfl) (by simp) ?_
 refine AllReadyH.cons rfl (fun K hK => ?_) AllReadyH.nil
 rw [if_pos (by rfl)]
 refine wp_store_mid 42 (.tmp 4) (.tmp 30) rfl w.heap.size 0 (RecA.cells (⟨n, tx, prev, 1, oid, b, a, 0, [], none, 0⟩)).toArray rfl rfl ((HB.out _ hBL).1.there 0 _ (by show 0 + 15 ≤ 15; decide)) HI.out HO.out ?_
 have HW : Hid (u1.setCells w.heap.size 0 (RecA.cells (⟨n, tx, prev, 1, oid, b, a, 0, [], none, 0⟩)).toArray.toList = WF) := hWF.out
 rw [HW.out]
 refine hK.out _ _ HS.out (fun hHeld => ?_)
 refine wpAnyH_done (by kernel_rfl) ?_ _
 clear hwF hWF HW hK K HS
 go_wp2
 exact bodyPost_ret (v := .agg (RecA.cells (⟨n, tx, prev, 1, oid, b, a, 0, [], none, 0⟩)).toArray) (results_one Tryz.results57 rfl HLD.out) rfl ⟨rfl, HF.out⟩
theorem recOf_commit (n : Int) (tx prev : Int) (w : World) :
  Calls Tryz.prog 57 #[.int .i64 n, iscommitDeed (linkD tx prev)] w fun e w' => e = .returned (.agg (RecA.cells (recA n tx prev 2)).toArray) ∧ Below w.heap.size w w' := by
 obtain ⟨W, hW, b0, b1, hbW, hsW⟩ := boxes2 w [.int .i64 0, .int .i64 0, .int .i64 0, .int .i64 0, .int .i64 0, .bool false, .int .i64 0, .slice none 0 0, .slice none 0 0, .bool false, .int .i64 0, .slice none 0 0, .slice none 0 0, .int .i64 0, .slice none 0 0] [.int .i64 tx, .int .i64 prev] 42 116
 simp only [iscommitDeed, linkD]
 have a_setDeed := fun W => no_setDeed W 116 (.agg #[.int .i64 tx, .int .i64 prev]) (by decide)
 have a_commitDeed := fun W => yes_commitDeed W (.agg #[.int .i64 tx, .int .i64 prev])
 have HB : Hid (∀ u, Below W.heap.size W u → Box u w.heap.size [.int .i64 0, .int .i64 0, .int .i64 0, .int .i64 0, .int .i64 0, .bool false, .int .i64 0, .slice none 0 0, .slice none 0 0, .bool false, .int .i64 0, .slice none 0 0, .slice none 0 0, .int .i64 0, .slice none 0 0] 42 ∧ Box u (w.heap.size + 1) [.int .i64 tx, .int .i64 prev] 116) := fun u hu => ⟨b0.below hu b0.lt, b1.below hu b1.lt⟩
 have HC : Hid (∀ w', Box w' (w.heap.size + 1) [.int .i64 tx, .int .i64 prev] 116 → w'.cell? ⟨w.heap.size + 1, 0, none⟩ = some (.int .i64 tx) ∧ w'.cell? ⟨w.heap.size + 1, 1, none⟩ = some (.int .i64 prev)) := fun w' b => ⟨b.cell 0 _ rfl, b.cell 1 _ rfl⟩
 have hh := HC.out W b1
 have hlt := b1.lt
 have HI : Hid ((Tryz.prog.info? 42).map (·.size) = some 15) := by rw [Hid]; kernel_rfl
 have HO : Hid (_) := all_oneCell_toArray (oneR (recA n tx prev 2))
 clear hsW b0 b1
 go_enter Tryz.func57, Tryz.ntmps57
 go_wp2_with fail
 rw [hW.out]
 clear hW a_setDeed a_commitDeed
 refine wp_region_held_drew (S := fun w' => w'.cell? ⟨w.heap.size + 1, 0, none⟩ = some (.int .i64 tx) ∧ w'.cell? ⟨w.heap.size + 1, 1, none⟩ = some (.int .i64 prev)) (by kernel_rfl) (HC.out _ (HB.out _ (Below.refl _ _).drew).2) (fun hHeld => ?_)
 refine tk 0 (v := .int .i64 n) rfl (Or.inl ⟨by rfl, ?_⟩) hHeld ?_
 ·intro w' hSw
  go_simp <;> rfl
 try simp only [Act.put, zA, zB, zD, zE, zF]
 refine tk 1 (v := .pointer (some ⟨w.heap.size + 1, 0, none⟩)) rfl (Or.inl ⟨by rfl, ?_⟩) hHeld ?_
 ·intro w' hSw
  go_simp <;> rfl
 try simp only [Act.put, zA, zB, zC, zD, zE, zF]
 refine tk 2 (v := .agg #[.int .i64 tx, .int .i64 prev]) rfl (Or.inl ⟨by rfl, ?_⟩) hHeld ?_
 ·intro w' hSw
  go_simp <;> rfl
 try simp only [Act.put, zA, zB, zC, zD, zE, zF]
 refine tk 3 (v := .agg #[.int .i64 tx, .int .i64 prev]) rfl (Or.inl ⟨by rfl, ?_⟩) hHeld ?_
 ·intro w' hSw
  go_simp <;> rfl
 try simp only [Act.put, zA, zB, zC, zD, zE, zF]
 refine wpAnyH_ready (rs := [4]) (by kernel_rfl) (by simp) ?_
 refine AllReadyH.cons rfl (fun K hK => ?_) AllReadyH.nil
 go_simp
 refine (kind_commitDeed tx prev _).mono ?_
 rintro e u1 ⟨rfl, hb1⟩
 have hB1 : Below W.heap.size W u1 := ((Below.refl _ _).drew).trans hb1
 refine hK.out _ _ (HC.out _ (HB.out _ hB1).2) (fun hHeld => ?_)
 clear hK K
 try simp only [Act.put, zA, zB, zC, zD, zE, zF]
 refine wpAnyH_ready (rs := [5]) (by kernel_rfl) (by simp) ?_
 refine AllReadyH.cons rfl (fun K hK => ?_) AllReadyH.nil
 go_simp
 refine (recAt_any n tx prev 2 _).mono ?_
 rintro e u2 ⟨rfl, hb2⟩
 have hBL : Below W.heap.size W u2 := hB1.trans (hb2.mono hB1.size)
 refine hK.out _ _ (HC.out _ (HB.out _ hBL).2) (fun hHeld => ?_)
 clear hK K
 try simp only [Act.put, zA, zB, zC, zD, zE, zF]
 obtain ⟨WF, hWF, bF, hwF, hsF⟩ := range_fill [] [.int .i64 0, .int .i64 0, .int .i64 0, .int .i64 0, .int .i64 0, .bool false, .int .i64 0, .slice none 0 0, .slice none 0 0, .bool false, .int .i64 0, .slice none 0 0, .slice none 0 0, .int .i64 0, .slice none 0 0] (RecA.cells (recA n tx prev 2)) [] (by simpa using (HB.out _ hBL).1) rfl
 have HF : Hid (Below w.heap.size w WF) := (hbW.trans (hBL.mono hbW.size)).trans (hwF.below (by omega) (by have := hBL.size; omega))
 have HLD : Hid (_ = _) := rec_load (recA n tx prev 2) (by simpa using bF)
 have HS : Hid (WF.cell? ⟨w.heap.size + 1, 0, none⟩ = some (.int .i64 tx) ∧ WF.cell? ⟨w.heap.size + 1, 1, none⟩ = some (.int .i64 prev)) := HC.out _ ((HB.out _ hBL).2.within hwF (by omega))
 refine wpAnyH_ready (rs := [6]) (by kernel_rfl) (by simp) ?_
 refine AllReadyH.cons rfl (fun K hK => ?_) AllReadyH.nil
 rw [if_pos (by rfl)]
 refine wp_store_mid 42 (.tmp 4) (.tmp 39) rfl w.heap.size 0 (RecA.cells (recA n tx prev 2)).toArray rfl rfl ((HB.out _ hBL).1.there 0 _ (by show 0 + 15 ≤ 15; decide)) HI.out HO.out ?_
 have HW : Hid (u2.setCells w.heap.size 0 (RecA.cells (recA n tx prev 2)).toArray.toList = WF) := hWF.out
 rw [HW.out]
 refine hK.out _ _ HS.out (fun hHeld => ?_)
 refine wpAnyH_done (by kernel_rfl) ?_ _
 clear hwF hWF HW hK K HS
 go_wp2
 exact bodyPost_ret (v := .agg (RecA.cells (recA n tx prev 2)).toArray) (results_one Tryz.results57 rfl HLD.out) rfl ⟨rfl, HF.out⟩
theorem recOf_abort (n : Int) (tx prev : Int) (w : World) :
  Calls Tryz.prog 57 #[.int .i64 n, isabortDeed (linkD tx prev)] w fun e w' => e = .returned (.agg (RecA.cells (recA n tx prev 3)).toArray) ∧ Below w.heap.size w w' := by
 obtain ⟨W, hW, b0, b1, hbW, hsW⟩ := boxes2 w [.int .i64 0, .int .i64 0, .int .i64 0, .int .i64 0, .int .i64 0, .bool false, .int .i64 0, .slice none 0 0, .slice none 0 0, .bool false, .int .i64 0, .slice none 0 0, .slice none 0 0, .int .i64 0, .slice none 0 0] [.int .i64 tx, .int .i64 prev] 42 117
 simp only [isabortDeed, linkD]
 have a_setDeed := fun W => no_setDeed W 117 (.agg #[.int .i64 tx, .int .i64 prev]) (by decide)
 have a_commitDeed := fun W => no_commitDeed W 117 (.agg #[.int .i64 tx, .int .i64 prev]) (by decide)
 have a_abortDeed := fun W => yes_abortDeed W (.agg #[.int .i64 tx, .int .i64 prev])
 have HB : Hid (∀ u, Below W.heap.size W u → Box u w.heap.size [.int .i64 0, .int .i64 0, .int .i64 0, .int .i64 0, .int .i64 0, .bool false, .int .i64 0, .slice none 0 0, .slice none 0 0, .bool false, .int .i64 0, .slice none 0 0, .slice none 0 0, .int .i64 0, .slice none 0 0] 42 ∧ Box u (w.heap.size + 1) [.int .i64 tx, .int .i64 prev] 117) := fun u hu => ⟨b0.below hu b0.lt, b1.below hu b1.lt⟩
 have HC : Hid (∀ w', Box w' (w.heap.size + 1) [.int .i64 tx, .int .i64 prev] 117 → w'.cell? ⟨w.heap.size + 1, 0, none⟩ = some (.int .i64 tx) ∧ w'.cell? ⟨w.heap.size + 1, 1, none⟩ = some (.int .i64 prev)) := fun w' b => ⟨b.cell 0 _ rfl, b.cell 1 _ rfl⟩
 have hh := HC.out W b1
 have hlt := b1.lt
 have HI : Hid ((Tryz.prog.info? 42).map (·.size) = some 15) := by rw [Hid]; kernel_rfl
 have HO : Hid (_) := all_oneCell_toArray (oneR (recA n tx prev 3))
 clear hsW b0 b1
 go_enter Tryz.func57, Tryz.ntmps57
 go_wp2_with fail
 rw [hW.out]
 clear hW a_setDeed a_commitDeed a_abortDeed
 refine wp_region_held_drew (S := fun w' => w'.cell? ⟨w.heap.size + 1, 0, none⟩ = some (.int .i64 tx) ∧ w'.cell? ⟨w.heap.size + 1, 1, none⟩ = some (.int .i64 prev)) (by kernel_rfl) (HC.out _ (HB.out _ (Below.refl _ _).drew).2) (fun hHeld => ?_)
 refine tk 0 (v := .int .i64 n) rfl (Or.inl ⟨by rfl, ?_⟩) hHeld ?_
 ·intro w' hSw
  go_simp <;> rfl
 try simp only [Act.put, zA, zB, zD, zE, zF]
 refine tk 1 (v := .pointer (some ⟨w.heap.size + 1, 0, none⟩)) rfl (Or.inl ⟨by rfl, ?_⟩) hHeld ?_
 ·intro w' hSw
  go_simp <;> rfl
 try simp only [Act.put, zA, zB, zC, zD, zE, zF]
 refine tk 2 (v := .agg #[.int .i64 tx, .int .i64 prev]) rfl (Or.inl ⟨by rfl, ?_⟩) hHeld ?_
 ·intro w' hSw
  go_simp <;> rfl
 try simp only [Act.put, zA, zB, zC, zD, zE, zF]
 refine tk 3 (v := .agg #[.int .i64 tx, .int .i64 prev]) rfl (Or.inl ⟨by rfl, ?_⟩) hHeld ?_
 ·intro w' hSw
  go_simp <;> rfl
 try simp only [Act.put, zA, zB, zC, zD, zE, zF]
 refine wpAnyH_ready (rs := [4]) (by kernel_rfl) (by simp) ?_
 refine AllReadyH.cons rfl (fun K hK => ?_) AllReadyH.nil
 go_simp
 refine (kind_abortDeed tx prev _).mono ?_
 rintro e u1 ⟨rfl, hb1⟩
 have hB1 : Below W.heap.size W u1 := ((Below.refl _ _).drew).trans hb1
 refine hK.out _ _ (HC.out _ (HB.out _ hB1).2) (fun hHeld => ?_)
 clear hK K
 try simp only [Act.put, zA, zB, zC, zD, zE, zF]
 refine wpAnyH_ready (rs := [5]) (by kernel_rfl) (by simp) ?_
 refine AllReadyH.cons rfl (fun K hK => ?_) AllReadyH.nil
 go_simp
 refine (recAt_any n tx prev 3 _).mono ?_
 rintro e u2 ⟨rfl, hb2⟩
 have hBL : Below W.heap.size W u2 := hB1.trans (hb2.mono hB1.size)
 refine hK.out _ _ (HC.out _ (HB.out _ hBL).2) (fun hHeld => ?_)
 clear hK K
 try simp only [Act.put, zA, zB, zC, zD, zE, zF]
 obtain ⟨WF, hWF, bF, hwF, hsF⟩ := range_fill [] [.int .i64 0, .int .i64 0, .int .i64 0, .int .i64 0, .int .i64 0, .bool false, .int .i64 0, .slice none 0 0, .slice none 0 0, .bool false, .int .i64 0, .slice none 0 0, .slice none 0 0, .int .i64 0, .slice none 0 0] (RecA.cells (recA n tx prev 3)) [] (by simpa using (HB.out _ hBL).1) rfl
 have HF : Hid (Below w.heap.size w WF) := (hbW.trans (hBL.mono hbW.size)).trans (hwF.below (by omega) (by have := hBL.size; omega))
 have HLD : Hid (_ = _) := rec_load (recA n tx prev 3) (by simpa using bF)
 have HS : Hid (WF.cell? ⟨w.heap.size + 1, 0, none⟩ = some (.int .i64 tx) ∧ WF.cell? ⟨w.heap.size + 1, 1, none⟩ = some (.int .i64 prev)) := HC.out _ ((HB.out _ hBL).2.within hwF (by omega))
 refine wpAnyH_ready (rs := [6]) (by kernel_rfl) (by simp) ?_
 refine AllReadyH.cons rfl (fun K hK => ?_) AllReadyH.nil
 rw [if_pos (by rfl)]
 refine wp_store_mid 42 (.tmp 4) (.tmp 48) rfl w.heap.size 0 (RecA.cells (recA n tx prev 3)).toArray rfl rfl ((HB.out _ hBL).1.there 0 _ (by show 0 + 15 ≤ 15; decide)) HI.out HO.out ?_
 have HW : Hid (u2.setCells w.heap.size 0 (RecA.cells (recA n tx prev 3)).toArray.toList = WF) := hWF.out
 rw [HW.out]
 refine hK.out _ _ HS.out (fun hHeld => ?_)
 refine wpAnyH_done (by kernel_rfl) ?_ _
 clear hwF hWF HW hK K HS
 go_wp2
 exact bodyPost_ret (v := .agg (RecA.cells (recA n tx prev 3)).toArray) (results_one Tryz.results57 rfl HLD.out) rfl ⟨rfl, HF.out⟩
theorem recOf_back (n : Int) (tx prev oid : Int) (a : SlotA) (next : Int) (w : World) :
  Calls Tryz.prog 57 #[.int .i64 n, isbackDeed (backD tx prev oid a next)] w fun e w' => e = .returned (.agg (RecA.cells (⟨n, tx, prev, 4, oid, zeroS, a, next, [], none, 0⟩)).toArray) ∧ Below w.heap.size w w' := by
 obtain ⟨W, hW, b0, b1, hbW, hsW⟩ := boxes2 w [.int .i64 0, .int .i64 0, .int .i64 0, .int .i64 0, .int .i64 0, .bool false, .int .i64 0, .slice none 0 0, .slice none 0 0, .bool false, .int .i64 0, .slice none 0 0, .slice none 0 0, .int .i64 0, .slice none 0 0] [.int .i64 tx, .int .i64 prev, .int .i64 oid, .bool a.v.has, .int .i64 a.v.o.kind, .slice a.aI a.v.o.ints.length a.cI, .slice a.aR a.v.o.refs.length a.cR, .int .i64 next] 42 119
 simp only [isbackDeed, backD]
 have a_setDeed := fun W => no_setDeed W 119 (.agg #[.int .i64 tx, .int .i64 prev, .int .i64 oid, .bool a.v.has, .int .i64 a.v.o.kind, .slice a.aI a.v.o.ints.length a.cI, .slice a.aR a.v.o.refs.length a.cR, .int .i64 next]) (by decide)
 have a_commitDeed := fun W => no_commitDeed W 119 (.agg #[.int .i64 tx, .int .i64 prev, .int .i64 oid, .bool a.v.has, .int .i64 a.v.o.kind, .slice a.aI a.v.o.ints.length a.cI, .slice a.aR a.v.o.refs.length a.cR, .int .i64 next]) (by decide)
 have a_abortDeed := fun W => no_abortDeed W 119 (.agg #[.int .i64 tx, .int .i64 prev, .int .i64 oid, .bool a.v.has, .int .i64 a.v.o.kind, .slice a.aI a.v.o.ints.length a.cI, .slice a.aR a.v.o.refs.length a.cR, .int .i64 next]) (by decide)
 have a_backDeed := fun W => yes_backDeed W (.agg #[.int .i64 tx, .int .i64 prev, .int .i64 oid, .bool a.v.has, .int .i64 a.v.o.kind, .slice a.aI a.v.o.ints.length a.cI, .slice a.aR a.v.o.refs.length a.cR, .int .i64 next])
 have HB : Hid (∀ u, Below W.heap.size W u → Box u w.heap.size [.int .i64 0, .int .i64 0, .int .i64 0, .int .i64 0, .int .i64 0, .bool false, .int .i64 0, .slice none 0 0, .slice none 0 0, .bool false, .int .i64 0, .slice none 0 0, .slice none 0 0, .int .i64 0, .slice none 0 0] 42 ∧ Box u (w.heap.size + 1) [.int .i64 tx, .int .i64 prev, .int .i64 oid, .bool a.v.has, .int .i64 a.v.o.kind, .slice a.aI a.v.o.ints.length a.cI, .slice a.aR a.v.o.refs.length a.cR, .int .i64 next] 119) := fun u hu => ⟨b0.below hu b0.lt, b1.below hu b1.lt⟩
 have HC : Hid (∀ w', Box w' (w.heap.size + 1) [.int .i64 tx, .int .i64 prev, .int .i64 oid, .bool a.v.has, .int .i64 a.v.o.kind, .slice a.aI a.v.o.ints.length a.cI, .slice a.aR a.v.o.refs.length a.cR, .int .i64 next] 119 → w'.cell? ⟨w.heap.size + 1, 0, none⟩ = some (.int .i64 tx) ∧ w'.cell? ⟨w.heap.size + 1, 1, none⟩ = some (.int .i64 prev) ∧ w'.cell? ⟨w.heap.size + 1, 2, none⟩ = some (.int .i64 oid) ∧ w'.cell? ⟨w.heap.size + 1, 3, none⟩ = some (.bool a.v.has) ∧ w'.cell? ⟨w.heap.size + 1, 4, none⟩ = some (.int .i64 a.v.o.kind) ∧ w'.cell? ⟨w.heap.size + 1, 5, none⟩ = some (.slice a.aI a.v.o.ints.length a.cI) ∧ w'.cell? ⟨w.heap.size + 1, 6, none⟩ = some (.slice a.aR a.v.o.refs.length a.cR) ∧ w'.cell? ⟨w.heap.size + 1, 7, none⟩ = some (.int .i64 next)) := fun w' b => ⟨b.cell 0 _ rfl, b.cell 1 _ rfl, b.cell 2 _ rfl, b.cell 3 _ rfl, b.cell 4 _ rfl, b.cell 5 _ rfl, b.cell 6 _ rfl, b.cell 7 _ rfl⟩
 have hh := HC.out W b1
 have hlt := b1.lt
 have HI : Hid ((Tryz.prog.info? 42).map (·.size) = some 15) := by rw [Hid]; kernel_rfl
 have HO : Hid (_) := all_oneCell_toArray (oneR (⟨n, tx, prev, 4, oid, zeroS, a, next, [], none, 0⟩))
 clear hsW b0 b1
 go_enter Tryz.func57, Tryz.ntmps57
 go_wp2_with fail
 rw [hW.out]
 clear hW a_setDeed a_commitDeed a_abortDeed a_backDeed
 refine wp_region_held_drew (S := fun w' => w'.cell? ⟨w.heap.size + 1, 0, none⟩ = some (.int .i64 tx) ∧ w'.cell? ⟨w.heap.size + 1, 1, none⟩ = some (.int .i64 prev) ∧ w'.cell? ⟨w.heap.size + 1, 2, none⟩ = some (.int .i64 oid) ∧ w'.cell? ⟨w.heap.size + 1, 3, none⟩ = some (.bool a.v.has) ∧ w'.cell? ⟨w.heap.size + 1, 4, none⟩ = some (.int .i64 a.v.o.kind) ∧ w'.cell? ⟨w.heap.size + 1, 5, none⟩ = some (.slice a.aI a.v.o.ints.length a.cI) ∧ w'.cell? ⟨w.heap.size + 1, 6, none⟩ = some (.slice a.aR a.v.o.refs.length a.cR) ∧ w'.cell? ⟨w.heap.size + 1, 7, none⟩ = some (.int .i64 next)) (by kernel_rfl) (HC.out _ (HB.out _ (Below.refl _ _).drew).2) (fun hHeld => ?_)
 refine tk 0 (v := .int .i64 n) rfl (Or.inl ⟨by rfl, ?_⟩) hHeld ?_
 ·intro w' hSw
  go_simp <;> rfl
 try simp only [Act.put, zA, zB, zD, zE, zF]
 refine tk 1 (v := .pointer (some ⟨w.heap.size + 1, 0, none⟩)) rfl (Or.inl ⟨by rfl, ?_⟩) hHeld ?_
 ·intro w' hSw
  go_simp <;> rfl
 try simp only [Act.put, zA, zB, zC, zD, zE, zF]
 refine tk 2 (v := .pointer (some ⟨w.heap.size + 1, 0, none⟩)) rfl (Or.inl ⟨by rfl, ?_⟩) hHeld ?_
 ·intro w' hSw
  go_simp <;> rfl
 try simp only [Act.put, zA, zB, zC, zD, zE, zF]
 refine tk 3 (v := .int .i64 tx) rfl (Or.inl ⟨by rfl, ?_⟩) hHeld ?_
 ·intro w' hSw
  go_simp <;> rfl
 try simp only [Act.put, zA, zB, zC, zD, zE, zF]
 refine tk 4 (v := .pointer (some ⟨w.heap.size + 1, 0, none⟩)) rfl (Or.inl ⟨by rfl, ?_⟩) hHeld ?_
 ·intro w' hSw
  go_simp <;> rfl
 try simp only [Act.put, zA, zB, zC, zD, zE, zF]
 refine tk 5 (v := .pointer (some ⟨w.heap.size + 1, 1, none⟩)) rfl (Or.inl ⟨by rfl, ?_⟩) hHeld ?_
 ·intro w' hSw
  go_simp <;> rfl
 try simp only [Act.put, zA, zB, zC, zD, zE, zF]
 refine tk 6 (v := .int .i64 prev) rfl (Or.inl ⟨by rfl, ?_⟩) hHeld ?_
 ·intro w' hSw
  go_simp <;> rfl
 try simp only [Act.put, zA, zB, zC, zD, zE, zF]
 refine tk 7 (v := .agg #[.int .i64 tx, .int .i64 prev, .int .i64 oid, .bool a.v.has, .int .i64 a.v.o.kind, .slice a.aI a.v.o.ints.length a.cI, .slice a.aR a.v.o.refs.length a.cR, .int .i64 next]) rfl (Or.inl ⟨by rfl, ?_⟩) hHeld ?_
 ·intro w' hSw
  go_simp <;> rfl
 try simp only [Act.put, zA, zB, zC, zD, zE, zF]
 refine tk 9 (v := .pointer (some ⟨w.heap.size + 1, 2, none⟩)) rfl (Or.inl ⟨by rfl, ?_⟩) hHeld ?_
 ·intro w' hSw
  go_simp <;> rfl
 try simp only [Act.put, zA, zB, zC, zD, zE, zF]
 refine tk 10 (v := .int .i64 oid) rfl (Or.inl ⟨by rfl, ?_⟩) hHeld ?_
 ·intro w' hSw
  go_simp <;> rfl
 try simp only [Act.put, zA, zB, zC, zD, zE, zF]
 refine tk 11 (v := .pointer (some ⟨w.heap.size + 1, 3, none⟩)) rfl (Or.inl ⟨by rfl, ?_⟩) hHeld ?_
 ·intro w' hSw
  go_simp <;> rfl
 try simp only [Act.put, zA, zB, zC, zD, zE, zF]
 refine tk 12 (v := .agg #[.bool a.v.has, .int .i64 a.v.o.kind, .slice a.aI a.v.o.ints.length a.cI, .slice a.aR a.v.o.refs.length a.cR]) rfl (Or.inl ⟨by rfl, ?_⟩) hHeld ?_
 ·intro w' hSw
  go_simp <;> rfl
 try simp only [Act.put, zA, zB, zC, zD, zE, zF]
 refine tk 13 (v := .pointer (some ⟨w.heap.size + 1, 7, none⟩)) rfl (Or.inl ⟨by rfl, ?_⟩) hHeld ?_
 ·intro w' hSw
  go_simp <;> rfl
 try simp only [Act.put, zA, zB, zC, zD, zE, zF]
 refine tk 14 (v := .int .i64 next) rfl (Or.inl ⟨by rfl, ?_⟩) hHeld ?_
 ·intro w' hSw
  go_simp <;> rfl
 try simp only [Act.put, zA, zB, zC, zD, zE, zF]
 refine wpAnyH_ready (rs := [8]) (by kernel_rfl) (by simp) ?_
 refine AllReadyH.cons rfl (fun K hK => ?_) AllReadyH.nil
 go_simp
 refine (kind_backDeed tx prev oid a next _).mono ?_
 rintro e u1 ⟨rfl, hb1⟩
 have hB1 : Below W.heap.size W u1 := ((Below.refl _ _).drew).trans hb1
 refine hK.out _ _ (HC.out _ (HB.out _ hB1).2) (fun hHeld => ?_)
 clear hK K
 try simp only [Act.put, zA, zB, zC, zD, zE, zF]
 have hBL := hB1
 refine tk 15 (v := .agg (RecA.cells (⟨n, tx, prev, 4, oid, zeroS, a, next, [], none, 0⟩)).toArray) rfl (Or.inl ⟨by rfl, ?_⟩) hHeld ?_
 ·intro w' hSw
  go_simp <;> rfl
 try simp only [Act.put, zA, zB, zC, zD, zE, zF]
 obtain ⟨WF, hWF, bF, hwF, hsF⟩ := range_fill [] [.int .i64 0, .int .i64 0, .int .i64 0, .int .i64 0, .int .i64 0, .bool false, .int .i64 0, .slice none 0 0, .slice none 0 0, .bool false, .int .i64 0, .slice none 0 0, .slice none 0 0, .int .i64 0, .slice none 0 0] (RecA.cells (⟨n, tx, prev, 4, oid, zeroS, a, next, [], none, 0⟩)) [] (by simpa using (HB.out _ hBL).1) rfl
 have HF : Hid (Below w.heap.size w WF) := (hbW.trans (hBL.mono hbW.size)).trans (hwF.below (by omega) (by have := hBL.size; omega))
 have HLD : Hid (_ = _) := rec_load (⟨n, tx, prev, 4, oid, zeroS, a, next, [], none, 0⟩) (by simpa using bF)
 have HS : Hid (WF.cell? ⟨w.heap.size + 1, 0, none⟩ = some (.int .i64 tx) ∧ WF.cell? ⟨w.heap.size + 1, 1, none⟩ = some (.int .i64 prev) ∧ WF.cell? ⟨w.heap.size + 1, 2, none⟩ = some (.int .i64 oid) ∧ WF.cell? ⟨w.heap.size + 1, 3, none⟩ = some (.bool a.v.has) ∧ WF.cell? ⟨w.heap.size + 1, 4, none⟩ = some (.int .i64 a.v.o.kind) ∧ WF.cell? ⟨w.heap.size + 1, 5, none⟩ = some (.slice a.aI a.v.o.ints.length a.cI) ∧ WF.cell? ⟨w.heap.size + 1, 6, none⟩ = some (.slice a.aR a.v.o.refs.length a.cR) ∧ WF.cell? ⟨w.heap.size + 1, 7, none⟩ = some (.int .i64 next)) := HC.out _ ((HB.out _ hBL).2.within hwF (by omega))
 refine wpAnyH_ready (rs := [16]) (by kernel_rfl) (by simp) ?_
 refine AllReadyH.cons rfl (fun K hK => ?_) AllReadyH.nil
 rw [if_pos (by rfl)]
 refine wp_store_mid 42 (.tmp 4) (.tmp 67) rfl w.heap.size 0 (RecA.cells (⟨n, tx, prev, 4, oid, zeroS, a, next, [], none, 0⟩)).toArray rfl rfl ((HB.out _ hBL).1.there 0 _ (by show 0 + 15 ≤ 15; decide)) HI.out HO.out ?_
 have HW : Hid (u1.setCells w.heap.size 0 (RecA.cells (⟨n, tx, prev, 4, oid, zeroS, a, next, [], none, 0⟩)).toArray.toList = WF) := hWF.out
 rw [HW.out]
 refine hK.out _ _ HS.out (fun hHeld => ?_)
 refine wpAnyH_done (by kernel_rfl) ?_ _
 clear hwF hWF HW hK K HS
 go_wp2
 exact bodyPost_ret (v := .agg (RecA.cells (⟨n, tx, prev, 4, oid, zeroS, a, next, [], none, 0⟩)).toArray) (results_one Tryz.results57 rfl HLD.out) rfl ⟨rfl, HF.out⟩
theorem recOf_end (n : Int) (tx prev : Int) (w : World) :
  Calls Tryz.prog 57 #[.int .i64 n, isendDeed (linkD tx prev)] w fun e w' => e = .returned (.agg (RecA.cells (recA n tx prev 5)).toArray) ∧ Below w.heap.size w w' := by
 obtain ⟨W, hW, b0, b1, hbW, hsW⟩ := boxes2 w [.int .i64 0, .int .i64 0, .int .i64 0, .int .i64 0, .int .i64 0, .bool false, .int .i64 0, .slice none 0 0, .slice none 0 0, .bool false, .int .i64 0, .slice none 0 0, .slice none 0 0, .int .i64 0, .slice none 0 0] [.int .i64 tx, .int .i64 prev] 42 120
 simp only [isendDeed, linkD]
 have a_setDeed := fun W => no_setDeed W 120 (.agg #[.int .i64 tx, .int .i64 prev]) (by decide)
 have a_commitDeed := fun W => no_commitDeed W 120 (.agg #[.int .i64 tx, .int .i64 prev]) (by decide)
 have a_abortDeed := fun W => no_abortDeed W 120 (.agg #[.int .i64 tx, .int .i64 prev]) (by decide)
 have a_backDeed := fun W => no_backDeed W 120 (.agg #[.int .i64 tx, .int .i64 prev]) (by decide)
 have a_endDeed := fun W => yes_endDeed W (.agg #[.int .i64 tx, .int .i64 prev])
 have HB : Hid (∀ u, Below W.heap.size W u → Box u w.heap.size [.int .i64 0, .int .i64 0, .int .i64 0, .int .i64 0, .int .i64 0, .bool false, .int .i64 0, .slice none 0 0, .slice none 0 0, .bool false, .int .i64 0, .slice none 0 0, .slice none 0 0, .int .i64 0, .slice none 0 0] 42 ∧ Box u (w.heap.size + 1) [.int .i64 tx, .int .i64 prev] 120) := fun u hu => ⟨b0.below hu b0.lt, b1.below hu b1.lt⟩
 have HC : Hid (∀ w', Box w' (w.heap.size + 1) [.int .i64 tx, .int .i64 prev] 120 → w'.cell? ⟨w.heap.size + 1, 0, none⟩ = some (.int .i64 tx) ∧ w'.cell? ⟨w.heap.size + 1, 1, none⟩ = some (.int .i64 prev)) := fun w' b => ⟨b.cell 0 _ rfl, b.cell 1 _ rfl⟩
 have hh := HC.out W b1
 have hlt := b1.lt
 have HI : Hid ((Tryz.prog.info? 42).map (·.size) = some 15) := by rw [Hid]; kernel_rfl
 have HO : Hid (_) := all_oneCell_toArray (oneR (recA n tx prev 5))
 clear hsW b0 b1
 go_enter Tryz.func57, Tryz.ntmps57
 go_wp2_with fail
 rw [hW.out]
 clear hW a_setDeed a_commitDeed a_abortDeed a_backDeed a_endDeed
 refine wp_region_held_drew (S := fun w' => w'.cell? ⟨w.heap.size + 1, 0, none⟩ = some (.int .i64 tx) ∧ w'.cell? ⟨w.heap.size + 1, 1, none⟩ = some (.int .i64 prev)) (by kernel_rfl) (HC.out _ (HB.out _ (Below.refl _ _).drew).2) (fun hHeld => ?_)
 refine tk 0 (v := .int .i64 n) rfl (Or.inl ⟨by rfl, ?_⟩) hHeld ?_
 ·intro w' hSw
  go_simp <;> rfl
 try simp only [Act.put, zA, zB, zD, zE, zF]
 refine tk 1 (v := .pointer (some ⟨w.heap.size + 1, 0, none⟩)) rfl (Or.inl ⟨by rfl, ?_⟩) hHeld ?_
 ·intro w' hSw
  go_simp <;> rfl
 try simp only [Act.put, zA, zB, zC, zD, zE, zF]
 refine tk 2 (v := .agg #[.int .i64 tx, .int .i64 prev]) rfl (Or.inl ⟨by rfl, ?_⟩) hHeld ?_
 ·intro w' hSw
  go_simp <;> rfl
 try simp only [Act.put, zA, zB, zC, zD, zE, zF]
 refine tk 3 (v := .agg #[.int .i64 tx, .int .i64 prev]) rfl (Or.inl ⟨by rfl, ?_⟩) hHeld ?_
 ·intro w' hSw
  go_simp <;> rfl
 try simp only [Act.put, zA, zB, zC, zD, zE, zF]
 refine wpAnyH_ready (rs := [4]) (by kernel_rfl) (by simp) ?_
 refine AllReadyH.cons rfl (fun K hK => ?_) AllReadyH.nil
 go_simp
 refine (kind_endDeed tx prev _).mono ?_
 rintro e u1 ⟨rfl, hb1⟩
 have hB1 : Below W.heap.size W u1 := ((Below.refl _ _).drew).trans hb1
 refine hK.out _ _ (HC.out _ (HB.out _ hB1).2) (fun hHeld => ?_)
 clear hK K
 try simp only [Act.put, zA, zB, zC, zD, zE, zF]
 refine wpAnyH_ready (rs := [5]) (by kernel_rfl) (by simp) ?_
 refine AllReadyH.cons rfl (fun K hK => ?_) AllReadyH.nil
 go_simp
 refine (recAt_any n tx prev 5 _).mono ?_
 rintro e u2 ⟨rfl, hb2⟩
 have hBL : Below W.heap.size W u2 := hB1.trans (hb2.mono hB1.size)
 refine hK.out _ _ (HC.out _ (HB.out _ hBL).2) (fun hHeld => ?_)
 clear hK K
 try simp only [Act.put, zA, zB, zC, zD, zE, zF]
 obtain ⟨WF, hWF, bF, hwF, hsF⟩ := range_fill [] [.int .i64 0, .int .i64 0, .int .i64 0, .int .i64 0, .int .i64 0, .bool false, .int .i64 0, .slice none 0 0, .slice none 0 0, .bool false, .int .i64 0, .slice none 0 0, .slice none 0 0, .int .i64 0, .slice none 0 0] (RecA.cells (recA n tx prev 5)) [] (by simpa using (HB.out _ hBL).1) rfl
 have HF : Hid (Below w.heap.size w WF) := (hbW.trans (hBL.mono hbW.size)).trans (hwF.below (by omega) (by have := hBL.size; omega))
 have HLD : Hid (_ = _) := rec_load (recA n tx prev 5) (by simpa using bF)
 have HS : Hid (WF.cell? ⟨w.heap.size + 1, 0, none⟩ = some (.int .i64 tx) ∧ WF.cell? ⟨w.heap.size + 1, 1, none⟩ = some (.int .i64 prev)) := HC.out _ ((HB.out _ hBL).2.within hwF (by omega))
 refine wpAnyH_ready (rs := [6]) (by kernel_rfl) (by simp) ?_
 refine AllReadyH.cons rfl (fun K hK => ?_) AllReadyH.nil
 rw [if_pos (by rfl)]
 refine wp_store_mid 42 (.tmp 4) (.tmp 76) rfl w.heap.size 0 (RecA.cells (recA n tx prev 5)).toArray rfl rfl ((HB.out _ hBL).1.there 0 _ (by show 0 + 15 ≤ 15; decide)) HI.out HO.out ?_
 have HW : Hid (u2.setCells w.heap.size 0 (RecA.cells (recA n tx prev 5)).toArray.toList = WF) := hWF.out
 rw [HW.out]
 refine hK.out _ _ HS.out (fun hHeld => ?_)
 refine wpAnyH_done (by kernel_rfl) ?_ _
 clear hwF hWF HW hK K HS
 go_wp2
 exact bodyPost_ret (v := .agg (RecA.cells (recA n tx prev 5)).toArray) (results_one Tryz.results57 rfl HLD.out) rfl ⟨rfl, HF.out⟩
theorem recOf_check (n : Int) (ls : List LiveV) (aL : Option Addr) (cL : Nat) (w : World) :
  Calls Tryz.prog 57 #[.int .i64 n, ischeckDeed (checkD ls aL cL)] w fun e w' => e = .returned (.agg (RecA.cells (⟨n, 0, 0, 6, 0, zeroS, zeroS, 0, ls, aL, cL⟩)).toArray) ∧ Below w.heap.size w w' := by
 obtain ⟨W, hW, b0, b1, hbW, hsW⟩ := boxes2 w [.int .i64 0, .int .i64 0, .int .i64 0, .int .i64 0, .int .i64 0, .bool false, .int .i64 0, .slice none 0 0, .slice none 0 0, .bool false, .int .i64 0, .slice none 0 0, .slice none 0 0, .int .i64 0, .slice none 0 0] [.slice aL ls.length cL] 42 122
 simp only [ischeckDeed, checkD]
 have a_setDeed := fun W => no_setDeed W 122 (.agg #[.slice aL ls.length cL]) (by decide)
 have a_commitDeed := fun W => no_commitDeed W 122 (.agg #[.slice aL ls.length cL]) (by decide)
 have a_abortDeed := fun W => no_abortDeed W 122 (.agg #[.slice aL ls.length cL]) (by decide)
 have a_backDeed := fun W => no_backDeed W 122 (.agg #[.slice aL ls.length cL]) (by decide)
 have a_endDeed := fun W => no_endDeed W 122 (.agg #[.slice aL ls.length cL]) (by decide)
 have a_checkDeed := fun W => yes_checkDeed W (.agg #[.slice aL ls.length cL])
 have HB : Hid (∀ u, Below W.heap.size W u → Box u w.heap.size [.int .i64 0, .int .i64 0, .int .i64 0, .int .i64 0, .int .i64 0, .bool false, .int .i64 0, .slice none 0 0, .slice none 0 0, .bool false, .int .i64 0, .slice none 0 0, .slice none 0 0, .int .i64 0, .slice none 0 0] 42 ∧ Box u (w.heap.size + 1) [.slice aL ls.length cL] 122) := fun u hu => ⟨b0.below hu b0.lt, b1.below hu b1.lt⟩
 have HC : Hid (∀ w', Box w' (w.heap.size + 1) [.slice aL ls.length cL] 122 → w'.cell? ⟨w.heap.size + 1, 0, none⟩ = some (.slice aL ls.length cL)) := fun w' b => b.cell 0 _ rfl
 have hh := HC.out W b1
 have hlt := b1.lt
 have HI : Hid ((Tryz.prog.info? 42).map (·.size) = some 15) := by rw [Hid]; kernel_rfl
 have HO : Hid (_) := all_oneCell_toArray (oneR (⟨n, 0, 0, 6, 0, zeroS, zeroS, 0, ls, aL, cL⟩))
 clear hsW b0 b1
 go_enter Tryz.func57, Tryz.ntmps57
 go_wp2_with fail
 rw [hW.out]
 clear hW a_setDeed a_commitDeed a_abortDeed a_backDeed a_endDeed a_checkDeed
 refine wp_region_held_drew (S := fun w' => w'.cell? ⟨w.heap.size + 1, 0, none⟩ = some (.slice aL ls.length cL)) (by kernel_rfl) (HC.out _ (HB.out _ (Below.refl _ _).drew).2) (fun hHeld => ?_)
 refine tk 0 (v := .int .i64 n) rfl (Or.inl ⟨by rfl, ?_⟩) hHeld ?_
 ·intro w' hSw
  go_simp <;> rfl
 try simp only [Act.put, zA, zB, zD, zE, zF]
 refine tk 1 (v := .agg #[.slice aL ls.length cL]) rfl (Or.inl ⟨by rfl, ?_⟩) hHeld ?_
 ·intro w' hSw
  go_simp <;> rfl
 try simp only [Act.put, zA, zB, zC, zD, zE, zF]
 refine tk 3 (v := .pointer (some ⟨w.heap.size + 1, 0, none⟩)) rfl (Or.inl ⟨by rfl, ?_⟩) hHeld ?_
 ·intro w' hSw
  go_simp <;> rfl
 try simp only [Act.put, zA, zB, zC, zD, zE, zF]
 refine tk 4 (v := .slice aL ls.length cL) rfl (Or.inl ⟨by rfl, ?_⟩) hHeld ?_
 ·intro w' hSw
  go_simp <;> rfl
 try simp only [Act.put, zA, zB, zC, zD, zE, zF]
 refine wpAnyH_ready (rs := [2]) (by kernel_rfl) (by simp) ?_
 refine AllReadyH.cons rfl (fun K hK => ?_) AllReadyH.nil
 go_simp
 refine (kind_checkDeed ls aL cL _).mono ?_
 rintro e u1 ⟨rfl, hb1⟩
 have hB1 : Below W.heap.size W u1 := ((Below.refl _ _).drew).trans hb1
 refine hK.out _ _ (HC.out _ (HB.out _ hB1).2) (fun hHeld => ?_)
 clear hK K
 try simp only [Act.put, zA, zB, zC, zD, zE, zF]
 have hBL := hB1
 refine tk 5 (v := .agg (RecA.cells (⟨n, 0, 0, 6, 0, zeroS, zeroS, 0, ls, aL, cL⟩)).toArray) rfl (Or.inl ⟨by rfl, ?_⟩) hHeld ?_
 ·intro w' hSw
  go_simp <;> rfl
 try simp only [Act.put, zA, zB, zC, zD, zE, zF]
 obtain ⟨WF, hWF, bF, hwF, hsF⟩ := range_fill [] [.int .i64 0, .int .i64 0, .int .i64 0, .int .i64 0, .int .i64 0, .bool false, .int .i64 0, .slice none 0 0, .slice none 0 0, .bool false, .int .i64 0, .slice none 0 0, .slice none 0 0, .int .i64 0, .slice none 0 0] (RecA.cells (⟨n, 0, 0, 6, 0, zeroS, zeroS, 0, ls, aL, cL⟩)) [] (by simpa using (HB.out _ hBL).1) rfl
 have HF : Hid (Below w.heap.size w WF) := (hbW.trans (hBL.mono hbW.size)).trans (hwF.below (by omega) (by have := hBL.size; omega))
 have HLD : Hid (_ = _) := rec_load (⟨n, 0, 0, 6, 0, zeroS, zeroS, 0, ls, aL, cL⟩) (by simpa using bF)
 have HS : Hid (WF.cell? ⟨w.heap.size + 1, 0, none⟩ = some (.slice aL ls.length cL)) := HC.out _ ((HB.out _ hBL).2.within hwF (by omega))
 refine wpAnyH_ready (rs := [6]) (by kernel_rfl) (by simp) ?_
 refine AllReadyH.cons rfl (fun K hK => ?_) AllReadyH.nil
 rw [if_pos (by rfl)]
 refine wp_store_mid 42 (.tmp 4) (.tmp 85) rfl w.heap.size 0 (RecA.cells (⟨n, 0, 0, 6, 0, zeroS, zeroS, 0, ls, aL, cL⟩)).toArray rfl rfl ((HB.out _ hBL).1.there 0 _ (by show 0 + 15 ≤ 15; decide)) HI.out HO.out ?_
 have HW : Hid (u1.setCells w.heap.size 0 (RecA.cells (⟨n, 0, 0, 6, 0, zeroS, zeroS, 0, ls, aL, cL⟩)).toArray.toList = WF) := hWF.out
 rw [HW.out]
 refine hK.out _ _ HS.out (fun hHeld => ?_)
 refine wpAnyH_done (by kernel_rfl) ?_ _
 clear hwF hWF HW hK K HS
 go_wp2
 exact bodyPost_ret (v := .agg (RecA.cells (⟨n, 0, 0, 6, 0, zeroS, zeroS, 0, ls, aL, cL⟩)).toArray) (results_one Tryz.results57 rfl HLD.out) rfl ⟨rfl, HF.out⟩
theorem recOf_nil (n : Int) (w : World) : Calls Tryz.prog 57 #[.int .i64 n, .nilIface] w fun e w' => e = .returned (.agg (recA 0 0 0 0).cells.toArray) ∧ Below w.heap.size w w' := by
 obtain ⟨W, hW, b1, hbW, hsW⟩ := boxes1 w (recA 0 0 0 0).cells 42
 have HL : Hid (_ = _) := rec_load (recA 0 0 0 0) b1
 simp only [recA, RecA.cells, zeroS, List.length_nil] at hW
 clear hsW b1
 have a_setDeed := nil_setDeed
 have a_commitDeed := nil_commitDeed
 have a_abortDeed := nil_abortDeed
 have a_backDeed := nil_backDeed
 have a_endDeed := nil_endDeed
 have a_checkDeed := nil_checkDeed
 go_enter Tryz.func57, Tryz.ntmps57
 go_wp2
 refine bodyPost_ret (v := .agg (recA 0 0 0 0).cells.toArray) (results_one Tryz.results57 rfl ?_) rfl ⟨rfl, ?_⟩
 ·rw [show _ = W from hW.out]; exact HL.out
 ·rw [show _ = W from hW.out]; exact hbW
def backV (r : RecV) (n p : Int) : RecV := ⟨n, r.tx, p, 4, r.oid, noS, r.bf, r.prev, []⟩
def undoV (r : RecV) (n p : Int) : RecV := if okR r = true ∧ r.kind = 1 ∧ okR (backV r n p) = true then backV r n p else noR
theorem undoV_bad {r : RecV} {n p : Int} (h : okR r = false) : undoV r n p = noR := by unfold undoV; rw [if_neg]; rintro ⟨h1, _⟩; rw [h] at h1; cases h1
theorem undoV_kind {r : RecV} {n p : Int} (h : ¬ r.kind = 1) : undoV r n p = noR := by unfold undoV; rw [if_neg]; rintro ⟨_, h1, _⟩; exact h h1
theorem undoV_no {r : RecV} {n p : Int} (h : okR (backV r n p) = false) : undoV r n p = noR := by unfold undoV; rw [if_neg]; rintro ⟨_, _, h1⟩; rw [h] at h1; cases h1
theorem undoV_yes {r : RecV} {n p : Int} (h1 : okR r = true) (h2 : r.kind = 1) (h3 : okR (backV r n p) = true) : undoV r n p = backV r n p := by unfold undoV; rw [if_pos ⟨h1, h2, h3⟩]
theorem zero_own (w : World) (lo hi : Nat) (h : hi ≤ w.heap.size) : zeroS.own w lo hi := ⟨ownI_nil _ _ _ h, ownI_nil _ _ _ h, fun k hk => by cases hk⟩
theorem own_zeroR (w : World) (lo hi : Nat) (h : hi ≤ w.heap.size) : zeroR.own w lo hi := ⟨zero_own w lo hi h, zero_own w lo hi h, ownL_nil w lo hi h, by decide⟩
def backA (n tx p oid : Int) (t : SlotA) (x : Int) : RecA := ⟨n, tx, p, 4, oid, zeroS, t, x, [], none, 0⟩
theorem own_backA {w : World} {lo hi : Nat} {t : SlotA} (n tx p oid x : Int) (h : t.own w lo hi) (hh : hi ≤ w.heap.size) : (backA n tx p oid t x).own w lo hi :=
 ⟨zero_own w lo hi hh, h, ownL_nil w lo hi hh, by
  show ([] ++ (t.blocks ++ [])).Nodup
  rw [List.nil_append, List.append_nil]
  exact SlotA.blocks_nodup h⟩
theorem rec_out {w : World} {C : Nat} (q : RecA) (old : List Value) (ho : old.length = 15) (bC : Box w C old 42) :
  ∃ WF, Hid (w.setCells C 0 q.cells = WF) ∧ Within C (C + 1) w WF ∧ WF.heap.size = w.heap.size ∧ Hid (w.there C 0 q.cells.toArray.size) ∧ Hid ((loadVar 42 ⟨C, 0, none⟩).run Tryz.prog WF = .ok (.agg q.cells.toArray) WF) ∧ Box WF C q.cells 42 := by
 obtain ⟨WF, hWF, bF, hwF, hsF⟩ := range_fill [] old q.cells [] (by simpa using bC) (by rw [ho]; rfl)
 have bF' : Box WF C q.cells 42 := by simpa using bF
 exact ⟨WF, hWF, hwF, hsF, bC.there 0 _ (by rw [ho]; show 0 + 15 ≤ 15; decide), rec_load q bF', bF'⟩
theorem rec_info (q : RecA) : (Tryz.prog.info? 42).map (·.size) = some q.cells.length := by show _ = some 15; kernel_rfl
theorem rec_one (q : RecA) : q.cells.toArray.all (·.oneCell') = true := all_oneCell_toArray (oneR q)
theorem Tryz.infoRec : (Tryz.prog.info? 42).map (fun i => (i.zero, i.size, i.bytes)) = some (some (.agg zeroR.cells.toArray), 15, 200) := by kernel_rfl
theorem ownsRow_at {w : World} {base : Nat} {e : TypeId} {size n : Nat} {v : Value} {xs : List Value} (h : w.ownsRow base e size v n xs) {k : Nat} (hk : v.ownBlock = some k) : ∃ cur, w.heap[k]? = some (.cells cur e (0, 0)) := by
 rcases h.2 with ⟨rfl, _⟩ | ⟨g, cap, cur, rfl, _, hg, _⟩
 ·cases hk
 ·cases hk
  exact ⟨cur, hg⟩
theorem row_apart {w : World} {base lo hi n : Nat} {v : Value} {xs : List Value} {r : RecA} (h : w.ownsRow base 42 15 v n xs) (hr : r.own w lo hi) : ∀ k, v.ownBlock = some k → k ∉ r.blocks := by
 intro k hk hm
 obtain ⟨cur, hc⟩ := ownsRow_at h hk
 simp only [RecA.blocks, SlotA.blocks, List.mem_append, Option.mem_toList] at hm
 have no : ∀ {b2 s2 n2 : Nat} {e2 : TypeId} {v2 : Value} {x2 : List Value}, w.ownsRow b2 e2 s2 v2 n2 x2 → v2.ownBlock = some k → e2 = 42 := by
  intro b2 s2 n2 e2 v2 x2 h2 hk2
  obtain ⟨cur2, hc2⟩ := ownsRow_at h2 hk2
  rw [hc] at hc2
  simp only [Option.some.injEq, Obj.cells.injEq] at hc2
  exact hc2.2.1.symm
 rcases hm with (h1 | h1) | (h1 | h1) | h1
 ·have := no hr.bf.ints.1 h1; cases this
 ·have := no hr.bf.refs.1 h1; cases this
 ·have := no hr.af.ints.1 h1; cases this
 ·have := no hr.af.refs.1 h1; cases this
 ·have := no hr.txs.1 h1; cases this
theorem Tryz.infoSeat : (Tryz.prog.info? 176).map (fun i => (i.zero, i.size, i.bytes)) = some (some (.agg zeroSt.cells.toArray), 20, 280) := by kernel_rfl
theorem rowSt_apart {w : World} {base lo hi n : Nat} {v : Value} {xs : List Value} {r : SeatA} (h : w.ownsRow base 176 20 v n xs) (hr : r.own w lo hi) : ∀ k, v.ownBlock = some k → k ∉ r.blocks := by
 intro k hk hm
 obtain ⟨cur, hc⟩ := ownsRow_at h hk
 have no : ∀ {b2 s2 n2 : Nat} {e2 : TypeId} {v2 : Value} {x2 : List Value}, w.ownsRow b2 e2 s2 v2 n2 x2 → v2.ownBlock = some k → e2 = 176 := by
  intro b2 s2 n2 e2 v2 x2 h2 hk2
  obtain ⟨cur2, hc2⟩ := ownsRow_at h2 hk2
  rw [hc] at hc2
  simp only [Option.some.injEq, Obj.cells.injEq] at hc2
  exact hc2.2.1.symm
 obtain ⟨x, hx, hm⟩ := List.mem_flatMap.1 hm
 simp only [SlotA.blocks, List.mem_append, Option.mem_toList] at hm
 rcases hm with h1 | h1
 ·have := no (hr.each x hx).ints.1 h1; cases this
 ·have := no (hr.each x hx).refs.1 h1; cases this
structure LogV where
 recs : List RecV
 sure : Int
structure LogA where
 recs : List RecA
 sure : Int
 a : Option Addr
 c : Nat
def LogA.v (l : LogA) : LogV := ⟨l.recs.map RecA.v, l.sure⟩
def LogA.cells (l : LogA) : List Value := [.slice l.a l.recs.length l.c, .int .i64 l.sure]
def LogA.reads (w : World) (l : LogA) : Prop := ReadsRs w l.a l.recs
def LogA.own (w : World) (lo hi : Nat) (l : LogA) : Prop := OwnRs w lo hi l.a l.c l.recs
structure LogA.short (l : LogA) (m : Nat) : Prop where
 len : l.recs.length ≤ m
 each : ∀ r ∈ l.recs, r.short m
theorem LogA.short.at {l : LogA} {m : Nat} (h : l.short m) (k : Nat) (hk : k < l.recs.length) : (l.recs.getD k zeroR).short m := h.each _ (recD_mem _ k hk)
theorem LogA.short_wide {l : LogA} (hl : l.short 1048576) : l.short 1099511627776 := ⟨by have := hl.len; omega, fun r hr => Go.Proofs.YtickiokdcbeefaaGreatDoor.short_wide (hl.each r hr)⟩
structure EngV where
 disk : List (Int × List SlotV)
 seats : List SeatV
 hand : Int
 log : LogV
 txs : List LiveV
 holds : List HoldV
 next : Int
 down : Bool
structure EngA where
 disk : List PageA
 seats : List SeatA
 aS : Option Addr
 cS : Nat
 hand : Int
 log : LogA
 txs : List LiveV
 aT : Option Addr
 cT : Nat
 holds : List HoldV
 aH : Option Addr
 cH : Nat
 next : Int
 down : Bool
def EngA.v (e : EngA) : EngV := ⟨e.disk.map (fun p => (p.lsn, p.ss.map (·.v))), e.seats.map SeatA.v, e.hand, e.log.v, e.txs, e.holds, e.next, e.down⟩
def cellsPs (ps : List PageA) : List Value := ps.flatMap PageA.cells
def EngA.tail (e : EngA) : List Value := [.slice e.aS e.seats.length e.cS, .int .i64 e.hand, .slice e.log.a e.log.recs.length e.log.c, .int .i64 e.log.sure, .slice e.aT e.txs.length e.cT, .slice e.aH e.holds.length e.cH, .int .i64 e.next, .bool e.down]
def EngA.cells (e : EngA) : List Value := cellsPs e.disk ++ e.tail
structure EngA.shape (e : EngA) : Prop where
 eight : e.disk.length = 8
 four : ∀ p ∈ e.disk, p.ss.length = 4
theorem cellsPs_len : ∀ (ps : List PageA), (∀ p ∈ ps, p.ss.length = 4) → (cellsPs ps).length = ps.length * 17 := by
 intro ps
 induction ps with
 | nil => intro _; rfl
 | cons p r ih =>
  intro h
  have h1 := ih (fun q hq => h q (List.mem_cons_of_mem _ hq))
  have h2 := page_len p (h p List.mem_cons_self)
  simp only [cellsPs, List.flatMap_cons, List.length_append, List.length_cons] at h1 ⊢
  omega
theorem EngA.disk_len {e : EngA} (h : e.shape) : (cellsPs e.disk).length = 136 := by rw [cellsPs_len _ h.four, h.eight]
theorem EngA.cells_len {e : EngA} (h : e.shape) : e.cells.length = 144 := by rw [EngA.cells, List.length_append, EngA.disk_len h]; rfl
theorem EngA.cell_at {w : World} {B : Nat} {t : TypeId} {e : EngA} (h : e.shape) (b : Box w B e.cells t) (j : Nat) (v : Value) (hv : e.tail[j]? = some v) : w.cell? ⟨B, 136 + j, none⟩ = some v := by
 refine b.cell (136 + j) v ?_
 rw [EngA.cells, List.getElem?_append_right (by rw [EngA.disk_len h]; omega), EngA.disk_len h, show 136 + j - 136 = j by omega]
 exact hv
theorem cellsPs_split (ps : List PageA) (k : Nat) (hk : k < ps.length) : cellsPs ps = cellsPs (ps.take k) ++ (ps[k].cells ++ cellsPs (ps.drop (k + 1))) := by
 have e : ps = ps.take k ++ ps[k] :: ps.drop (k + 1) := by
  conv => lhs; rw [← List.take_append_drop k ps, List.drop_eq_getElem_cons hk]
 conv => lhs; rw [e]
 simp only [cellsPs, List.flatMap_append, List.flatMap_cons]
theorem EngA.page_at {w : World} {B : Nat} {t : TypeId} {e : EngA} (h : e.shape) (b : Box w B e.cells t) (k : Nat) (hk : k < e.disk.length) : w.rangeAt B (k * 17) e.disk[k].cells := by
 have e1 : e.cells = cellsPs (e.disk.take k) ++ (e.disk[k].cells ++ (cellsPs (e.disk.drop (k + 1)) ++ e.tail)) := by rw [EngA.cells, cellsPs_split e.disk k hk]; simp
 have b' := b
 rw [e1] at b'
 have := Box.range _ _ _ b'
 rwa [cellsPs_len _ (fun p hp => h.four p (List.mem_of_mem_take hp)), List.length_take, Nat.min_eq_left (Nat.le_of_lt hk)] at this
def rowOf (a : Option Addr) (n c : Nat) : List Nat := (Value.slice a n c).ownBlock.toList
def EngA.diskBl (e : EngA) : List Nat := (e.disk.flatMap (·.ss)).flatMap SlotA.blocks
def EngA.blocks (e : EngA) : List Nat := e.diskBl ++ (blocksSts e.aS e.cS e.seats ++ (blocksRs e.log.a e.log.c e.log.recs ++ (rowOf e.aT e.txs.length e.cT ++ rowOf e.aH e.holds.length e.cH)))
structure EngA.own (w : World) (lo hi : Nat) (e : EngA) : Prop where
 disk : OwnS w lo hi (e.disk.flatMap (·.ss))
 pool : OwnSts w lo hi e.aS e.cS e.seats
 log : OwnRs w lo hi e.log.a e.log.c e.log.recs
 txs : OwnL w lo hi e.aT e.cT e.txs
 holds : OwnH w lo hi e.aH e.cH e.holds
 apart : e.blocks.Nodup
theorem OwnS.touch {w w' : World} {lo hi : Nat} {ss : List SlotA} {bl : List Nat} (h : OwnS w lo hi ss) (ht : Touch bl w w') (hd : ∀ k ∈ ss.flatMap SlotA.blocks, k ∉ bl) : OwnS w' lo hi ss :=
 ⟨fun x hx => SlotA.touch (h.each x hx) ht (fun k hk => hd k (List.mem_flatMap.2 ⟨x, hx, hk⟩)), h.apart⟩
theorem EngA.own.blocks_lt {w : World} {lo hi : Nat} {e : EngA} (h : e.own w lo hi) : ∀ k ∈ e.blocks, lo ≤ k ∧ k < hi := by
 intro k hk
 simp only [EngA.blocks, List.mem_append] at hk
 rcases hk with hk | hk | hk | hk | hk
 ·exact h.disk.blocks_lt k hk
 ·exact h.pool.blocks_lt k hk
 ·exact h.log.blocks_lt k hk
 ·exact h.txs.lt k (Option.mem_toList.1 hk)
 ·exact h.holds.lt k (Option.mem_toList.1 hk)
theorem EngA.own.touch {w w' : World} {lo hi : Nat} {e : EngA} {bl : List Nat} (h : e.own w lo hi) (ht : Touch bl w w') (hd : ∀ k ∈ e.blocks, k ∉ bl) : e.own w' lo hi := by
 simp only [EngA.blocks, List.mem_append] at hd
 exact ⟨h.disk.touch ht (fun k hk => hd k (.inl hk)), h.pool.touch ht (fun k hk => hd k (.inr (.inl hk))), h.log.touch ht (fun k hk => hd k (.inr (.inr (.inl hk)))), h.txs.touch ht (fun k hk => hd k (.inr (.inr (.inr (.inl (Option.mem_toList.2 hk)))))), h.holds.touch ht (fun k hk => hd k (.inr (.inr (.inr (.inr (Option.mem_toList.2 hk)))))), h.apart⟩
theorem EngA.own.below {w w' : World} {lo hi : Nat} {e : EngA} (h : e.own w lo hi) (hb : Below w.heap.size w w') : e.own w' lo hi :=
 ⟨h.disk.below hb, h.pool.below hb, h.log.below hb, h.txs.below hb, h.holds.below hb, h.apart⟩
theorem EngA.own.widen {w : World} {lo hi lo' hi' : Nat} {e : EngA} (h : e.own w lo hi) (h1 : lo' ≤ lo) (h2 : hi ≤ hi') (h3 : hi' ≤ w.heap.size) : e.own w lo' hi' :=
 ⟨h.disk.widen h1 h2 h3, h.pool.widen h1 h2 h3, h.log.widen h1 h2 h3, h.txs.widen h1 h2 h3, h.holds.widen h1 h2 h3, h.apart⟩
theorem Tryz.infoEng : (Tryz.prog.info? 105).map (·.size) = some 144 := by kernel_rfl
def zeroP : PageA := ⟨0, [zeroS, zeroS, zeroS, zeroS]⟩
def zeroE : EngA := ⟨[zeroP, zeroP, zeroP, zeroP, zeroP, zeroP, zeroP, zeroP], [], none, 0, 0, ⟨[], 0, none, 0⟩, [], none, 0, [], none, 0, 0, false⟩
theorem Tryz.zeroEng : (Tryz.prog.info? 105).map (·.zero) = some (some (.agg zeroE.cells.toArray)) := by kernel_rfl
def liveFrom (tx : Int) : List LiveV → Nat → Int
 | [], _ => -1
 | l :: r, k => if l.tx = tx then (k : Int) else liveFrom tx r (k + 1)
def liveOf (ls : List LiveV) (tx : Int) : Int := liveFrom tx ls 0
def holdFrom (oid : Int) : List HoldV → Int
 | [] => 0
 | l :: r => if l.oid = oid then l.tx else holdFrom oid r
def seatFrom (no : Int) : List SeatV → Nat → Int
 | [], _ => -1
 | l :: r, k => if l.no = no then (k : Int) else seatFrom no r (k + 1)
def seatedOf (ss : List SeatV) (no : Int) : Int := seatFrom no ss 0
def lastFrom (tx : Int) (rs : List RecV) : Nat → Int
 | 0 => 0
 | k + 1 => if (rs.getD k zeroR.v).tx = tx then (k : Int) + 1 else lastFrom tx rs k
def lastOf (rs : List RecV) (tx : Int) : Int := lastFrom tx rs rs.length
theorem dropL_at (ls : List LiveV) (k : Nat) (h : k < ls.length) : ls.drop k = ls.getD k zeroL :: ls.drop (k + 1) := by
 rw [List.drop_eq_getElem_cons h]
 simp [List.getD, h]
theorem dropH_at (ls : List HoldV) (k : Nat) (h : k < ls.length) : ls.drop k = ls.getD k zeroH :: ls.drop (k + 1) := by
 rw [List.drop_eq_getElem_cons h]
 simp [List.getD, h]
theorem dropSt_at (ls : List SeatA) (k : Nat) (h : k < ls.length) : (ls.map SeatA.v).drop k = (ls.getD k zeroSt).v :: (ls.map SeatA.v).drop (k + 1) := by
 rw [List.drop_eq_getElem_cons (by simpa using h)]
 simp [List.getD, h]
theorem l7Live_any (e : EngA) (hsh : e.shape) (tx : Int) (w : World) (hr : ReadsL w e.aT e.txs) (hl : e.txs.length ≤ 1099511627776) :
  Calls Tryz.prog 135 #[.agg e.cells.toArray, .int .i64 tx] w fun r w' => r = .returned (.int .i64 (liveOf e.txs tx)) ∧ Below w.heap.size w w' := by
 obtain ⟨W, hW, b0, hbW, hsW⟩ := boxes1 w e.cells 105
 have HT : Hid (∀ u, Below W.heap.size W u → u.cell? ⟨w.heap.size, 140, none⟩ = some (.slice e.aT e.txs.length e.cT)) := fun u hu => EngA.cell_at hsh (b0.below hu b0.lt) 4 _ rfl
 have HR : Hid (∀ u, Below W.heap.size W u → ReadsL u e.aT e.txs) := fun u hu => hr.below (hbW.trans (hu.mono hbW.size))
 have HF : Hid (liveFrom tx (e.txs.drop 0) 0 = liveOf e.txs tx) := rfl
 generalize liveOf e.txs tx = R at *
 generalize e.cells = cs at *
 generalize e.txs = ls at *
 generalize e.aT = a at *
 generalize e.cT = c at *
 clear hsW b0 hsh hr
 go_enter Tryz.func135, Tryz.ntmps135
 go_wp2_with fail
 rw [hW.out]
 clear hW
 go_loopw [5] (fun i wr => ∃ (k : Nat), i = .int .i64 k ∧ k ≤ ls.length ∧ Hid (liveFrom tx (ls.drop k) k = R) ∧ Below W.heap.size W wr)
  (fun i _ => ls.length - (intOf i).toNat)
 case atStart => exact ⟨0, rfl, by omega, HF, Below.refl _ _⟩
 case round =>
  obtain ⟨k, rfl, hk, hR, hbl⟩ := hrel
  have x0 := HT.out wr hbl
  have hrr := HR.out wr hbl
  have hbT : Below w.heap.size w wr := hbW.trans (hbl.mono hbW.size)
  by_cases hlt : k < ls.length
  ·obtain ⟨b, off, rfl, hcell⟩ := hrr (by rintro rfl; simp at hlt)
   obtain ⟨c0, _, _⟩ := hcell k hlt
   clear hcell
   have hkk : (k : Int) < (ls.length : Int) := by omega
   have hi0 : (0 : Int) ≤ (k : Int) := by omega
   have HR2 : Hid ((if (ls.getD k zeroL).tx = tx then (k : Int) else liveFrom tx (ls.drop (k + 1)) (k + 1)) = R) := by
    have h := hR.out
    rw [dropL_at ls k hlt, liveFrom] at h
    exact h
   generalize ls.getD k zeroL = z at *
   by_cases hq : z.tx = tx
   ·have HR3 : Hid ((k : Int) = R) := by have h := HR2.out; rw [if_pos hq] at h; exact h
    have hqb : (z.tx == tx) = true := by simpa using hq
    clear hq hR HR2
    go_wp2
    go_ret
    exact ⟨ret_int HR3.out, hbT⟩
   ·have HR3 : Hid (liveFrom tx (ls.drop (k + 1)) (k + 1) = R) := by have h := HR2.out; rw [if_neg hq] at h; exact h
    have hqb : (z.tx == tx) = false := by simpa using hq
    clear hq hR HR2
    go_wp2_with fail
    go_roundw
    case rel => exact ⟨k + 1, by go_num, by omega, HR3, hbl⟩
    case measure => simp [intOf]; omega
  ·have hkk : ¬ (k : Int) < (ls.length : Int) := by omega
   have HR' : Hid (-1 = R) := by
    have h := hR.out
    rw [List.drop_eq_nil_of_le (by omega), liveFrom] at h
    exact h
   clear hR
   go_wp2
   go_ret
   exact ⟨ret_int HR'.out, hbT⟩
theorem l7Holder_any (e : EngA) (hsh : e.shape) (oid : Int) (w : World) (hr : ReadsH w e.aH e.holds) (hl : e.holds.length ≤ 1099511627776) :
  Calls Tryz.prog 114 #[.agg e.cells.toArray, .int .i64 oid] w fun r w' => r = .returned (.int .i64 (holdFrom oid e.holds)) ∧ Below w.heap.size w w' := by
 obtain ⟨W, hW, b0, hbW, hsW⟩ := boxes1 w e.cells 105
 have HT : Hid (∀ u, Below W.heap.size W u → u.cell? ⟨w.heap.size, 141, none⟩ = some (.slice e.aH e.holds.length e.cH)) := fun u hu => EngA.cell_at hsh (b0.below hu b0.lt) 5 _ rfl
 have HR : Hid (∀ u, Below W.heap.size W u → ReadsH u e.aH e.holds) := fun u hu => hr.below (hbW.trans (hu.mono hbW.size))
 have HF : Hid (holdFrom oid (e.holds.drop 0) = holdFrom oid e.holds) := rfl
 generalize holdFrom oid e.holds = R at *
 generalize e.cells = cs at *
 generalize e.holds = ls at *
 generalize e.aH = a at *
 generalize e.cH = c at *
 clear hsW b0 hsh hr
 go_enter Tryz.func114, Tryz.ntmps114
 go_wp2_with fail
 rw [hW.out]
 clear hW
 go_loopw [5] (fun i wr => ∃ (k : Nat), i = .int .i64 k ∧ k ≤ ls.length ∧ Hid (holdFrom oid (ls.drop k) = R) ∧ Below W.heap.size W wr)
  (fun i _ => ls.length - (intOf i).toNat)
 case atStart => exact ⟨0, rfl, by omega, HF, Below.refl _ _⟩
 case round =>
  obtain ⟨k, rfl, hk, hR, hbl⟩ := hrel
  have x0 := HT.out wr hbl
  have hrr := HR.out wr hbl
  have hbT : Below w.heap.size w wr := hbW.trans (hbl.mono hbW.size)
  by_cases hlt : k < ls.length
  ·obtain ⟨b, off, rfl, hcell⟩ := hrr (by rintro rfl; simp at hlt)
   obtain ⟨c1, c0⟩ := hcell k hlt
   clear hcell
   have hkk : (k : Int) < (ls.length : Int) := by omega
   have hi0 : (0 : Int) ≤ (k : Int) := by omega
   have HR2 : Hid ((if (ls.getD k zeroH).oid = oid then (ls.getD k zeroH).tx else holdFrom oid (ls.drop (k + 1))) = R) := by
    have h := hR.out
    rw [dropH_at ls k hlt, holdFrom] at h
    exact h
   generalize ls.getD k zeroH = z at *
   by_cases hq : z.oid = oid
   ·have HR3 : Hid (z.tx = R) := by have h := HR2.out; rw [if_pos hq] at h; exact h
    have hqb : (z.oid == oid) = true := by simpa using hq
    clear hq hR HR2
    go_wp2
    go_ret
    exact ⟨ret_int HR3.out, hbT⟩
   ·have HR3 : Hid (holdFrom oid (ls.drop (k + 1)) = R) := by have h := HR2.out; rw [if_neg hq] at h; exact h
    have hqb : (z.oid == oid) = false := by simpa using hq
    clear hq hR HR2
    go_wp2_with fail
    go_roundw
    case rel => exact ⟨k + 1, by go_num, by omega, HR3, hbl⟩
    case measure => simp [intOf]; omega
  ·have hkk : ¬ (k : Int) < (ls.length : Int) := by omega
   have HR' : Hid (0 = R) := by
    have h := hR.out
    rw [List.drop_eq_nil_of_le (by omega), holdFrom] at h
    exact h
   clear hR
   go_wp2
   go_ret
   exact ⟨ret_int HR'.out, hbT⟩
theorem specSeated_any (a : Option Addr) (c : Nat) (ls : List SeatA) (hand no : Int) (w : World) (hr : ReadsSts w a ls) (hl : ls.length ≤ 1099511627776) :
  Calls Tryz.prog 132 #[.agg #[.slice a ls.length c, .int .i64 hand], .int .i64 no] w fun r w' => r = .returned (.int .i64 (seatedOf (ls.map SeatA.v) no)) ∧ Below w.heap.size w w' := by
 obtain ⟨W, hW, b0, hbW, hsW⟩ := boxes1 w [.slice a ls.length c, .int .i64 hand] 102
 have HT : Hid (∀ u, Below W.heap.size W u → u.cell? ⟨w.heap.size, 0, none⟩ = some (.slice a ls.length c)) := fun u hu => (b0.below hu b0.lt).cell 0 _ rfl
 have HR : Hid (∀ u, Below W.heap.size W u → ReadsSts u a ls) := fun u hu => hr.below (hbW.trans (hu.mono hbW.size))
 have HF : Hid (seatFrom no ((ls.map SeatA.v).drop 0) 0 = seatedOf (ls.map SeatA.v) no) := rfl
 generalize seatedOf (ls.map SeatA.v) no = R at *
 clear hsW b0 hr
 go_enter Tryz.func132, Tryz.ntmps132
 go_wp2_with fail
 rw [hW.out]
 clear hW
 go_loopw [5] (fun i wr => ∃ (k : Nat), i = .int .i64 k ∧ k ≤ ls.length ∧ Hid (seatFrom no ((ls.map SeatA.v).drop k) k = R) ∧ Below W.heap.size W wr)
  (fun i _ => ls.length - (intOf i).toNat)
 case atStart => exact ⟨0, rfl, by omega, HF, Below.refl _ _⟩
 case round =>
  obtain ⟨k, rfl, hk, hR, hbl⟩ := hrel
  have x0 := HT.out wr hbl
  have hrr := HR.out wr hbl
  have hbT : Below w.heap.size w wr := hbW.trans (hbl.mono hbW.size)
  by_cases hlt : k < ls.length
  ·obtain ⟨b, off, rfl, hcell⟩ := hrr (by rintro rfl; simp at hlt)
   have c0 := (hcell k hlt).1 0 _ rfl
   simp only [Nat.add_zero] at c0
   clear hcell
   have hkk : (k : Int) < (ls.length : Int) := by omega
   have hi0 : (0 : Int) ≤ (k : Int) := by omega
   have HR2 : Hid ((if (ls.getD k zeroSt).no = no then (k : Int) else seatFrom no ((ls.map SeatA.v).drop (k + 1)) (k + 1)) = R) := by
    have h := hR.out
    rw [dropSt_at ls k hlt, seatFrom] at h
    exact h
   generalize ls.getD k zeroSt = z at *
   by_cases hq : z.no = no
   ·have HR3 : Hid ((k : Int) = R) := by have h := HR2.out; rw [if_pos hq] at h; exact h
    have hqb : (z.no == no) = true := by simpa using hq
    clear hq hR HR2
    go_wp2
    go_ret
    exact ⟨ret_int HR3.out, hbT⟩
   ·have HR3 : Hid (seatFrom no ((ls.map SeatA.v).drop (k + 1)) (k + 1) = R) := by have h := HR2.out; rw [if_neg hq] at h; exact h
    have hqb : (z.no == no) = false := by simpa using hq
    clear hq hR HR2
    go_wp2_with fail
    go_roundw
    case rel => exact ⟨k + 1, by go_num, by omega, HR3, hbl⟩
    case measure => simp [intOf]; omega
  ·have hkk : ¬ (k : Int) < (ls.length : Int) := by omega
   have HR' : Hid (-1 = R) := by
    have h := hR.out
    rw [List.drop_eq_nil_of_le (by rw [List.length_map]; omega), seatFrom] at h
    exact h
   clear hR
   go_wp2
   go_ret
   exact ⟨ret_int HR'.out, hbT⟩
theorem recV_at (rs : List RecA) (k : Nat) : (rs.map RecA.v).getD k zeroR.v = (rs.getD k zeroR).v := by
 simp only [List.getD, List.getElem?_map]
 cases rs[k]? <;> rfl
theorem l7Last_any (l : LogA) (tx : Int) (w : World) (hr : l.reads w) (hl : l.recs.length ≤ 1099511627776) :
  Calls Tryz.prog 127 #[.agg l.cells.toArray, .int .i64 tx] w fun r w' => r = .returned (.int .i64 (lastOf (l.recs.map RecA.v) tx)) ∧ Below w.heap.size w w' := by
 obtain ⟨rs, sure, a, c⟩ := l
 simp only [LogA.cells, LogA.reads] at *
 obtain ⟨W, hW, b0, hbW, hsW⟩ := boxes1 w [.slice a rs.length c, .int .i64 sure] 26
 have HT : Hid (∀ u, Below W.heap.size W u → u.cell? ⟨w.heap.size, 0, none⟩ = some (.slice a rs.length c)) := fun u hu => (b0.below hu b0.lt).cell 0 _ rfl
 have HR : Hid (∀ u, Below W.heap.size W u → ReadsRs u a rs) := fun u hu => hr.below (hbW.trans (hu.mono hbW.size))
 have HF : Hid (lastFrom tx (rs.map RecA.v) rs.length = lastOf (rs.map RecA.v) tx) := by rw [Hid, lastOf, List.length_map]
 generalize lastOf (rs.map RecA.v) tx = R at *
 have x0 := HT.out W (Below.refl _ _)
 clear hsW b0 hr
 go_enter Tryz.func127, Tryz.ntmps127
 go_wp2_with fail
 rw [hW.out]
 clear hW x0
 go_loopw [5] (fun i wr => ∃ (k : Nat), i = .int .i64 ((k : Int) - 1) ∧ k ≤ rs.length ∧ Hid (lastFrom tx (rs.map RecA.v) k = R) ∧ Below W.heap.size W wr)
  (fun i _ => (intOf i + 1).toNat)
 case atStart => exact ⟨rs.length, by go_num, by omega, HF, Below.refl _ _⟩
 case round =>
  obtain ⟨k, rfl, hk, hR, hbl⟩ := hrel
  have x0 := HT.out wr hbl
  have hrr := HR.out wr hbl
  have hbT : Below w.heap.size w wr := hbW.trans (hbl.mono hbW.size)
  cases k with
  | zero =>
   have HR' : Hid (0 = R) := hR.out
   clear hR
   go_wp2
   go_ret
   exact ⟨ret_int HR'.out, hbT⟩
  | succ k =>
   obtain ⟨b, off, rfl, hcell⟩ := hrr (by rintro rfl; simp at hk)
   have c0 := (hcell k (by omega)).1 1 _ rfl
   clear hcell
   have hkk : (k : Int) < (rs.length : Int) := by omega
   have hi0 : (0 : Int) ≤ (k : Int) := by omega
   have HR2 : Hid ((if (rs.getD k zeroR).tx = tx then (k : Int) + 1 else lastFrom tx (rs.map RecA.v) k) = R) := by
    have h := hR.out
    rw [lastFrom, recV_at] at h
    exact h
   have hk1 : ((k + 1 : Nat) : Int) - 1 = (k : Int) := by omega
   rw [hk1]
   generalize rs.getD k zeroR = z at *
   by_cases hq : z.tx = tx
   ·have HR3 : Hid ((k : Int) + 1 = R) := by have h := HR2.out; rw [if_pos hq] at h; exact h
    have hqb : (z.tx == tx) = true := by simpa using hq
    clear hq hR HR2
    go_wp2
    go_ret
    exact ⟨ret_int HR3.out, hbT⟩
   ·have HR3 : Hid (lastFrom tx (rs.map RecA.v) k = R) := by have h := HR2.out; rw [if_neg hq] at h; exact h
    have hqb : (z.tx == tx) = false := by simpa using hq
    clear hq hR HR2
    go_wp2_with fail
    go_roundw
    case rel => exact ⟨k, by go_num, by omega, HR3, hbl⟩
    case measure => simp [intOf]
def RecA.with (r : RecA) (t1 t2 : SlotA) (aL : Option Addr) (cL : Nat) : RecA := ⟨r.lsn, r.tx, r.prev, r.kind, r.oid, t1, t2, r.next, r.txs, aL, cL⟩
theorem with_v {r : RecA} {t1 t2 : SlotA} {aL : Option Addr} {cL : Nat} (h1 : t1.v = r.bf.v) (h2 : t2.v = r.af.v) : (r.with t1 t2 aL cL).v = r.v := by simp only [RecA.with, RecA.v, h1, h2]
theorem ownL_lit {w W : World} (h : w.alloc (.cells #[] 62) = W) : OwnL W w.heap.size W.heap.size (some ⟨w.heap.size, 0, none⟩) 0 [] := by
 subst h
 refine ⟨World.ownsRow_lit (size := 3) w #[] 0 (Nat.le_refl _) (by simp [maxLen]) rfl, Nat.le_refl _, fun k hk => ?_⟩
 simp [Value.ownBlock] at hk
 rw [World.size_alloc]
 omega
theorem l5CopyRec_own (r : RecA) (w : World) (hr : r.reads w) (hl : r.short 1099511627776) (hc : r.aL = none → r.cL = 0) :
  Calls Tryz.prog 45 #[.agg r.cells.toArray] w fun e w' => ∃ t : RecA, e = .returned (.agg t.cells.toArray) ∧ Hid (t.v = r.v) ∧ t.own w' w.heap.size w'.heap.size ∧ Below w.heap.size w w' := by
 obtain ⟨W, hW, b0, b1, hbW, hsW⟩ := boxes2 w r.cells [.int .i64 0, .int .i64 0, .int .i64 0, .int .i64 0, .int .i64 0, .bool false, .int .i64 0, .slice none 0 0, .slice none 0 0, .bool false, .int .i64 0, .slice none 0 0, .slice none 0 0, .int .i64 0, .slice none 0 0] 42 42
 have hs0 : w.heap.size + 1 < W.heap.size := by omega
 clear hsW
 have C1 := l3CopySlot_own r.bf W (ReadsO.below hr.bf hbW) hl.bf.1 hl.bf.2
 have HC : Hid (r.aL = none → r.cL = 0) := hc
 have HWV : Hid (∀ (t1 t2 : SlotA) (aL : Option Addr) (cL : Nat), t1.v = r.bf.v → t2.v = r.af.v → (r.with t1 t2 aL cL).v = r.v) := fun t1 t2 aL cL h1 h2 => with_v h1 h2
 have HWC : Hid (∀ (t1 t2 : SlotA) (aL : Option Addr) (cL : Nat), (r.with t1 t2 aL cL).cells = [.int .i64 r.lsn, .int .i64 r.tx, .int .i64 r.prev, .int .i64 r.kind, .int .i64 r.oid, .bool t1.v.has, .int .i64 t1.v.o.kind, .slice t1.aI t1.v.o.ints.length t1.cI, .slice t1.aR t1.v.o.refs.length t1.cR, .bool t2.v.has, .int .i64 t2.v.o.kind, .slice t2.aI t2.v.o.ints.length t2.cI, .slice t2.aR t2.v.o.refs.length t2.cR, .int .i64 r.next, .slice aL r.txs.length cL]) := fun _ _ _ _ => rfl
 simp only [RecA.cells] at b0 hW ⊢
 simp only [SlotA.cells] at C1
 clear hc
 go_enter Tryz.func45, Tryz.ntmps45
 go_wp2_with fail
 rw [hW.out]
 clear hW
 refine C1.mono ?_
 clear C1
 rintro e w1 ⟨t1, rfl, hv1, ho1, hb1⟩
 have b01 := b0.below hb1 b0.lt
 have b11 := b1.below hb1 b1.lt
 have hs1 := hb1.size
 clear b0 b1
 have x5 := b01.cell 5 _ rfl
 have xf5 := b01.frozen 5
 have x6 := b01.cell 6 _ rfl
 have xf6 := b01.frozen 6
 have x7 := b01.cell 7 _ rfl
 have xf7 := b01.frozen 7
 have x8 := b01.cell 8 _ rfl
 have xf8 := b01.frozen 8
 obtain ⟨W2, hW2, b02, hw2, hs2⟩ := box_quad b01 5 6 7 8 (.bool t1.v.has) (.int .i64 t1.v.o.kind) (.slice t1.aI t1.v.o.ints.length t1.cI) (.slice t1.aR t1.v.o.refs.length t1.cR)
 have hs2a := Nat.le_of_eq hs2
 have hs2b := Nat.le_of_eq hs2.symm
 clear hs2
 simp only [List.set] at b02
 have b12 := b11.within hw2 (by omega)
 have hB2 : Below w.heap.size w W2 := (hbW.trans (hb1.mono (by omega))).trans (hw2.below (by omega) (by omega))
 have ho2 := OwnO.within ho1 hw2 (.inr (by omega))
 have C2 := l3CopySlot_own r.af W2 (ReadsO.below hr.af hB2) hl.af.1 hl.af.2
 simp only [SlotA.cells] at C2
 clear b01 b11 hw2 ho1
 go_upto_region 2 with fail
 rw [hW2.out]
 clear x5 x6 x7 x8 xf5 xf6 xf7 xf8 hW2
 have y9 := b02.cell 9 _ rfl
 have y10 := b02.cell 10 _ rfl
 have y11 := b02.cell 11 _ rfl
 have y12 := b02.cell 12 _ rfl
 go_wp2_with fail
 refine C2.mono ?_
 clear C2 y9 y10 y11 y12
 rintro e w3 ⟨t2, rfl, hv2, ho3, hb3⟩
 have b03 := b02.below hb3 b02.lt
 have b13 := b12.below hb3 b12.lt
 have hs3 := hb3.size
 have ho23 := OwnO.below ho2 hb3
 clear b02 b12 ho2
 have x9 := b03.cell 9 _ rfl
 have xf9 := b03.frozen 9
 have x10 := b03.cell 10 _ rfl
 have xf10 := b03.frozen 10
 have x11 := b03.cell 11 _ rfl
 have xf11 := b03.frozen 11
 have x12 := b03.cell 12 _ rfl
 have xf12 := b03.frozen 12
 obtain ⟨W4, hW4, b04, hw4, hs4⟩ := box_quad b03 9 10 11 12 (.bool t2.v.has) (.int .i64 t2.v.o.kind) (.slice t2.aI t2.v.o.ints.length t2.cI) (.slice t2.aR t2.v.o.refs.length t2.cR)
 have hs4a := Nat.le_of_eq hs4
 have hs4b := Nat.le_of_eq hs4.symm
 clear hs4
 simp only [List.set] at b04
 have b14 := b13.within hw4 (by omega)
 have hB4 : Below w.heap.size w W4 := (hB2.trans (hb3.mono (by omega))).trans (hw4.below (by omega) (by omega))
 have hoA4 := OwnO.within ho23 hw4 (.inr (by omega))
 have hoB4 := OwnO.within ho3 hw4 (.inr (by omega))
 clear b03 b13 hw4 ho3 ho23 hb3
 go_upto_region 3 with fail
 rw [hW4.out]
 clear x9 x10 x11 x12 xf9 xf10 xf11 xf12 hW4
 obtain ⟨W5, hW5, bE, hb5, hs5⟩ := boxes1 W4 [] 62
 have hs5a := Nat.le_of_eq hs5
 have hs5b := Nat.le_of_eq hs5.symm
 clear hs5
 have hW5' : W4.alloc (.cells #[] 62) = W5 := hW5.out
 have HW5 : Hid (W4.alloc (.cells #[] 62) = W5) := hW5'
 have oE := ownL_lit hW5'
 clear bE hW5 hW5'
 have b05 := b04.below hb5 b04.lt
 have b15 := b14.below hb5 b14.lt
 have hoA5 := OwnO.below hoA4 hb5
 have hoB5 := OwnO.below hoB4 hb5
 have hB5 : Below w.heap.size w W5 := hB4.trans (hb5.mono (by omega))
 have k14 := b05.cell 14 _ rfl
 have k14' : (W4.alloc (.cells #[] 62)).cell? ⟨w.heap.size, 14, none⟩ = some (.slice r.aL r.txs.length r.cL) := by rw [HW5.out]; exact k14
 have hA1 : ([] : List LiveV).length + r.txs.length ≤ 1099511627776 := by have := hl.txs; simp only [List.length_nil]; omega
 have hrt : ReadsL W5 r.aL r.txs := hr.txs.below hB5
 have hs5' := hb5.size
 clear b04 b14 hoA4 hoB4
 have HNC : Hid (r.aL = none → r.cL = 0) := HC.out
 go_wp2_with (at_builtin; refine append_lives rfl _ _ rfl W4.heap.size _ (some ⟨W4.heap.size, 0, none⟩) 0 [] rfl (by rw [HW5.out]; exact oE) r.aL r.cL r.txs rfl (by rw [HW5.out]; exact hrt) HNC.out hA1 (by rw [HW5.out]; omega) ?_)
 intro aL cL ys w6 hys o6 g6
 rw [HW5.out] at g6
 have hw6 : Within W4.heap.size W5.heap.size W5 w6 := Within.of_grown g6 (fun j hj => oE.lt j hj)
 have hs6 := hw6.size
 have b06 := b05.within hw6 (by omega)
 have b16 := b15.within hw6 (by omega)
 have hoA6 := OwnO.within hoA5 hw6 (.inl (by omega))
 have hoB6 := OwnO.within hoB5 hw6 (.inl (by omega))
 have hB6 : Below w.heap.size w w6 := hB5.trans (hw6.below (by omega) (by omega))
 obtain rfl : ys = r.txs := hys.out.trans (List.nil_append _)
 clear hys g6 hw6 oE b05 b15 hoA5 hoB5 k14 k14' hrt HW5
 have HAP : Hid ((t1.blocks ++ (t2.blocks ++ (Value.slice aL r.txs.length cL).ownBlock.toList)).Nodup) := rec_apart (c := W4.heap.size) (OwnO.widen hoA6 (Nat.le_refl _) (show _ ≤ W2.heap.size by omega) (by omega)) (OwnO.widen hoB6 (Nat.le_refl _) (show _ ≤ W4.heap.size by omega) (by omega)) o6 (by omega)
 have x14 := b06.cell 14 _ rfl
 have f14 := b06.frozen 14
 obtain ⟨W7, hW7, b07, hw7, hs7⟩ := box_set b06 14 (.slice aL r.txs.length cL)
 have hs7a := Nat.le_of_eq hs7
 have hs7b := Nat.le_of_eq hs7.symm
 clear hs7
 simp only [List.set] at b07
 have b17 := b16.within hw7 (by omega)
 have b07' : Box W7 w.heap.size (r.with t1 t2 aL cL).cells 42 := by rw [HWC.out]; exact b07
 have hoA7 := OwnO.within hoA6 hw7 (.inr (by omega))
 have hoB7 := OwnO.within hoB6 hw7 (.inr (by omega))
 have o7 := o6.within hw7 (.inr (by omega))
 have hB7 : Below w.heap.size w W7 := hB6.trans (hw7.below (by omega) (by omega))
 clear hw7 b06 b16 hoA6 hoB6 o6
 go_upto_region 4 with fail
 rw [hW7.out]
 clear x14 f14 hW7
 obtain ⟨WF, hWF, hwF, hsF, HTF, HLF, bF⟩ := rec_out (r.with t1 t2 aL cL) _ rfl b17
 have hsFa := Nat.le_of_eq hsF
 have hsFb := Nat.le_of_eq hsF.symm
 clear hsF
 have hoF : (r.with t1 t2 aL cL).own WF w.heap.size WF.heap.size := ⟨OwnO.widen (OwnO.within hoA7 hwF (.inr (by omega))) (by omega) (by omega) (Nat.le_refl _), OwnO.widen (OwnO.within hoB7 hwF (.inr (by omega))) (by omega) (by omega) (Nat.le_refl _), (o7.within hwF (.inr (by omega))).widen (by omega) (by omega) (Nat.le_refl _), HAP.out⟩
 have hbF : Below w.heap.size w WF := hB7.trans (hwF.below (by omega) (by omega))
 have HF : Hid (_ ∧ _ ∧ _) := ⟨HWV.out t1 t2 aL cL hv1.out hv2.out, hoF, hbF⟩
 have rT : W7.rangeAt w.heap.size 0 (r.with t1 t2 aL cL).cells := Box.range [] _ [] (by simpa using b07')
 clear hoF hbF bF hwF b07 b07' b17 hoA7 hoB7 o7 HAP HWC HWV
 generalize r.with t1 t2 aL cL = TT at *
 go_wp2_with (first | (guard_target = wpList _ _ _ (Oper.mk (some 16) _ _ _ _ _ :: _) _ _; refine wpList_load_mid rfl 42 (.tmp 1) rfl w.heap.size 0 rfl TT.cells _ rT Tryz.underlying42 rfl (rec_info _) ?_) | (guard_target = wpList _ _ _ (Oper.mk none (Op.store _ (Operand.tmp 2) _) _ _ _ _ :: _) _ _; refine wpList_store_mid rfl 42 (.tmp 2) (.tmp 16) rfl (w.heap.size + 1) 0 TT.cells.toArray rfl rfl HTF.out (rec_info _) (rec_one _) ?_) | fail)
 rw [hWF.out]
 exact bodyPost_ret (v := .agg TT.cells.toArray) (results_one Tryz.results45 rfl HLF.out) rfl ⟨TT, rfl, HF.out.1, HF.out.2.1, HF.out.2.2⟩
end Go.Proofs.YtickiokdcbeefaaGreatDoor
namespace Go.Proofs.YtickiokdcbeefaaGreatDoor
open Go.RowKit
attribute [local go_sem ↓] Go.wp_at_zero Go.wp_at_succ
end Go.Proofs.YtickiokdcbeefaaGreatDoor
namespace Go.Proofs.YtickiokdcbeefaaGreatDoor
open Go.RowKit
def Came (rs ts : List RecA) (k : Nat) : Prop := ts.length = k ∧ ts.map RecA.v = (rs.take k).map RecA.v
theorem came_none (rs : List RecA) : Came rs [] 0 := ⟨rfl, by simp⟩
theorem Came.snoc {rs ts : List RecA} {k : Nat} (h : Came rs ts k) (hk : k < rs.length) {q : RecA} (hq : q.v = (rs.getD k zeroR).v) : Came rs (ts ++ [q]) (k + 1) := by
 refine ⟨by simp [h.1], ?_⟩
 have e : rs.getD k zeroR = rs[k] := by simp [List.getD, hk]
 rw [List.map_append, h.2, List.take_succ_eq_append_getElem hk, List.map_append, List.map_singleton, List.map_singleton, hq, e]
theorem Came.all {rs ts : List RecA} (h : Came rs ts rs.length) : ts.map RecA.v = rs.map RecA.v := by
 have := h.2
 rwa [List.take_length] at this
theorem range_below {w w' : World} {b o : Nat} {r : RecA} (h : w.rangeAt b o r.cells) (hb : Below w.heap.size w w') : w'.rangeAt b o r.cells := rangeAt_below h hb (rangeR_lt h)
end Go.Proofs.YtickiokdcbeefaaGreatDoor
namespace Go.Proofs.YtickiokdcbeefaaGreatDoor
open Go.ChangeShapes Go.WideShapes Go.ChangeAt Go.RowKit
section
variable {H : Type} {enc : TypeId × Value → H} {w : World} {base : Nat} {spare : Nat → Bool} {held : Bool}
end
end Go.Proofs.YtickiokdcbeefaaGreatDoor
namespace Go.Proofs.YtickiokdcbeefaaGreatDoor
open Go.RowKit
theorem LogA.reads.below {w w' : World} {l : LogA} (h : l.reads w) (hb : Below w.heap.size w w') : l.reads w' := ReadsRs.below h hb
theorem LogA.own.reads {w : World} {lo hi : Nat} {l : LogA} (h : l.own w lo hi) : l.reads w := OwnRs.reads h
theorem LogA.own.below {w w' : World} {lo hi : Nat} {l : LogA} (h : l.own w lo hi) (hb : Below w.heap.size w w') : l.own w' lo hi := OwnRs.below h hb
theorem LogA.own.within {w w' : World} {lo hi a b : Nat} {l : LogA} (h : l.own w lo hi) (hw : Within a b w w') (hd : hi ≤ a ∨ b ≤ lo) : l.own w' lo hi := OwnRs.within h hw hd
theorem LogA.own.widen {w : World} {lo hi lo' hi' : Nat} {l : LogA} (h : l.own w lo hi) (h1 : lo' ≤ lo) (h2 : hi ≤ hi') (h3 : hi' ≤ w.heap.size) : l.own w lo' hi' := OwnRs.widen h h1 h2 h3
def LogA.blocks (l : LogA) : List Nat := blocksRs l.a l.c l.recs
theorem LogA.own.blocks_lt {w : World} {lo hi : Nat} {l : LogA} (h : l.own w lo hi) : ∀ k ∈ l.blocks, lo ≤ k ∧ k < hi := OwnRs.blocks_lt h
theorem LogA.own.touch {w w' : World} {lo hi : Nat} {l : LogA} {bl : List Nat} (h : l.own w lo hi) (ht : Touch bl w w') (hd : ∀ k ∈ l.blocks, k ∉ bl) : l.own w' lo hi := OwnRs.touch h ht hd
theorem oneLog (l : LogA) : ∀ v ∈ l.cells, v.oneCell' = true := by
 intro v hv
 simp only [LogA.cells, List.mem_cons, List.not_mem_nil, or_false] at hv
 rcases hv with rfl | rfl <;> rfl
theorem log_one (q : LogA) : q.cells.toArray.all (·.oneCell') = true := all_oneCell_toArray (oneLog q)
theorem log_info (q : LogA) : (Tryz.prog.info? 26).map (·.size) = some q.cells.length := by show _ = some 2; kernel_rfl
theorem log_load {w : World} {C : Nat} (q : LogA) (b : Box w C q.cells 26) : (loadVar 26 ⟨C, 0, none⟩).run Tryz.prog w = .ok (.agg q.cells.toArray) w :=
 run_loadVar_mid (P := Tryz.prog) w C 0 26 q.cells _ (Box.range [] q.cells [] (by simpa using b)) Tryz.underlying26 rfl (log_info q)
theorem log_out {w : World} {C : Nat} (q : LogA) (old : List Value) (ho : old.length = 2) (bC : Box w C old 26) :
  ∃ WF, Hid (w.setCells C 0 q.cells = WF) ∧ Within C (C + 1) w WF ∧ WF.heap.size = w.heap.size ∧ Hid (w.there C 0 q.cells.toArray.size) ∧ Hid ((loadVar 26 ⟨C, 0, none⟩).run Tryz.prog WF = .ok (.agg q.cells.toArray) WF) ∧ Box WF C q.cells 26 := by
 obtain ⟨WF, hWF, bF, hwF, hsF⟩ := range_fill [] old q.cells [] (by simpa using bC) (by rw [ho]; rfl)
 have bF' : Box WF C q.cells 26 := by simpa using bF
 exact ⟨WF, hWF, hwF, hsF, bC.there 0 _ (by rw [ho]; show 0 + 2 ≤ 2; decide), log_load q bF', bF'⟩
theorem box2_fill {w : World} {B : Nat} {x0 x1 : Value} {t : TypeId} (b : Box w B [x0, x1] t) (v0 v1 : Value) :
  ∃ W, Hid ((w.setCell ⟨B, 0, none⟩ v0).setCell ⟨B, 1, none⟩ v1 = W) ∧ Box W B [v0, v1] t ∧ Within B (B + 1) w W ∧ W.heap.size = w.heap.size := by
 refine ⟨_, rfl, by simpa using (b.set 0 v0).set 1 v1, (within_set w B 0 v0 (by omega)).trans (within_set _ B 1 v1 (by omega)), by simp⟩
theorem run_append_rec {w : World} (ty : TypeId) (lo hi : Nat) (a : Option Addr) (c : Nat) (rs : List RecA) (hown : OwnRs w lo hi a c rs)
  (b off : Nat) (sc : Nat) (q : RecA) (hr : w.rangeAt b off q.cells) (l u : Nat) (hq : q.own w l u) (hl : hi ≤ l) (hu : u ≤ w.heap.size)
  (hb : rs.length + 1 ≤ 68719476736) (hlo : lo ≤ hi) :
  ∃ a' c' w', (Builtin.append_ #[24, 24] ty #[.slice a rs.length c, .slice (some ⟨b, off, none⟩) 1 sc]).run Tryz.prog w = .ok (.slice a' (rs ++ [q]).length c') w' ∧ OwnRs w' lo w'.heap.size a' c' (rs ++ [q]) ∧ w.grownBy w' (Value.slice a rs.length c).ownBlock := by
 obtain ⟨i0, hi0, hz0, hz1, hz2⟩ := info_parts Tryz.infoRec
 have hqb := hq.blocks_lt
 have htop := hown.top
 obtain ⟨v', w', hrun, h1, h2, _, _⟩ := run_append_own_at (P := Tryz.prog) w lo 24 ty 42 i0 (.agg zeroR.cells.toArray) 15 200 Tryz.underlying24 hi0 hz0 hz1 hz2 rfl (by decide) _ _ _ hown.row ⟨b, off, none⟩ 1 sc q.cells (by rfl) (by
  intro j v hj
  rw [Addr_add]
  exact hr j v hj) (oneR q) (by simp only [maxLen]; omega) (by omega) (by omega)
 have e : cellsRs rs ++ q.cells = cellsRs (rs ++ [q]) := by rw [cellsRs_app, cellsRs_cons]; simp [cellsRs]
 have e2 : rs.length + 1 = (rs ++ [q]).length := by simp
 rw [e, e2] at h1
 have sh : ∃ a' c', v' = .slice a' (rs ++ [q]).length c' := by
  rcases h1.2 with ⟨rfl, h0⟩ | ⟨g, cap, cur, rfl, _⟩
  ·simp at h0
  ·exact ⟨_, _, rfl⟩
 obtain ⟨a', c', rfl⟩ := sh
 have hsz := h2.size
 have ht : Touch (Value.slice a rs.length c).ownBlock.toList w w' := Touch.of_grown h2 (fun k hk => Option.mem_toList.2 hk)
 have hrow := h1.lt
 have hold : ∀ r ∈ rs, r.own w' lo w'.heap.size := fun r hr => ((hown.each r hr).touch ht (fun k hk hk' => (List.nodup_append.1 hown.apart).2.2 k hk' k (List.mem_flatMap.2 ⟨r, hr, hk⟩) rfl)).widen (Nat.le_refl _) (by omega) (Nat.le_refl _)
 have hnew : q.own w' lo w'.heap.size := (hq.touch ht (fun k hk hk' => by have := hqb k hk; have := hown.blk k (Option.mem_toList.1 hk'); omega)).widen (by omega) (by omega) (Nat.le_refl _)
 refine ⟨a', c', w', hrun, ⟨h1, Nat.le_refl _, fun k hk => (hrow k hk).2, fun r hr => ?_, ?_⟩, h2⟩
 ·rcases List.mem_append.1 hr with hr | hr
  ·exact hold r hr
  ·obtain rfl := List.mem_singleton.1 hr
   exact hnew
 ·rw [List.flatMap_append, List.nodup_append, List.nodup_append]
  have hap := (List.nodup_append.1 hown.apart).2.1
  have hin : ∀ x ∈ rs.flatMap RecA.blocks, lo ≤ x ∧ x < hi := fun x hx => by
   obtain ⟨r, hr, hx⟩ := List.mem_flatMap.1 hx
   exact (hown.each r hr).blocks_lt x hx
  refine ⟨by cases (Value.slice a' (rs ++ [q]).length c').ownBlock <;> simp, ⟨hap, by simpa using hq.apart, fun x hx y hy e => ?_⟩, fun x hx y hy e => ?_⟩
  ·have := hin x hx
   simp only [List.flatMap_cons, List.flatMap_nil, List.append_nil] at hy
   have := hqb y hy
   omega
  ·have hx' := Option.mem_toList.1 hx
   subst e
   rcases List.mem_append.1 hy with hy | hy
   ·obtain ⟨r, hr, hy⟩ := List.mem_flatMap.1 hy
    exact row_apart h1 (hold r hr) x hx' hy
   ·simp only [List.flatMap_cons, List.flatMap_nil, List.append_nil] at hy
    exact row_apart h1 hnew x hx' hy
theorem step_append_rec {w : World} {ops : Array Oper} {o : Oper} {act : Act} {K : Act → World → Prop} {Q : Exit → Act → World → Prop} {E : Prop} (hgd : o.guard = none) (s x : Operand)
  (ho : o.op = .call { callee := .builtin .append, args := #[s, x], argTypes := #[24, 24] })
  (lo hi : Nat) (a : Option Addr) (c : Nat) (rs : List RecA) (hs : act.eval s = .slice a rs.length c) (hown : OwnRs w lo hi a c rs)
  (b off : Nat) (sc : Nat) (q : RecA) (hx : act.eval x = .slice (some ⟨b, off, none⟩) 1 sc) (hr : w.rangeAt b off q.cells) (l u : Nat) (hq : q.own w l u) (hl : hi ≤ l) (hu : u ≤ w.heap.size)
  (hb : rs.length + 1 ≤ 68719476736) (hlo : lo ≤ hi)
  (h : ∀ a' c' w', OwnRs w' lo w'.heap.size a' c' (rs ++ [q]) → w.grownBy w' (Value.slice a rs.length c).ownBlock → K (act.put o.dst (.slice a' (rs ++ [q]).length c')) w') :
  if Region.wanted o (yielded ops act.tmps) = true then Oper.wp Tryz.prog o act w K Q else E := by
 have hw : Region.wanted o (yielded ops act.tmps) = true := by simp [Region.wanted, hgd]
 rw [if_pos hw]
 obtain ⟨a', c', w', hrun, h2, h3⟩ := run_append_rec (w := w) o.type lo hi a c rs hown b off sc q hr l u hq hl hu hb hlo
 unfold Oper.wp
 simp [execOp, ho, resolve, invoke, builtin, hs, hx, hrun, Result.andThen]
 have := h a' c' w' h2 h3
 rw [List.length_append, List.length_singleton] at this
 exact this
end Go.Proofs.YtickiokdcbeefaaGreatDoor
namespace Go.Proofs.YtickiokdcbeefaaGreatDoor
open Go.RowKit
attribute [local go_sem ↓] Go.wp_at_zero Go.wp_at_succ
theorem lit_rec (q : RecA) : List.foldl (fun cs x => cs.setIfInBounds x.snd x.fst) (#[.int .i64 0, .int .i64 0, .int .i64 0, .int .i64 0, .int .i64 0, .bool false, .int .i64 0, .slice none 0 0, .slice none 0 0, .bool false, .int .i64 0, .slice none 0 0, .slice none 0 0, .int .i64 0, .slice none 0 0] : Array Value) q.cells.zipIdx = q.cells.toArray := by simp [RecA.cells, List.zipIdx]
theorem l5Copy_any (l : LogA) (w : World) (hr : l.reads w) (hl : l.short 1048576) (hcp : ∀ r ∈ l.recs, r.aL = none → r.cL = 0) :
  Calls Tryz.prog 44 #[.agg l.cells.toArray] w fun e w' => ∃ t : LogA, e = .returned (.agg t.cells.toArray) ∧ Hid (t.v = l.v) ∧ t.own w' w.heap.size w'.heap.size ∧ Below w.heap.size w w' := by
 obtain ⟨rs, s, a, c⟩ := l
 have hl2 := (LogA.short_wide hl).each
 have hl0 := hl.len
 simp only [LogA.reads, LogA.cells, LogA.own] at *
 obtain ⟨W, hW, b0, b1, b2, hbW, hsW⟩ := boxes3 w [.slice a rs.length c, .int .i64 s] [.slice none 0 0, .int .i64 0] [.slice none 0 0, .int .i64 s] 26 26 26
 have hs0 : w.heap.size + 1 + 1 < W.heap.size := by omega
 clear hsW
 have x0 := b0.cell 0 _ rfl
 have x1 := b0.cell 1 _ rfl
 have HC : Hid (∀ k, k < rs.length → ∃ b off, a = some ⟨b, off, none⟩ ∧ w.rangeAt b (off + k * 15) (rs.getD k zeroR).cells ∧ (rs.getD k zeroR).reads w ∧ (rs.getD k zeroR).short 1099511627776 ∧ ((rs.getD k zeroR).aL = none → (rs.getD k zeroR).cL = 0)) := fun k hk => by
  obtain ⟨b, off, ha, hc⟩ := hr (by intro e; rw [e] at hk; simp at hk)
  exact ⟨b, off, ha, (hc k hk).1, (hc k hk).2, hl2 _ (recD_mem rs k hk), hcp _ (recD_mem rs k hk)⟩
 have HI : Hid ((Tryz.prog.info? 42).map (·.size) = some 15) := by rw [Hid]; kernel_rfl
 clear hr hl hl2 hcp
 go_enter Tryz.func44, Tryz.ntmps44
 go_wp2_with fail
 rw [hW.out]
 clear hW x0 x1
 go_loopw [4] (fun i wr => ∃ (k : Nat) (ts : List RecA) (a' : Option Addr) (c' : Nat), k ≤ rs.length ∧ i = .int .i64 k ∧ Hid (Came rs ts k) ∧ Box wr (w.heap.size + 1 + 1) [.slice a' ts.length c', .int .i64 s] 26 ∧ Box wr w.heap.size [.slice a rs.length c, .int .i64 s] 26 ∧ Box wr (w.heap.size + 1) [.slice none 0 0, .int .i64 0] 26 ∧ OwnRs wr W.heap.size wr.heap.size a' c' ts ∧ Below w.heap.size w wr ∧ W.heap.size ≤ wr.heap.size)
  (fun i _ => rs.length - (intOf i).toNat)
 case atStart => exact ⟨0, [], none, 0, Nat.zero_le _, rfl, came_none rs, b2, b0, b1, ownRs_nil _ _ _ (Nat.le_refl _), hbW, Nat.le_refl _⟩
 case round =>
  obtain ⟨k, ts, a', c', hk, rfl, hc, k2, k0, k1, hown, hnx, hsz⟩ := hrel
  clear b0 b1 b2 hbW
  have x0 := k0.cell 0 _ rfl
  by_cases hlt : k < rs.length
  ·obtain ⟨b, off, rfl, hcell, hrd, hsh, hnc⟩ := HC.out k hlt
   have hbB := rangeR_lt hcell
   have hnw := hnx.size
   have HR : Hid (∀ u, Below w.heap.size w u → u.rangeAt b (off + k * 15) (rs.getD k zeroR).cells) := fun u hu => rangeAt_below hcell hu hbB
   have HS : Hid (∀ q : RecA, q.v = (rs.getD k zeroR).v → Came rs (ts ++ [q]) (k + 1)) := fun q hq => hc.out.snoc hlt hq
   have HL : Hid (ts.length = k) := hc.out.1
   clear hcell HC
   generalize rs.getD k zeroR = z at *
   have e0 := k2.cell 0 _ rfl
   have HSS : Hid (∀ u, Below w.heap.size w u → Box u w.heap.size [.slice (some ⟨b, off, none⟩) rs.length c, .int .i64 s] 26 → u.rangeAt b (off + k * 15) z.cells ∧ u.cell? ⟨w.heap.size, 0, none⟩ = some (.slice (some ⟨b, off, none⟩) rs.length c)) := fun u h1 h2 => ⟨HR.out u h1, h2.cell 0 _ rfl⟩
   go_wp2_with fail
   refine wp_region_held_drew (S := fun w' => w'.rangeAt b (off + k * 15) z.cells ∧ w'.cell? ⟨w.heap.size, 0, none⟩ = some (.slice (some ⟨b, off, none⟩) rs.length c)) (by kernel_rfl) ?_ (fun hHeld => ?_)
   ·exact HSS.out _ hnx.drew (k0.drewN 1)
   refine tk 0 (v := .pointer (some ⟨w.heap.size + 1 + 1, 0, none⟩)) rfl (Or.inl ⟨by rfl, ?_⟩) hHeld ?_
   ·intro w' hSw
    go_simp <;> rfl
   try simp only [Act.put, zA, zB, zD, zE, zF]
   refine tk 2 (v := .pointer (some ⟨w.heap.size, 0, none⟩)) rfl (Or.inl ⟨by rfl, ?_⟩) hHeld ?_
   ·intro w' hSw
    go_simp <;> rfl
   try simp only [Act.put, zA, zB, zC, zD, zE, zF]
   refine tk 3 (v := .slice (some ⟨b, off, none⟩) rs.length c) rfl (Or.inl ⟨by rfl, ?_⟩) hHeld ?_
   ·intro w' hSw
    have hx := hSw.2
    go_simp <;> rfl
   try simp only [Act.put, zA, zB, zC, zD, zE, zF]
   refine tk 4 (v := .int .i64 k) rfl (Or.inl ⟨by rfl, ?_⟩) hHeld ?_
   ·intro w' hSw
    go_simp <;> rfl
   try simp only [Act.put, zA, zB, zC, zD, zE, zF]
   refine tk 5 (v := .pointer (some ⟨b, off + k * 15, none⟩)) rfl (Or.inl ⟨by rfl, ?_⟩) hHeld ?_
   ·intro w' hSw
    go_simp <;> rfl
   try simp only [Act.put, zA, zB, zC, zD, zE, zF]
   refine tk 6 rfl (yieldsIf_load_mid (by rfl) _ _ rfl _ _ rfl z.cells _ (fun _ h => h.1) Tryz.underlying42 rfl HI.out) hHeld ?_
   try simp only [Act.put, zA, zB, zC, zD, zE, zF]
   have hnd : Below wr.heap.size wr wr.drew := (Below.refl _ _).drew
   have C := l5CopyRec_own z wr.drew (hrd.below hnx.drew) hsh hnc
   refine wpAnyH_ready (rs := [1, 7]) (by kernel_rfl) (by simp) ?_
   refine AllReadyH.cons rfl (fun K hK => ?_) (AllReadyH.cons rfl (fun K hK => ?_) AllReadyH.nil)
   ·go_simp
    refine hK.out _ _ (hHeld) (fun hHeld => ?_)
    clear hK K
    try simp only [Act.put, zA, zB, zC, zD, zE, zF]
    refine wpAnyH_ready (rs := [7]) (by kernel_rfl) (by simp) ?_
    refine AllReadyH.cons rfl (fun K hK => ?_) AllReadyH.nil
    go_simp
    refine C.mono ?_
    clear C
    rintro e u2 ⟨q, rfl, hq, hqo, hb2⟩
    have hb2' : Below wr.heap.size wr u2 := hnd.trans hb2
    have hn2 : Below w.heap.size w u2 := hnx.trans (hb2'.mono hnw)
    have k22 := k2.below hb2' k2.lt
    have k02 := k0.below hb2' k0.lt
    have k12 := k1.below hb2' k1.lt
    have o2 := hown.below hb2'
    have hqo2 : q.own u2 wr.heap.size u2.heap.size := hqo
    have hs2 := hb2'.size
    refine hK.out _ _ (HSS.out _ hn2 k02) (fun hHeld => ?_)
    clear hK K
    try simp only [Act.put, zA, zB, zC, zD, zE, zF]
    refine wpAnyH_ready (rs := [8]) (by kernel_rfl) (by simp) ?_
    refine AllReadyH.cons rfl (fun K hK => ?_) AllReadyH.nil
    go_simp
    simp only [cellsR_len, lit_rec, not_true_eq_false, Nat.lt_irrefl, or_self, if_false]
    go_simp
    obtain ⟨W3, hW3, b3, hb3, hs3⟩ := boxes1 u2 q.cells 42
    rw [hW3.out]
    have hn3 : Below w.heap.size w W3 := hn2.trans (hb3.mono hn2.size)
    have k23 := k22.below hb3 k22.lt
    have k03 := k02.below hb3 k02.lt
    have k13 := k12.below hb3 k12.lt
    have o3 := o2.below hb3
    have hqo3 := hqo2.below hb3
    have r3 : W3.rangeAt u2.heap.size 0 q.cells := Box.range [] q.cells [] (by simpa using b3)
    have hs3' := b3.lt
    clear hs3 hb3 hW3 b3 k02 k12 o2 hqo2
    refine hK.out _ _ (HSS.out _ hn3 k03) (fun hHeld => ?_)
    clear hK K
    try simp only [Act.put, zA, zB, zC, zD, zE, zF]
    have hll : ts.length + 1 ≤ 68719476736 := by have := HL.out; omega
    refine wpAnyH_ready (rs := [9]) (by kernel_rfl) (by simp) ?_
    refine AllReadyH.cons rfl (fun K hK => ?_) AllReadyH.nil
    refine step_append_rec rfl (.tmp 16) (.tmp 23) rfl W.heap.size wr.heap.size a' c' ts rfl o3 u2.heap.size 0 1 q rfl r3 wr.heap.size u2.heap.size hqo3 (Nat.le_refl _) (by omega) hll hsz ?_
    intro a9 c9 w9 o9 g9
    have HCM := HS.out q hq.out
    obtain ⟨ys, hys⟩ : ∃ ys, Hid (ts ++ [q] = ys) := ⟨_, rfl⟩
    rw [hys.out] at o9 HCM ⊢
    have hw9 : Within W.heap.size wr.heap.size W3 w9 := Within.of_grown g9 (fun j hj => ⟨(o3.row.lt j hj).1, o3.blk j hj⟩)
    have hs9 := hw9.size
    have hn9 : Below w.heap.size w w9 := hn3.trans (hw9.below (by omega) (by omega))
    have k29 := k23.within hw9 (by omega)
    have k09 := k03.within hw9 (by omega)
    have k19 := k13.within hw9 (by omega)
    refine hK.out _ _ (HSS.out _ hn9 k09) (fun hHeld => ?_)
    clear hK K hw9 g9 o3 r3 hqo3 k23 k03 k13
    try simp only [Act.put, zA, zB, zC, zD, zE, zF]
    refine tk 10 (v := .pointer (some ⟨w.heap.size + 1 + 1, 0, none⟩)) rfl (Or.inl ⟨by rfl, ?_⟩) hHeld ?_
    ·intro w' hSw
     go_simp <;> rfl
    try simp only [Act.put, zA, zB, zC, zD, zE, zF]
    have m0 := k29.cell 0 _ rfl
    have mf0 := k29.frozen 0
    obtain ⟨WF, hWF, kF, hwF, hsF⟩ := box_set k29 0 (.slice a9 ys.length c9)
    simp only [List.set] at kF
    have hsFa := Nat.le_of_eq hsF
    have hsFb := Nat.le_of_eq hsF.symm
    clear hsF
    have k0F := k09.within hwF (by omega)
    have k1F := k19.within hwF (by omega)
    have oF := (o9.within hwF (.inr (by omega))).widen (Nat.le_refl _) hsFb (Nat.le_refl _)
    have hnF : Below w.heap.size w WF := hn9.trans (hwF.below (by omega) (by omega))
    clear hwF k29 k09 k19 o9
    refine wpAnyH_ready (rs := [11]) (by kernel_rfl) (by simp) ?_
    refine AllReadyH.cons rfl (fun K hK => ?_) AllReadyH.nil
    go_simp
    rw [hWF.out]
    refine hK.out _ _ (HSS.out _ hnF k0F) (fun hHeld => ?_)
    clear hK K
    try simp only [Act.put, zA, zB, zC, zD, zE, zF]
    refine wpAnyH_done (by kernel_rfl) ?_ _
    clear m0 mf0 hWF
    go_wp2_with fail
    go_roundw
    case rel => exact ⟨k + 1, ys, a9, c9, by omega, by go_num, HCM, kF, k0F, k1F, oF, hnF, by omega⟩
    case measure => simp [intOf]; omega
   ·go_simp
    refine C.mono ?_
    clear C
    rintro e u2 ⟨q, rfl, hq, hqo, hb2⟩
    have hb2' : Below wr.heap.size wr u2 := hnd.trans hb2
    have hn2 : Below w.heap.size w u2 := hnx.trans (hb2'.mono hnw)
    have k22 := k2.below hb2' k2.lt
    have k02 := k0.below hb2' k0.lt
    have k12 := k1.below hb2' k1.lt
    have o2 := hown.below hb2'
    have hqo2 : q.own u2 wr.heap.size u2.heap.size := hqo
    have hs2 := hb2'.size
    refine hK.out _ _ (HSS.out _ hn2 k02) (fun hHeld => ?_)
    clear hK K
    try simp only [Act.put, zA, zB, zC, zD, zE, zF]
    refine wpAnyH_ready (rs := [1, 8]) (by kernel_rfl) (by simp) ?_
    refine AllReadyH.cons rfl (fun K hK => ?_) (AllReadyH.cons rfl (fun K hK => ?_) AllReadyH.nil)
    ·have d0 := k22.cell 0 _ rfl
     go_simp
     refine hK.out _ _ (hHeld) (fun hHeld => ?_)
     clear hK K
     try simp only [Act.put, zA, zB, zC, zD, zE, zF]
     refine wpAnyH_ready (rs := [8]) (by kernel_rfl) (by simp) ?_
     refine AllReadyH.cons rfl (fun K hK => ?_) AllReadyH.nil
     go_simp
     simp only [cellsR_len, lit_rec, not_true_eq_false, Nat.lt_irrefl, or_self, if_false]
     go_simp
     obtain ⟨W3, hW3, b3, hb3, hs3⟩ := boxes1 u2 q.cells 42
     rw [hW3.out]
     have hn3 : Below w.heap.size w W3 := hn2.trans (hb3.mono hn2.size)
     have k23 := k22.below hb3 k22.lt
     have k03 := k02.below hb3 k02.lt
     have k13 := k12.below hb3 k12.lt
     have o3 := o2.below hb3
     have hqo3 := hqo2.below hb3
     have r3 : W3.rangeAt u2.heap.size 0 q.cells := Box.range [] q.cells [] (by simpa using b3)
     have hs3' := b3.lt
     clear hs3 hb3 hW3 b3 k02 k12 o2 hqo2
     refine hK.out _ _ (HSS.out _ hn3 k03) (fun hHeld => ?_)
     clear hK K
     try simp only [Act.put, zA, zB, zC, zD, zE, zF]
     have hll : ts.length + 1 ≤ 68719476736 := by have := HL.out; omega
     refine wpAnyH_ready (rs := [9]) (by kernel_rfl) (by simp) ?_
     refine AllReadyH.cons rfl (fun K hK => ?_) AllReadyH.nil
     refine step_append_rec rfl (.tmp 16) (.tmp 23) rfl W.heap.size wr.heap.size a' c' ts rfl o3 u2.heap.size 0 1 q rfl r3 wr.heap.size u2.heap.size hqo3 (Nat.le_refl _) (by omega) hll hsz ?_
     intro a9 c9 w9 o9 g9
     have HCM := HS.out q hq.out
     obtain ⟨ys, hys⟩ : ∃ ys, Hid (ts ++ [q] = ys) := ⟨_, rfl⟩
     rw [hys.out] at o9 HCM ⊢
     have hw9 : Within W.heap.size wr.heap.size W3 w9 := Within.of_grown g9 (fun j hj => ⟨(o3.row.lt j hj).1, o3.blk j hj⟩)
     have hs9 := hw9.size
     have hn9 : Below w.heap.size w w9 := hn3.trans (hw9.below (by omega) (by omega))
     have k29 := k23.within hw9 (by omega)
     have k09 := k03.within hw9 (by omega)
     have k19 := k13.within hw9 (by omega)
     refine hK.out _ _ (HSS.out _ hn9 k09) (fun hHeld => ?_)
     clear hK K hw9 g9 o3 r3 hqo3 k23 k03 k13
     try simp only [Act.put, zA, zB, zC, zD, zE, zF]
     refine tk 10 (v := .pointer (some ⟨w.heap.size + 1 + 1, 0, none⟩)) rfl (Or.inl ⟨by rfl, ?_⟩) hHeld ?_
     ·intro w' hSw
      go_simp <;> rfl
     try simp only [Act.put, zA, zB, zC, zD, zE, zF]
     have m0 := k29.cell 0 _ rfl
     have mf0 := k29.frozen 0
     obtain ⟨WF, hWF, kF, hwF, hsF⟩ := box_set k29 0 (.slice a9 ys.length c9)
     simp only [List.set] at kF
     have hsFa := Nat.le_of_eq hsF
     have hsFb := Nat.le_of_eq hsF.symm
     clear hsF
     have k0F := k09.within hwF (by omega)
     have k1F := k19.within hwF (by omega)
     have oF := (o9.within hwF (.inr (by omega))).widen (Nat.le_refl _) hsFb (Nat.le_refl _)
     have hnF : Below w.heap.size w WF := hn9.trans (hwF.below (by omega) (by omega))
     clear hwF k29 k09 k19 o9
     refine wpAnyH_ready (rs := [11]) (by kernel_rfl) (by simp) ?_
     refine AllReadyH.cons rfl (fun K hK => ?_) AllReadyH.nil
     go_simp
     rw [hWF.out]
     refine hK.out _ _ (HSS.out _ hnF k0F) (fun hHeld => ?_)
     clear hK K
     try simp only [Act.put, zA, zB, zC, zD, zE, zF]
     refine wpAnyH_done (by kernel_rfl) ?_ _
     clear m0 mf0 hWF
     go_wp2_with fail
     go_roundw
     case rel => exact ⟨k + 1, ys, a9, c9, by omega, by go_num, HCM, kF, k0F, k1F, oF, hnF, by omega⟩
     case measure => simp [intOf]; omega
    ·go_simp
     simp only [cellsR_len, lit_rec, not_true_eq_false, Nat.lt_irrefl, or_self, if_false]
     go_simp
     obtain ⟨W3, hW3, b3, hb3, hs3⟩ := boxes1 u2 q.cells 42
     rw [hW3.out]
     have hn3 : Below w.heap.size w W3 := hn2.trans (hb3.mono hn2.size)
     have k23 := k22.below hb3 k22.lt
     have k03 := k02.below hb3 k02.lt
     have k13 := k12.below hb3 k12.lt
     have o3 := o2.below hb3
     have hqo3 := hqo2.below hb3
     have r3 : W3.rangeAt u2.heap.size 0 q.cells := Box.range [] q.cells [] (by simpa using b3)
     have hs3' := b3.lt
     clear hs3 hb3 hW3 b3 k02 k12 o2 hqo2
     refine hK.out _ _ (HSS.out _ hn3 k03) (fun hHeld => ?_)
     clear hK K
     try simp only [Act.put, zA, zB, zC, zD, zE, zF]
     have d0 := k23.cell 0 _ rfl
     refine wpAnyH_ready (rs := [1]) (by kernel_rfl) (by simp) ?_
     refine AllReadyH.cons rfl (fun K hK => ?_) AllReadyH.nil
     go_simp
     refine hK.out _ _ (hHeld) (fun hHeld => ?_)
     clear hK K
     try simp only [Act.put, zA, zB, zC, zD, zE, zF]
     have hll : ts.length + 1 ≤ 68719476736 := by have := HL.out; omega
     refine wpAnyH_ready (rs := [9]) (by kernel_rfl) (by simp) ?_
     refine AllReadyH.cons rfl (fun K hK => ?_) AllReadyH.nil
     refine step_append_rec rfl (.tmp 16) (.tmp 23) rfl W.heap.size wr.heap.size a' c' ts rfl o3 u2.heap.size 0 1 q rfl r3 wr.heap.size u2.heap.size hqo3 (Nat.le_refl _) (by omega) hll hsz ?_
     intro a9 c9 w9 o9 g9
     have HCM := HS.out q hq.out
     obtain ⟨ys, hys⟩ : ∃ ys, Hid (ts ++ [q] = ys) := ⟨_, rfl⟩
     rw [hys.out] at o9 HCM ⊢
     have hw9 : Within W.heap.size wr.heap.size W3 w9 := Within.of_grown g9 (fun j hj => ⟨(o3.row.lt j hj).1, o3.blk j hj⟩)
     have hs9 := hw9.size
     have hn9 : Below w.heap.size w w9 := hn3.trans (hw9.below (by omega) (by omega))
     have k29 := k23.within hw9 (by omega)
     have k09 := k03.within hw9 (by omega)
     have k19 := k13.within hw9 (by omega)
     refine hK.out _ _ (HSS.out _ hn9 k09) (fun hHeld => ?_)
     clear hK K hw9 g9 o3 r3 hqo3 k23 k03 k13
     try simp only [Act.put, zA, zB, zC, zD, zE, zF]
     refine tk 10 (v := .pointer (some ⟨w.heap.size + 1 + 1, 0, none⟩)) rfl (Or.inl ⟨by rfl, ?_⟩) hHeld ?_
     ·intro w' hSw
      go_simp <;> rfl
     try simp only [Act.put, zA, zB, zC, zD, zE, zF]
     have m0 := k29.cell 0 _ rfl
     have mf0 := k29.frozen 0
     obtain ⟨WF, hWF, kF, hwF, hsF⟩ := box_set k29 0 (.slice a9 ys.length c9)
     simp only [List.set] at kF
     have hsFa := Nat.le_of_eq hsF
     have hsFb := Nat.le_of_eq hsF.symm
     clear hsF
     have k0F := k09.within hwF (by omega)
     have k1F := k19.within hwF (by omega)
     have oF := (o9.within hwF (.inr (by omega))).widen (Nat.le_refl _) hsFb (Nat.le_refl _)
     have hnF : Below w.heap.size w WF := hn9.trans (hwF.below (by omega) (by omega))
     clear hwF k29 k09 k19 o9
     refine wpAnyH_ready (rs := [11]) (by kernel_rfl) (by simp) ?_
     refine AllReadyH.cons rfl (fun K hK => ?_) AllReadyH.nil
     go_simp
     rw [hWF.out]
     refine hK.out _ _ (HSS.out _ hnF k0F) (fun hHeld => ?_)
     clear hK K
     try simp only [Act.put, zA, zB, zC, zD, zE, zF]
     refine wpAnyH_done (by kernel_rfl) ?_ _
     clear m0 mf0 hWF
     go_wp2_with fail
     go_roundw
     case rel => exact ⟨k + 1, ys, a9, c9, by omega, by go_num, HCM, kF, k0F, k1F, oF, hnF, by omega⟩
     case measure => simp [intOf]; omega
  ·have HE : Hid (ts.map RecA.v = rs.map RecA.v) := by
    have e : k = rs.length := by omega
    rw [e] at hc
    exact hc.out.all
   have e0 := k2.cell 0 _ rfl
   have e1 := k2.cell 1 _ rfl
   have m0 := k1.cell 0 _ rfl
   have m1 := k1.cell 1 _ rfl
   have mf0 := k1.frozen 0
   have mf1 := k1.frozen 1
   obtain ⟨WF, hWF, bF, hwF, hsF⟩ := box2_fill k1 (.slice a' ts.length c') (.int .i64 s)
   have q0 := bF.cell 0 _ rfl
   have q1 := bF.cell 1 _ rfl
   have hoF := (hown.within hwF (.inr (by omega))).widen (show w.heap.size ≤ W.heap.size by omega) (show wr.heap.size ≤ WF.heap.size by omega) (Nat.le_refl _)
   have hbF : Below w.heap.size w WF := hnx.trans (hwF.below (by omega) (by have := hnx.size; omega))
   clear hwF hsF bF
   go_wp2
   rw [hWF.out]
   exact bodyPost_ret (v := .agg #[.slice a' ts.length c', .int .i64 s]) (by simp [results, Tryz.results44, go_sem, q0, q1]) rfl ⟨⟨ts, s, a', c'⟩, rfl, by simp only [Hid, LogA.v]; rw [HE.out], hoF, hbF⟩
end Go.Proofs.YtickiokdcbeefaaGreatDoor
namespace Go.Proofs.YtickiokdcbeefaaGreatDoor
open Go.RowKit
theorem getD_v (rs : List RecA) (k : Nat) : (rs.map RecA.v).getD k noR = (rs.getD k zeroR).v := by
 simp only [List.getD, List.getElem?_map]
 cases rs[k]? <;> rfl
def okAt (rs : List RecV) (k : Nat) : Bool := ((rs.getD k noR).lsn == (k + 1 : Int)) && okR (rs.getD k noR)
def okLog (l : LogV) : Bool := decide (l.recs.length ≤ 4000) && (inB l.sure 0 l.recs.length && (List.range l.recs.length).all (okAt l.recs))
theorem okLog_len {l : LogV} (h : ¬ l.recs.length ≤ 4000) : okLog l = false := by simp [okLog, h]
theorem okLog_sure {l : LogV} (h : inB l.sure 0 l.recs.length = false) : okLog l = false := by simp [okLog, h]
theorem okLog_no {l : LogV} (k : Nat) (hk : k < l.recs.length) (h : okAt l.recs k = false) : okLog l = false := by
 have : (List.range l.recs.length).all (okAt l.recs) = false := by
  rw [List.all_eq_false]
  exact ⟨k, List.mem_range.2 hk, by rw [h]; decide⟩
 simp [okLog, this]
theorem okLog_all {l : LogV} (h0 : l.recs.length ≤ 4000) (h1 : inB l.sure 0 l.recs.length = true) (h : ∀ k, k < l.recs.length → okAt l.recs k = true) : okLog l = true := by
 have : (List.range l.recs.length).all (okAt l.recs) = true := by
  rw [List.all_eq_true]
  exact fun k hk => h k (List.mem_range.1 hk)
 simp [okLog, this, h0, h1]
theorem okLog_yes {l : LogV} (h : okLog l = true) : l.recs.length ≤ 4000 ∧ 0 ≤ l.sure ∧ l.sure ≤ l.recs.length ∧ ∀ k, k < l.recs.length → (l.recs.getD k noR).lsn = (k + 1 : Int) ∧ okR (l.recs.getD k noR) = true := by
 simp only [okLog, Bool.and_eq_true, decide_eq_true_eq, List.all_eq_true, List.mem_range, okAt, beq_iff_eq, inB] at h
 exact ⟨h.1, h.2.1.1, h.2.1.2, h.2.2⟩
theorem LogA.v_len (l : LogA) : l.v.recs.length = l.recs.length := by simp [LogA.v]
theorem LogA.v_at (l : LogA) (k : Nat) : l.v.recs.getD k noR = (l.recs.getD k zeroR).v := getD_v l.recs k
theorem okAt_v (l : LogA) (k : Nat) : okAt l.v.recs k = (((l.recs.getD k zeroR).lsn == (k + 1 : Int)) && okR (l.recs.getD k zeroR).v) := by
 unfold okAt
 rw [l.v_at]
 rfl
def logBytesOf (l : LogV) : List Int := if okLog l = true then l.recs.flatMap (fun r => frameOf (putRecOf r)) else []
end Go.Proofs.YtickiokdcbeefaaGreatDoor