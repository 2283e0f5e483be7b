/- Several texts in one, in their order. -/
import Derived.Test.YtoboickdkednkabGreatDoorPEngineOkx9
import Derived.Test.YtoboickdkednkabGreatDoorPEngineOkx12
import Derived.Test.YtoboickdkednkabGreatDoorPEngineOkx15
import Derived.Deep.RegionHeld3
import Derived.Test.YtoboickdkednkabGreatDoorRows
import Derived.Test.YtoboickdkednkabGreatDoorPEngineOkx5
import Derived.LaidLaws
import Derived.LaidHandle
import Derived.Stop.Joined
import Derived.ChangeVars
import Derived.Test.YtoboickdkednkabGreatDoorPEngineOkx1
set_option maxHeartbeats 8000000
set_option maxRecDepth 100000
namespace Go.Proofs.YtoboickdkednkabGreatDoor
open Go.RowKit
theorem lawEngineOk_walk (p : EngA) (w : World) (hg : ErrT w) (hin : InEng w p) :
  Calls Tryz.prog 3 #[.agg p.cells.toArray] w fun e w' => e = .returned (.bool true) ∧ Below w.heap.size w w' := by
 have sp : p.shape := hin.shape
 have hrd : p.reads w := hin.reads
 obtain ⟨Z, hZ⟩ : ∃ Z, Hid (zeroE = Z) := ⟨_, rfl⟩
 have sZ : Z.shape := by rw [← hZ.out]; exact zeroE_shape
 obtain ⟨W, hW, b0, hbW, hsW⟩ := boxes1 w p.cells 40
 have HRG : Hid (∀ w', Below W.heap.size W w' → w'.rangeAt w.heap.size 0 p.cells) := fun w' hh => Box.range [] p.cells [] (by simpa using b0.below hh b0.lt)
 have HRD : Hid (∀ w', Below W.heap.size W w' → p.reads w') := fun w' hh => hrd.below (hbW.trans (hh.mono hbW.size))
 have HG : Hid (∀ w', Below W.heap.size W w' → ErrT w') := fun w' hh => hg.keep (hbW.trans (hh.mono hbW.size))
 have HI := leng_info sp
 have CZ := szEngine_any p sp W (HRD.out W (Below.refl _ _)) hin.wide
 have HEND : Hid (∀ u, Below W.heap.size W u → Below w.heap.size w u) := fun u hu => hbW.trans (hu.mono hbW.size)
 clear b0 hrd hin hg
 go_enter Tryz.func3, Tryz.ntmps3
 go_wp2_with (first | (guard_target = wpList _ _ _ (Oper.mk (some 7) _ _ _ _ _ :: _) _ _; refine wpList_load_mid rfl 40 (.tmp 1) rfl w.heap.size 0 rfl p.cells _ (by rw [hW.out]; exact HRG.out _ (Below.refl _ _)) Tryz.underlying40 rfl HI ?_) | fail)
 rw [hW.out]
 clear hW hsW
 refine CZ.mono ?_
 clear CZ
 rintro e w1 ⟨z, rfl, hz, hb1⟩
 rcases hz with hneg | ⟨hz0, hl⟩
 ·have HE : Hid (Below w.heap.size w w1) := HEND.out _ hb1
  go_wp2
  go_ret
  exact ⟨rfl, HE.out⟩
 have hzn : ¬ z < 0 := by omega
 have C1 := toEngine_any p sp w1 (HRD.out _ hb1) hl
 have HRG1 : w1.rangeAt w.heap.size 0 p.cells := HRG.out _ hb1
 go_wp2_with (first | (guard_target = wpList _ _ _ (Oper.mk (some 12) _ _ _ _ _ :: _) _ _; refine wpList_load_mid rfl 40 (.tmp 1) rfl w.heap.size 0 rfl p.cells _ (HRG1) Tryz.underlying40 rfl HI ?_) | fail)
 refine C1.mono ?_
 clear C1 HRG1
 rintro e w2 ⟨ts, rfl, st, hv2, ho2, hb2⟩
 have B2 : Below W.heap.size W w2 := hb1.trans (hb2.mono hb1.size)
 have C2 := specEngineOk_any ts st w2 ho2.reads (EngA.short_of hv2.out hl)
 rw [hv2.out] at C2
 go_wp2_with fail
 refine C2.mono ?_
 clear hv2 ho2 hb2 C2
 rintro e w3 ⟨rfl, hb3⟩
 have B3 : Below W.heap.size W w3 := B2.trans (hb3.mono B2.size)
 clear B2 hb3 st
 have C3 := toEngine_any p sp w3 (HRD.out _ B3) hl
 have HRG3 : w3.rangeAt w.heap.size 0 p.cells := HRG.out _ B3
 go_wp2_with (first | (guard_target = wpList _ _ _ (Oper.mk (some 15) _ _ _ _ _ :: _) _ _; refine wpList_load_mid rfl 40 (.tmp 1) rfl w.heap.size 0 rfl p.cells _ (HRG3) Tryz.underlying40 rfl HI ?_) | fail)
 refine C3.mono ?_
 clear C3 HRG3
 rintro e w4 ⟨q, rfl, sq, hqm, hqo, hb4⟩
 have B4 : Below W.heap.size W w4 := B3.trans (hb4.mono B3.size)
 have hqS := EngA.short_of hqm.out hl
 obtain ⟨Zw2, hZw2, bZ, hbZ, hsZ⟩ := boxes1 w4 Z.cells 59
 obtain ⟨W6, hSw2, hwZ, hzZ, HTw2, b1⟩ := eng_out sq sZ bZ
 have hbw2 : Below w4.heap.size w4 W6 := hbZ.trans (hwZ.below (Nat.le_refl _) (by omega))
 have B6 : Below W.heap.size W W6 := B4.trans (hbw2.mono B4.size)
 have hqr : q.reads W6 := hqo.reads.below hbw2
 have HI6 := eng_info sq
 have HC := all_oneCell_toArray (oneE q)
 have HR6 : Hid (∀ w', Below W6.heap.size W6 w' → w'.rangeAt w4.heap.size 0 q.cells ∧ q.reads w') := fun w' hh => ⟨Box.range [] q.cells [] (by simpa using b1.below hh b1.lt), hqr.below hh⟩
 have HR60 : W6.rangeAt w4.heap.size 0 q.cells := (HR6.out _ (Below.refl _ _)).1
 have C4 := implEngineOk_any q sq W6 (HG.out _ B6) hqr hqS
 rw [hqm.out] at C4
 clear bZ hbZ hsZ hwZ hzZ b1 hqo
 go_wp2_with (first | (guard_target = wpList _ _ _ (Oper.mk (some 5) (Op.alloc _) _ _ _ _ :: _) _ _; refine alloc_eng ?_; rw [hZ.out]) | (guard_target = wpList _ _ _ (Oper.mk none (Op.store _ (Operand.tmp 5) _) _ _ _ _ :: _) _ _; refine wpList_store_mid rfl 59 (.tmp 5) (.tmp 16) rfl w4.heap.size 0 q.cells.toArray rfl rfl (by rw [hZw2.out]; exact HTw2.out) (by rw [List.size_toArray]; exact HI6) HC ?_) | (guard_target = wpList _ _ _ (Oper.mk (some 17) _ _ _ _ _ :: _) _ _; refine wpList_load_mid rfl 59 (.tmp 5) rfl w4.heap.size 0 rfl q.cells _ (by rw [hZw2.out, hSw2.out]; exact HR60) Tryz.underlying59 rfl HI6 ?_) | fail)
 rw [hZw2.out, hSw2.out]
 clear hZw2 hSw2 HTw2 HR60
 refine C4.mono ?_
 clear C4
 generalize okEng p.v = R at *
 rintro e w7 ⟨rfl, hb7⟩
 have B7 : Below W.heap.size W w7 := B6.trans (hb7.mono B6.size)
 have HQ : Hid (_) := hqm.out
 have hu1 := Tryz.underlying40
 have hu2 := Tryz.underlying59
 clear hqm hqr
 go_wp2_with fail
 refine wp_region_held_drew (S := fun w' => w'.rangeAt w.heap.size 0 p.cells ∧ w'.rangeAt w4.heap.size 0 q.cells) (by kernel_rfl) ?_ (fun hHeld => ?_)
 ·exact ⟨HRG.out _ B7.drew, (HR6.out _ hb7.drew).1⟩
 refine tk 0 rfl (yieldsIf_load_mid (by rfl) _ _ rfl _ _ rfl q.cells _ (fun _ h => h.2) hu2 rfl HI6) hHeld ?_
 refine tk 1 rfl (yieldsIf_load_mid (by rfl) _ _ rfl _ _ rfl p.cells _ (fun _ h => h.1) hu1 rfl HI) hHeld ?_
 refine wpAnyH_ready (rs := [2]) (by kernel_rfl) (by simp) ?_
 refine AllReadyH.cons rfl (fun K hK => ?_) AllReadyH.nil
 go_simp
 refine (toEngine_any p sp _ (HRD.out _ B7.drew) hl).mono ?_
 rintro e w8 ⟨vs, rfl, sv, hv8, ho8, hb8⟩
 have C8 : Below W.heap.size W w8 := (B7.drew).trans (hb8.mono B7.size)
 have D8 : Below W6.heap.size W6 w8 := (hb7.drew).trans (hb8.mono hb7.size)
 refine hK.out _ _ ⟨HRG.out _ C8, (HR6.out _ D8).1⟩ (fun hHeld => ?_)
 clear hK K
 refine wpAnyH_ready (rs := [3]) (by kernel_rfl) (by simp) ?_
 refine AllReadyH.cons rfl (fun K hK => ?_) AllReadyH.nil
 go_simp
 refine (eqEngine_same q vs sq sv (hv8.out.trans HQ.out.symm) w8 (HR6.out _ D8).2 ho8.reads (EngA.short_wide hqS)).mono ?_
 rintro e w9 ⟨rfl, hb9⟩
 have C9 : Below W.heap.size W w9 := C8.trans (hb9.mono C8.size)
 have D9 : Below W6.heap.size W6 w9 := D8.trans (hb9.mono D8.size)
 refine hK.out _ _ ⟨HRG.out _ C9, (HR6.out _ D9).1⟩ (fun hHeld => ?_)
 clear hK K
 refine tk 4 (v := .bool false) rfl (Or.inl ⟨by rfl, ?_⟩) hHeld ?_
 ·intro w' _; go_simp
 refine wpAnyH_done (by kernel_rfl) ?_ _
 have HE : Hid (Below w.heap.size w w9) := HEND.out _ C9
 go_wp2
 go_ret
 exact ⟨rfl, HE.out⟩
end Go.Proofs.YtoboickdkednkabGreatDoor
namespace Go.Proofs.YtoboickdkednkabGreatDoor
open Go.ChangeShapes Go.WideShapes Go.RowKit
theorem Tryz.et : Tryz.prog.globalNamed "errors.errorType" = some 0 := by kernel_rfl
theorem Tryz.rt : (Tryz.prog.cutTypes.find? (·.1 == "internal/reflectlite.rtype")).map (·.2) = some 289 := by kernel_rfl
theorem Tryz.oneRow : ((List.range 332).filter fun t => Tryz.prog.rowNamed t [101, 114, 114, 111, 114]) = [208] := by kernel_rfl
theorem Tryz.typesSize : Tryz.prog.types.size = 332 := by kernel_rfl
theorem errT_of_handles {W : World} {laid : List (String × DataW Unit)} (hm : ("errors.errorType", Rows.laid_errors_errorType) ∈ laid) (h : handlesMet Tryz.prog laid W) : ErrT W := by
 obtain ⟨name, u, ty, e1, e2, e3, e4, e5⟩ := h _ hm
 have en : name = [101, 114, 114, 111, 114] := (Option.some.inj e1).symm
 subst en
 obtain rfl := Option.some.inj (Tryz.rt.symm.trans e2)
 have hm : ty ∈ (List.range 332).filter fun t => Tryz.prog.rowNamed t [101, 114, 114, 111, 114] := List.mem_filter.2 ⟨List.mem_range.2 (by rw [← Tryz.typesSize]; exact e3), e4⟩
 rw [Tryz.oneRow] at hm
 obtain rfl := List.mem_singleton.1 hm
 have hh : typeHandle Tryz.prog 208 = .pointer (some ⟨1, 208, none⟩) := by kernel_rfl
 rw [hh] at e5
 unfold ErrT
 simpa using World.var?_cell Tryz.et e5 0
def laid1 : List (String × DataW Unit) := [("errors.errorType", Rows.laid_errors_errorType)]
theorem errT_of_laid1 {W : World} (h : laidMetH Tryz.prog laid1 W) : ErrT W := by
 have h' : laidMet Tryz.prog [] W ∧ handlesMet Tryz.prog laid1 W := h
 exact errT_of_handles (List.mem_singleton.2 rfl) h'.2
end Go.Proofs.YtoboickdkednkabGreatDoor