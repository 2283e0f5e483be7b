/- Several texts in one, in their order. -/
import Derived.Test.YtbpdocjkhmiimaaDoorPLogOkx33
import Derived.Test.YtbpdocjkhmiimaaDoorPLogOkx34
import Derived.Deep.RegionHeld3
import Derived.Test.YtbpdocjkhmiimaaDoorRows
import Derived.Test.YtbpdocjkhmiimaaDoorPLogOkx26
import Derived.LaidLaws
import Derived.LaidHandle
import Derived.Stop.Joined
import Derived.ChangeVars
/- The walk of laws.FnExactLogOk. -/
namespace Go.Proofs.YtbpdocjkhmiimaaDoor
open Go.RowKit

set_option maxHeartbeats 2000000 in
set_option maxRecDepth 100000 in
theorem lawLogOk_walk (p : LogA) (w : World) (hg : ErrT w) (hin : InLog w p) :
    Calls Tryd.prog 3 #[.agg p.cells.toArray] w fun e w' => e = .returned (.bool true) ∧ Below w.heap.size w w' := by
  have hsm : p.short 9223372036854775807 := hin.short
  have hrd : p.reads w := hin.reads
  obtain ⟨W, hW, b0, hbW, hsW⟩ := boxes1 w p.cells 24
  have HRG : Hid (∀ w', Below W.heap.size W w' → w'.rangeAt w.heap.size 0 p.cells) := fun w' hh => Box.range [] p.cells [] (by simpa using b0.below hh b0.lt)
  have HI : Hid ((Tryd.prog.info? 24).map (·.size) = some p.cells.length) := by rw [Hid]; kernel_rfl
  go_enter Tryd.func3, Tryd.ntmps3
  go_wp2_with (first | (guard_target = wpList _ _ _ (Oper.mk (some 7) _ _ _ _ _ :: _) _ _; refine wpList_load_mid rfl 24 (.tmp 1) rfl w.heap.size 0 rfl p.cells _ (by rw [hW.out]; exact HRG.out _ (Below.refl _ _)) Tryd.underlying24 rfl HI.out ?_) | fail)
  rw [hW.out]
  clear hW hsW
  refine (szLog_any p 1048576 W (hrd.below hbW) hsm (by omega)).mono ?_
  rintro e w1 ⟨z, rfl, hz, hb1⟩
  rcases hz with hneg | ⟨hz0, _, hl⟩
  · go_wp2
    go_ret
    exact ⟨rfl, hbW.trans (hb1.mono hbW.size)⟩
  have hzn : ¬ z < 0 := by omega
  have hr1 := hrd.below (hbW.trans (hb1.mono hbW.size))
  go_wp2_with (first | (guard_target = wpList _ _ _ (Oper.mk (some 12) _ _ _ _ _ :: _) _ _; refine wpList_load_mid rfl 24 (.tmp 1) rfl w.heap.size 0 rfl p.cells _ (HRG.out _ hb1) Tryd.underlying24 rfl HI.out ?_) | fail)
  refine (toLog_any p w1 hr1 hl).mono ?_
  rintro e w2 ⟨ts, rfl, hv2, ho2, hb2⟩
  have B2 : Below W.heap.size W w2 := hb1.trans (hb2.mono hb1.size)
  go_wp2_with fail
  refine (specLogOk_any ts w2 ho2.reads (LogA.short_wide (LogA.short_of hv2.out hl))).mono ?_
  simp only [hv2.out]
  clear hv2 ho2 hb2
  rintro e w3 ⟨rfl, hb3⟩
  have B3 : Below W.heap.size W w3 := B2.trans (hb3.mono B2.size)
  clear B2 hb3
  have hr3 := hrd.below (hbW.trans (B3.mono hbW.size))
  go_wp2_with (first | (guard_target = wpList _ _ _ (Oper.mk (some 15) _ _ _ _ _ :: _) _ _; refine wpList_load_mid rfl 24 (.tmp 1) rfl w.heap.size 0 rfl p.cells _ (HRG.out _ B3) Tryd.underlying24 rfl HI.out ?_) | fail)
  refine (toLog_any p w3 hr3 hl).mono ?_
  rintro e w4 ⟨q, rfl, hqm, hqo, hb4⟩
  have B4 : Below W.heap.size W w4 := B3.trans (hb4.mono B3.size)
  have hqS := LogA.short_of hqm.out hl
  obtain ⟨W5, hW5, b5, hbW5, hsW5⟩ := boxes1 w4 [.slice none 0 0, .int .i64 0] 29
  have b5' : Box W5 w4.heap.size ([] ++ (zeroLog.cells ++ [])) 29 := b5
  clear b5
  obtain ⟨W6, hW6, b6, hw6, hs6⟩ := range_fill [] zeroLog.cells q.cells [] b5' (by rfl)
  have HI6 : Hid ((Tryd.prog.info? 29).map (·.size) = some q.cells.length) := by rw [Hid]; kernel_rfl
  have HT6 : Hid (W5.there w4.heap.size 0 q.cells.toArray.size) := b5'.there 0 _ (by rw [List.size_toArray]; show 0 + 2 ≤ 2; decide)
  have B6 : Below W.heap.size W W6 := by
    have h1 := hb1.size
    have h4 := B4.size
    exact (B4.trans (hbW5.mono B4.size)).trans (hw6.below (by omega) (by omega))
  have hs4 := hbW5.size
  have hqo6 : q.own W6 w3.heap.size w4.heap.size := (hqo.below hbW5).within hw6 (.inl (Nat.le_refl _))
  have HR6 : Hid (∀ w', Below W6.heap.size W6 w' → w'.rangeAt w4.heap.size 0 q.cells) := fun w' hh => Box.range [] q.cells [] (by simpa using b6.below hh b6.lt)
  have HS : Hid (W5.setCells w4.heap.size 0 q.cells = W6) := hW6.out
  have HO : Hid (_) := all_oneCell_toArray (oneLog q)
  clear hW6 b6 hw6 hs6 b5' hqo hsW5 hbW5
  go_wp2_with (first | (guard_target = wpList _ _ _ (Oper.mk none (Op.store _ (Operand.tmp 5) _) _ _ _ _ :: _) _ _; refine wpList_store_mid rfl 29 (.tmp 5) (.tmp 16) rfl w4.heap.size 0 q.cells.toArray rfl rfl (by rw [hW5.out]; exact HT6.out) (by rw [List.size_toArray]; exact HI6.out) HO.out ?_) | (guard_target = wpList _ _ _ (Oper.mk (some 17) _ _ _ _ _ :: _) _ _; refine wpList_load_mid rfl 29 (.tmp 5) rfl w4.heap.size 0 rfl q.cells _ (by rw [hW5.out, HS.out]; exact HR6.out _ (Below.refl _ _)) Tryd.underlying29 rfl HI6.out ?_) | fail)
  rw [hW5.out, HS.out]
  refine (implLogOk_any q W6 (hg.keep (hbW.trans (B6.mono hbW.size))) hqo6.reads (LogA.short_wide hqS)).mono ?_
  rw [hqm.out]
  generalize okLog p.v = R at *
  rintro e w7 ⟨rfl, hb7⟩
  have B7 : Below W.heap.size W w7 := B6.trans (hb7.mono B6.size)
  have hr7 := hrd.below (hbW.trans (B7.mono hbW.size))
  have HQ : Hid (_) := hqm.out
  have HD : Hid (_ ∧ _ ∧ _) := ⟨hr7, (hqo6.below hb7).reads, hl⟩
  have hu1 := Tryd.underlying24
  have hu2 := Tryd.underlying29
  have hi1 := HI.out
  have hi2 := HI6.out
  have ho1 := oneLog p
  have ho2' := oneLog q
  have hh : w7.rangeAt w.heap.size 0 p.cells ∧ w7.rangeAt w4.heap.size 0 q.cells := ⟨HRG.out _ B7, HR6.out _ hb7⟩
  clear hqm hr7 hqo6 hin hsm hrd HT6 HO HS hW5 hs4 hl
  go_wp2_with fail
  refine wp_region_held_drew (S := fun w' => w'.rangeAt w.heap.size 0 p.cells ∧ w'.rangeAt w4.heap.size 0 q.cells) (by kernel_rfl) ?_ (fun hHeld => ?_)
  · exact ⟨HRG.out _ B7.drew, HR6.out _ hb7.drew⟩
  refine wpAnyH_take (i := 0) rfl (by kernel_rfl) (by kernel_rfl) (by kernel_rfl) (fun _ _ _ h => h) (yieldsIf_load_mid (by rfl) _ _ rfl _ _ rfl q.cells _ (fun _ h => h.2) hu2 rfl hi2) hHeld ?_
  refine wpAnyH_take (i := 1) rfl (by kernel_rfl) (by kernel_rfl) (by kernel_rfl) (fun _ _ _ h => h) (yieldsIf_load_mid (by rfl) _ _ rfl _ _ rfl p.cells _ (fun _ h => h.1) hu1 rfl hi1) hHeld ?_
  refine wpAnyH_ready (rs := [2]) (by kernel_rfl) (by simp) ?_
  refine AllReadyH.cons rfl (fun K hK => ?_) AllReadyH.nil
  go_simp
  refine (toLog_any p _ (HD.out.1.below (Below.refl _ _).drew) HD.out.2.2).mono ?_
  rintro e w8 ⟨vs, rfl, hv8, ho8, hb8⟩
  have C8 : Below W.heap.size W w8 := (B7.drew).trans (hb8.mono B7.size)
  have D8 : Below W6.heap.size W6 w8 := (hb7.drew).trans (hb8.mono hb7.size)
  have E8 : Below w7.heap.size w7 w8 := ((Below.refl _ _).drew).trans hb8
  refine hK.out _ _ ⟨HRG.out _ C8, HR6.out _ D8⟩ (fun hHeld => ?_)
  clear hK K
  refine wpAnyH_ready (rs := [3]) (by kernel_rfl) (by simp) ?_
  refine AllReadyH.cons rfl (fun K hK => ?_) AllReadyH.nil
  go_simp
  refine (eqLog_same q vs (hv8.out.trans HQ.out.symm) w8 (HD.out.2.1.below E8) ho8.reads (LogA.short_wide hqS)).mono ?_
  rintro e w9 ⟨rfl, hb9⟩
  have C9 : Below W.heap.size W w9 := C8.trans (hb9.mono C8.size)
  have D9 : Below W6.heap.size W6 w9 := D8.trans (hb9.mono D8.size)
  refine hK.out _ _ ⟨HRG.out _ C9, HR6.out _ D9⟩ (fun hHeld => ?_)
  clear hK K
  refine wpAnyH_take (i := 4) (v := .bool false) rfl (by kernel_rfl) (by kernel_rfl) (by kernel_rfl) (fun _ _ _ h => h) (Or.inl ⟨by rfl, ?_⟩) hHeld ?_
  · intro w' _; go_simp
  refine wpAnyH_done (by kernel_rfl) ?_ _
  go_wp2
  go_ret
  exact ⟨rfl, hbW.trans (C9.mono hbW.size)⟩
end Go.Proofs.YtbpdocjkhmiimaaDoor

/- What the row's condition on errors.errorType gives a walk; a world that meets it. -/
namespace Go.Proofs.YtbpdocjkhmiimaaDoor
open Go.ChangeShapes Go.WideShapes Go.RowKit

theorem Tryd.et : Tryd.prog.globalNamed "errors.errorType" = some 0 := by kernel_rfl
theorem Tryd.rt : (Tryd.prog.cutTypes.find? (·.1 == "internal/reflectlite.rtype")).map (·.2) = some 122 := by kernel_rfl
theorem Tryd.oneRow : ((List.range 164).filter fun t => Tryd.prog.rowNamed t [101, 114, 114, 111, 114]) = [101] := by kernel_rfl
theorem Tryd.typesSize : Tryd.prog.types.size = 164 := by kernel_rfl

theorem errT_of_handles {W : World} {laid : List (String × DataW Unit)} (hm : ("errors.errorType", Rows.laid_errors_errorType) ∈ laid) (h : handlesMet Tryd.prog laid W) : ErrT W := by
  obtain ⟨name, u, ty, e1, e2, e3, e4, e5⟩ := h _ hm
  have en : name = [101, 114, 114, 111, 114] := (Option.some.inj e1).symm
  subst en
  obtain rfl := Option.some.inj (Tryd.rt.symm.trans e2)
  have hm : ty ∈ (List.range 164).filter fun t => Tryd.prog.rowNamed t [101, 114, 114, 111, 114] := List.mem_filter.2 ⟨List.mem_range.2 (by rw [← Tryd.typesSize]; exact e3), e4⟩
  rw [Tryd.oneRow] at hm
  obtain rfl := List.mem_singleton.1 hm
  have hh : typeHandle Tryd.prog 101 = .pointer (some ⟨1, 101, none⟩) := by kernel_rfl
  rw [hh] at e5
  unfold ErrT
  simpa using World.var?_cell Tryd.et e5 0

/-- The one listed variable. -/
def laid1 : List (String × DataW Unit) := [("errors.errorType", Rows.laid_errors_errorType)]
theorem errT_of_laid1 {W : World} (h : laidMetH Tryd.prog laid1 W) : ErrT W := by
  have h' : laidMet Tryd.prog [] W ∧ handlesMet Tryd.prog laid1 W := h
  exact errT_of_handles (List.mem_singleton.2 rfl) h'.2
end Go.Proofs.YtbpdocjkhmiimaaDoor
