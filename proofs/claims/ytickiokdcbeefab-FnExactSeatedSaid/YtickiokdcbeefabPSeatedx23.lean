/- Several texts in one, in their order. -/
import Derived.Test.YtickiokdcbeefabPSeatedx22
import Derived.Deep.RegionHeld3
/- The walk of laws.FnExactSeated. -/
namespace Go.Proofs.Ytickiokdcbeefab
open Go.RowKit

set_option maxHeartbeats 2000000 in
set_option maxRecDepth 100000 in
theorem lawSeated_walk (p : PoolA) (n : Int) (w : World) (hin : InPool w p) :
    Calls Try.prog 3 #[.agg p.cells.toArray, .int .i64 n] w fun e w' => e = .returned (.bool true) ∧ Below w.heap.size w w' := by
  have hsm : p.short 9223372036854775807 := hin.short
  have hrd : p.reads w := hin.reads
  obtain ⟨W, hW, b0, hbW, hsW⟩ := boxes1 w p.cells 24
  have HRG : Hid (∀ w', Below W.heap.size W w' → w'.rangeAt w.heap.size 0 p.cells) := fun w' hh => Box.range [] p.cells [] (by simpa using b0.below hh b0.lt)
  have HI : Hid ((Try.prog.info? 24).map (·.size) = some p.cells.length) := by rw [Hid]; kernel_rfl
  go_enter Try.func3, Try.ntmps3
  go_wp2_with (first | (guard_target = wpList _ _ _ (Oper.mk (some 9) _ _ _ _ _ :: _) _ _; refine wpList_load_mid rfl 24 (.tmp 2) rfl w.heap.size 0 rfl p.cells _ (by rw [hW.out]; exact HRG.out _ (Below.refl _ _)) Try.underlying24 rfl HI.out ?_) | fail)
  rw [hW.out]
  clear hW hsW
  refine (szPool_any p 1048576 W (hrd.below hbW) hsm (by omega)).mono ?_
  rintro e w1 ⟨z, rfl, hz, hb1⟩
  rcases hz with hneg | ⟨hz0, _, hl⟩
  · go_wp2
    go_ret
    exact ⟨rfl, hbW.trans (hb1.mono hbW.size)⟩
  have hzn : ¬ z < 0 := by omega
  have hr1 := hrd.below (hbW.trans (hb1.mono hbW.size))
  go_wp2_with (first | (guard_target = wpList _ _ _ (Oper.mk (some 14) _ _ _ _ _ :: _) _ _; refine wpList_load_mid rfl 24 (.tmp 2) rfl w.heap.size 0 rfl p.cells _ (HRG.out _ hb1) Try.underlying24 rfl HI.out ?_) | fail)
  refine (toPool_any p w1 hr1 hl).mono ?_
  rintro e w2 ⟨ts, rfl, hv2, ho2, hb2⟩
  have B2 : Below W.heap.size W w2 := hb1.trans (hb2.mono hb1.size)
  go_wp2_with fail
  refine (specSeatedP_any ts n w2 ho2.reads (PoolA.short_wide (PoolA.short_of hv2.out hl))).mono ?_
  simp only [hv2.out]
  clear hv2 ho2 hb2
  rintro e w3 ⟨rfl, hb3⟩
  have B3 : Below W.heap.size W w3 := B2.trans (hb3.mono B2.size)
  clear B2 hb3
  have hr3 := hrd.below (hbW.trans (B3.mono hbW.size))
  go_wp2_with (first | (guard_target = wpList _ _ _ (Oper.mk (some 18) _ _ _ _ _ :: _) _ _; refine wpList_load_mid rfl 24 (.tmp 2) rfl w.heap.size 0 rfl p.cells _ (HRG.out _ B3) Try.underlying24 rfl HI.out ?_) | fail)
  refine (toPool_any p w3 hr3 hl).mono ?_
  rintro e w4 ⟨q, rfl, hqm, hqo, hb4⟩
  have B4 : Below W.heap.size W w4 := B3.trans (hb4.mono B3.size)
  have hqS := PoolA.short_of hqm.out hl
  obtain ⟨W5, hW5, b5, hbW5, hsW5⟩ := boxes1 w4 [.slice none 0 0, .int .i64 0] 29
  have b5' : Box W5 w4.heap.size ([] ++ (zeroPool.cells ++ [])) 29 := b5
  clear b5
  obtain ⟨W6, hW6, b6, hw6, hs6⟩ := range_fill [] zeroPool.cells q.cells [] b5' (by rfl)
  have HI6 : Hid ((Try.prog.info? 29).map (·.size) = some q.cells.length) := by rw [Hid]; kernel_rfl
  have HT6 : Hid (W5.there w4.heap.size 0 q.cells.toArray.size) := b5'.there 0 _ (by rw [List.size_toArray]; show 0 + 2 ≤ 2; decide)
  have B6 : Below W.heap.size W W6 := by
    have h1 := hb1.size
    have h4 := B4.size
    exact (B4.trans (hbW5.mono B4.size)).trans (hw6.below (by omega) (by omega))
  have hs4 := hbW5.size
  have hqo6 : q.own W6 w3.heap.size w4.heap.size := (hqo.below hbW5).within hw6 (.inl (Nat.le_refl _))
  have HR6 : Hid (∀ w', Below W6.heap.size W6 w' → w'.rangeAt w4.heap.size 0 q.cells) := fun w' hh => Box.range [] q.cells [] (by simpa using b6.below hh b6.lt)
  have HS : Hid (W5.setCells w4.heap.size 0 q.cells = W6) := hW6.out
  have HO : Hid (_) := all_oneCell_toArray (onePool q)
  clear hW6 b6 hw6 hs6 b5' hqo hsW5 hbW5
  go_wp2_with (first | (guard_target = wpList _ _ _ (Oper.mk none (Op.store _ (Operand.tmp 7) _) _ _ _ _ :: _) _ _; refine wpList_store_mid rfl 29 (.tmp 7) (.tmp 19) rfl w4.heap.size 0 q.cells.toArray rfl rfl (by rw [hW5.out]; exact HT6.out) (by rw [List.size_toArray]; exact HI6.out) HO.out ?_) | (guard_target = wpList _ _ _ (Oper.mk (some 20) _ _ _ _ _ :: _) _ _; refine wpList_load_mid rfl 29 (.tmp 7) rfl w4.heap.size 0 rfl q.cells _ (by rw [hW5.out, HS.out]; exact HR6.out _ (Below.refl _ _)) Try.underlying29 rfl HI6.out ?_) | fail)
  rw [hW5.out, HS.out]
  refine (implSeated_any q n W6 hqo6.reads (PoolA.short_wide hqS)).mono ?_
  rw [hqm.out]
  generalize seatedOf p.v.seats n = R at *
  rintro e w7 ⟨rfl, hb7⟩
  have B7 : Below W.heap.size W w7 := B6.trans (hb7.mono B6.size)
  have hr7 := hrd.below (hbW.trans (B7.mono hbW.size))
  have HQ : Hid (_) := hqm.out
  have HD : Hid (_ ∧ _ ∧ _) := ⟨hr7, (hqo6.below hb7).reads, hl⟩
  have hu1 := Try.underlying24
  have hu2 := Try.underlying29
  have hi1 := HI.out
  have hi2 := HI6.out
  have ho1 := onePool p
  have ho2' := onePool q
  have hh : w7.rangeAt w.heap.size 0 p.cells ∧ w7.rangeAt w4.heap.size 0 q.cells := ⟨HRG.out _ B7, HR6.out _ hb7⟩
  clear hqm hr7 hqo6 hin hsm hrd HT6 HO HS hW5 hs4 hl
  go_wp2_with fail
  refine wp_region_held_drew (S := fun w' => w'.rangeAt w.heap.size 0 p.cells ∧ w'.rangeAt w4.heap.size 0 q.cells) (by kernel_rfl) ?_ (fun hHeld => ?_)
  · exact ⟨HRG.out _ B7.drew, HR6.out _ hb7.drew⟩
  refine wpAnyH_take (i := 0) rfl (by kernel_rfl) (by kernel_rfl) (by kernel_rfl) (fun _ _ _ h => h) (yieldsIf_load_mid (by rfl) _ _ rfl _ _ rfl q.cells _ (fun _ h => h.2) hu2 rfl hi2) hHeld ?_
  refine wpAnyH_take (i := 1) rfl (by kernel_rfl) (by kernel_rfl) (by kernel_rfl) (fun _ _ _ h => h) (yieldsIf_load_mid (by rfl) _ _ rfl _ _ rfl p.cells _ (fun _ h => h.1) hu1 rfl hi1) hHeld ?_
  refine wpAnyH_ready (rs := [2]) (by kernel_rfl) (by simp) ?_
  refine AllReadyH.cons rfl (fun K hK => ?_) AllReadyH.nil
  go_simp
  refine (toPool_any p _ (HD.out.1.below (Below.refl _ _).drew) HD.out.2.2).mono ?_
  rintro e w8 ⟨vs, rfl, hv8, ho8, hb8⟩
  have C8 : Below W.heap.size W w8 := (B7.drew).trans (hb8.mono B7.size)
  have D8 : Below W6.heap.size W6 w8 := (hb7.drew).trans (hb8.mono hb7.size)
  have E8 : Below w7.heap.size w7 w8 := ((Below.refl _ _).drew).trans hb8
  refine hK.out _ _ ⟨HRG.out _ C8, HR6.out _ D8⟩ (fun hHeld => ?_)
  clear hK K
  refine wpAnyH_ready (rs := [3]) (by kernel_rfl) (by simp) ?_
  refine AllReadyH.cons rfl (fun K hK => ?_) AllReadyH.nil
  go_simp
  refine (eqPool_same q vs (hv8.out.trans HQ.out.symm) w8 (HD.out.2.1.below E8) ho8.reads (PoolA.short_wide hqS)).mono ?_
  rintro e w9 ⟨rfl, hb9⟩
  have C9 : Below W.heap.size W w9 := C8.trans (hb9.mono C8.size)
  have D9 : Below W6.heap.size W6 w9 := D8.trans (hb9.mono D8.size)
  refine hK.out _ _ ⟨HRG.out _ C9, HR6.out _ D9⟩ (fun hHeld => ?_)
  clear hK K
  refine wpAnyH_take (i := 4) (v := .bool false) rfl (by kernel_rfl) (by kernel_rfl) (by kernel_rfl) (fun _ _ _ h => h) (Or.inl ⟨by rfl, ?_⟩) hHeld ?_
  · intro w' _; go_simp
  refine wpAnyH_done (by kernel_rfl) ?_ _
  go_wp2
  go_ret
  exact ⟨rfl, hbW.trans (C9.mono hbW.size)⟩
end Go.Proofs.Ytickiokdcbeefab
