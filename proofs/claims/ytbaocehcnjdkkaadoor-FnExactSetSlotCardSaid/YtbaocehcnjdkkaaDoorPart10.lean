/- Several texts in one, in their order. -/
import Derived.Test.YtbaocehcnjdkkaaDoorPart8
import Derived.Test.YtbaocehcnjdkkaaDoorPart9
import Derived.Test.YtbaocehcnjdkkaaDoorPart7
import Derived.Deep.RegionHeld3
import Derived.Deep.CutRange
import Derived.Test.YtbaocehcnjdkkaaDoorRows
import Derived.LaidLaws
import Derived.LaidHandle
import Derived.Stop.Joined
import Derived.ChangeVars
/- The walk of laws.FnExactSetSlot. -/
namespace Go.Proofs.YtbaocehcnjdkkaaDoor
open Go.RowKit

theorem cellsS_len4 (s : SlotA) : s.cells.length = 4 := rfl
theorem oneSl (s : SlotA) : ∀ v ∈ s.cells, v.oneCell' = true := by
  intro v hv
  simp only [SlotA.cells, List.mem_cons, List.not_mem_nil, or_false] at hv
  rcases hv with rfl | rfl | rfl | rfl <;> rfl

theorem boxes1_drew (w : World) (v0 : List Value) (t0 : TypeId) : ∃ W, Hid ((w.alloc (.cells v0.toArray t0)).drew = W) ∧ Box W w.heap.size v0 t0 ∧ Below w.heap.size w.drew W ∧ W.heap.size = w.heap.size + 1 :=
  ⟨_, rfl, box_new w _ _, (show Below w.drew.heap.size w.drew (w.drew.alloc _) from (Below.refl _ _).alloc (Nat.le_refl _) _), by simp [World.drew]⟩
theorem fit_same {s t : SlotA} (h : t.v = s.v) (hs : Fit [s]) : Fit [t] := fun x hx => by
  obtain rfl := List.mem_singleton.1 hx
  rw [h]
  exact hs s (List.mem_singleton.2 rfl)

set_option maxHeartbeats 8000000 in
set_option maxRecDepth 100000 in
theorem lawSetSlot_walk (p : PageA) (h4 : p.ss.length = 4) (slot : Int) (s : SlotA) (lsn : Int) (w : World) (hg : ErrT w) (hin : ∀ s ∈ p.ss, InSlot w s) (his : InSlot w s) :
    Calls Tryd.prog 7 #[.agg p.cells.toArray, .int .i64 slot, .agg s.cells.toArray, .int .i64 lsn] w fun e w' => e = .returned (.bool true) ∧ Below w.heap.size w w' := by
  have hsm : Small p.ss := fun s hs => by have h1 := (hin s hs).lI; have h2 := (hin s hs).lR; simp only [maxLen] at h1 h2; omega
  have hss : Small [s] := fun t ht => by obtain rfl := List.mem_singleton.1 ht; have h1 := his.lI; have h2 := his.lR; simp only [maxLen] at h1 h2; omega
  have hrd : ReadsS w p.ss := fun s hs => (hin s hs).reads
  have hrs : s.reads w := his.reads
  obtain ⟨W, hW, b0, b1, hbW, hsW⟩ := boxes2 w p.cells s.cells 47 44
  have HRG : Hid (∀ w', Below W.heap.size W w' → w'.rangeAt w.heap.size 0 p.cells) := fun w' hh => Box.range [] p.cells [] (by simpa using b0.below hh b0.lt)
  have HRS : Hid (∀ w', Below W.heap.size W w' → w'.rangeAt (w.heap.size + 1) 0 s.cells) := fun w' hh => Box.range [] s.cells [] (by simpa using b1.below hh b1.lt)
  have HI : Hid ((Tryd.prog.info? 47).map (·.size) = some p.cells.length) := by rw [Hid, page_len p h4]; kernel_rfl
  have HJ : Hid ((Tryd.prog.info? 44).map (·.size) = some s.cells.length) := by rw [Hid, cellsS_len4]; kernel_rfl
  have hRd : ∀ w', Below W.heap.size W w' → ReadsS w' p.ss := fun w' hh => hrd.below (hbW.trans (hh.mono hbW.size))
  have hRs : ∀ w', Below W.heap.size W w' → s.reads w' := fun w' hh => ReadsO.below hrs (hbW.trans (hh.mono hbW.size))
  have hgB : ∀ w', Below W.heap.size W w' → ErrT w' := fun w' hh => hg.keep (hbW.trans (hh.mono hbW.size))
  have hwW : w.heap.size + 1 < W.heap.size := by omega
  clear b0 b1 hsW hrs hrd hin his
  go_enter Tryd.func7, Tryd.ntmps7
  go_wp2_with (first | (guard_target = wpList _ _ _ (Oper.mk (some 21) _ _ _ _ _ :: _) _ _; refine wpList_load_mid rfl 47 (.tmp 4) rfl w.heap.size 0 rfl p.cells _ (by rw [hW.out]; exact HRG.out _ (Below.refl _ _)) Tryd.underlying47 rfl HI.out ?_) | fail)
  rw [hW.out]
  clear hW
  refine (szPage_any p h4 1048576 W hsm (by omega)).mono ?_
  rintro e w1 ⟨z, rfl, hz, hb1⟩
  rcases hz with hneg | ⟨hz0, hzl, hl⟩
  · go_wp2
    go_ret
    exact ⟨rfl, hbW.trans (hb1.mono hbW.size)⟩
  have hzn : ¬ z < 0 := by omega
  go_wp2_with (first | (guard_target = wpList _ _ _ (Oper.mk (some 26) _ _ _ _ _ :: _) _ _; refine wpList_load_mid rfl 44 (.tmp 6) rfl (w.heap.size + 1) 0 rfl s.cells _ (HRS.out _ hb1) Tryd.underlying44 rfl HJ.out ?_) | fail)
  refine (szSlot_any s z w1 hss (by omega)).mono ?_
  rintro e w2 ⟨z2, rfl, hz2, hb2⟩
  have B2 : Below W.heap.size W w2 := hb1.trans (hb2.mono hb1.size)
  rcases hz2 with hneg | ⟨hz20, _, hls⟩
  · go_wp2
    go_ret
    exact ⟨rfl, hbW.trans (B2.mono hbW.size)⟩
  have hzn2 : ¬ z2 < 0 := by omega
  have hsl := hls s (List.mem_singleton.2 rfl)
  have hfs : Fit [s] := wide_of hls
  have hfp : Fit p.ss := wide_of hl
  clear hb2 hls hsm hss
  have hu1 := Tryd.underlying47
  have hu2 := Tryd.underlying44
  obtain ⟨hfs1, hfs2⟩ := hfs s (List.mem_singleton.2 rfl)
  have HSL : Hid ((setOf p.lsn (p.ss.map (·.v)) slot s.v lsn).2.length = 4) := by
    unfold Hid setOf
    split
    · simp only [List.length_set, List.length_map]; exact h4
    · simp only [List.length_map]; exact h4
  go_upto_region 8 with fail
  go_cut [10, 11] from 21 (fun a b wx => ∃ (Bx : Nat) (aw : List SlotA), a = .pointer (some ⟨Bx, 0, none⟩) ∧ b = .bool (setOk p.lsn (p.ss.map (·.v)) slot s.v lsn) ∧ Hid (aw.map (·.v) = (setOf p.lsn (p.ss.map (·.v)) slot s.v lsn).2) ∧ Box wx Bx (PageA.cells ⟨(setOf p.lsn (p.ss.map (·.v)) slot s.v lsn).1, aw⟩) 31 ∧ OwnS wx w2.heap.size wx.heap.size aw ∧ Below w2.heap.size w2 wx)
  case first =>
    refine wp_region_held_drew (S := fun w' => w'.rangeAt w.heap.size 0 p.cells ∧ w'.rangeAt (w.heap.size + 1) 0 s.cells) (by kernel_rfl) ?_ (fun hHeld => ?_)
    · exact ⟨HRG.out _ B2.drew, HRS.out _ B2.drew⟩
    refine wpAnyH_take (i := 0) rfl (by kernel_rfl) (by kernel_rfl) (by kernel_rfl) (fun _ _ _ h => h) (yieldsIf_load_mid (by rfl) _ _ rfl _ _ rfl p.cells _ (fun _ h => h.1) hu1 rfl HI.out) hHeld ?_
    go_simp
    refine wpAnyH_take (i := 3) rfl (by kernel_rfl) (by kernel_rfl) (by kernel_rfl) (fun _ _ _ h => h) (yieldsIf_load_mid (by rfl) _ _ rfl _ _ rfl s.cells _ (fun _ h => h.2) hu2 rfl HJ.out) hHeld ?_
    go_simp
    refine wpAnyH_take (i := 2) (v := .int .i64 slot) rfl (by kernel_rfl) (by kernel_rfl) (by kernel_rfl) (fun _ _ _ h => h) (Or.inl ⟨by rfl, fun w' _ => ?_⟩) hHeld ?_
    · go_simp
    go_simp
    refine wpAnyH_take (i := 5) (v := .int .i64 lsn) rfl (by kernel_rfl) (by kernel_rfl) (by kernel_rfl) (fun _ _ _ h => h) (Or.inl ⟨by rfl, fun w' _ => ?_⟩) hHeld ?_
    · go_simp
    go_simp
    have D0 : Below w2.heap.size w2 w2.drew := (Below.refl _ _).drew
    refine wpAnyH_ready (rs := [1, 10]) (by kernel_rfl) (by simp) ?_
    refine AllReadyH.cons rfl (fun K hK => ?_) (AllReadyH.cons rfl (fun K hK => ?_) AllReadyH.nil)
    · go_simp
      refine (toPage_own p h4 _ (hRd _ (B2.trans (D0.mono B2.size))) hfp).mono ?_
      rintro e wa ⟨ts, rfl, hvt, hot, hba⟩
      have D1 : Below w2.heap.size w2 wa := D0.trans (hba.mono D0.size)
      refine hK.out _ _ ⟨HRG.out _ (B2.trans (D1.mono B2.size)), HRS.out _ (B2.trans (D1.mono B2.size))⟩ (fun hHeld => ?_)
      clear hK K
      refine wpAnyH_ready (rs := [4, 10]) (by kernel_rfl) (by simp) ?_
      refine AllReadyH.cons rfl (fun K hK => ?_) (AllReadyH.cons rfl (fun K hK => ?_) AllReadyH.nil)
      · go_simp
        refine (toSlot_own s _ (hRs _ (B2.trans (D1.mono B2.size))) hfs1 hfs2).mono ?_
        rintro e wb ⟨u, rfl, hvu, hou, hbb⟩
        have D2 : Below w2.heap.size w2 wb := D1.trans (hbb.mono D1.size)
        have hot := hot.below hbb
        refine hK.out _ _ ⟨HRG.out _ (B2.trans (D2.mono B2.size)), HRS.out _ (B2.trans (D2.mono B2.size))⟩ (fun hHeld => ?_)
        clear hK K
        refine wpAnyH_ready (rs := [6, 10]) (by kernel_rfl) (by simp) ?_
        refine AllReadyH.cons rfl (fun K hK => ?_) (AllReadyH.cons rfl (fun K hK => ?_) AllReadyH.nil)
        · go_simp
          refine (specSetSlot_any ⟨p.lsn, ts⟩ (map_len4 hvt.out h4) slot u lsn _ hot.reads (wide_of (small_of hvt.out hl)) hou.reads (fit_same hvu.out hfs)).mono ?_
          simp only [hvt.out, hvu.out]
          rintro e wc5 ⟨aw, rfl, hva, hoa, hbc⟩
          have D3 : Below w2.heap.size w2 wc5 := D2.trans (hbc.mono D2.size)
          refine hK.out _ _ ⟨HRG.out _ (B2.trans (D3.mono B2.size)), HRS.out _ (B2.trans (D3.mono B2.size))⟩ (fun hHeld => ?_)
          clear hK K
          refine wpAnyH_take (i := 7) (v := .tuple #[.agg (PageA.cells ⟨(setOf p.lsn (p.ss.map (·.v)) slot s.v lsn).1, aw⟩).toArray, .bool (setOk p.lsn (p.ss.map (·.v)) slot s.v lsn)]) rfl (by kernel_rfl) (by kernel_rfl) (by kernel_rfl) (fun _ _ _ h => h) (Or.inl ⟨by rfl, fun w' _ => ?_⟩) hHeld ?_
          · go_simp
          go_simp
          refine wpAnyH_take (i := 8) (v := .agg (PageA.cells ⟨(setOf p.lsn (p.ss.map (·.v)) slot s.v lsn).1, aw⟩).toArray) rfl (by kernel_rfl) (by kernel_rfl) (by kernel_rfl) (fun _ _ _ h => h) (Or.inl ⟨by rfl, fun w' _ => ?_⟩) hHeld ?_
          · go_simp
          go_simp
          refine wpAnyH_take (i := 9) (v := .bool (setOk p.lsn (p.ss.map (·.v)) slot s.v lsn)) rfl (by kernel_rfl) (by kernel_rfl) (by kernel_rfl) (fun _ _ _ h => h) (Or.inl ⟨by rfl, fun w' _ => ?_⟩) hHeld ?_
          · go_simp
          go_simp
          refine wpAnyH_ready (rs := [10]) (by kernel_rfl) (by simp) ?_
          refine AllReadyH.cons rfl (fun K hK => ?_) AllReadyH.nil
          go_simp
          obtain ⟨WA, hWA, bA, hbA, hsA⟩ := boxes1 wc5 [.int .i64 0, .bool false, .int .i64 0, .slice none 0 0, .slice none 0 0, .bool false, .int .i64 0, .slice none 0 0, .slice none 0 0, .bool false, .int .i64 0, .slice none 0 0, .slice none 0 0, .bool false, .int .i64 0, .slice none 0 0, .slice none 0 0] 31
          rw [hWA.out]
          have hbA' : Below wc5.heap.size wc5 WA := hbA
          have DA : Below w2.heap.size w2 WA := D3.trans (hbA'.mono D3.size)
          refine hK.out _ _ ⟨HRG.out _ (B2.trans (DA.mono B2.size)), HRS.out _ (B2.trans (DA.mono B2.size))⟩ (fun hHeld => ?_)
          clear hK K hWA
          have hoa' : OwnS WA w2.heap.size wc5.heap.size aw := (hoa.below hbA').widen (Below.size D2) (Nat.le_refl _) (by have := hbA'.size; omega)
          obtain ⟨WF, hWF, hwF, hsF, HTF, _, bF⟩ := page_out (C := wc5.heap.size) (T := 31) ⟨(setOf p.lsn (p.ss.map (·.v)) slot s.v lsn).1, aw⟩ (by have := congrArg List.length hva.out; simp only [List.length_map] at this; rw [this]; exact HSL.out) [.int .i64 0, .bool false, .int .i64 0, .slice none 0 0, .slice none 0 0, .bool false, .int .i64 0, .slice none 0 0, .slice none 0 0, .bool false, .int .i64 0, .slice none 0 0, .slice none 0 0, .bool false, .int .i64 0, .slice none 0 0, .slice none 0 0] rfl bA Tryd.underlying31 rfl (by kernel_rfl)
          refine wpAnyH_ready (rs := [11]) (by kernel_rfl) (by simp) ?_
          refine AllReadyH.cons rfl (fun K hK => ?_) AllReadyH.nil
          rw [if_pos (by rfl)]
          refine wp_store_mid 31 (.tmp 10) (.tmp 39) rfl wc5.heap.size 0 (PageA.cells ⟨(setOf p.lsn (p.ss.map (·.v)) slot s.v lsn).1, aw⟩).toArray rfl rfl HTF.out (by rw [List.size_toArray, page_len _ (by have := congrArg List.length hva.out; simp only [List.length_map] at this; rw [this]; exact HSL.out)]; kernel_rfl) (all_oneCell_toArray (oneP _)) ?_
          go_simp
          rw [hWF.out]
          have DF : Below w2.heap.size w2 WF := DA.trans (hwF.below (Below.size D3) (by have := DA.size; omega))
          refine hK.out _ _ ⟨HRG.out _ (B2.trans (DF.mono B2.size)), HRS.out _ (B2.trans (DF.mono B2.size))⟩ (fun hHeld => ?_)
          clear hK K
          refine wpAnyH_take (i := 12) (v := .bool (setOk p.lsn (p.ss.map (·.v)) slot s.v lsn)) rfl (by kernel_rfl) (by kernel_rfl) (by kernel_rfl) (fun _ _ _ h => h) (Or.inl ⟨by rfl, fun w' _ => ?_⟩) hHeld ?_
          · go_simp
          go_simp
          refine wpAnyH_done (by kernel_rfl) ?_ _
          have HOF : OwnS WF w2.heap.size WF.heap.size aw := (((hoa.below hbA')).within hwF (.inl (Nat.le_refl _))).widen (Below.size D2) (by have := hwF.size; have := hbA'.size; omega) (Nat.le_refl _)
          clear hwF hsF HTF hWF hoa' hHeld
          go_wp2_with fail
          go_meet
          case rel => exact ⟨wc5.heap.size, aw, rfl, rfl, hva, bF, HOF, DF⟩
        · go_simp
          obtain ⟨WA, hWA, bA, hbA, hsA⟩ := boxes1 wb [.int .i64 0, .bool false, .int .i64 0, .slice none 0 0, .slice none 0 0, .bool false, .int .i64 0, .slice none 0 0, .slice none 0 0, .bool false, .int .i64 0, .slice none 0 0, .slice none 0 0, .bool false, .int .i64 0, .slice none 0 0, .slice none 0 0] 31
          rw [hWA.out]
          have hbA' : Below wb.heap.size wb WA := hbA
          have DA : Below w2.heap.size w2 WA := D2.trans (hbA'.mono D2.size)
          have hot := hot.below hbA'
          have hou := OwnO.below hou hbA'
          refine hK.out _ _ ⟨HRG.out _ (B2.trans (DA.mono B2.size)), HRS.out _ (B2.trans (DA.mono B2.size))⟩ (fun hHeld => ?_)
          clear hK K hWA
          refine wpAnyH_ready (rs := [6]) (by kernel_rfl) (by simp) ?_
          refine AllReadyH.cons rfl (fun K hK => ?_) AllReadyH.nil
          go_simp
          refine (specSetSlot_any ⟨p.lsn, ts⟩ (map_len4 hvt.out h4) slot u lsn _ hot.reads (wide_of (small_of hvt.out hl)) hou.reads (fit_same hvu.out hfs)).mono ?_
          simp only [hvt.out, hvu.out]
          rintro e wc5 ⟨aw, rfl, hva, hoa, hbc⟩
          have D3 : Below w2.heap.size w2 wc5 := DA.trans (hbc.mono DA.size)
          have bA := bA.below hbc bA.lt
          refine hK.out _ _ ⟨HRG.out _ (B2.trans (D3.mono B2.size)), HRS.out _ (B2.trans (D3.mono B2.size))⟩ (fun hHeld => ?_)
          clear hK K
          refine wpAnyH_take (i := 7) (v := .tuple #[.agg (PageA.cells ⟨(setOf p.lsn (p.ss.map (·.v)) slot s.v lsn).1, aw⟩).toArray, .bool (setOk p.lsn (p.ss.map (·.v)) slot s.v lsn)]) rfl (by kernel_rfl) (by kernel_rfl) (by kernel_rfl) (fun _ _ _ h => h) (Or.inl ⟨by rfl, fun w' _ => ?_⟩) hHeld ?_
          · go_simp
          go_simp
          refine wpAnyH_take (i := 8) (v := .agg (PageA.cells ⟨(setOf p.lsn (p.ss.map (·.v)) slot s.v lsn).1, aw⟩).toArray) rfl (by kernel_rfl) (by kernel_rfl) (by kernel_rfl) (fun _ _ _ h => h) (Or.inl ⟨by rfl, fun w' _ => ?_⟩) hHeld ?_
          · go_simp
          go_simp
          refine wpAnyH_take (i := 9) (v := .bool (setOk p.lsn (p.ss.map (·.v)) slot s.v lsn)) rfl (by kernel_rfl) (by kernel_rfl) (by kernel_rfl) (fun _ _ _ h => h) (Or.inl ⟨by rfl, fun w' _ => ?_⟩) hHeld ?_
          · go_simp
          go_simp
          have hoa' : OwnS wc5 w2.heap.size wc5.heap.size aw := hoa.widen (Below.size DA) (Nat.le_refl _) (Nat.le_refl _)
          obtain ⟨WF, hWF, hwF, hsF, HTF, _, bF⟩ := page_out (C := wb.heap.size) (T := 31) ⟨(setOf p.lsn (p.ss.map (·.v)) slot s.v lsn).1, aw⟩ (by have := congrArg List.length hva.out; simp only [List.length_map] at this; rw [this]; exact HSL.out) [.int .i64 0, .bool false, .int .i64 0, .slice none 0 0, .slice none 0 0, .bool false, .int .i64 0, .slice none 0 0, .slice none 0 0, .bool false, .int .i64 0, .slice none 0 0, .slice none 0 0, .bool false, .int .i64 0, .slice none 0 0, .slice none 0 0] rfl bA Tryd.underlying31 rfl (by kernel_rfl)
          refine wpAnyH_ready (rs := [11]) (by kernel_rfl) (by simp) ?_
          refine AllReadyH.cons rfl (fun K hK => ?_) AllReadyH.nil
          rw [if_pos (by rfl)]
          refine wp_store_mid 31 (.tmp 10) (.tmp 39) rfl wb.heap.size 0 (PageA.cells ⟨(setOf p.lsn (p.ss.map (·.v)) slot s.v lsn).1, aw⟩).toArray rfl rfl HTF.out (by rw [List.size_toArray, page_len _ (by have := congrArg List.length hva.out; simp only [List.length_map] at this; rw [this]; exact HSL.out)]; kernel_rfl) (all_oneCell_toArray (oneP _)) ?_
          go_simp
          rw [hWF.out]
          have DF : Below w2.heap.size w2 WF := D3.trans (hwF.below (Below.size D2) (by have := D3.size; omega))
          refine hK.out _ _ ⟨HRG.out _ (B2.trans (DF.mono B2.size)), HRS.out _ (B2.trans (DF.mono B2.size))⟩ (fun hHeld => ?_)
          clear hK K
          refine wpAnyH_take (i := 12) (v := .bool (setOk p.lsn (p.ss.map (·.v)) slot s.v lsn)) rfl (by kernel_rfl) (by kernel_rfl) (by kernel_rfl) (fun _ _ _ h => h) (Or.inl ⟨by rfl, fun w' _ => ?_⟩) hHeld ?_
          · go_simp
          go_simp
          refine wpAnyH_done (by kernel_rfl) ?_ _
          have HOF : OwnS WF w2.heap.size WF.heap.size aw := ((hoa).within hwF (.inr (by have := hsA; omega))).widen (Below.size DA) (by have := hwF.size; omega) (Nat.le_refl _)
          clear hwF hsF HTF hWF hoa' hHeld
          go_wp2_with fail
          go_meet
          case rel => exact ⟨wb.heap.size, aw, rfl, rfl, hva, bF, HOF, DF⟩
      · go_simp
        obtain ⟨WA, hWA, bA, hbA, hsA⟩ := boxes1 wa [.int .i64 0, .bool false, .int .i64 0, .slice none 0 0, .slice none 0 0, .bool false, .int .i64 0, .slice none 0 0, .slice none 0 0, .bool false, .int .i64 0, .slice none 0 0, .slice none 0 0, .bool false, .int .i64 0, .slice none 0 0, .slice none 0 0] 31
        rw [hWA.out]
        have hbA' : Below wa.heap.size wa WA := hbA
        have DA : Below w2.heap.size w2 WA := D1.trans (hbA'.mono D1.size)
        have hot := hot.below hbA'
        refine hK.out _ _ ⟨HRG.out _ (B2.trans (DA.mono B2.size)), HRS.out _ (B2.trans (DA.mono B2.size))⟩ (fun hHeld => ?_)
        clear hK K hWA
        refine wpAnyH_ready (rs := [4]) (by kernel_rfl) (by simp) ?_
        refine AllReadyH.cons rfl (fun K hK => ?_) AllReadyH.nil
        go_simp
        refine (toSlot_own s _ (hRs _ (B2.trans (DA.mono B2.size))) hfs1 hfs2).mono ?_
        rintro e wb ⟨u, rfl, hvu, hou, hbb⟩
        have D2 : Below w2.heap.size w2 wb := DA.trans (hbb.mono DA.size)
        have bA := bA.below hbb bA.lt
        have hot := hot.below hbb
        refine hK.out _ _ ⟨HRG.out _ (B2.trans (D2.mono B2.size)), HRS.out _ (B2.trans (D2.mono B2.size))⟩ (fun hHeld => ?_)
        clear hK K
        refine wpAnyH_ready (rs := [6]) (by kernel_rfl) (by simp) ?_
        refine AllReadyH.cons rfl (fun K hK => ?_) AllReadyH.nil
        go_simp
        refine (specSetSlot_any ⟨p.lsn, ts⟩ (map_len4 hvt.out h4) slot u lsn _ hot.reads (wide_of (small_of hvt.out hl)) hou.reads (fit_same hvu.out hfs)).mono ?_
        simp only [hvt.out, hvu.out]
        rintro e wc5 ⟨aw, rfl, hva, hoa, hbc⟩
        have D3 : Below w2.heap.size w2 wc5 := D2.trans (hbc.mono D2.size)
        have bA := bA.below hbc bA.lt
        refine hK.out _ _ ⟨HRG.out _ (B2.trans (D3.mono B2.size)), HRS.out _ (B2.trans (D3.mono B2.size))⟩ (fun hHeld => ?_)
        clear hK K
        refine wpAnyH_take (i := 7) (v := .tuple #[.agg (PageA.cells ⟨(setOf p.lsn (p.ss.map (·.v)) slot s.v lsn).1, aw⟩).toArray, .bool (setOk p.lsn (p.ss.map (·.v)) slot s.v lsn)]) rfl (by kernel_rfl) (by kernel_rfl) (by kernel_rfl) (fun _ _ _ h => h) (Or.inl ⟨by rfl, fun w' _ => ?_⟩) hHeld ?_
        · go_simp
        go_simp
        refine wpAnyH_take (i := 8) (v := .agg (PageA.cells ⟨(setOf p.lsn (p.ss.map (·.v)) slot s.v lsn).1, aw⟩).toArray) rfl (by kernel_rfl) (by kernel_rfl) (by kernel_rfl) (fun _ _ _ h => h) (Or.inl ⟨by rfl, fun w' _ => ?_⟩) hHeld ?_
        · go_simp
        go_simp
        refine wpAnyH_take (i := 9) (v := .bool (setOk p.lsn (p.ss.map (·.v)) slot s.v lsn)) rfl (by kernel_rfl) (by kernel_rfl) (by kernel_rfl) (fun _ _ _ h => h) (Or.inl ⟨by rfl, fun w' _ => ?_⟩) hHeld ?_
        · go_simp
        go_simp
        have hoa' : OwnS wc5 w2.heap.size wc5.heap.size aw := hoa.widen (Below.size D2) (Nat.le_refl _) (Nat.le_refl _)
        obtain ⟨WF, hWF, hwF, hsF, HTF, _, bF⟩ := page_out (C := wa.heap.size) (T := 31) ⟨(setOf p.lsn (p.ss.map (·.v)) slot s.v lsn).1, aw⟩ (by have := congrArg List.length hva.out; simp only [List.length_map] at this; rw [this]; exact HSL.out) [.int .i64 0, .bool false, .int .i64 0, .slice none 0 0, .slice none 0 0, .bool false, .int .i64 0, .slice none 0 0, .slice none 0 0, .bool false, .int .i64 0, .slice none 0 0, .slice none 0 0, .bool false, .int .i64 0, .slice none 0 0, .slice none 0 0] rfl bA Tryd.underlying31 rfl (by kernel_rfl)
        refine wpAnyH_ready (rs := [11]) (by kernel_rfl) (by simp) ?_
        refine AllReadyH.cons rfl (fun K hK => ?_) AllReadyH.nil
        rw [if_pos (by rfl)]
        refine wp_store_mid 31 (.tmp 10) (.tmp 39) rfl wa.heap.size 0 (PageA.cells ⟨(setOf p.lsn (p.ss.map (·.v)) slot s.v lsn).1, aw⟩).toArray rfl rfl HTF.out (by rw [List.size_toArray, page_len _ (by have := congrArg List.length hva.out; simp only [List.length_map] at this; rw [this]; exact HSL.out)]; kernel_rfl) (all_oneCell_toArray (oneP _)) ?_
        go_simp
        rw [hWF.out]
        have DF : Below w2.heap.size w2 WF := D3.trans (hwF.below (Below.size D1) (by have := D3.size; omega))
        refine hK.out _ _ ⟨HRG.out _ (B2.trans (DF.mono B2.size)), HRS.out _ (B2.trans (DF.mono B2.size))⟩ (fun hHeld => ?_)
        clear hK K
        refine wpAnyH_take (i := 12) (v := .bool (setOk p.lsn (p.ss.map (·.v)) slot s.v lsn)) rfl (by kernel_rfl) (by kernel_rfl) (by kernel_rfl) (fun _ _ _ h => h) (Or.inl ⟨by rfl, fun w' _ => ?_⟩) hHeld ?_
        · go_simp
        go_simp
        refine wpAnyH_done (by kernel_rfl) ?_ _
        have HOF : OwnS WF w2.heap.size WF.heap.size aw := ((hoa).within hwF (.inr (by have := hsA; have := hbb.size; omega))).widen (Below.size D2) (by have := hwF.size; omega) (Nat.le_refl _)
        clear hwF hsF HTF hWF hoa' hHeld
        go_wp2_with fail
        go_meet
        case rel => exact ⟨wa.heap.size, aw, rfl, rfl, hva, bF, HOF, DF⟩
    · go_simp
      obtain ⟨WA, hWA, bA, hbA, hsA⟩ := boxes1_drew w2 [.int .i64 0, .bool false, .int .i64 0, .slice none 0 0, .slice none 0 0, .bool false, .int .i64 0, .slice none 0 0, .slice none 0 0, .bool false, .int .i64 0, .slice none 0 0, .slice none 0 0, .bool false, .int .i64 0, .slice none 0 0, .slice none 0 0] 31
      rw [hWA.out]
      have hbA' : Below w2.drew.heap.size w2.drew WA := hbA
      have DA : Below w2.heap.size w2 WA := D0.trans (hbA'.mono D0.size)
      refine hK.out _ _ ⟨HRG.out _ (B2.trans (DA.mono B2.size)), HRS.out _ (B2.trans (DA.mono B2.size))⟩ (fun hHeld => ?_)
      clear hK K hWA
      refine wpAnyH_ready (rs := [1]) (by kernel_rfl) (by simp) ?_
      refine AllReadyH.cons rfl (fun K hK => ?_) AllReadyH.nil
      go_simp
      refine (toPage_own p h4 _ (hRd _ (B2.trans (DA.mono B2.size))) hfp).mono ?_
      rintro e wa ⟨ts, rfl, hvt, hot, hba⟩
      have D1 : Below w2.heap.size w2 wa := DA.trans (hba.mono DA.size)
      have bA := bA.below hba bA.lt
      refine hK.out _ _ ⟨HRG.out _ (B2.trans (D1.mono B2.size)), HRS.out _ (B2.trans (D1.mono B2.size))⟩ (fun hHeld => ?_)
      clear hK K
      refine wpAnyH_ready (rs := [4]) (by kernel_rfl) (by simp) ?_
      refine AllReadyH.cons rfl (fun K hK => ?_) AllReadyH.nil
      go_simp
      refine (toSlot_own s _ (hRs _ (B2.trans (D1.mono B2.size))) hfs1 hfs2).mono ?_
      rintro e wb ⟨u, rfl, hvu, hou, hbb⟩
      have D2 : Below w2.heap.size w2 wb := D1.trans (hbb.mono D1.size)
      have bA := bA.below hbb bA.lt
      have hot := hot.below hbb
      refine hK.out _ _ ⟨HRG.out _ (B2.trans (D2.mono B2.size)), HRS.out _ (B2.trans (D2.mono B2.size))⟩ (fun hHeld => ?_)
      clear hK K
      refine wpAnyH_ready (rs := [6]) (by kernel_rfl) (by simp) ?_
      refine AllReadyH.cons rfl (fun K hK => ?_) AllReadyH.nil
      go_simp
      refine (specSetSlot_any ⟨p.lsn, ts⟩ (map_len4 hvt.out h4) slot u lsn _ hot.reads (wide_of (small_of hvt.out hl)) hou.reads (fit_same hvu.out hfs)).mono ?_
      simp only [hvt.out, hvu.out]
      rintro e wc5 ⟨aw, rfl, hva, hoa, hbc⟩
      have D3 : Below w2.heap.size w2 wc5 := D2.trans (hbc.mono D2.size)
      have bA := bA.below hbc bA.lt
      refine hK.out _ _ ⟨HRG.out _ (B2.trans (D3.mono B2.size)), HRS.out _ (B2.trans (D3.mono B2.size))⟩ (fun hHeld => ?_)
      clear hK K
      refine wpAnyH_take (i := 7) (v := .tuple #[.agg (PageA.cells ⟨(setOf p.lsn (p.ss.map (·.v)) slot s.v lsn).1, aw⟩).toArray, .bool (setOk p.lsn (p.ss.map (·.v)) slot s.v lsn)]) rfl (by kernel_rfl) (by kernel_rfl) (by kernel_rfl) (fun _ _ _ h => h) (Or.inl ⟨by rfl, fun w' _ => ?_⟩) hHeld ?_
      · go_simp
      go_simp
      refine wpAnyH_take (i := 8) (v := .agg (PageA.cells ⟨(setOf p.lsn (p.ss.map (·.v)) slot s.v lsn).1, aw⟩).toArray) rfl (by kernel_rfl) (by kernel_rfl) (by kernel_rfl) (fun _ _ _ h => h) (Or.inl ⟨by rfl, fun w' _ => ?_⟩) hHeld ?_
      · go_simp
      go_simp
      refine wpAnyH_take (i := 9) (v := .bool (setOk p.lsn (p.ss.map (·.v)) slot s.v lsn)) rfl (by kernel_rfl) (by kernel_rfl) (by kernel_rfl) (fun _ _ _ h => h) (Or.inl ⟨by rfl, fun w' _ => ?_⟩) hHeld ?_
      · go_simp
      go_simp
      have hoa' : OwnS wc5 w2.heap.size wc5.heap.size aw := hoa.widen (Below.size D2) (Nat.le_refl _) (Nat.le_refl _)
      obtain ⟨WF, hWF, hwF, hsF, HTF, _, bF⟩ := page_out (C := w2.heap.size) (T := 31) ⟨(setOf p.lsn (p.ss.map (·.v)) slot s.v lsn).1, aw⟩ (by have := congrArg List.length hva.out; simp only [List.length_map] at this; rw [this]; exact HSL.out) [.int .i64 0, .bool false, .int .i64 0, .slice none 0 0, .slice none 0 0, .bool false, .int .i64 0, .slice none 0 0, .slice none 0 0, .bool false, .int .i64 0, .slice none 0 0, .slice none 0 0, .bool false, .int .i64 0, .slice none 0 0, .slice none 0 0] rfl bA Tryd.underlying31 rfl (by kernel_rfl)
      refine wpAnyH_ready (rs := [11]) (by kernel_rfl) (by simp) ?_
      refine AllReadyH.cons rfl (fun K hK => ?_) AllReadyH.nil
      rw [if_pos (by rfl)]
      refine wp_store_mid 31 (.tmp 10) (.tmp 39) rfl w2.heap.size 0 (PageA.cells ⟨(setOf p.lsn (p.ss.map (·.v)) slot s.v lsn).1, aw⟩).toArray rfl rfl HTF.out (by rw [List.size_toArray, page_len _ (by have := congrArg List.length hva.out; simp only [List.length_map] at this; rw [this]; exact HSL.out)]; kernel_rfl) (all_oneCell_toArray (oneP _)) ?_
      go_simp
      rw [hWF.out]
      have DF : Below w2.heap.size w2 WF := D3.trans (hwF.below (Nat.le_refl _) (by have := D3.size; omega))
      refine hK.out _ _ ⟨HRG.out _ (B2.trans (DF.mono B2.size)), HRS.out _ (B2.trans (DF.mono B2.size))⟩ (fun hHeld => ?_)
      clear hK K
      refine wpAnyH_take (i := 12) (v := .bool (setOk p.lsn (p.ss.map (·.v)) slot s.v lsn)) rfl (by kernel_rfl) (by kernel_rfl) (by kernel_rfl) (fun _ _ _ h => h) (Or.inl ⟨by rfl, fun w' _ => ?_⟩) hHeld ?_
      · go_simp
      go_simp
      refine wpAnyH_done (by kernel_rfl) ?_ _
      have HOF : OwnS WF w2.heap.size WF.heap.size aw := ((hoa).within hwF (.inr (by have := Below.size D1; have := hsA; have := hbb.size; have := hba.size; omega))).widen (Below.size D2) (by have := hwF.size; omega) (Nat.le_refl _)
      clear hwF hsF HTF hWF hoa' hHeld
      go_wp2_with fail
      go_meet
      case rel => exact ⟨w2.heap.size, aw, rfl, rfl, hva, bF, HOF, DF⟩
  case rest =>
  obtain ⟨Bw, aw, rfl, rfl, hva, bw0, ow0, hbc⟩ := hcut
  have Bc : Below W.heap.size W wc := B2.trans (hbc.mono B2.size)
  have hsc := Bc.size
  have HOKd : Hid (setOk p.lsn (p.ss.map (·.v)) slot s.v lsn = setOk p.lsn (p.ss.map (·.v)) slot s.v lsn) := rfl
  generalize hSO : setOf p.lsn (p.ss.map (·.v)) slot s.v lsn = SO at *
  generalize hOK : setOk p.lsn (p.ss.map (·.v)) slot s.v lsn = OK at *
  have HSO : Hid (_ = _) := hSO
  have HOK : Hid (_ = _) := hOK
  clear hSO hOK HOKd
  have haw4 : aw.length = 4 := by have := congrArg List.length hva.out; simp only [List.length_map] at this; rw [this]; exact HSL.out
  have HSML : Hid (∀ v ∈ SO.2, v.o.ints.length ≤ 1048576 ∧ v.o.refs.length ≤ 1048576) := by
    rw [Hid, ← HSO.out]
    intro v hv
    unfold setOf at hv
    have key : ∀ v ∈ p.ss.map (·.v), v.o.ints.length ≤ 1048576 ∧ v.o.refs.length ≤ 1048576 := fun v hv => by obtain ⟨x, hx, rfl⟩ := List.mem_map.1 hv; exact hl x hx
    split at hv
    · rcases List.mem_or_eq_of_mem_set hv with h | rfl
      · exact key v h
      · exact hsl
    · exact key v hv
  have hawS : ∀ x ∈ aw, x.v.o.ints.length ≤ 1048576 ∧ x.v.o.refs.length ≤ 1048576 := fun x hx => HSML.out _ (by rw [← hva.out]; exact List.mem_map.2 ⟨x, hx, rfl⟩)
  go_wp2_with (first | (guard_target = wpList _ _ _ (Oper.mk (some 41) _ _ _ _ _ :: _) _ _; refine wpList_load_mid rfl 47 (.tmp 4) rfl w.heap.size 0 rfl p.cells _ (HRG.out _ Bc) Tryd.underlying47 rfl HI.out ?_) | fail)
  refine (toPage_own p h4 wc (hRd wc Bc) hfp).mono ?_
  rintro e w7 ⟨xs, rfl, hv7, ho7, hb7⟩
  have hs7 := hb7.size
  have hx4 := map_len4 hv7.out h4
  have hxS := small_of hv7.out hl
  generalize hq : (⟨p.lsn, xs⟩ : PageA) = q at *
  have hq4 : q.ss.length = 4 := by rw [← hq]; exact hx4
  have HQ : Hid (q.lsn = p.lsn ∧ q.ss.map (·.v) = p.ss.map (·.v)) := by rw [← hq]; exact ⟨rfl, hv7.out⟩
  have oq7 : OwnS w7 wc.heap.size w7.heap.size q.ss := by rw [← hq]; exact ho7
  have hqS : ∀ s ∈ q.ss, s.v.o.ints.length ≤ 1048576 ∧ s.v.o.refs.length ≤ 1048576 := by rw [← hq]; exact hxS
  clear hq hx4 hxS ho7 hv7
  have HIq : Hid ((Tryd.prog.info? 31).map (·.size) = some q.cells.length) := by rw [Hid, page_len q hq4]; kernel_rfl
  have HOq : Hid (_) := all_oneCell_toArray (oneP q)
  obtain ⟨W7, hW7, bz7, hbz7, hsz7⟩ := boxes1 w7 [.int .i64 0, .bool false, .int .i64 0, .slice none 0 0, .slice none 0 0, .bool false, .int .i64 0, .slice none 0 0, .slice none 0 0, .bool false, .int .i64 0, .slice none 0 0, .slice none 0 0, .bool false, .int .i64 0, .slice none 0 0, .slice none 0 0] 31
  obtain ⟨W8, hW8, hw8, hs8, HT8, _, bq8⟩ := page_out (C := w7.heap.size) (T := 31) q hq4 [.int .i64 0, .bool false, .int .i64 0, .slice none 0 0, .slice none 0 0, .bool false, .int .i64 0, .slice none 0 0, .slice none 0 0, .bool false, .int .i64 0, .slice none 0 0, .slice none 0 0, .bool false, .int .i64 0, .slice none 0 0, .slice none 0 0] rfl bz7 Tryd.underlying31 rfl (by kernel_rfl)
  have N8 : Below w7.heap.size w7 W8 := hbz7.trans (hw8.below (Nat.le_refl _) (by omega))
  have oq8 : OwnS W8 wc.heap.size w7.heap.size q.ss := oq7.below N8
  have Nc8 : Below wc.heap.size wc W8 := hb7.trans (N8.mono hs7)
  have B8 : Below W.heap.size W W8 := Bc.trans (Nc8.mono hsc)
  have hs78 := N8.size
  have hq8lt := bq8.lt
  clear hw8 hs8 bz7 hbz7 hsz7 N8 oq7
  go_wp2_with (first | (guard_target = wpList _ _ _ (Oper.mk none (Op.store _ (Operand.tmp 12) _) _ _ _ _ :: _) _ _; refine wpList_store_mid rfl 31 (.tmp 12) (.tmp 42) rfl w7.heap.size 0 q.cells.toArray rfl rfl (by rw [hW7.out]; exact HT8.out) (by rw [List.size_toArray]; exact HIq.out) HOq.out ?_) | (guard_target = wpList _ _ _ (Oper.mk (some 43) _ _ _ _ _ :: _) _ _; refine wpList_load_mid rfl 44 (.tmp 6) rfl (w.heap.size + 1) 0 rfl s.cells _ (by rw [hW7.out, hW8.out]; exact HRS.out _ B8) Tryd.underlying44 rfl HJ.out ?_) | fail)
  rw [hW7.out, hW8.out]
  clear hW7 hW8 HT8
  refine (toSlot_own s W8 (hRs W8 B8) hfs1 hfs2).mono ?_
  rintro e w9 ⟨t, rfl, hvt, hot, hb9⟩
  have hs9 := hb9.size
  obtain ⟨W10, hW10, bt10, hbt10, hst10⟩ := boxes1 w9 t.cells 28
  have hbt10' := hbt10
  have N10 : Below W8.heap.size W8 W10 := hb9.trans (hbt10.mono hs9)
  have B10 : Below W.heap.size W W10 := B8.trans (N10.mono B8.size)
  have bq10 := bq8.below N10 hq8lt
  have oq10 := oq8.below N10
  have ot10 : t.own W10 W8.heap.size w9.heap.size := OwnO.below hot hbt10
  have hft : Fit [t] := fit_same hvt.out hfs
  have C := implSetSlot_any q hq4 slot t lsn W10 (hgB _ B10) oq10.reads (wide_of hqS) (OwnO.reads ot10) hft
  rw [HQ.out.1, HQ.out.2, hvt.out, HSO.out, HOK.out] at C
  have rq10 := Box.range [] q.cells [] (by simpa using bq10 : Box W10 w7.heap.size ([] ++ (q.cells ++ [])) 31)
  obtain ⟨x0, x1, x2, x3, _⟩ := Box.four (show Box W10 w9.heap.size [.bool t.v.has, .int .i64 t.v.o.kind, .slice t.aI t.v.o.ints.length t.cI, .slice t.aR t.v.o.refs.length t.cR] 28 from bt10)
  clear hot hbt10 bq8 oq8
  simp only [SlotA.cells] at C hW10
  simp only [SlotA.cells]
  go_wp2_with (first | (guard_target = wpList _ _ _ (Oper.mk (some 46) _ _ _ _ _ :: _) _ _; refine wpList_load_mid rfl 31 (.tmp 12) rfl w7.heap.size 0 rfl q.cells _ (by rw [hW10.out]; exact rq10) Tryd.underlying31 rfl HIq.out ?_) | fail)
  rw [hW10.out]
  refine C.mono ?_
  clear C x0 x1 x2 x3 hW10 rq10
  rintro e w11 ⟨ag, rfl, hvg, hog, hb11⟩
  have hs11 := hb11.size
  have hag4 : ag.length = 4 := by have := congrArg List.length hvg.out; simp only [List.length_map] at this; rw [this]; exact HSL.out
  have hagS : ∀ x ∈ ag, x.v.o.ints.length ≤ 1048576 ∧ x.v.o.refs.length ≤ 1048576 := fun x hx => HSML.out _ (by rw [← hvg.out]; exact List.mem_map.2 ⟨x, hx, rfl⟩)
  have HIg : Hid ((Tryd.prog.info? 31).map (·.size) = some (PageA.cells ⟨SO.1, ag⟩).length) := by rw [Hid, page_len _ hag4]; kernel_rfl
  have HIw : Hid ((Tryd.prog.info? 31).map (·.size) = some (PageA.cells ⟨SO.1, aw⟩).length) := by rw [Hid, page_len _ haw4]; kernel_rfl
  have HOg : Hid (_) := all_oneCell_toArray (oneP ⟨SO.1, ag⟩)
  obtain ⟨W11, hW11, bz11, hbz11, hsz11⟩ := boxes1 w11 [.int .i64 0, .bool false, .int .i64 0, .slice none 0 0, .slice none 0 0, .bool false, .int .i64 0, .slice none 0 0, .slice none 0 0, .bool false, .int .i64 0, .slice none 0 0, .slice none 0 0, .bool false, .int .i64 0, .slice none 0 0, .slice none 0 0] 31
  obtain ⟨W12, hW12, hw12, hs12, HT12, _, bg12⟩ := page_out (C := w11.heap.size) (T := 31) ⟨SO.1, ag⟩ hag4 [.int .i64 0, .bool false, .int .i64 0, .slice none 0 0, .slice none 0 0, .bool false, .int .i64 0, .slice none 0 0, .slice none 0 0, .bool false, .int .i64 0, .slice none 0 0, .slice none 0 0, .bool false, .int .i64 0, .slice none 0 0, .slice none 0 0] rfl bz11 Tryd.underlying31 rfl (by kernel_rfl)
  have N12 : Below w11.heap.size w11 W12 := hbz11.trans (hw12.below (Nat.le_refl _) (by omega))
  have M12 : Below W10.heap.size W10 W12 := hb11.trans (N12.mono hs11)
  have og12 : OwnS W12 W10.heap.size w11.heap.size ag := hog.below N12
  have oq12 := oq10.below M12
  have ot12 : t.own W12 W8.heap.size w9.heap.size := OwnO.below ot10 M12
  have bq12 := bq10.below M12 bq10.lt
  have bt12 := bt10.below M12 bt10.lt
  have Nc12 : Below wc.heap.size wc W12 := (Nc8.trans (N10.mono Nc8.size)).trans (M12.mono (Nat.le_trans Nc8.size N10.size))
  have bw12 := bw0.below Nc12 bw0.lt
  have ow12 := ow0.below Nc12
  have B12 : Below W.heap.size W W12 := Bc.trans (Nc12.mono hsc)
  have hsw12 := M12.size
  have hsn12 := N12.size
  have hsbw := bw0.lt
  have hst := bt10.lt
  have hsq := bq10.lt
  have hsg := bg12.lt
  have hN10 := N10.size
  have rg := Box.range [] (PageA.cells ⟨SO.1, ag⟩) [] (by simpa using bg12 : Box W12 w11.heap.size ([] ++ (PageA.cells ⟨SO.1, ag⟩ ++ [])) 31)
  have rw0 := Box.range [] (PageA.cells ⟨SO.1, aw⟩) [] (by simpa using bw12 : Box W12 Bw ([] ++ (PageA.cells ⟨SO.1, aw⟩ ++ [])) 31)
  clear hw12 hs12 bz11 hbz11 hsz11 hog hb11 bq10 oq10 ot10 bt10
  go_wp2_with (first | (guard_target = wpList _ _ _ (Oper.mk none (Op.store _ (Operand.tmp 14) _) _ _ _ _ :: _) _ _; refine wpList_store_mid rfl 31 (.tmp 14) (.tmp 51) rfl w11.heap.size 0 (PageA.cells ⟨SO.1, ag⟩).toArray rfl rfl (by rw [hW11.out]; exact HT12.out) (by rw [List.size_toArray]; exact HIg.out) HOg.out ?_) | (guard_target = wpList _ _ _ (Oper.mk (some 53) _ _ _ _ _ :: _) _ _; refine wpList_load_mid rfl 31 (.tmp 14) rfl w11.heap.size 0 rfl (PageA.cells ⟨SO.1, ag⟩) _ (by rw [hW11.out, hW12.out]; exact rg) Tryd.underlying31 rfl HIg.out ?_) | (guard_target = wpList _ _ _ (Oper.mk (some 54) _ _ _ _ _ :: _) _ _; refine wpList_load_mid rfl 31 (.tmp 10) rfl Bw 0 rfl (PageA.cells ⟨SO.1, aw⟩) _ (by rw [hW11.out, hW12.out]; exact rw0) Tryd.underlying31 rfl HIw.out ?_) | fail)
  rw [hW11.out, hW12.out]
  clear hW11 hW12 HT12 HOg rg rw0
  refine (eqPage_same SO.1 ag aw hag4 (by rw [hva.out, hvg.out]) W12 og12.reads ow12.reads (wide_of hagS)).mono ?_
  rintro e w13 ⟨rfl, hb13⟩
  have hs13 := hb13.size
  have B13 : Below W.heap.size W w13 := B12.trans (hb13.mono B12.size)
  have og13 := og12.below hb13
  have ow13 := ow12.below hb13
  have oq13 := oq12.below hb13
  have ot13 : t.own w13 W8.heap.size w9.heap.size := OwnO.below ot12 hb13
  have HRQ : Hid (∀ w', Below w13.heap.size w13 w' → w'.rangeAt w7.heap.size 0 q.cells) := fun w' hh => Box.range [] q.cells [] (by simpa using (bq12.below hb13 bq12.lt).below hh (by omega))
  have HBT : Hid (∀ w', Below w13.heap.size w13 w' → Box w' w9.heap.size t.cells 28) := fun w' hh => (bt12.below hb13 bt12.lt).below hh (by omega)
  have HRT : Hid (∀ w', Below w13.heap.size w13 w' → w'.rangeAt w9.heap.size 0 t.cells) := fun w' hh => Box.range [] t.cells [] (by simpa using (bt12.below hb13 bt12.lt).below hh (by omega))
  have bw13 := bw12.below hb13 bw12.lt
  have bg13 := bg12.below hb13 bg12.lt
  have HIt : Hid ((Tryd.prog.info? 28).map (·.size) = some t.cells.length) := by rw [Hid, cellsS_len4]; kernel_rfl
  clear og12 ow12 oq12 ot12 bq12 bt12 bw12 bg12 hb13 Nc12 M12 N12 Nc8 N10
  have hu3 := Tryd.underlying31
  have hu4 := Tryd.underlying28
  go_wp2_with fail
  refine wp_region_held_drew (S := fun w' => w'.rangeAt w.heap.size 0 p.cells ∧ w'.rangeAt w7.heap.size 0 q.cells) (by kernel_rfl) ?_ (fun hHeld => ?_)
  · exact ⟨HRG.out _ B13.drew, HRQ.out _ (Below.refl _ _).drew⟩
  refine wpAnyH_take (i := 0) rfl (by kernel_rfl) (by kernel_rfl) (by kernel_rfl) (fun _ _ _ h => h) (yieldsIf_load_mid (by rfl) _ _ rfl _ _ rfl q.cells _ (fun _ h => h.2) hu3 rfl HIq.out) hHeld ?_
  go_simp
  refine wpAnyH_take (i := 1) rfl (by kernel_rfl) (by kernel_rfl) (by kernel_rfl) (fun _ _ _ h => h) (yieldsIf_load_mid (by rfl) _ _ rfl _ _ rfl p.cells _ (fun _ h => h.1) hu1 rfl HI.out) hHeld ?_
  go_simp
  refine wpAnyH_ready (rs := [2]) (by kernel_rfl) (by simp) ?_
  refine AllReadyH.cons rfl (fun K hK => ?_) AllReadyH.nil
  go_simp
  refine (toPage_own p h4 _ (hRd _ B13.drew) hfp).mono ?_
  rintro e w14 ⟨vs, rfl, hv14, ho14, hb14⟩
  have N14 : Below w13.heap.size w13 w14 := ((Below.refl _ _).drew).trans hb14
  have B14 : Below W.heap.size W w14 := B13.trans (N14.mono B13.size)
  refine hK.out _ _ ⟨HRG.out _ B14, HRQ.out _ N14⟩ (fun hHeld => ?_)
  clear hK K
  refine wpAnyH_ready (rs := [3]) (by kernel_rfl) (by simp) ?_
  refine AllReadyH.cons rfl (fun K hK => ?_) AllReadyH.nil
  go_simp
  have CE : Calls Tryd.prog 21 #[.agg q.cells.toArray, .agg (PageA.cells ⟨p.lsn, vs⟩).toArray] w14 fun e w' => e = .returned (.bool true) ∧ Below w14.heap.size w14 w' := by
    have e1 := HQ.out.1
    rw [← e1]
    exact eqPage_same q.lsn q.ss vs hq4 (by rw [HQ.out.2]; exact hv14.out) w14 (oq13.reads.below N14) ho14.reads (wide_of hqS)
  refine CE.mono ?_
  clear CE
  rintro e w15 ⟨rfl, hb15⟩
  have N15 : Below w13.heap.size w13 w15 := N14.trans (hb15.mono N14.size)
  have B15 : Below W.heap.size W w15 := B13.trans (N15.mono B13.size)
  refine hK.out _ _ ⟨HRG.out _ B15, HRQ.out _ N15⟩ (fun hHeld => ?_)
  clear hK K
  refine wpAnyH_take (i := 4) (v := .bool false) rfl (by kernel_rfl) (by kernel_rfl) (by kernel_rfl) (fun _ _ _ h => h) (Or.inl ⟨by rfl, ?_⟩) hHeld ?_
  · intro w' _; go_simp
  refine wpAnyH_done (by kernel_rfl) ?_ _
  clear hHeld hb14 hb15 ho14 hv14 N14 B14
  go_wp2_with fail
  refine wp_region_held_drew (S := fun w' => w'.rangeAt (w.heap.size + 1) 0 s.cells ∧ w'.rangeAt w9.heap.size 0 t.cells) (by kernel_rfl) ?_ (fun hHeld => ?_)
  · exact ⟨HRS.out _ B15.drew, HRT.out _ N15.drew⟩
  refine wpAnyH_take (i := 0) rfl (by kernel_rfl) (by kernel_rfl) (by kernel_rfl) (fun _ _ _ h => h) (yieldsIf_load_mid (by rfl) _ _ rfl _ _ rfl t.cells _ (fun _ h => h.2) hu4 rfl HIt.out) hHeld ?_
  go_simp
  refine wpAnyH_take (i := 1) rfl (by kernel_rfl) (by kernel_rfl) (by kernel_rfl) (fun _ _ _ h => h) (yieldsIf_load_mid (by rfl) _ _ rfl _ _ rfl s.cells _ (fun _ h => h.1) hu2 rfl HJ.out) hHeld ?_
  go_simp
  refine wpAnyH_ready (rs := [2]) (by kernel_rfl) (by simp) ?_
  refine AllReadyH.cons rfl (fun K hK => ?_) AllReadyH.nil
  go_simp
  refine (toSlot_own s _ (hRs _ B15.drew) hfs1 hfs2).mono ?_
  rintro e w16 ⟨t2, rfl, hv16, ho16, hb16⟩
  have N16 : Below w13.heap.size w13 w16 := N15.drew.trans (hb16.mono N15.size)
  have B16 : Below W.heap.size W w16 := B13.trans (N16.mono B13.size)
  refine hK.out _ _ ⟨HRS.out _ B16, HRT.out _ N16⟩ (fun hHeld => ?_)
  clear hK K
  refine wpAnyH_ready (rs := [3]) (by kernel_rfl) (by simp) ?_
  refine AllReadyH.cons rfl (fun K hK => ?_) AllReadyH.nil
  go_simp
  refine (eqSlot_same t t2 (hv16.out.trans hvt.out.symm) w16 (ReadsO.below (OwnO.reads ot13) N16) (OwnO.reads ho16) (hft t (List.mem_singleton.2 rfl)).1 (hft t (List.mem_singleton.2 rfl)).2).mono ?_
  rintro e w17 ⟨rfl, hb17⟩
  have N17 : Below w13.heap.size w13 w17 := N16.trans (hb17.mono N16.size)
  have B17 : Below W.heap.size W w17 := B13.trans (N17.mono B13.size)
  refine hK.out _ _ ⟨HRS.out _ B17, HRT.out _ N17⟩ (fun hHeld => ?_)
  clear hK K
  refine wpAnyH_take (i := 4) (v := .bool false) rfl (by kernel_rfl) (by kernel_rfl) (by kernel_rfl) (fun _ _ _ h => h) (Or.inl ⟨by rfl, ?_⟩) hHeld ?_
  · intro w' _; go_simp
  refine wpAnyH_done (by kernel_rfl) ?_ _
  have og17 := og13.below N17
  have ow17 := ow13.below N17
  have oq17 := oq13.below N17
  have ot17 : t.own w17 W8.heap.size w9.heap.size := OwnO.below ot13 N17
  have bw17 := bw13.below N17 bw13.lt
  have bg17 := bg13.below N17 bg13.lt
  have rq17 := HRQ.out _ N17
  have bt17 : Box w17 w9.heap.size t.cells 28 := by exact HBT.out _ N17
  have hs17 := N17.size
  clear hHeld hb16 hb17 ho16 hv16 N16 B16 og13 ow13 oq13 ot13 bw13 bg13 N15 B15
  go_wp2_with (first | (guard_target = wpList _ _ _ (Oper.mk (some 72) _ _ _ _ _ :: _) _ _; refine wpList_load_mid rfl 31 (.tmp 12) rfl w7.heap.size 0 rfl q.cells _ (rq17) Tryd.underlying31 rfl HIq.out ?_) | fail)
  clear rq17
  refine (markPage_touch q hq4 wc.heap.size w7.heap.size 1 w17 oq17 (wide_of hqS) (by omega) (by omega) (by omega)).mono ?_
  rintro e w18 ⟨rfl, _, ht18⟩
  have hw18 : Within wc.heap.size w7.heap.size w17 w18 := ht18.within oq17.blocks_lt
  have hs18 := hw18.size
  have og18 : OwnS w18 W10.heap.size w11.heap.size ag := og17.within hw18 (.inr (by omega))
  have ow18 : OwnS w18 w2.heap.size wc.heap.size aw := ow17.within hw18 (.inl (Nat.le_refl _))
  have ot18 : t.own w18 W8.heap.size w9.heap.size := OwnO.within ot17 hw18 (.inr (by omega))
  have bw18 := bw17.within hw18 (by omega)
  have bg18 := bg17.within hw18 (by omega)
  have bt18 := bt17.within hw18 (by omega)
  have B18 : Below W.heap.size W w18 := B17.trans (hw18.below hsc (by have := B17.size; omega))
  have hcq : countS q.ss ≤ 8388608 := by
    have h1 := countS_le q.ss 1048576 hqS
    rw [hq4] at h1
    omega
  clear ht18 hw18 og17 ow17 oq17 ot17 bw17 bg17 bt17
  generalize countS q.ss = cq at *
  have hft1 := hft t (List.mem_singleton.2 rfl)
  have C := markSlot_touch t W8.heap.size w9.heap.size (1 + (cq : Int)) w18 ot18 (by omega) hft1.1 hft1.2 (by omega)
  have HTB : Hid (∀ k ∈ t.blocks, W8.heap.size ≤ k ∧ k < w9.heap.size) := SlotA.blocks_lt ot18
  obtain ⟨x0, x1, x2, x3, _⟩ := Box.four (show Box w18 w9.heap.size [.bool t.v.has, .int .i64 t.v.o.kind, .slice t.aI t.v.o.ints.length t.cI, .slice t.aR t.v.o.refs.length t.cR] 28 from bt18)
  simp only [SlotA.cells] at C
  go_wp2_with fail
  refine C.mono ?_
  clear C x0 x1 x2 x3
  rintro e w19 ⟨rfl, _, ht19⟩
  have hw19 : Within W8.heap.size w9.heap.size w18 w19 := ht19.within HTB.out
  have hs19 := hw19.size
  have og19 : OwnS w19 W10.heap.size w11.heap.size ag := og18.within hw19 (.inr (by omega))
  have ow19 : OwnS w19 w2.heap.size wc.heap.size aw := ow18.within hw19 (.inl (by omega))
  have bw19 := bw18.within hw19 (by omega)
  have bg19 := bg18.within hw19 (by omega)
  have B19 : Below W.heap.size W w19 := B18.trans (hw19.below (by omega) (by have := B18.size; omega))
  clear ht19 hw19 og18 ow18 ot18 bw18 bg18 bt18
  have hnk : ¬ ((1 : Int) + (cq : Int) + (t.count : Int)) < 0 := by omega
  generalize t.count = ct at *
  have rg19 := Box.range [] (PageA.cells ⟨SO.1, ag⟩) [] (by simpa using bg19 : Box w19 w11.heap.size ([] ++ (PageA.cells ⟨SO.1, ag⟩ ++ [])) 31)
  have rw19 := Box.range [] (PageA.cells ⟨SO.1, aw⟩) [] (by simpa using bw19 : Box w19 Bw ([] ++ (PageA.cells ⟨SO.1, aw⟩ ++ [])) 31)
  go_wp2_with (first | (guard_target = wpList _ _ _ (Oper.mk (some 81) _ _ _ _ _ :: _) _ _; refine wpList_load_mid_if (by rfl) 31 (.tmp 14) rfl w11.heap.size 0 rfl (PageA.cells ⟨SO.1, ag⟩) _ (rg19) Tryd.underlying31 rfl HIg.out ?_) | (guard_target = wpList _ _ _ (Oper.mk (some 82) _ _ _ _ _ :: _) _ _; refine wpList_load_mid_if (by rfl) 31 (.tmp 10) rfl Bw 0 rfl (PageA.cells ⟨SO.1, aw⟩) _ (rw19) Tryd.underlying31 rfl HIw.out ?_) | fail)
  clear rg19 rw19
  refine (eqPage_same SO.1 ag aw hag4 (by rw [hva.out, hvg.out]) w19 og19.reads ow19.reads (wide_of hagS)).mono ?_
  rintro e w20 ⟨rfl, hb20⟩
  have hs20 := hb20.size
  have og20 := og19.below hb20
  have ow20 := ow19.below hb20
  have bw20 := bw19.below hb20 bw19.lt
  have bg20 := bg19.below hb20 bg19.lt
  have B20 : Below W.heap.size W w20 := B19.trans (hb20.mono B19.size)
  have rg20 := Box.range [] (PageA.cells ⟨SO.1, ag⟩) [] (by simpa using bg20 : Box w20 w11.heap.size ([] ++ (PageA.cells ⟨SO.1, ag⟩ ++ [])) 31)
  clear og19 ow19 bw19 bg19 hb20
  go_wp2_with (first | (guard_target = wpList _ _ _ (Oper.mk (some 91) _ _ _ _ _ :: _) _ _; refine wpList_load_mid rfl 31 (.tmp 14) rfl w11.heap.size 0 rfl (PageA.cells ⟨SO.1, ag⟩) _ (rg20) Tryd.underlying31 rfl HIg.out ?_) | fail)
  clear rg20
  refine (markPage_touch ⟨SO.1, ag⟩ hag4 W10.heap.size w11.heap.size 1 w20 og20 (wide_of hagS) (by omega) (by omega) (by omega)).mono ?_
  simp only
  rintro e w21 ⟨rfl, om21, ht21⟩
  have hw21 : Within W10.heap.size w11.heap.size w20 w21 := ht21.within og20.blocks_lt
  have hs21 := hw21.size
  have ow21 : OwnS w21 w2.heap.size wc.heap.size aw := ow20.within hw21 (.inl (by omega))
  have bw21 := bw20.within hw21 (by omega)
  have bg21 := bg20.within hw21 (by omega)
  have B21 : Below W.heap.size W w21 := B20.trans (hw21.below (by omega) (by have := B20.size; omega))
  have rg21 := Box.range [] (PageA.cells ⟨SO.1, ag⟩) [] (by simpa using bg21 : Box w21 w11.heap.size ([] ++ (PageA.cells ⟨SO.1, ag⟩ ++ [])) 31)
  clear ht21 hw21 og20 ow20 bw20 bg20
  go_wp2_with (first | (guard_target = wpList _ _ _ (Oper.mk (some 94) _ _ _ _ _ :: _) _ _; refine wpList_load_mid rfl 31 (.tmp 14) rfl w11.heap.size 0 rfl (PageA.cells ⟨SO.1, ag⟩) _ (rg21) Tryd.underlying31 rfl HIg.out ?_) | fail)
  clear rg21
  refine (heldPage_any ⟨SO.1, ag⟩ hag4 W10.heap.size w11.heap.size 1 w21 om21 (wide_of hagS) (by omega) (by omega)).mono ?_
  simp only
  rintro e w22 ⟨rfl, hb22⟩
  have hs22 := hb22.size
  have om22 := om21.below hb22
  have ow22 := ow21.below hb22
  have bw22 := bw21.below hb22 bw21.lt
  have bg22 := bg21.below hb22 bg21.lt
  have B22 : Below W.heap.size W w22 := B21.trans (hb22.mono B21.size)
  clear om21 ow21 bw21 bg21 hb22
  have hng : ¬ ((1 : Int) + (countS ag : Int)) < 0 := by omega
  generalize hcg : countS ag = cg at *
  have HCG : Hid (_ = _) := hcg
  clear hcg
  go_upto_region 31 with fail
  go_cut [19, 20] from 21 (fun a b wx => ∃ (Bx : Nat) (aw : List SlotA), a = .pointer (some ⟨Bx, 0, none⟩) ∧ b = .bool OK ∧ Hid (aw.map (·.v) = SO.2) ∧ Box wx Bx (PageA.cells ⟨SO.1, aw⟩) 31 ∧ OwnS wx w22.heap.size wx.heap.size aw ∧ Below w22.heap.size w22 wx)
  case first =>
    refine wp_region_held_drew (S := fun w' => w'.rangeAt w.heap.size 0 p.cells ∧ w'.rangeAt (w.heap.size + 1) 0 s.cells) (by kernel_rfl) ?_ (fun hHeld => ?_)
    · exact ⟨HRG.out _ B22.drew, HRS.out _ B22.drew⟩
    refine wpAnyH_take (i := 0) rfl (by kernel_rfl) (by kernel_rfl) (by kernel_rfl) (fun _ _ _ h => h) (yieldsIf_load_mid (by rfl) _ _ rfl _ _ rfl p.cells _ (fun _ h => h.1) hu1 rfl HI.out) hHeld ?_
    go_simp
    refine wpAnyH_take (i := 3) rfl (by kernel_rfl) (by kernel_rfl) (by kernel_rfl) (fun _ _ _ h => h) (yieldsIf_load_mid (by rfl) _ _ rfl _ _ rfl s.cells _ (fun _ h => h.2) hu2 rfl HJ.out) hHeld ?_
    go_simp
    refine wpAnyH_take (i := 2) (v := .int .i64 slot) rfl (by kernel_rfl) (by kernel_rfl) (by kernel_rfl) (fun _ _ _ h => h) (Or.inl ⟨by rfl, fun w' _ => ?_⟩) hHeld ?_
    · go_simp
    go_simp
    refine wpAnyH_take (i := 5) (v := .int .i64 lsn) rfl (by kernel_rfl) (by kernel_rfl) (by kernel_rfl) (fun _ _ _ h => h) (Or.inl ⟨by rfl, fun w' _ => ?_⟩) hHeld ?_
    · go_simp
    go_simp
    have D0 : Below w22.heap.size w22 w22.drew := (Below.refl _ _).drew
    refine wpAnyH_ready (rs := [1, 10]) (by kernel_rfl) (by simp) ?_
    refine AllReadyH.cons rfl (fun K hK => ?_) (AllReadyH.cons rfl (fun K hK => ?_) AllReadyH.nil)
    · go_simp
      refine (toPage_own p h4 _ (hRd _ (B22.trans (D0.mono B22.size))) hfp).mono ?_
      rintro e wa ⟨ts, rfl, hvt, hot, hba⟩
      have D1 : Below w22.heap.size w22 wa := D0.trans (hba.mono D0.size)
      refine hK.out _ _ ⟨HRG.out _ (B22.trans (D1.mono B22.size)), HRS.out _ (B22.trans (D1.mono B22.size))⟩ (fun hHeld => ?_)
      clear hK K
      refine wpAnyH_ready (rs := [4, 10]) (by kernel_rfl) (by simp) ?_
      refine AllReadyH.cons rfl (fun K hK => ?_) (AllReadyH.cons rfl (fun K hK => ?_) AllReadyH.nil)
      · go_simp
        refine (toSlot_own s _ (hRs _ (B22.trans (D1.mono B22.size))) hfs1 hfs2).mono ?_
        rintro e wb ⟨u, rfl, hvu, hou, hbb⟩
        have D2 : Below w22.heap.size w22 wb := D1.trans (hbb.mono D1.size)
        have hot := hot.below hbb
        refine hK.out _ _ ⟨HRG.out _ (B22.trans (D2.mono B22.size)), HRS.out _ (B22.trans (D2.mono B22.size))⟩ (fun hHeld => ?_)
        clear hK K
        refine wpAnyH_ready (rs := [6, 10]) (by kernel_rfl) (by simp) ?_
        refine AllReadyH.cons rfl (fun K hK => ?_) (AllReadyH.cons rfl (fun K hK => ?_) AllReadyH.nil)
        · go_simp
          refine (implSetSlot_any ⟨p.lsn, ts⟩ (map_len4 hvt.out h4) slot u lsn _ (hgB _ (B22.trans (D2.mono B22.size))) hot.reads (wide_of (small_of hvt.out hl)) hou.reads (fit_same hvu.out hfs)).mono ?_
          simp only [hvt.out, hvu.out, HSO.out, HOK.out]
          rintro e wc5 ⟨aw, rfl, hva, hoa, hbc⟩
          have D3 : Below w22.heap.size w22 wc5 := D2.trans (hbc.mono D2.size)
          refine hK.out _ _ ⟨HRG.out _ (B22.trans (D3.mono B22.size)), HRS.out _ (B22.trans (D3.mono B22.size))⟩ (fun hHeld => ?_)
          clear hK K
          refine wpAnyH_take (i := 7) (v := .tuple #[.agg (PageA.cells ⟨SO.1, aw⟩).toArray, .bool OK]) rfl (by kernel_rfl) (by kernel_rfl) (by kernel_rfl) (fun _ _ _ h => h) (Or.inl ⟨by rfl, fun w' _ => ?_⟩) hHeld ?_
          · go_simp
          go_simp
          refine wpAnyH_take (i := 8) (v := .agg (PageA.cells ⟨SO.1, aw⟩).toArray) rfl (by kernel_rfl) (by kernel_rfl) (by kernel_rfl) (fun _ _ _ h => h) (Or.inl ⟨by rfl, fun w' _ => ?_⟩) hHeld ?_
          · go_simp
          go_simp
          refine wpAnyH_take (i := 9) (v := .bool OK) rfl (by kernel_rfl) (by kernel_rfl) (by kernel_rfl) (fun _ _ _ h => h) (Or.inl ⟨by rfl, fun w' _ => ?_⟩) hHeld ?_
          · go_simp
          go_simp
          refine wpAnyH_ready (rs := [10]) (by kernel_rfl) (by simp) ?_
          refine AllReadyH.cons rfl (fun K hK => ?_) AllReadyH.nil
          go_simp
          obtain ⟨WA, hWA, bA, hbA, hsA⟩ := boxes1 wc5 [.int .i64 0, .bool false, .int .i64 0, .slice none 0 0, .slice none 0 0, .bool false, .int .i64 0, .slice none 0 0, .slice none 0 0, .bool false, .int .i64 0, .slice none 0 0, .slice none 0 0, .bool false, .int .i64 0, .slice none 0 0, .slice none 0 0] 31
          rw [hWA.out]
          have hbA' : Below wc5.heap.size wc5 WA := hbA
          have DA : Below w22.heap.size w22 WA := D3.trans (hbA'.mono D3.size)
          refine hK.out _ _ ⟨HRG.out _ (B22.trans (DA.mono B22.size)), HRS.out _ (B22.trans (DA.mono B22.size))⟩ (fun hHeld => ?_)
          clear hK K hWA
          have hoa' : OwnS WA w22.heap.size wc5.heap.size aw := (hoa.below hbA').widen (Below.size D2) (Nat.le_refl _) (by have := hbA'.size; omega)
          obtain ⟨WF, hWF, hwF, hsF, HTF, _, bF⟩ := page_out (C := wc5.heap.size) (T := 31) ⟨SO.1, aw⟩ (by have := congrArg List.length hva.out; simp only [List.length_map] at this; rw [this]; exact HSL.out) [.int .i64 0, .bool false, .int .i64 0, .slice none 0 0, .slice none 0 0, .bool false, .int .i64 0, .slice none 0 0, .slice none 0 0, .bool false, .int .i64 0, .slice none 0 0, .slice none 0 0, .bool false, .int .i64 0, .slice none 0 0, .slice none 0 0] rfl bA Tryd.underlying31 rfl (by kernel_rfl)
          refine wpAnyH_ready (rs := [11]) (by kernel_rfl) (by simp) ?_
          refine AllReadyH.cons rfl (fun K hK => ?_) AllReadyH.nil
          rw [if_pos (by rfl)]
          refine wp_store_mid 31 (.tmp 19) (.tmp 110) rfl wc5.heap.size 0 (PageA.cells ⟨SO.1, aw⟩).toArray rfl rfl HTF.out (by rw [List.size_toArray, page_len _ (by have := congrArg List.length hva.out; simp only [List.length_map] at this; rw [this]; exact HSL.out)]; kernel_rfl) (all_oneCell_toArray (oneP _)) ?_
          go_simp
          rw [hWF.out]
          have DF : Below w22.heap.size w22 WF := DA.trans (hwF.below (Below.size D3) (by have := DA.size; omega))
          refine hK.out _ _ ⟨HRG.out _ (B22.trans (DF.mono B22.size)), HRS.out _ (B22.trans (DF.mono B22.size))⟩ (fun hHeld => ?_)
          clear hK K
          refine wpAnyH_take (i := 12) (v := .bool OK) rfl (by kernel_rfl) (by kernel_rfl) (by kernel_rfl) (fun _ _ _ h => h) (Or.inl ⟨by rfl, fun w' _ => ?_⟩) hHeld ?_
          · go_simp
          go_simp
          refine wpAnyH_done (by kernel_rfl) ?_ _
          have HOF : OwnS WF w22.heap.size WF.heap.size aw := (((hoa.below hbA')).within hwF (.inl (Nat.le_refl _))).widen (Below.size D2) (by have := hwF.size; have := hbA'.size; omega) (Nat.le_refl _)
          clear hwF hsF HTF hWF hoa' hHeld
          go_wp2_with fail
          go_meet
          case rel => exact ⟨wc5.heap.size, aw, rfl, rfl, hva, bF, HOF, DF⟩
        · go_simp
          obtain ⟨WA, hWA, bA, hbA, hsA⟩ := boxes1 wb [.int .i64 0, .bool false, .int .i64 0, .slice none 0 0, .slice none 0 0, .bool false, .int .i64 0, .slice none 0 0, .slice none 0 0, .bool false, .int .i64 0, .slice none 0 0, .slice none 0 0, .bool false, .int .i64 0, .slice none 0 0, .slice none 0 0] 31
          rw [hWA.out]
          have hbA' : Below wb.heap.size wb WA := hbA
          have DA : Below w22.heap.size w22 WA := D2.trans (hbA'.mono D2.size)
          have hot := hot.below hbA'
          have hou := OwnO.below hou hbA'
          refine hK.out _ _ ⟨HRG.out _ (B22.trans (DA.mono B22.size)), HRS.out _ (B22.trans (DA.mono B22.size))⟩ (fun hHeld => ?_)
          clear hK K hWA
          refine wpAnyH_ready (rs := [6]) (by kernel_rfl) (by simp) ?_
          refine AllReadyH.cons rfl (fun K hK => ?_) AllReadyH.nil
          go_simp
          refine (implSetSlot_any ⟨p.lsn, ts⟩ (map_len4 hvt.out h4) slot u lsn _ (hgB _ (B22.trans (DA.mono B22.size))) hot.reads (wide_of (small_of hvt.out hl)) hou.reads (fit_same hvu.out hfs)).mono ?_
          simp only [hvt.out, hvu.out, HSO.out, HOK.out]
          rintro e wc5 ⟨aw, rfl, hva, hoa, hbc⟩
          have D3 : Below w22.heap.size w22 wc5 := DA.trans (hbc.mono DA.size)
          have bA := bA.below hbc bA.lt
          refine hK.out _ _ ⟨HRG.out _ (B22.trans (D3.mono B22.size)), HRS.out _ (B22.trans (D3.mono B22.size))⟩ (fun hHeld => ?_)
          clear hK K
          refine wpAnyH_take (i := 7) (v := .tuple #[.agg (PageA.cells ⟨SO.1, aw⟩).toArray, .bool OK]) rfl (by kernel_rfl) (by kernel_rfl) (by kernel_rfl) (fun _ _ _ h => h) (Or.inl ⟨by rfl, fun w' _ => ?_⟩) hHeld ?_
          · go_simp
          go_simp
          refine wpAnyH_take (i := 8) (v := .agg (PageA.cells ⟨SO.1, aw⟩).toArray) rfl (by kernel_rfl) (by kernel_rfl) (by kernel_rfl) (fun _ _ _ h => h) (Or.inl ⟨by rfl, fun w' _ => ?_⟩) hHeld ?_
          · go_simp
          go_simp
          refine wpAnyH_take (i := 9) (v := .bool OK) rfl (by kernel_rfl) (by kernel_rfl) (by kernel_rfl) (fun _ _ _ h => h) (Or.inl ⟨by rfl, fun w' _ => ?_⟩) hHeld ?_
          · go_simp
          go_simp
          have hoa' : OwnS wc5 w22.heap.size wc5.heap.size aw := hoa.widen (Below.size DA) (Nat.le_refl _) (Nat.le_refl _)
          obtain ⟨WF, hWF, hwF, hsF, HTF, _, bF⟩ := page_out (C := wb.heap.size) (T := 31) ⟨SO.1, aw⟩ (by have := congrArg List.length hva.out; simp only [List.length_map] at this; rw [this]; exact HSL.out) [.int .i64 0, .bool false, .int .i64 0, .slice none 0 0, .slice none 0 0, .bool false, .int .i64 0, .slice none 0 0, .slice none 0 0, .bool false, .int .i64 0, .slice none 0 0, .slice none 0 0, .bool false, .int .i64 0, .slice none 0 0, .slice none 0 0] rfl bA Tryd.underlying31 rfl (by kernel_rfl)
          refine wpAnyH_ready (rs := [11]) (by kernel_rfl) (by simp) ?_
          refine AllReadyH.cons rfl (fun K hK => ?_) AllReadyH.nil
          rw [if_pos (by rfl)]
          refine wp_store_mid 31 (.tmp 19) (.tmp 110) rfl wb.heap.size 0 (PageA.cells ⟨SO.1, aw⟩).toArray rfl rfl HTF.out (by rw [List.size_toArray, page_len _ (by have := congrArg List.length hva.out; simp only [List.length_map] at this; rw [this]; exact HSL.out)]; kernel_rfl) (all_oneCell_toArray (oneP _)) ?_
          go_simp
          rw [hWF.out]
          have DF : Below w22.heap.size w22 WF := D3.trans (hwF.below (Below.size D2) (by have := D3.size; omega))
          refine hK.out _ _ ⟨HRG.out _ (B22.trans (DF.mono B22.size)), HRS.out _ (B22.trans (DF.mono B22.size))⟩ (fun hHeld => ?_)
          clear hK K
          refine wpAnyH_take (i := 12) (v := .bool OK) rfl (by kernel_rfl) (by kernel_rfl) (by kernel_rfl) (fun _ _ _ h => h) (Or.inl ⟨by rfl, fun w' _ => ?_⟩) hHeld ?_
          · go_simp
          go_simp
          refine wpAnyH_done (by kernel_rfl) ?_ _
          have HOF : OwnS WF w22.heap.size WF.heap.size aw := ((hoa).within hwF (.inr (by have := hsA; omega))).widen (Below.size DA) (by have := hwF.size; omega) (Nat.le_refl _)
          clear hwF hsF HTF hWF hoa' hHeld
          go_wp2_with fail
          go_meet
          case rel => exact ⟨wb.heap.size, aw, rfl, rfl, hva, bF, HOF, DF⟩
      · go_simp
        obtain ⟨WA, hWA, bA, hbA, hsA⟩ := boxes1 wa [.int .i64 0, .bool false, .int .i64 0, .slice none 0 0, .slice none 0 0, .bool false, .int .i64 0, .slice none 0 0, .slice none 0 0, .bool false, .int .i64 0, .slice none 0 0, .slice none 0 0, .bool false, .int .i64 0, .slice none 0 0, .slice none 0 0] 31
        rw [hWA.out]
        have hbA' : Below wa.heap.size wa WA := hbA
        have DA : Below w22.heap.size w22 WA := D1.trans (hbA'.mono D1.size)
        have hot := hot.below hbA'
        refine hK.out _ _ ⟨HRG.out _ (B22.trans (DA.mono B22.size)), HRS.out _ (B22.trans (DA.mono B22.size))⟩ (fun hHeld => ?_)
        clear hK K hWA
        refine wpAnyH_ready (rs := [4]) (by kernel_rfl) (by simp) ?_
        refine AllReadyH.cons rfl (fun K hK => ?_) AllReadyH.nil
        go_simp
        refine (toSlot_own s _ (hRs _ (B22.trans (DA.mono B22.size))) hfs1 hfs2).mono ?_
        rintro e wb ⟨u, rfl, hvu, hou, hbb⟩
        have D2 : Below w22.heap.size w22 wb := DA.trans (hbb.mono DA.size)
        have bA := bA.below hbb bA.lt
        have hot := hot.below hbb
        refine hK.out _ _ ⟨HRG.out _ (B22.trans (D2.mono B22.size)), HRS.out _ (B22.trans (D2.mono B22.size))⟩ (fun hHeld => ?_)
        clear hK K
        refine wpAnyH_ready (rs := [6]) (by kernel_rfl) (by simp) ?_
        refine AllReadyH.cons rfl (fun K hK => ?_) AllReadyH.nil
        go_simp
        refine (implSetSlot_any ⟨p.lsn, ts⟩ (map_len4 hvt.out h4) slot u lsn _ (hgB _ (B22.trans (D2.mono B22.size))) hot.reads (wide_of (small_of hvt.out hl)) hou.reads (fit_same hvu.out hfs)).mono ?_
        simp only [hvt.out, hvu.out, HSO.out, HOK.out]
        rintro e wc5 ⟨aw, rfl, hva, hoa, hbc⟩
        have D3 : Below w22.heap.size w22 wc5 := D2.trans (hbc.mono D2.size)
        have bA := bA.below hbc bA.lt
        refine hK.out _ _ ⟨HRG.out _ (B22.trans (D3.mono B22.size)), HRS.out _ (B22.trans (D3.mono B22.size))⟩ (fun hHeld => ?_)
        clear hK K
        refine wpAnyH_take (i := 7) (v := .tuple #[.agg (PageA.cells ⟨SO.1, aw⟩).toArray, .bool OK]) rfl (by kernel_rfl) (by kernel_rfl) (by kernel_rfl) (fun _ _ _ h => h) (Or.inl ⟨by rfl, fun w' _ => ?_⟩) hHeld ?_
        · go_simp
        go_simp
        refine wpAnyH_take (i := 8) (v := .agg (PageA.cells ⟨SO.1, aw⟩).toArray) rfl (by kernel_rfl) (by kernel_rfl) (by kernel_rfl) (fun _ _ _ h => h) (Or.inl ⟨by rfl, fun w' _ => ?_⟩) hHeld ?_
        · go_simp
        go_simp
        refine wpAnyH_take (i := 9) (v := .bool OK) rfl (by kernel_rfl) (by kernel_rfl) (by kernel_rfl) (fun _ _ _ h => h) (Or.inl ⟨by rfl, fun w' _ => ?_⟩) hHeld ?_
        · go_simp
        go_simp
        have hoa' : OwnS wc5 w22.heap.size wc5.heap.size aw := hoa.widen (Below.size D2) (Nat.le_refl _) (Nat.le_refl _)
        obtain ⟨WF, hWF, hwF, hsF, HTF, _, bF⟩ := page_out (C := wa.heap.size) (T := 31) ⟨SO.1, aw⟩ (by have := congrArg List.length hva.out; simp only [List.length_map] at this; rw [this]; exact HSL.out) [.int .i64 0, .bool false, .int .i64 0, .slice none 0 0, .slice none 0 0, .bool false, .int .i64 0, .slice none 0 0, .slice none 0 0, .bool false, .int .i64 0, .slice none 0 0, .slice none 0 0, .bool false, .int .i64 0, .slice none 0 0, .slice none 0 0] rfl bA Tryd.underlying31 rfl (by kernel_rfl)
        refine wpAnyH_ready (rs := [11]) (by kernel_rfl) (by simp) ?_
        refine AllReadyH.cons rfl (fun K hK => ?_) AllReadyH.nil
        rw [if_pos (by rfl)]
        refine wp_store_mid 31 (.tmp 19) (.tmp 110) rfl wa.heap.size 0 (PageA.cells ⟨SO.1, aw⟩).toArray rfl rfl HTF.out (by rw [List.size_toArray, page_len _ (by have := congrArg List.length hva.out; simp only [List.length_map] at this; rw [this]; exact HSL.out)]; kernel_rfl) (all_oneCell_toArray (oneP _)) ?_
        go_simp
        rw [hWF.out]
        have DF : Below w22.heap.size w22 WF := D3.trans (hwF.below (Below.size D1) (by have := D3.size; omega))
        refine hK.out _ _ ⟨HRG.out _ (B22.trans (DF.mono B22.size)), HRS.out _ (B22.trans (DF.mono B22.size))⟩ (fun hHeld => ?_)
        clear hK K
        refine wpAnyH_take (i := 12) (v := .bool OK) rfl (by kernel_rfl) (by kernel_rfl) (by kernel_rfl) (fun _ _ _ h => h) (Or.inl ⟨by rfl, fun w' _ => ?_⟩) hHeld ?_
        · go_simp
        go_simp
        refine wpAnyH_done (by kernel_rfl) ?_ _
        have HOF : OwnS WF w22.heap.size WF.heap.size aw := ((hoa).within hwF (.inr (by have := hsA; have := hbb.size; omega))).widen (Below.size D2) (by have := hwF.size; omega) (Nat.le_refl _)
        clear hwF hsF HTF hWF hoa' hHeld
        go_wp2_with fail
        go_meet
        case rel => exact ⟨wa.heap.size, aw, rfl, rfl, hva, bF, HOF, DF⟩
    · go_simp
      obtain ⟨WA, hWA, bA, hbA, hsA⟩ := boxes1_drew w22 [.int .i64 0, .bool false, .int .i64 0, .slice none 0 0, .slice none 0 0, .bool false, .int .i64 0, .slice none 0 0, .slice none 0 0, .bool false, .int .i64 0, .slice none 0 0, .slice none 0 0, .bool false, .int .i64 0, .slice none 0 0, .slice none 0 0] 31
      rw [hWA.out]
      have hbA' : Below w22.drew.heap.size w22.drew WA := hbA
      have DA : Below w22.heap.size w22 WA := D0.trans (hbA'.mono D0.size)
      refine hK.out _ _ ⟨HRG.out _ (B22.trans (DA.mono B22.size)), HRS.out _ (B22.trans (DA.mono B22.size))⟩ (fun hHeld => ?_)
      clear hK K hWA
      refine wpAnyH_ready (rs := [1]) (by kernel_rfl) (by simp) ?_
      refine AllReadyH.cons rfl (fun K hK => ?_) AllReadyH.nil
      go_simp
      refine (toPage_own p h4 _ (hRd _ (B22.trans (DA.mono B22.size))) hfp).mono ?_
      rintro e wa ⟨ts, rfl, hvt, hot, hba⟩
      have D1 : Below w22.heap.size w22 wa := DA.trans (hba.mono DA.size)
      have bA := bA.below hba bA.lt
      refine hK.out _ _ ⟨HRG.out _ (B22.trans (D1.mono B22.size)), HRS.out _ (B22.trans (D1.mono B22.size))⟩ (fun hHeld => ?_)
      clear hK K
      refine wpAnyH_ready (rs := [4]) (by kernel_rfl) (by simp) ?_
      refine AllReadyH.cons rfl (fun K hK => ?_) AllReadyH.nil
      go_simp
      refine (toSlot_own s _ (hRs _ (B22.trans (D1.mono B22.size))) hfs1 hfs2).mono ?_
      rintro e wb ⟨u, rfl, hvu, hou, hbb⟩
      have D2 : Below w22.heap.size w22 wb := D1.trans (hbb.mono D1.size)
      have bA := bA.below hbb bA.lt
      have hot := hot.below hbb
      refine hK.out _ _ ⟨HRG.out _ (B22.trans (D2.mono B22.size)), HRS.out _ (B22.trans (D2.mono B22.size))⟩ (fun hHeld => ?_)
      clear hK K
      refine wpAnyH_ready (rs := [6]) (by kernel_rfl) (by simp) ?_
      refine AllReadyH.cons rfl (fun K hK => ?_) AllReadyH.nil
      go_simp
      refine (implSetSlot_any ⟨p.lsn, ts⟩ (map_len4 hvt.out h4) slot u lsn _ (hgB _ (B22.trans (D2.mono B22.size))) hot.reads (wide_of (small_of hvt.out hl)) hou.reads (fit_same hvu.out hfs)).mono ?_
      simp only [hvt.out, hvu.out, HSO.out, HOK.out]
      rintro e wc5 ⟨aw, rfl, hva, hoa, hbc⟩
      have D3 : Below w22.heap.size w22 wc5 := D2.trans (hbc.mono D2.size)
      have bA := bA.below hbc bA.lt
      refine hK.out _ _ ⟨HRG.out _ (B22.trans (D3.mono B22.size)), HRS.out _ (B22.trans (D3.mono B22.size))⟩ (fun hHeld => ?_)
      clear hK K
      refine wpAnyH_take (i := 7) (v := .tuple #[.agg (PageA.cells ⟨SO.1, aw⟩).toArray, .bool OK]) rfl (by kernel_rfl) (by kernel_rfl) (by kernel_rfl) (fun _ _ _ h => h) (Or.inl ⟨by rfl, fun w' _ => ?_⟩) hHeld ?_
      · go_simp
      go_simp
      refine wpAnyH_take (i := 8) (v := .agg (PageA.cells ⟨SO.1, aw⟩).toArray) rfl (by kernel_rfl) (by kernel_rfl) (by kernel_rfl) (fun _ _ _ h => h) (Or.inl ⟨by rfl, fun w' _ => ?_⟩) hHeld ?_
      · go_simp
      go_simp
      refine wpAnyH_take (i := 9) (v := .bool OK) rfl (by kernel_rfl) (by kernel_rfl) (by kernel_rfl) (fun _ _ _ h => h) (Or.inl ⟨by rfl, fun w' _ => ?_⟩) hHeld ?_
      · go_simp
      go_simp
      have hoa' : OwnS wc5 w22.heap.size wc5.heap.size aw := hoa.widen (Below.size D2) (Nat.le_refl _) (Nat.le_refl _)
      obtain ⟨WF, hWF, hwF, hsF, HTF, _, bF⟩ := page_out (C := w22.heap.size) (T := 31) ⟨SO.1, aw⟩ (by have := congrArg List.length hva.out; simp only [List.length_map] at this; rw [this]; exact HSL.out) [.int .i64 0, .bool false, .int .i64 0, .slice none 0 0, .slice none 0 0, .bool false, .int .i64 0, .slice none 0 0, .slice none 0 0, .bool false, .int .i64 0, .slice none 0 0, .slice none 0 0, .bool false, .int .i64 0, .slice none 0 0, .slice none 0 0] rfl bA Tryd.underlying31 rfl (by kernel_rfl)
      refine wpAnyH_ready (rs := [11]) (by kernel_rfl) (by simp) ?_
      refine AllReadyH.cons rfl (fun K hK => ?_) AllReadyH.nil
      rw [if_pos (by rfl)]
      refine wp_store_mid 31 (.tmp 19) (.tmp 110) rfl w22.heap.size 0 (PageA.cells ⟨SO.1, aw⟩).toArray rfl rfl HTF.out (by rw [List.size_toArray, page_len _ (by have := congrArg List.length hva.out; simp only [List.length_map] at this; rw [this]; exact HSL.out)]; kernel_rfl) (all_oneCell_toArray (oneP _)) ?_
      go_simp
      rw [hWF.out]
      have DF : Below w22.heap.size w22 WF := D3.trans (hwF.below (Nat.le_refl _) (by have := D3.size; omega))
      refine hK.out _ _ ⟨HRG.out _ (B22.trans (DF.mono B22.size)), HRS.out _ (B22.trans (DF.mono B22.size))⟩ (fun hHeld => ?_)
      clear hK K
      refine wpAnyH_take (i := 12) (v := .bool OK) rfl (by kernel_rfl) (by kernel_rfl) (by kernel_rfl) (fun _ _ _ h => h) (Or.inl ⟨by rfl, fun w' _ => ?_⟩) hHeld ?_
      · go_simp
      go_simp
      refine wpAnyH_done (by kernel_rfl) ?_ _
      have HOF : OwnS WF w22.heap.size WF.heap.size aw := ((hoa).within hwF (.inr (by have := Below.size D1; have := hsA; have := hbb.size; have := hba.size; omega))).widen (Below.size D2) (by have := hwF.size; omega) (Nat.le_refl _)
      clear hwF hsF HTF hWF hoa' hHeld
      go_wp2_with fail
      go_meet
      case rel => exact ⟨w22.heap.size, aw, rfl, rfl, hva, bF, HOF, DF⟩
  case rest =>
  obtain ⟨Bh, ah, rfl, rfl, hvh, bh0, oh0, hbh⟩ := hcut
  have hah4 : ah.length = 4 := by have := congrArg List.length hvh.out; simp only [List.length_map] at this; rw [this]; exact HSL.out
  have hahS : ∀ x ∈ ah, x.v.o.ints.length ≤ 1048576 ∧ x.v.o.refs.length ≤ 1048576 := fun x hx => HSML.out _ (by rw [← hvh.out]; exact List.mem_map.2 ⟨x, hx, rfl⟩)
  have HIh : Hid ((Tryd.prog.info? 31).map (·.size) = some (PageA.cells ⟨SO.1, ah⟩).length) := by rw [Hid, page_len _ hah4]; kernel_rfl
  have ow23 := ow22.below hbh
  have om23 := om22.below hbh
  have bw23 := bw22.below hbh bw22.lt
  have bg23 := bg22.below hbh bg22.lt
  have B23 : Below W.heap.size W wc := B22.trans (hbh.mono B22.size)
  have rh23 := Box.range [] (PageA.cells ⟨SO.1, ah⟩) [] (by simpa using bh0 : Box wc Bh ([] ++ (PageA.cells ⟨SO.1, ah⟩ ++ [])) 31)
  have rw23 := Box.range [] (PageA.cells ⟨SO.1, aw⟩) [] (by simpa using bw23 : Box wc Bw ([] ++ (PageA.cells ⟨SO.1, aw⟩ ++ [])) 31)
  go_wp2_with (first | (guard_target = wpList _ _ _ (Oper.mk (some 112) _ _ _ _ _ :: _) _ _; refine wpList_load_mid rfl 31 (.tmp 19) rfl Bh 0 rfl (PageA.cells ⟨SO.1, ah⟩) _ (rh23) Tryd.underlying31 rfl HIh.out ?_) | (guard_target = wpList _ _ _ (Oper.mk (some 113) _ _ _ _ _ :: _) _ _; refine wpList_load_mid rfl 31 (.tmp 10) rfl Bw 0 rfl (PageA.cells ⟨SO.1, aw⟩) _ (rw23) Tryd.underlying31 rfl HIw.out ?_) | fail)
  clear rh23 rw23
  refine (eqPage_same SO.1 ah aw hah4 (by rw [hva.out, hvh.out]) wc oh0.reads ow23.reads (wide_of hahS)).mono ?_
  rintro e w24 ⟨rfl, hb24⟩
  have om24 := om23.below hb24
  have bg24 := bg23.below hb24 bg23.lt
  have B24 : Below W.heap.size W w24 := B23.trans (hb24.mono B23.size)
  have rg24 := Box.range [] (PageA.cells ⟨SO.1, ag⟩) [] (by simpa using bg24 : Box w24 w11.heap.size ([] ++ (PageA.cells ⟨SO.1, ag⟩ ++ [])) 31)
  go_wp2_with (first | (guard_target = wpList _ _ _ (Oper.mk (some 121) _ _ _ _ _ :: _) _ _; refine wpList_load_mid rfl 31 (.tmp 14) rfl w11.heap.size 0 rfl (PageA.cells ⟨SO.1, ag⟩) _ (rg24) Tryd.underlying31 rfl HIg.out ?_) | fail)
  clear rg24
  refine (heldPage_any ⟨SO.1, ag⟩ hag4 W10.heap.size w11.heap.size 1 w24 om24 (wide_of hagS) (by omega) (by omega)).mono ?_
  simp only [HCG.out]
  rintro e w25 ⟨rfl, hb25⟩
  go_wp2
  go_ret
  exact ⟨rfl, hbW.trans ((B24.trans (hb25.mono B24.size)).mono hbW.size)⟩
end Go.Proofs.YtbaocehcnjdkkaaDoor

/- What the row's condition on errors.errorType gives a walk; a world that meets it. -/
namespace Go.Proofs.YtbaocehcnjdkkaaDoor
open Go.ChangeShapes Go.WideShapes Go.RowKit

theorem Tryd.et : Tryd.prog.globalNamed "errors.errorType" = some 0 := by kernel_rfl
theorem Tryd.rt : (Tryd.prog.cutTypes.find? (·.1 == "internal/reflectlite.rtype")).map (·.2) = some 154 := by kernel_rfl
theorem Tryd.oneRow : ((List.range 196).filter fun t => Tryd.prog.rowNamed t [101, 114, 114, 111, 114]) = [123] := by kernel_rfl
theorem Tryd.typesSize : Tryd.prog.types.size = 196 := by kernel_rfl

theorem errT_of_handles {W : World} {laid : List (String × DataW Unit)} (hm : ("errors.errorType", Rows.laid_errors_errorType) ∈ laid) (h : handlesMet Tryd.prog laid W) : ErrT W := by
  obtain ⟨name, u, ty, e1, e2, e3, e4, e5⟩ := h _ hm
  have en : name = [101, 114, 114, 111, 114] := (Option.some.inj e1).symm
  subst en
  obtain rfl := Option.some.inj (Tryd.rt.symm.trans e2)
  have hm : ty ∈ (List.range 196).filter fun t => Tryd.prog.rowNamed t [101, 114, 114, 111, 114] := List.mem_filter.2 ⟨List.mem_range.2 (by rw [← Tryd.typesSize]; exact e3), e4⟩
  rw [Tryd.oneRow] at hm
  obtain rfl := List.mem_singleton.1 hm
  have hh : typeHandle Tryd.prog 123 = .pointer (some ⟨1, 123, none⟩) := by kernel_rfl
  rw [hh] at e5
  unfold ErrT
  simpa using World.var?_cell Tryd.et e5 0

/-- The one listed variable. -/
def laid1 : List (String × DataW Unit) := [("errors.errorType", Rows.laid_errors_errorType)]
theorem errT_of_laid1 {W : World} (h : laidMetH Tryd.prog laid1 W) : ErrT W := by
  have h' : laidMet Tryd.prog [] W ∧ handlesMet Tryd.prog laid1 W := h
  exact errT_of_handles (List.mem_singleton.2 rfl) h'.2
end Go.Proofs.YtbaocehcnjdkkaaDoor
