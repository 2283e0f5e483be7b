/- Several texts in one, in their order. -/
import Derived.Test.YtjaojcgfgkppgaaGreatDoorPart13
import Derived.Test.YtjaojcgfgkppgaaGreatDoorPart12
import Derived.Test.YtjaojcgfgkppgaaGreatDoorPart8
import Derived.Test.YtjaojcgfgkppgaaGreatDoorPart9
import Derived.Test.YtjaojcgfgkppgaaGreatDoorPart10
import Derived.Test.YtjaojcgfgkppgaaGreatDoorPart11
import Derived.Deep.CutRange
import Derived.Test.YtjaojcgfgkppgaaGreatDoorRows
import Derived.LaidLaws
import Derived.LaidHandle
import Derived.Stop.Joined
import Derived.ChangeVars
/- The walk of laws.FnExactRedo. -/
namespace Go.Proofs.YtjaojcgfgkppgaaGreatDoor
open Go.RowKit

theorem lrec_info' (q : RecA) : (Tryz.prog.info? 47).map (·.size) = some q.cells.length := by show _ = some 15; kernel_rfl
theorem lpage_info (q : PageA) (h : q.ss.length = 4) : (Tryz.prog.info? 44).map (·.size) = some q.cells.length := by rw [page_len q h]; kernel_rfl
/-- A page that the answer is: this number, these slots. -/
def PageAns (w w' : World) (RO : Int × List SlotV) (RK : Bool) (e : Ending) : Prop := ∃ ts : List SlotA, e = .returned (.tuple #[.agg (PageA.cells ⟨RO.1, ts⟩).toArray, .bool RK]) ∧ Hid (ts.map (·.v) = RO.2) ∧ OwnS w' w.heap.size w'.heap.size ts ∧ Below w.heap.size w w'
theorem page_len' {ts : List SlotA} {vs : List SlotV} (h : ts.map (·.v) = vs) (h4 : vs.length = 4) : ts.length = 4 := by have := congrArg List.length h; rw [List.length_map, h4] at this; exact this

set_option maxHeartbeats 8000000 in
set_option maxRecDepth 100000 in
theorem lawRedo_walk (p : PageA) (h4 : p.ss.length = 4) (r : RecA) (w : World) (hg : ErrT w) (hinP : ∀ s ∈ p.ss, InSlot w s) (hin : InRec w r) :
    Calls Tryz.prog 4 #[.agg p.cells.toArray, .agg r.cells.toArray] w fun e w' => e = .returned (.bool true) ∧ Below w.heap.size w w' := by
  obtain ⟨W, hW, bx2, bx3, hbW, hsW⟩ := boxes2 w p.cells r.cells 44 47
  have hsm : Small p.ss := fun s hs => by have h1 := (hinP s hs).lI; have h2 := (hinP s hs).lR; simp only [maxLen] at h1 h2; omega
  have hrd : ReadsS w p.ss := fun s hs => (hinP s hs).reads
  have hRp : ∀ u, Below W.heap.size W u → ReadsS u p.ss := fun u hh => hrd.below (hbW.trans (hh.mono hbW.size))
  have hRd : ∀ u, Below W.heap.size W u → r.reads u := fun u hh => hin.reads.below (hbW.trans (hh.mono hbW.size))
  have hgB : ∀ u, Below W.heap.size W u → ErrT u := fun u hh => hg.keep (hbW.trans (hh.mono hbW.size))
  have BW : Below W.heap.size W W := Below.refl _ _
  have HSH : Hid (_) := hin.short
  have HLEN : Hid ((redoOf p.lsn (p.ss.map (·.v)) r.v).2.length = 4) := by rw [Hid]; unfold redoOf; split <;> simp [h4]
  have HSP : Hid (∀ (ts : List SlotA) (u : RecA) (x : World), ts.map (·.v) = p.ss.map (·.v) → u.v = r.v → ReadsS x ts → Fit ts → u.reads x → u.short 1099511627776 → Calls Tryz.prog 15 #[.agg (PageA.cells ⟨p.lsn, ts⟩).toArray, .agg u.cells.toArray] x fun e x' => PageAns x x' (redoOf p.lsn (p.ss.map (·.v)) r.v) (redoOk p.lsn (p.ss.map (·.v)) r.v) e) := fun ts u x h1 h2 a b c d => by
    have := specRedo_any ⟨p.lsn, ts⟩ (map_len4 h1 h4) u x a b c d
    simp only [h1, h2] at this
    exact this
  have HIM : Hid (∀ (ts : List SlotA) (u : RecA) (x : World), ErrT x → ts.map (·.v) = p.ss.map (·.v) → u.v = r.v → ReadsS x ts → Fit ts → u.reads x → u.short 1099511627776 → Calls Tryz.prog 18 #[.agg (PageA.cells ⟨p.lsn, ts⟩).toArray, .agg u.cells.toArray] x fun e x' => PageAns x x' (redoOf p.lsn (p.ss.map (·.v)) r.v) (redoOk p.lsn (p.ss.map (·.v)) r.v) e) := fun ts u x g h1 h2 a b c d => by
    have := implRedo_any ⟨p.lsn, ts⟩ (map_len4 h1 h4) u x g a b c d
    simp only [h1, h2] at this
    exact this
  have HSM : Hid ((r.short 1048576) → (∀ s ∈ p.ss, s.v.o.ints.length ≤ 1048576 ∧ s.v.o.refs.length ≤ 1048576) → ∀ ts : List SlotA, ts.map (·.v) = (redoOf p.lsn (p.ss.map (·.v)) r.v).2 → ∀ s ∈ ts, s.v.o.ints.length ≤ 1048576 ∧ s.v.o.refs.length ≤ 1048576) := fun h1 h2 ts h3 s hs => by
    have hm : s.v ∈ (redoOf p.lsn (p.ss.map (·.v)) r.v).2 := by rw [← h3]; exact List.mem_map.2 ⟨s, hs, rfl⟩
    have key : s.v ∈ p.ss.map (·.v) ∨ s.v = r.af.v := by
      unfold redoOf at hm
      split at hm
      · exact List.mem_or_eq_of_mem_set hm
      · exact .inl hm
    rcases key with h | h
    · obtain ⟨x, hx, ex⟩ := List.mem_map.1 h
      rw [← ex]; exact h2 x hx
    · rw [h]; exact h1.af
  generalize redoOf p.lsn (p.ss.map (·.v)) r.v = RO at *
  generalize redoOk p.lsn (p.ss.map (·.v)) r.v = RK at *
  have hW0 := bx3.lt
  clear hsW hin hinP
  go_enter Tryz.func4, Tryz.ntmps4
  go_wp2_with (first | (guard_target = wpList _ _ _ (Oper.mk (some 17) _ _ _ _ _ :: _) _ _; refine wpList_load_mid rfl 44 (.tmp 2) rfl w.heap.size 0 rfl p.cells _ (by rw [hW.out]; exact page_rng p bx2) Tryz.underlying44 rfl (lpage_info p h4) ?_) | fail)
  rw [hW.out]
  clear hW
  refine (szPage_any p h4 1048576 W hsm (by omega)).mono ?_
  rintro e w1 ⟨z, rfl, hz, hb1⟩
  replace bx2 := bx2.below hb1 bx2.lt
  replace bx3 := bx3.below hb1 bx3.lt
  replace BW := BW.trans (hb1.mono BW.size)
  have s1 := hb1.size
  rcases hz with hneg | ⟨hz0, hzl, hl⟩
  · go_wp2
    go_ret
    exact ⟨rfl, hbW.trans (BW.mono hbW.size)⟩
  have hzn : ¬ z < 0 := by omega
  go_wp2_with (first | (guard_target = wpList _ _ _ (Oper.mk (some 22) _ _ _ _ _ :: _) _ _; refine wpList_load_mid rfl 47 (.tmp 3) rfl (w.heap.size + 1) 0 rfl r.cells _ (rec_rng' r bx3) Tryz.underlying47 rfl (lrec_info' _) ?_) | fail)
  refine (szRec_any r z w1 HSH.out (by omega)).mono ?_
  rintro e w2 ⟨z2, rfl, hz2, hb2⟩
  replace bx2 := bx2.below hb2 bx2.lt
  replace bx3 := bx3.below hb2 bx3.lt
  replace BW := BW.trans (hb2.mono BW.size)
  have s2 := hb2.size
  rcases hz2 with hneg | ⟨hz20, _, hlr⟩
  · go_wp2
    go_ret
    exact ⟨rfl, hbW.trans (BW.mono hbW.size)⟩
  have hzn2 : ¬ z2 < 0 := by omega
  have HU : Hid (_ ∧ _) := ⟨Tryz.underlying44, Tryz.underlying47⟩
  have HRG : Hid (∀ u, Below w2.heap.size w2 u → u.rangeAt w.heap.size 0 p.cells ∧ u.rangeAt (w.heap.size + 1) 0 r.cells) := fun u hu => ⟨page_rng p (bx2.below hu bx2.lt), rec_rng' r (bx3.below hu bx3.lt)⟩
  go_upto_region 8 with fail
  go_cut [6, 7] from 17 (fun a b wx => ∃ (Bx : Nat) (aw : List SlotA), a = .pointer (some ⟨Bx, 0, none⟩) ∧ b = .bool RK ∧ Hid (aw.map (·.v) = RO.2) ∧ Box wx Bx (PageA.cells ⟨RO.1, aw⟩) 52 ∧ OwnS wx w2.heap.size wx.heap.size aw ∧ Below w2.heap.size w2 wx)
  case first =>
    have hu1 := HU.out.1
    have hu2 := HU.out.2
    have hi1 := lpage_info p h4
    have hi2 := lrec_info' r
    have D0 : Below w2.heap.size w2 w2.drew := (Below.refl _ _).drew
    refine wp_region_held_drew (S := fun w' => w'.rangeAt w.heap.size 0 p.cells ∧ w'.rangeAt (w.heap.size + 1) 0 r.cells) (by kernel_rfl) (HRG.out _ D0) (fun hHeld => ?_)
    refine wpAnyH_take (i := 0) rfl (by kernel_rfl) (by kernel_rfl) (by kernel_rfl) (fun _ _ _ h => h) (yieldsIf_load_mid (by rfl) _ _ rfl _ _ rfl p.cells _ (fun _ h => h.1) hu1 rfl hi1) hHeld ?_
    go_simp
    refine wpAnyH_take (i := 2) rfl (by kernel_rfl) (by kernel_rfl) (by kernel_rfl) (fun _ _ _ h => h) (yieldsIf_load_mid (by rfl) _ _ rfl _ _ rfl r.cells _ (fun _ h => h.2) hu2 rfl hi2) hHeld ?_
    go_simp
    generalize hD : w2.drew = d0 at *
    refine wpAnyH_ready (rs := [1, 8]) (by kernel_rfl) (by simp) ?_
    refine AllReadyH.cons rfl (fun K hK => ?_) (AllReadyH.cons rfl (fun K hK => ?_) AllReadyH.nil)
    focus
      go_simp
      refine (toPage_own p h4 _ (hRp _ (BW.trans (D0.mono BW.size))) (wide_of hl)).mono ?_
      rintro e d0a ⟨ts, rfl, hvt, hot, hba⟩
      have D0a : Below w2.heap.size w2 d0a := D0.trans (hba.mono D0.size)
      have z0 := hba.size
      refine hK.out _ _ (HRG.out _ D0a) (fun hHeld => ?_)
      clear hK K
      refine wpAnyH_ready (rs := [3, 8]) (by kernel_rfl) (by simp) ?_
      refine AllReadyH.cons rfl (fun K hK => ?_) (AllReadyH.cons rfl (fun K hK => ?_) AllReadyH.nil)
      focus
        go_simp
        refine (toRec_law r _ (hRd _ (BW.trans (D0a.mono BW.size))) hlr).mono ?_
        rintro e d0ab ⟨uu, rfl, hvu, hou, hbb⟩
        have D0ab : Below w2.heap.size w2 d0ab := D0a.trans (hbb.mono D0a.size)
        replace hot := hot.below hbb
        have z1 := hbb.size
        refine hK.out _ _ (HRG.out _ D0ab) (fun hHeld => ?_)
        clear hK K
        refine wpAnyH_ready (rs := [4, 8]) (by kernel_rfl) (by simp) ?_
        refine AllReadyH.cons rfl (fun K hK => ?_) (AllReadyH.cons rfl (fun K hK => ?_) AllReadyH.nil)
        focus
          go_simp
          refine (HSP.out ts uu _ hvt.out hvu.out hot.reads (wide_of (small_of hvt.out hl)) hou.reads (short_wide (short_of hvu.out hlr))).mono ?_
          rintro e d0abc ⟨aw, rfl, hva, hoa, hbc⟩
          have hoaN := hoa
          have D0abc : Below w2.heap.size w2 d0abc := D0ab.trans (hbc.mono D0ab.size)
          replace hoa : OwnS d0abc w2.heap.size d0abc.heap.size aw := hoa.widen D0ab.size (Nat.le_refl _) (Nat.le_refl _)
          have z2 := hbc.size
          refine hK.out _ _ (HRG.out _ D0abc) (fun hHeld => ?_)
          clear hK K
          refine wpAnyH_take (i := 5) (v := .tuple #[.agg (PageA.cells ⟨RO.1, aw⟩).toArray, .bool RK]) rfl (by kernel_rfl) (by kernel_rfl) (by kernel_rfl) (fun _ _ _ h => h) (Or.inl ⟨by rfl, fun w' _ => ?_⟩) hHeld ?_
          · go_simp
          go_simp
          refine wpAnyH_take (i := 6) (v := .agg (PageA.cells ⟨RO.1, aw⟩).toArray) rfl (by kernel_rfl) (by kernel_rfl) (by kernel_rfl) (fun _ _ _ h => h) (Or.inl ⟨by rfl, fun w' _ => ?_⟩) hHeld ?_
          · go_simp
          go_simp
          refine wpAnyH_take (i := 7) (v := .bool RK) rfl (by kernel_rfl) (by kernel_rfl) (by kernel_rfl) (fun _ _ _ h => h) (Or.inl ⟨by rfl, fun w' _ => ?_⟩) hHeld ?_
          · go_simp
          go_simp
          refine wpAnyH_ready (rs := [8]) (by kernel_rfl) (by simp) ?_
          refine AllReadyH.cons rfl (fun K hK => ?_) AllReadyH.nil
          go_simp
          obtain ⟨WA, hWA, bA0, hbA, _⟩ := boxes1 d0abc [.int .i64 0, .bool false, .int .i64 0, .slice none 0 0, .slice none 0 0, .bool false, .int .i64 0, .slice none 0 0, .slice none 0 0, .bool false, .int .i64 0, .slice none 0 0, .slice none 0 0, .bool false, .int .i64 0, .slice none 0 0, .slice none 0 0] 52
          rw [hWA.out]
          have bA : Box WA d0abc.heap.size zero17 52 := bA0
          have D0abcz : Below w2.heap.size w2 WA := D0abc.trans (hbA.mono D0abc.size)
          replace hoa : OwnS WA w2.heap.size d0abc.heap.size aw := hoa.below hbA
          have hlast : d0abc.heap.size ≤ WA.heap.size := hbA.size
          refine hK.out _ _ (HRG.out _ D0abcz) (fun hHeld => ?_)
          clear hK K hWA bA0
          obtain ⟨WF, hWF, hwF, hsF, HTF, _, bF⟩ := page_out' ⟨RO.1, aw⟩ (page_len' hva.out HLEN.out) bA
          have hltA := bA.lt
          have zD := D0abcz.size
          have zp2 := D0.size
          have zp3 := D0a.size
          have zp4 := D0ab.size
          have zp5 := D0abc.size
          have oF : OwnS WF w2.heap.size WF.heap.size aw := (hoa.within hwF (by omega)).widen (Nat.le_refl _) (by omega) (Nat.le_refl _)
          have DF : Below w2.heap.size w2 WF := D0abcz.trans (hwF.below (by omega) (by omega))
          refine wpAnyH_ready (rs := [9]) (by kernel_rfl) (by simp) ?_
          refine AllReadyH.cons rfl (fun K hK => ?_) AllReadyH.nil
          rw [if_pos (by rfl)]
          refine wp_store_mid 52 (.tmp 6) (.tmp 33) rfl d0abc.heap.size 0 (PageA.cells ⟨RO.1, aw⟩).toArray rfl rfl HTF.out (by rw [List.size_toArray]; exact page_info _ (page_len' hva.out HLEN.out)) (all_oneCell_toArray (oneP _)) ?_
          have HW : Hid ((WA).setCells d0abc.heap.size 0 (PageA.cells ⟨RO.1, aw⟩).toArray.toList = WF) := hWF.out
          rw [HW.out]
          refine hK.out _ _ (HRG.out _ DF) (fun hHeld => ?_)
          clear hK K HW hWF HTF hwF
          simp only [Act.put, List.getElem_toArray, List.getElem_cons_zero, List.getElem_cons_succ]
          refine wpAnyH_take (i := 10) (v := .bool RK) rfl (by kernel_rfl) (by kernel_rfl) (by kernel_rfl) (fun _ _ _ h => h) (Or.inl ⟨by rfl, fun w' _ => ?_⟩) hHeld ?_
          · go_simp
          go_simp
          refine wpAnyH_done (by kernel_rfl) ?_ _
          clear hHeld
          go_wp2_with fail
          go_meet
          case rel => exact ⟨d0abc.heap.size, aw, rfl, rfl, hva, bF, oF, DF⟩
        focus
          go_simp
          obtain ⟨WA, hWA, bA0, hbA, _⟩ := boxes1 d0ab [.int .i64 0, .bool false, .int .i64 0, .slice none 0 0, .slice none 0 0, .bool false, .int .i64 0, .slice none 0 0, .slice none 0 0, .bool false, .int .i64 0, .slice none 0 0, .slice none 0 0, .bool false, .int .i64 0, .slice none 0 0, .slice none 0 0] 52
          rw [hWA.out]
          have bA : Box WA d0ab.heap.size zero17 52 := bA0
          have zA := hbA.size
          have hltA0 := bA.lt
          have D0abz : Below w2.heap.size w2 WA := D0ab.trans (hbA.mono D0ab.size)
          replace hot := hot.below hbA
          replace hou := hou.below hbA
          refine hK.out _ _ (HRG.out _ D0abz) (fun hHeld => ?_)
          clear hK K hWA bA0
          refine wpAnyH_ready (rs := [4]) (by kernel_rfl) (by simp) ?_
          refine AllReadyH.cons rfl (fun K hK => ?_) AllReadyH.nil
          go_simp
          refine (HSP.out ts uu _ hvt.out hvu.out hot.reads (wide_of (small_of hvt.out hl)) hou.reads (short_wide (short_of hvu.out hlr))).mono ?_
          rintro e WAc ⟨aw, rfl, hva, hoa, hbc⟩
          have hoaN := hoa
          have D0abzc : Below w2.heap.size w2 WAc := D0abz.trans (hbc.mono D0abz.size)
          replace hoa : OwnS WAc w2.heap.size WAc.heap.size aw := hoa.widen D0abz.size (Nat.le_refl _) (Nat.le_refl _)
          replace bA := bA.below hbc bA.lt
          have z2 := hbc.size
          refine hK.out _ _ (HRG.out _ D0abzc) (fun hHeld => ?_)
          clear hK K
          refine wpAnyH_take (i := 5) (v := .tuple #[.agg (PageA.cells ⟨RO.1, aw⟩).toArray, .bool RK]) rfl (by kernel_rfl) (by kernel_rfl) (by kernel_rfl) (fun _ _ _ h => h) (Or.inl ⟨by rfl, fun w' _ => ?_⟩) hHeld ?_
          · go_simp
          go_simp
          refine wpAnyH_take (i := 6) (v := .agg (PageA.cells ⟨RO.1, aw⟩).toArray) rfl (by kernel_rfl) (by kernel_rfl) (by kernel_rfl) (fun _ _ _ h => h) (Or.inl ⟨by rfl, fun w' _ => ?_⟩) hHeld ?_
          · go_simp
          go_simp
          refine wpAnyH_take (i := 7) (v := .bool RK) rfl (by kernel_rfl) (by kernel_rfl) (by kernel_rfl) (fun _ _ _ h => h) (Or.inl ⟨by rfl, fun w' _ => ?_⟩) hHeld ?_
          · go_simp
          go_simp
          have hlast : WAc.heap.size ≤ WAc.heap.size := Nat.le_refl _
          obtain ⟨WF, hWF, hwF, hsF, HTF, _, bF⟩ := page_out' ⟨RO.1, aw⟩ (page_len' hva.out HLEN.out) bA
          have hltA := bA.lt
          have zD := D0abzc.size
          have zp2 := D0.size
          have zp3 := D0a.size
          have zp4 := D0ab.size
          have zp5 := D0abz.size
          have oF : OwnS WF w2.heap.size WF.heap.size aw := (hoaN.within hwF (by omega)).widen (by omega) (by omega) (Nat.le_refl _)
          have DF : Below w2.heap.size w2 WF := D0abzc.trans (hwF.below (by omega) (by omega))
          refine wpAnyH_ready (rs := [9]) (by kernel_rfl) (by simp) ?_
          refine AllReadyH.cons rfl (fun K hK => ?_) AllReadyH.nil
          rw [if_pos (by rfl)]
          refine wp_store_mid 52 (.tmp 6) (.tmp 33) rfl d0ab.heap.size 0 (PageA.cells ⟨RO.1, aw⟩).toArray rfl rfl HTF.out (by rw [List.size_toArray]; exact page_info _ (page_len' hva.out HLEN.out)) (all_oneCell_toArray (oneP _)) ?_
          have HW : Hid ((WAc).setCells d0ab.heap.size 0 (PageA.cells ⟨RO.1, aw⟩).toArray.toList = WF) := hWF.out
          rw [HW.out]
          refine hK.out _ _ (HRG.out _ DF) (fun hHeld => ?_)
          clear hK K HW hWF HTF hwF
          simp only [Act.put, List.getElem_toArray, List.getElem_cons_zero, List.getElem_cons_succ]
          refine wpAnyH_take (i := 10) (v := .bool RK) rfl (by kernel_rfl) (by kernel_rfl) (by kernel_rfl) (fun _ _ _ h => h) (Or.inl ⟨by rfl, fun w' _ => ?_⟩) hHeld ?_
          · go_simp
          go_simp
          refine wpAnyH_done (by kernel_rfl) ?_ _
          clear hHeld
          go_wp2_with fail
          go_meet
          case rel => exact ⟨d0ab.heap.size, aw, rfl, rfl, hva, bF, oF, DF⟩
      focus
        go_simp
        obtain ⟨WA, hWA, bA0, hbA, _⟩ := boxes1 d0a [.int .i64 0, .bool false, .int .i64 0, .slice none 0 0, .slice none 0 0, .bool false, .int .i64 0, .slice none 0 0, .slice none 0 0, .bool false, .int .i64 0, .slice none 0 0, .slice none 0 0, .bool false, .int .i64 0, .slice none 0 0, .slice none 0 0] 52
        rw [hWA.out]
        have bA : Box WA d0a.heap.size zero17 52 := bA0
        have zA := hbA.size
        have hltA0 := bA.lt
        have D0az : Below w2.heap.size w2 WA := D0a.trans (hbA.mono D0a.size)
        replace hot := hot.below hbA
        refine hK.out _ _ (HRG.out _ D0az) (fun hHeld => ?_)
        clear hK K hWA bA0
        refine wpAnyH_ready (rs := [3]) (by kernel_rfl) (by simp) ?_
        refine AllReadyH.cons rfl (fun K hK => ?_) AllReadyH.nil
        go_simp
        refine (toRec_law r _ (hRd _ (BW.trans (D0az.mono BW.size))) hlr).mono ?_
        rintro e WAb ⟨uu, rfl, hvu, hou, hbb⟩
        have D0azb : Below w2.heap.size w2 WAb := D0az.trans (hbb.mono D0az.size)
        replace hot := hot.below hbb
        replace bA := bA.below hbb bA.lt
        have z1 := hbb.size
        refine hK.out _ _ (HRG.out _ D0azb) (fun hHeld => ?_)
        clear hK K
        refine wpAnyH_ready (rs := [4]) (by kernel_rfl) (by simp) ?_
        refine AllReadyH.cons rfl (fun K hK => ?_) AllReadyH.nil
        go_simp
        refine (HSP.out ts uu _ hvt.out hvu.out hot.reads (wide_of (small_of hvt.out hl)) hou.reads (short_wide (short_of hvu.out hlr))).mono ?_
        rintro e WAbc ⟨aw, rfl, hva, hoa, hbc⟩
        have hoaN := hoa
        have D0azbc : Below w2.heap.size w2 WAbc := D0azb.trans (hbc.mono D0azb.size)
        replace hoa : OwnS WAbc w2.heap.size WAbc.heap.size aw := hoa.widen D0azb.size (Nat.le_refl _) (Nat.le_refl _)
        replace bA := bA.below hbc bA.lt
        have z2 := hbc.size
        refine hK.out _ _ (HRG.out _ D0azbc) (fun hHeld => ?_)
        clear hK K
        refine wpAnyH_take (i := 5) (v := .tuple #[.agg (PageA.cells ⟨RO.1, aw⟩).toArray, .bool RK]) rfl (by kernel_rfl) (by kernel_rfl) (by kernel_rfl) (fun _ _ _ h => h) (Or.inl ⟨by rfl, fun w' _ => ?_⟩) hHeld ?_
        · go_simp
        go_simp
        refine wpAnyH_take (i := 6) (v := .agg (PageA.cells ⟨RO.1, aw⟩).toArray) rfl (by kernel_rfl) (by kernel_rfl) (by kernel_rfl) (fun _ _ _ h => h) (Or.inl ⟨by rfl, fun w' _ => ?_⟩) hHeld ?_
        · go_simp
        go_simp
        refine wpAnyH_take (i := 7) (v := .bool RK) rfl (by kernel_rfl) (by kernel_rfl) (by kernel_rfl) (fun _ _ _ h => h) (Or.inl ⟨by rfl, fun w' _ => ?_⟩) hHeld ?_
        · go_simp
        go_simp
        have hlast : WAbc.heap.size ≤ WAbc.heap.size := Nat.le_refl _
        obtain ⟨WF, hWF, hwF, hsF, HTF, _, bF⟩ := page_out' ⟨RO.1, aw⟩ (page_len' hva.out HLEN.out) bA
        have hltA := bA.lt
        have zD := D0azbc.size
        have zp2 := D0.size
        have zp3 := D0a.size
        have zp4 := D0az.size
        have zp5 := D0azb.size
        have oF : OwnS WF w2.heap.size WF.heap.size aw := (hoaN.within hwF (by omega)).widen (by omega) (by omega) (Nat.le_refl _)
        have DF : Below w2.heap.size w2 WF := D0azbc.trans (hwF.below (by omega) (by omega))
        refine wpAnyH_ready (rs := [9]) (by kernel_rfl) (by simp) ?_
        refine AllReadyH.cons rfl (fun K hK => ?_) AllReadyH.nil
        rw [if_pos (by rfl)]
        refine wp_store_mid 52 (.tmp 6) (.tmp 33) rfl d0a.heap.size 0 (PageA.cells ⟨RO.1, aw⟩).toArray rfl rfl HTF.out (by rw [List.size_toArray]; exact page_info _ (page_len' hva.out HLEN.out)) (all_oneCell_toArray (oneP _)) ?_
        have HW : Hid ((WAbc).setCells d0a.heap.size 0 (PageA.cells ⟨RO.1, aw⟩).toArray.toList = WF) := hWF.out
        rw [HW.out]
        refine hK.out _ _ (HRG.out _ DF) (fun hHeld => ?_)
        clear hK K HW hWF HTF hwF
        simp only [Act.put, List.getElem_toArray, List.getElem_cons_zero, List.getElem_cons_succ]
        refine wpAnyH_take (i := 10) (v := .bool RK) rfl (by kernel_rfl) (by kernel_rfl) (by kernel_rfl) (fun _ _ _ h => h) (Or.inl ⟨by rfl, fun w' _ => ?_⟩) hHeld ?_
        · go_simp
        go_simp
        refine wpAnyH_done (by kernel_rfl) ?_ _
        clear hHeld
        go_wp2_with fail
        go_meet
        case rel => exact ⟨d0a.heap.size, aw, rfl, rfl, hva, bF, oF, DF⟩
    focus
      go_simp
      obtain ⟨WA, hWA, bA0, hbA, _⟩ := boxes1 d0 [.int .i64 0, .bool false, .int .i64 0, .slice none 0 0, .slice none 0 0, .bool false, .int .i64 0, .slice none 0 0, .slice none 0 0, .bool false, .int .i64 0, .slice none 0 0, .slice none 0 0, .bool false, .int .i64 0, .slice none 0 0, .slice none 0 0] 52
      rw [hWA.out]
      have bA : Box WA d0.heap.size zero17 52 := bA0
      have zA := hbA.size
      have hltA0 := bA.lt
      have D0z : Below w2.heap.size w2 WA := D0.trans (hbA.mono D0.size)
      refine hK.out _ _ (HRG.out _ D0z) (fun hHeld => ?_)
      clear hK K hWA bA0
      refine wpAnyH_ready (rs := [1]) (by kernel_rfl) (by simp) ?_
      refine AllReadyH.cons rfl (fun K hK => ?_) AllReadyH.nil
      go_simp
      refine (toPage_own p h4 _ (hRp _ (BW.trans (D0z.mono BW.size))) (wide_of hl)).mono ?_
      rintro e WAa ⟨ts, rfl, hvt, hot, hba⟩
      have D0za : Below w2.heap.size w2 WAa := D0z.trans (hba.mono D0z.size)
      replace bA := bA.below hba bA.lt
      have z0 := hba.size
      refine hK.out _ _ (HRG.out _ D0za) (fun hHeld => ?_)
      clear hK K
      refine wpAnyH_ready (rs := [3]) (by kernel_rfl) (by simp) ?_
      refine AllReadyH.cons rfl (fun K hK => ?_) AllReadyH.nil
      go_simp
      refine (toRec_law r _ (hRd _ (BW.trans (D0za.mono BW.size))) hlr).mono ?_
      rintro e WAab ⟨uu, rfl, hvu, hou, hbb⟩
      have D0zab : Below w2.heap.size w2 WAab := D0za.trans (hbb.mono D0za.size)
      replace hot := hot.below hbb
      replace bA := bA.below hbb bA.lt
      have z1 := hbb.size
      refine hK.out _ _ (HRG.out _ D0zab) (fun hHeld => ?_)
      clear hK K
      refine wpAnyH_ready (rs := [4]) (by kernel_rfl) (by simp) ?_
      refine AllReadyH.cons rfl (fun K hK => ?_) AllReadyH.nil
      go_simp
      refine (HSP.out ts uu _ hvt.out hvu.out hot.reads (wide_of (small_of hvt.out hl)) hou.reads (short_wide (short_of hvu.out hlr))).mono ?_
      rintro e WAabc ⟨aw, rfl, hva, hoa, hbc⟩
      have hoaN := hoa
      have D0zabc : Below w2.heap.size w2 WAabc := D0zab.trans (hbc.mono D0zab.size)
      replace hoa : OwnS WAabc w2.heap.size WAabc.heap.size aw := hoa.widen D0zab.size (Nat.le_refl _) (Nat.le_refl _)
      replace bA := bA.below hbc bA.lt
      have z2 := hbc.size
      refine hK.out _ _ (HRG.out _ D0zabc) (fun hHeld => ?_)
      clear hK K
      refine wpAnyH_take (i := 5) (v := .tuple #[.agg (PageA.cells ⟨RO.1, aw⟩).toArray, .bool RK]) rfl (by kernel_rfl) (by kernel_rfl) (by kernel_rfl) (fun _ _ _ h => h) (Or.inl ⟨by rfl, fun w' _ => ?_⟩) hHeld ?_
      · go_simp
      go_simp
      refine wpAnyH_take (i := 6) (v := .agg (PageA.cells ⟨RO.1, aw⟩).toArray) rfl (by kernel_rfl) (by kernel_rfl) (by kernel_rfl) (fun _ _ _ h => h) (Or.inl ⟨by rfl, fun w' _ => ?_⟩) hHeld ?_
      · go_simp
      go_simp
      refine wpAnyH_take (i := 7) (v := .bool RK) rfl (by kernel_rfl) (by kernel_rfl) (by kernel_rfl) (fun _ _ _ h => h) (Or.inl ⟨by rfl, fun w' _ => ?_⟩) hHeld ?_
      · go_simp
      go_simp
      have hlast : WAabc.heap.size ≤ WAabc.heap.size := Nat.le_refl _
      obtain ⟨WF, hWF, hwF, hsF, HTF, _, bF⟩ := page_out' ⟨RO.1, aw⟩ (page_len' hva.out HLEN.out) bA
      have hltA := bA.lt
      have zD := D0zabc.size
      have zp2 := D0.size
      have zp3 := D0z.size
      have zp4 := D0za.size
      have zp5 := D0zab.size
      have oF : OwnS WF w2.heap.size WF.heap.size aw := (hoaN.within hwF (by omega)).widen (by omega) (by omega) (Nat.le_refl _)
      have DF : Below w2.heap.size w2 WF := D0zabc.trans (hwF.below (by omega) (by omega))
      refine wpAnyH_ready (rs := [9]) (by kernel_rfl) (by simp) ?_
      refine AllReadyH.cons rfl (fun K hK => ?_) AllReadyH.nil
      rw [if_pos (by rfl)]
      refine wp_store_mid 52 (.tmp 6) (.tmp 33) rfl d0.heap.size 0 (PageA.cells ⟨RO.1, aw⟩).toArray rfl rfl HTF.out (by rw [List.size_toArray]; exact page_info _ (page_len' hva.out HLEN.out)) (all_oneCell_toArray (oneP _)) ?_
      have HW : Hid ((WAabc).setCells d0.heap.size 0 (PageA.cells ⟨RO.1, aw⟩).toArray.toList = WF) := hWF.out
      rw [HW.out]
      refine hK.out _ _ (HRG.out _ DF) (fun hHeld => ?_)
      clear hK K HW hWF HTF hwF
      simp only [Act.put, List.getElem_toArray, List.getElem_cons_zero, List.getElem_cons_succ]
      refine wpAnyH_take (i := 10) (v := .bool RK) rfl (by kernel_rfl) (by kernel_rfl) (by kernel_rfl) (fun _ _ _ h => h) (Or.inl ⟨by rfl, fun w' _ => ?_⟩) hHeld ?_
      · go_simp
      go_simp
      refine wpAnyH_done (by kernel_rfl) ?_ _
      clear hHeld
      go_wp2_with fail
      go_meet
      case rel => exact ⟨d0.heap.size, aw, rfl, rfl, hva, bF, oF, DF⟩
  case rest =>
    obtain ⟨B6, tw, rfl, rfl, HVW, bx6, ow, hb3⟩ := hcut
    generalize wc = w3 at *
    have tw4 := page_len' HVW.out HLEN.out
    replace bx2 := bx2.below hb3 bx2.lt
    replace bx3 := bx3.below hb3 bx3.lt
    replace BW := BW.trans (hb3.mono BW.size)
    have s3 := hb3.size
    have l6 := bx6.lt
    clear HRG
    go_wp2_with (first | (guard_target = wpList _ _ _ (Oper.mk (some 35) _ _ _ _ _ :: _) _ _; refine wpList_load_mid rfl 44 (.tmp 2) rfl w.heap.size 0 rfl p.cells _ (page_rng p bx2) Tryz.underlying44 rfl (lpage_info p h4) ?_) | fail)
    refine (toPage_own p h4 w3 (hRp _ BW) (wide_of hl)).mono ?_
    rintro e w4 ⟨qs, rfl, hvq, oq, hb4⟩
    have hq4 := map_len4 hvq.out h4
    have hqS := small_of hvq.out hl
    replace bx2 := bx2.below hb4 bx2.lt
    replace bx3 := bx3.below hb4 bx3.lt
    replace bx6 := bx6.below hb4 bx6.lt
    replace ow := ow.below hb4
    replace BW := BW.trans (hb4.mono BW.size)
    have s4 := hb4.size
    obtain ⟨Zw5, hZw5, bZw50, hbZw5, _⟩ := boxes1 w4 [.int .i64 0, .bool false, .int .i64 0, .slice none 0 0, .slice none 0 0, .bool false, .int .i64 0, .slice none 0 0, .slice none 0 0, .bool false, .int .i64 0, .slice none 0 0, .slice none 0 0, .bool false, .int .i64 0, .slice none 0 0, .slice none 0 0] 52
    have bZw5 : Box Zw5 w4.heap.size zero17 52 := bZw50
    obtain ⟨w5, hSw5, hww5, hzw5, HTw5, _, bx8⟩ := page_out' ⟨p.lsn, qs⟩ hq4 bZw5
    clear bZw50
    have hbw5 : Below w4.heap.size w4 w5 := hbZw5.trans (hww5.below (Nat.le_refl _) (by have := hbZw5.size; omega))
    clear bZw5 hbZw5 hww5 hzw5
    replace bx2 := bx2.below hbw5 bx2.lt
    replace bx3 := bx3.below hbw5 bx3.lt
    replace bx6 := bx6.below hbw5 bx6.lt
    replace ow := ow.below hbw5
    replace oq := oq.below hbw5
    replace BW := BW.trans (hbw5.mono BW.size)
    have sw5 := hbw5.size
    have lw5 := bx8.lt
    go_wp2_with (first | (guard_target = wpList _ _ _ (Oper.mk none (Op.store _ (Operand.tmp 8) _) _ _ _ _ :: _) _ _; refine wpList_store_mid rfl 52 (.tmp 8) (.tmp 36) rfl w4.heap.size 0 (PageA.cells ⟨p.lsn, qs⟩).toArray rfl rfl (by rw [hZw5.out]; exact HTw5.out) (by rw [List.size_toArray]; exact page_info _ hq4) (all_oneCell_toArray (oneP _)) ?_) | (guard_target = wpList _ _ _ (Oper.mk (some 37) _ _ _ _ _ :: _) _ _; refine wpList_load_mid rfl 47 (.tmp 3) rfl (w.heap.size + 1) 0 rfl r.cells _ (by rw [hZw5.out, hSw5.out]; exact rec_rng' r bx3) Tryz.underlying47 rfl (lrec_info' _) ?_) | fail)
    rw [hZw5.out, hSw5.out]
    clear hZw5 hSw5 HTw5
    refine (toRec_law r w5 (hRd _ BW) hlr).mono ?_
    rintro e w6 ⟨u, rfl, hvu, ou, hb6⟩
    have huS := short_of hvu.out hlr
    replace bx2 := bx2.below hb6 bx2.lt
    replace bx3 := bx3.below hb6 bx3.lt
    replace bx6 := bx6.below hb6 bx6.lt
    replace bx8 := bx8.below hb6 bx8.lt
    replace ow := ow.below hb6
    replace oq := oq.below hb6
    replace BW := BW.trans (hb6.mono BW.size)
    have s6 := hb6.size
    obtain ⟨Zw7, hZw7, bZw7, hbZw7, _⟩ := boxes1 w6 [.int .i64 0, .int .i64 0, .int .i64 0, .int .i64 0, .int .i64 0, .bool false, .int .i64 0, .slice none 0 0, .slice none 0 0, .bool false, .int .i64 0, .slice none 0 0, .slice none 0 0, .int .i64 0, .slice none 0 0] 30
    obtain ⟨w7, hSw7, hww7, hzw7, HTw7, _, bx9⟩ := rec_out u [.int .i64 0, .int .i64 0, .int .i64 0, .int .i64 0, .int .i64 0, .bool false, .int .i64 0, .slice none 0 0, .slice none 0 0, .bool false, .int .i64 0, .slice none 0 0, .slice none 0 0, .int .i64 0, .slice none 0 0] rfl bZw7
    have hbw7 : Below w6.heap.size w6 w7 := hbZw7.trans (hww7.below (Nat.le_refl _) (by have := hbZw7.size; omega))
    clear bZw7 hbZw7 hww7 hzw7
    replace bx2 := bx2.below hbw7 bx2.lt
    replace bx3 := bx3.below hbw7 bx3.lt
    replace bx6 := bx6.below hbw7 bx6.lt
    replace bx8 := bx8.below hbw7 bx8.lt
    replace ow := ow.below hbw7
    replace oq := oq.below hbw7
    replace ou := ou.below hbw7
    replace BW := BW.trans (hbw7.mono BW.size)
    have sw7 := hbw7.size
    have lw7 := bx9.lt
    go_wp2_with (first | (guard_target = wpList _ _ _ (Oper.mk none (Op.store _ (Operand.tmp 9) _) _ _ _ _ :: _) _ _; refine wpList_store_mid rfl 30 (.tmp 9) (.tmp 38) rfl w6.heap.size 0 u.cells.toArray rfl rfl (by rw [hZw7.out]; exact HTw7.out) (by rw [List.size_toArray]; exact rec_info _) (rec_one _) ?_) | (guard_target = wpList _ _ _ (Oper.mk (some 40) _ _ _ _ _ :: _) _ _; refine wpList_load_mid rfl 52 (.tmp 8) rfl w4.heap.size 0 rfl (PageA.cells ⟨p.lsn, qs⟩) _ (by rw [hZw7.out, hSw7.out]; exact page_rng _ bx8) Tryz.underlying52 rfl (page_info _ hq4) ?_) | (guard_target = wpList _ _ _ (Oper.mk (some 41) _ _ _ _ _ :: _) _ _; refine wpList_load_mid rfl 30 (.tmp 9) rfl w6.heap.size 0 rfl u.cells _ (by rw [hZw7.out, hSw7.out]; exact rec_rng' u bx9) Tryz.underlying30 rfl (rec_info _) ?_) | fail)
    rw [hZw7.out, hSw7.out]
    clear hZw7 hSw7 HTw7
    refine (HIM.out qs u w7 (hgB _ BW) hvq.out hvu.out oq.reads (wide_of hqS) ou.reads (short_wide huS)).mono ?_
    rintro e w8 ⟨tg, rfl, HVG, og, hb8⟩
    have tg4 := page_len' HVG.out HLEN.out
    have hgS := HSM.out hlr hl tg HVG.out
    replace bx2 := bx2.below hb8 bx2.lt
    replace bx3 := bx3.below hb8 bx3.lt
    replace bx6 := bx6.below hb8 bx6.lt
    replace bx8 := bx8.below hb8 bx8.lt
    replace bx9 := bx9.below hb8 bx9.lt
    replace ow := ow.below hb8
    replace oq := oq.below hb8
    replace ou := ou.below hb8
    replace BW := BW.trans (hb8.mono BW.size)
    have s8 := hb8.size
    obtain ⟨Zw9, hZw9, bZw90, hbZw9, _⟩ := boxes1 w8 [.int .i64 0, .bool false, .int .i64 0, .slice none 0 0, .slice none 0 0, .bool false, .int .i64 0, .slice none 0 0, .slice none 0 0, .bool false, .int .i64 0, .slice none 0 0, .slice none 0 0, .bool false, .int .i64 0, .slice none 0 0, .slice none 0 0] 52
    have bZw9 : Box Zw9 w8.heap.size zero17 52 := bZw90
    obtain ⟨w9, hSw9, hww9, hzw9, HTw9, _, bx10⟩ := page_out' ⟨RO.1, tg⟩ tg4 bZw9
    clear bZw90
    have hbw9 : Below w8.heap.size w8 w9 := hbZw9.trans (hww9.below (Nat.le_refl _) (by have := hbZw9.size; omega))
    clear bZw9 hbZw9 hww9 hzw9
    replace bx2 := bx2.below hbw9 bx2.lt
    replace bx3 := bx3.below hbw9 bx3.lt
    replace bx6 := bx6.below hbw9 bx6.lt
    replace bx8 := bx8.below hbw9 bx8.lt
    replace bx9 := bx9.below hbw9 bx9.lt
    replace ow := ow.below hbw9
    replace oq := oq.below hbw9
    replace ou := ou.below hbw9
    replace og := og.below hbw9
    replace BW := BW.trans (hbw9.mono BW.size)
    have sw9 := hbw9.size
    have lw9 := bx10.lt
    have HGW : Hid (tw.map (·.v) = tg.map (·.v)) := HVW.out.trans HVG.out.symm
    go_wp2_with (first | (guard_target = wpList _ _ _ (Oper.mk none (Op.store _ (Operand.tmp 10) _) _ _ _ _ :: _) _ _; refine wpList_store_mid rfl 52 (.tmp 10) (.tmp 43) rfl w8.heap.size 0 (PageA.cells ⟨RO.1, tg⟩).toArray rfl rfl (by rw [hZw9.out]; exact HTw9.out) (by rw [List.size_toArray]; exact page_info _ tg4) (all_oneCell_toArray (oneP _)) ?_) | (guard_target = wpList _ _ _ (Oper.mk (some 45) _ _ _ _ _ :: _) _ _; refine wpList_load_mid rfl 52 (.tmp 10) rfl w8.heap.size 0 rfl (PageA.cells ⟨RO.1, tg⟩) _ (by rw [hZw9.out, hSw9.out]; exact page_rng _ bx10) Tryz.underlying52 rfl (page_info _ tg4) ?_) | (guard_target = wpList _ _ _ (Oper.mk (some 46) _ _ _ _ _ :: _) _ _; refine wpList_load_mid rfl 52 (.tmp 6) rfl B6 0 rfl (PageA.cells ⟨RO.1, tw⟩) _ (by rw [hZw9.out, hSw9.out]; exact page_rng _ bx6) Tryz.underlying52 rfl (page_info _ tw4) ?_) | fail)
    rw [hZw9.out, hSw9.out]
    clear hZw9 hSw9 HTw9
    refine (eqPage_same RO.1 tg tw tg4 HGW.out w9 og.reads ow.reads (wide_of hgS)).mono ?_
    rintro e w10 ⟨rfl, hb10⟩
    replace bx2 := bx2.below hb10 bx2.lt
    replace bx3 := bx3.below hb10 bx3.lt
    replace bx6 := bx6.below hb10 bx6.lt
    replace bx8 := bx8.below hb10 bx8.lt
    replace bx9 := bx9.below hb10 bx9.lt
    replace bx10 := bx10.below hb10 bx10.lt
    replace ow := ow.below hb10
    replace oq := oq.below hb10
    replace ou := ou.below hb10
    replace og := og.below hb10
    replace BW := BW.trans (hb10.mono BW.size)
    have s10 := hb10.size
    have hrk : (RK != RK) = false := by simp
    have HU2 : Hid (_ ∧ _) := ⟨Tryz.underlying52, Tryz.underlying30⟩
    have HRG : Hid (∀ u, Below w10.heap.size w10 u → u.rangeAt w.heap.size 0 p.cells ∧ u.rangeAt w4.heap.size 0 (PageA.cells ⟨p.lsn, qs⟩)) := fun u hu => ⟨page_rng p (bx2.below hu bx2.lt), page_rng _ (bx8.below hu bx8.lt)⟩
    have hu1 := HU.out.1
    have hu2 := HU2.out.1
    have hi1 := lpage_info p h4
    have hi2 := page_info ⟨p.lsn, qs⟩ hq4
    go_wp2_with fail
    refine wp_region_held_drew (S := fun w' => w'.rangeAt w.heap.size 0 p.cells ∧ w'.rangeAt w4.heap.size 0 (PageA.cells ⟨p.lsn, qs⟩)) (by kernel_rfl) (HRG.out _ (Below.refl _ _).drew) (fun hHeld => ?_)
    refine wpAnyH_take (i := 0) rfl (by kernel_rfl) (by kernel_rfl) (by kernel_rfl) (fun _ _ _ h => h) (yieldsIf_load_mid (by rfl) _ _ rfl _ _ rfl (PageA.cells ⟨p.lsn, qs⟩) _ (fun _ h => h.2) hu2 rfl hi2) hHeld ?_
    refine wpAnyH_take (i := 1) rfl (by kernel_rfl) (by kernel_rfl) (by kernel_rfl) (fun _ _ _ h => h) (yieldsIf_load_mid (by rfl) _ _ rfl _ _ rfl p.cells _ (fun _ h => h.1) hu1 rfl hi1) hHeld ?_
    refine wpAnyH_ready (rs := [2]) (by kernel_rfl) (by simp) ?_
    refine AllReadyH.cons rfl (fun K hK => ?_) AllReadyH.nil
    go_simp
    refine (toPage_own p h4 _ (hRp _ BW.drew) (wide_of hl)).mono ?_
    rintro e w11 ⟨vs, rfl, hvv, ov, hb11⟩
    have N11 : Below w10.heap.size w10 w11 := ((Below.refl _ _).drew).trans hb11
    refine hK.out _ _ (HRG.out _ N11) (fun hHeld => ?_)
    clear hK K
    refine wpAnyH_ready (rs := [3]) (by kernel_rfl) (by simp) ?_
    refine AllReadyH.cons rfl (fun K hK => ?_) AllReadyH.nil
    go_simp
    refine (eqPage_same p.lsn qs vs hq4 (hvv.out.trans hvq.out.symm) w11 (oq.reads.below N11) ov.reads (wide_of hqS)).mono ?_
    rintro e w12 ⟨rfl, hb12⟩
    have N12 : Below w10.heap.size w10 w12 := N11.trans (hb12.mono N11.size)
    refine hK.out _ _ (HRG.out _ N12) (fun hHeld => ?_)
    clear hK K
    refine wpAnyH_take (i := 4) (v := .bool false) rfl (by kernel_rfl) (by kernel_rfl) (by kernel_rfl) (fun _ _ _ h => h) (Or.inl ⟨by rfl, ?_⟩) hHeld ?_
    · intro w' _; go_simp
    refine wpAnyH_done (by kernel_rfl) ?_ _
    clear hHeld hb11 hb12 ov hvv HRG N11 hu1 hu2 hi1 hi2
    replace bx2 := bx2.below N12 bx2.lt
    replace bx3 := bx3.below N12 bx3.lt
    replace bx6 := bx6.below N12 bx6.lt
    replace bx8 := bx8.below N12 bx8.lt
    replace bx9 := bx9.below N12 bx9.lt
    replace bx10 := bx10.below N12 bx10.lt
    replace ow := ow.below N12
    replace oq := oq.below N12
    replace ou := ou.below N12
    replace og := og.below N12
    replace BW := BW.trans (N12.mono BW.size)
    have s12 := N12.size
    clear N12
    have HRG : Hid (∀ x, Below w12.heap.size w12 x → x.rangeAt (w.heap.size + 1) 0 r.cells ∧ x.rangeAt w6.heap.size 0 u.cells) := fun x hx => ⟨rec_rng' r (bx3.below hx bx3.lt), rec_rng' u (bx9.below hx bx9.lt)⟩
    have hu1 := HU.out.2
    have hu2 := HU2.out.2
    have hi1 := lrec_info' r
    have hi2 := rec_info u
    go_wp2_with fail
    refine wp_region_held_drew (S := fun w' => w'.rangeAt (w.heap.size + 1) 0 r.cells ∧ w'.rangeAt w6.heap.size 0 u.cells) (by kernel_rfl) (HRG.out _ (Below.refl _ _).drew) (fun hHeld => ?_)
    refine wpAnyH_take (i := 0) rfl (by kernel_rfl) (by kernel_rfl) (by kernel_rfl) (fun _ _ _ h => h) (yieldsIf_load_mid (by rfl) _ _ rfl _ _ rfl u.cells _ (fun _ h => h.2) hu2 rfl hi2) hHeld ?_
    refine wpAnyH_take (i := 1) rfl (by kernel_rfl) (by kernel_rfl) (by kernel_rfl) (fun _ _ _ h => h) (yieldsIf_load_mid (by rfl) _ _ rfl _ _ rfl r.cells _ (fun _ h => h.1) hu1 rfl hi1) hHeld ?_
    refine wpAnyH_ready (rs := [2]) (by kernel_rfl) (by simp) ?_
    refine AllReadyH.cons rfl (fun K hK => ?_) AllReadyH.nil
    go_simp
    refine (toRec_law r _ (hRd _ BW.drew) hlr).mono ?_
    rintro e w13 ⟨vs, rfl, hvv, ov, hb13⟩
    have N13 : Below w12.heap.size w12 w13 := ((Below.refl _ _).drew).trans hb13
    refine hK.out _ _ (HRG.out _ N13) (fun hHeld => ?_)
    clear hK K
    refine wpAnyH_ready (rs := [3]) (by kernel_rfl) (by simp) ?_
    refine AllReadyH.cons rfl (fun K hK => ?_) AllReadyH.nil
    go_simp
    refine (eqRec_same u vs (hvv.out.trans hvu.out.symm) w13 (ou.reads.below N13) ov.reads (short_wide huS)).mono ?_
    rintro e w14 ⟨rfl, hb14⟩
    have N14 : Below w12.heap.size w12 w14 := N13.trans (hb14.mono N13.size)
    refine hK.out _ _ (HRG.out _ N14) (fun hHeld => ?_)
    clear hK K
    refine wpAnyH_take (i := 4) (v := .bool false) rfl (by kernel_rfl) (by kernel_rfl) (by kernel_rfl) (fun _ _ _ h => h) (Or.inl ⟨by rfl, ?_⟩) hHeld ?_
    · intro w' _; go_simp
    refine wpAnyH_done (by kernel_rfl) ?_ _
    clear hHeld hb13 hb14 ov hvv HRG N13 hu1 hu2 hi1 hi2
    replace bx2 := bx2.below N14 bx2.lt
    replace bx3 := bx3.below N14 bx3.lt
    replace bx6 := bx6.below N14 bx6.lt
    replace bx8 := bx8.below N14 bx8.lt
    replace bx9 := bx9.below N14 bx9.lt
    replace bx10 := bx10.below N14 bx10.lt
    replace ow := ow.below N14
    replace oq := oq.below N14
    replace ou := ou.below N14
    replace og := og.below N14
    replace BW := BW.trans (N14.mono BW.size)
    have s14 := N14.size
    clear N14
    go_wp2_with (first | (guard_target = wpList _ _ _ (Oper.mk (some 64) _ _ _ _ _ :: _) _ _; refine wpList_load_mid rfl 52 (.tmp 8) rfl w4.heap.size 0 rfl (PageA.cells ⟨p.lsn, qs⟩) _ (page_rng _ bx8) Tryz.underlying52 rfl (page_info _ hq4) ?_) | fail)
    refine (markPage_touch ⟨p.lsn, qs⟩ hq4 w3.heap.size w4.heap.size 1 w14 oq (wide_of hqS) (by omega) (by omega) (by omega)).mono ?_
    rintro e w15 ⟨rfl, _, ht15⟩
    have hw15 : Within w3.heap.size w4.heap.size w14 w15 := ht15.within oq.blocks_lt
    have s15 := hw15.size
    replace bx2 := bx2.within hw15 (by omega)
    replace bx3 := bx3.within hw15 (by omega)
    replace bx6 := bx6.within hw15 (by omega)
    replace bx8 := bx8.within hw15 (by omega)
    replace bx9 := bx9.within hw15 (by omega)
    replace bx10 := bx10.within hw15 (by omega)
    replace ow := ow.within hw15 (by omega)
    replace ou := ou.within hw15 (by omega)
    replace og := og.within hw15 (by omega)
    replace BW := BW.trans (hw15.below (by have := BW.size; omega) (by have := BW.size; omega))
    clear ht15 hw15 oq
    have hcq : countS qs ≤ 8388608 := by have h1 := countS_le qs 1048576 hqS; rw [hq4] at h1; omega
    simp only
    generalize countS qs = cq at *
    go_wp2_with (first | (guard_target = wpList _ _ _ (Oper.mk (some 67) _ _ _ _ _ :: _) _ _; refine wpList_load_mid rfl 30 (.tmp 9) rfl w6.heap.size 0 rfl u.cells _ (rec_rng' u bx9) Tryz.underlying30 rfl (rec_info _) ?_) | fail)
    refine (markRec_touch u w5.heap.size w6.heap.size (1 + (cq : Int)) w15 ou (short_wide huS) (by omega) (by omega)).mono ?_
    rintro e w16 ⟨rfl, _, ht16⟩
    have hw16 : Within w5.heap.size w6.heap.size w15 w16 := ht16.within ou.blocks_lt
    have s16 := hw16.size
    replace bx2 := bx2.within hw16 (by omega)
    replace bx3 := bx3.within hw16 (by omega)
    replace bx6 := bx6.within hw16 (by omega)
    replace bx8 := bx8.within hw16 (by omega)
    replace bx9 := bx9.within hw16 (by omega)
    replace bx10 := bx10.within hw16 (by omega)
    replace ow := ow.within hw16 (by omega)
    replace og := og.within hw16 (by omega)
    replace BW := BW.trans (hw16.below (by have := BW.size; omega) (by have := BW.size; omega))
    have hcn : ¬ ((1 : Int) + (cq : Int) + (u.count : Int)) < 0 := by omega
    clear ht16 hw16 ou
    generalize u.count = cu at *
    go_wp2_with (first | (guard_target = wpList _ _ _ (Oper.mk (some 73) _ _ _ _ _ :: _) _ _; refine wpList_load_mid_if (by rfl) 52 (.tmp 10) rfl w8.heap.size 0 rfl (PageA.cells ⟨RO.1, tg⟩) _ (page_rng _ bx10) Tryz.underlying52 rfl (page_info _ tg4) ?_) | (guard_target = wpList _ _ _ (Oper.mk (some 74) _ _ _ _ _ :: _) _ _; refine wpList_load_mid_if (by rfl) 52 (.tmp 6) rfl B6 0 rfl (PageA.cells ⟨RO.1, tw⟩) _ (page_rng _ bx6) Tryz.underlying52 rfl (page_info _ tw4) ?_) | fail)
    refine (eqPage_same RO.1 tg tw tg4 HGW.out w16 og.reads ow.reads (wide_of hgS)).mono ?_
    rintro e w17 ⟨rfl, hb17⟩
    replace bx2 := bx2.below hb17 bx2.lt
    replace bx3 := bx3.below hb17 bx3.lt
    replace bx6 := bx6.below hb17 bx6.lt
    replace bx8 := bx8.below hb17 bx8.lt
    replace bx9 := bx9.below hb17 bx9.lt
    replace bx10 := bx10.below hb17 bx10.lt
    replace ow := ow.below hb17
    replace og := og.below hb17
    replace BW := BW.trans (hb17.mono BW.size)
    have s17 := hb17.size
    go_wp2_with (first | (guard_target = wpList _ _ _ (Oper.mk (some 83) _ _ _ _ _ :: _) _ _; refine wpList_load_mid rfl 52 (.tmp 10) rfl w8.heap.size 0 rfl (PageA.cells ⟨RO.1, tg⟩) _ (page_rng _ bx10) Tryz.underlying52 rfl (page_info _ tg4) ?_) | fail)
    refine (markPage_touch ⟨RO.1, tg⟩ tg4 w7.heap.size w8.heap.size 1 w17 og (wide_of hgS) (by omega) (by omega) (by omega)).mono ?_
    rintro e w18 ⟨rfl, og18, ht18⟩
    have hw18 : Within w7.heap.size w8.heap.size w17 w18 := ht18.within og.blocks_lt
    have s18 := hw18.size
    replace bx2 := bx2.within hw18 (by omega)
    replace bx3 := bx3.within hw18 (by omega)
    replace bx6 := bx6.within hw18 (by omega)
    replace bx8 := bx8.within hw18 (by omega)
    replace bx9 := bx9.within hw18 (by omega)
    replace bx10 := bx10.within hw18 (by omega)
    replace ow := ow.within hw18 (by omega)
    replace BW := BW.trans (hw18.below (by have := BW.size; omega) (by have := BW.size; omega))
    clear ht18 hw18 og
    go_wp2_with (first | (guard_target = wpList _ _ _ (Oper.mk (some 86) _ _ _ _ _ :: _) _ _; refine wpList_load_mid rfl 52 (.tmp 10) rfl w8.heap.size 0 rfl (PageA.cells ⟨RO.1, tg⟩) _ (page_rng _ bx10) Tryz.underlying52 rfl (page_info _ tg4) ?_) | fail)
    refine (heldPage_any ⟨RO.1, tg⟩ tg4 w7.heap.size w8.heap.size 1 w18 og18 (wide_of hgS) (by omega) (by omega)).mono ?_
    rintro e w19 ⟨rfl, hb19⟩
    replace bx2 := bx2.below hb19 bx2.lt
    replace bx3 := bx3.below hb19 bx3.lt
    replace bx6 := bx6.below hb19 bx6.lt
    replace bx8 := bx8.below hb19 bx8.lt
    replace bx9 := bx9.below hb19 bx9.lt
    replace bx10 := bx10.below hb19 bx10.lt
    replace ow := ow.below hb19
    replace og18 := og18.below hb19
    replace BW := BW.trans (hb19.mono BW.size)
    have s19 := hb19.size
    have hcn2 : ¬ ((1 : Int) + (countS tg : Int)) < 0 := by omega
    simp only
    have HRG : Hid (∀ u, Below w19.heap.size w19 u → u.rangeAt w.heap.size 0 p.cells ∧ u.rangeAt (w.heap.size + 1) 0 r.cells) := fun u hu => ⟨page_rng p (bx2.below hu bx2.lt), rec_rng' r (bx3.below hu bx3.lt)⟩
    go_upto_region 31 with fail
    go_cut [15, 16] from 17 (fun a b wx => ∃ (Bx : Nat) (aw : List SlotA), a = .pointer (some ⟨Bx, 0, none⟩) ∧ b = .bool RK ∧ Hid (aw.map (·.v) = RO.2) ∧ Box wx Bx (PageA.cells ⟨RO.1, aw⟩) 52 ∧ OwnS wx w19.heap.size wx.heap.size aw ∧ Below w19.heap.size w19 wx)
    case first =>
      have hu1 := HU.out.1
      have hu2 := HU.out.2
      have hi1 := lpage_info p h4
      have hi2 := lrec_info' r
      have D0 : Below w19.heap.size w19 w19.drew := (Below.refl _ _).drew
      refine wp_region_held_drew (S := fun w' => w'.rangeAt w.heap.size 0 p.cells ∧ w'.rangeAt (w.heap.size + 1) 0 r.cells) (by kernel_rfl) (HRG.out _ D0) (fun hHeld => ?_)
      refine wpAnyH_take (i := 0) rfl (by kernel_rfl) (by kernel_rfl) (by kernel_rfl) (fun _ _ _ h => h) (yieldsIf_load_mid (by rfl) _ _ rfl _ _ rfl p.cells _ (fun _ h => h.1) hu1 rfl hi1) hHeld ?_
      go_simp
      refine wpAnyH_take (i := 2) rfl (by kernel_rfl) (by kernel_rfl) (by kernel_rfl) (fun _ _ _ h => h) (yieldsIf_load_mid (by rfl) _ _ rfl _ _ rfl r.cells _ (fun _ h => h.2) hu2 rfl hi2) hHeld ?_
      go_simp
      generalize hD : w19.drew = d0 at *
      refine wpAnyH_ready (rs := [1, 8]) (by kernel_rfl) (by simp) ?_
      refine AllReadyH.cons rfl (fun K hK => ?_) (AllReadyH.cons rfl (fun K hK => ?_) AllReadyH.nil)
      focus
        go_simp
        refine (toPage_own p h4 _ (hRp _ (BW.trans (D0.mono BW.size))) (wide_of hl)).mono ?_
        rintro e d0a ⟨ts, rfl, hvt, hot, hba⟩
        have D0a : Below w19.heap.size w19 d0a := D0.trans (hba.mono D0.size)
        have z0 := hba.size
        refine hK.out _ _ (HRG.out _ D0a) (fun hHeld => ?_)
        clear hK K
        refine wpAnyH_ready (rs := [3, 8]) (by kernel_rfl) (by simp) ?_
        refine AllReadyH.cons rfl (fun K hK => ?_) (AllReadyH.cons rfl (fun K hK => ?_) AllReadyH.nil)
        focus
          go_simp
          refine (toRec_law r _ (hRd _ (BW.trans (D0a.mono BW.size))) hlr).mono ?_
          rintro e d0ab ⟨uu, rfl, hvu, hou, hbb⟩
          have D0ab : Below w19.heap.size w19 d0ab := D0a.trans (hbb.mono D0a.size)
          replace hot := hot.below hbb
          have z1 := hbb.size
          refine hK.out _ _ (HRG.out _ D0ab) (fun hHeld => ?_)
          clear hK K
          refine wpAnyH_ready (rs := [4, 8]) (by kernel_rfl) (by simp) ?_
          refine AllReadyH.cons rfl (fun K hK => ?_) (AllReadyH.cons rfl (fun K hK => ?_) AllReadyH.nil)
          focus
            go_simp
            refine (HIM.out ts uu _ (hgB _ (BW.trans (D0ab.mono BW.size))) hvt.out hvu.out hot.reads (wide_of (small_of hvt.out hl)) hou.reads (short_wide (short_of hvu.out hlr))).mono ?_
            rintro e d0abc ⟨aw, rfl, hva, hoa, hbc⟩
            have hoaN := hoa
            have D0abc : Below w19.heap.size w19 d0abc := D0ab.trans (hbc.mono D0ab.size)
            replace hoa : OwnS d0abc w19.heap.size d0abc.heap.size aw := hoa.widen D0ab.size (Nat.le_refl _) (Nat.le_refl _)
            have z2 := hbc.size
            refine hK.out _ _ (HRG.out _ D0abc) (fun hHeld => ?_)
            clear hK K
            refine wpAnyH_take (i := 5) (v := .tuple #[.agg (PageA.cells ⟨RO.1, aw⟩).toArray, .bool RK]) rfl (by kernel_rfl) (by kernel_rfl) (by kernel_rfl) (fun _ _ _ h => h) (Or.inl ⟨by rfl, fun w' _ => ?_⟩) hHeld ?_
            · go_simp
            go_simp
            refine wpAnyH_take (i := 6) (v := .agg (PageA.cells ⟨RO.1, aw⟩).toArray) rfl (by kernel_rfl) (by kernel_rfl) (by kernel_rfl) (fun _ _ _ h => h) (Or.inl ⟨by rfl, fun w' _ => ?_⟩) hHeld ?_
            · go_simp
            go_simp
            refine wpAnyH_take (i := 7) (v := .bool RK) rfl (by kernel_rfl) (by kernel_rfl) (by kernel_rfl) (fun _ _ _ h => h) (Or.inl ⟨by rfl, fun w' _ => ?_⟩) hHeld ?_
            · go_simp
            go_simp
            refine wpAnyH_ready (rs := [8]) (by kernel_rfl) (by simp) ?_
            refine AllReadyH.cons rfl (fun K hK => ?_) AllReadyH.nil
            go_simp
            obtain ⟨WA, hWA, bA0, hbA, _⟩ := boxes1 d0abc [.int .i64 0, .bool false, .int .i64 0, .slice none 0 0, .slice none 0 0, .bool false, .int .i64 0, .slice none 0 0, .slice none 0 0, .bool false, .int .i64 0, .slice none 0 0, .slice none 0 0, .bool false, .int .i64 0, .slice none 0 0, .slice none 0 0] 52
            rw [hWA.out]
            have bA : Box WA d0abc.heap.size zero17 52 := bA0
            have D0abcz : Below w19.heap.size w19 WA := D0abc.trans (hbA.mono D0abc.size)
            replace hoa : OwnS WA w19.heap.size d0abc.heap.size aw := hoa.below hbA
            have hlast : d0abc.heap.size ≤ WA.heap.size := hbA.size
            refine hK.out _ _ (HRG.out _ D0abcz) (fun hHeld => ?_)
            clear hK K hWA bA0
            obtain ⟨WF, hWF, hwF, hsF, HTF, _, bF⟩ := page_out' ⟨RO.1, aw⟩ (page_len' hva.out HLEN.out) bA
            have hltA := bA.lt
            have zD := D0abcz.size
            have zp2 := D0.size
            have zp3 := D0a.size
            have zp4 := D0ab.size
            have zp5 := D0abc.size
            have oF : OwnS WF w19.heap.size WF.heap.size aw := (hoa.within hwF (by omega)).widen (Nat.le_refl _) (by omega) (Nat.le_refl _)
            have DF : Below w19.heap.size w19 WF := D0abcz.trans (hwF.below (by omega) (by omega))
            refine wpAnyH_ready (rs := [9]) (by kernel_rfl) (by simp) ?_
            refine AllReadyH.cons rfl (fun K hK => ?_) AllReadyH.nil
            rw [if_pos (by rfl)]
            refine wp_store_mid 52 (.tmp 15) (.tmp 100) rfl d0abc.heap.size 0 (PageA.cells ⟨RO.1, aw⟩).toArray rfl rfl HTF.out (by rw [List.size_toArray]; exact page_info _ (page_len' hva.out HLEN.out)) (all_oneCell_toArray (oneP _)) ?_
            have HW : Hid ((WA).setCells d0abc.heap.size 0 (PageA.cells ⟨RO.1, aw⟩).toArray.toList = WF) := hWF.out
            rw [HW.out]
            refine hK.out _ _ (HRG.out _ DF) (fun hHeld => ?_)
            clear hK K HW hWF HTF hwF
            simp only [Act.put, List.getElem_toArray, List.getElem_cons_zero, List.getElem_cons_succ]
            refine wpAnyH_take (i := 10) (v := .bool RK) rfl (by kernel_rfl) (by kernel_rfl) (by kernel_rfl) (fun _ _ _ h => h) (Or.inl ⟨by rfl, fun w' _ => ?_⟩) hHeld ?_
            · go_simp
            go_simp
            refine wpAnyH_done (by kernel_rfl) ?_ _
            clear hHeld
            go_wp2_with fail
            go_meet
            case rel => exact ⟨d0abc.heap.size, aw, rfl, rfl, hva, bF, oF, DF⟩
          focus
            go_simp
            obtain ⟨WA, hWA, bA0, hbA, _⟩ := boxes1 d0ab [.int .i64 0, .bool false, .int .i64 0, .slice none 0 0, .slice none 0 0, .bool false, .int .i64 0, .slice none 0 0, .slice none 0 0, .bool false, .int .i64 0, .slice none 0 0, .slice none 0 0, .bool false, .int .i64 0, .slice none 0 0, .slice none 0 0] 52
            rw [hWA.out]
            have bA : Box WA d0ab.heap.size zero17 52 := bA0
            have zA := hbA.size
            have hltA0 := bA.lt
            have D0abz : Below w19.heap.size w19 WA := D0ab.trans (hbA.mono D0ab.size)
            replace hot := hot.below hbA
            replace hou := hou.below hbA
            refine hK.out _ _ (HRG.out _ D0abz) (fun hHeld => ?_)
            clear hK K hWA bA0
            refine wpAnyH_ready (rs := [4]) (by kernel_rfl) (by simp) ?_
            refine AllReadyH.cons rfl (fun K hK => ?_) AllReadyH.nil
            go_simp
            refine (HIM.out ts uu _ (hgB _ (BW.trans (D0abz.mono BW.size))) hvt.out hvu.out hot.reads (wide_of (small_of hvt.out hl)) hou.reads (short_wide (short_of hvu.out hlr))).mono ?_
            rintro e WAc ⟨aw, rfl, hva, hoa, hbc⟩
            have hoaN := hoa
            have D0abzc : Below w19.heap.size w19 WAc := D0abz.trans (hbc.mono D0abz.size)
            replace hoa : OwnS WAc w19.heap.size WAc.heap.size aw := hoa.widen D0abz.size (Nat.le_refl _) (Nat.le_refl _)
            replace bA := bA.below hbc bA.lt
            have z2 := hbc.size
            refine hK.out _ _ (HRG.out _ D0abzc) (fun hHeld => ?_)
            clear hK K
            refine wpAnyH_take (i := 5) (v := .tuple #[.agg (PageA.cells ⟨RO.1, aw⟩).toArray, .bool RK]) rfl (by kernel_rfl) (by kernel_rfl) (by kernel_rfl) (fun _ _ _ h => h) (Or.inl ⟨by rfl, fun w' _ => ?_⟩) hHeld ?_
            · go_simp
            go_simp
            refine wpAnyH_take (i := 6) (v := .agg (PageA.cells ⟨RO.1, aw⟩).toArray) rfl (by kernel_rfl) (by kernel_rfl) (by kernel_rfl) (fun _ _ _ h => h) (Or.inl ⟨by rfl, fun w' _ => ?_⟩) hHeld ?_
            · go_simp
            go_simp
            refine wpAnyH_take (i := 7) (v := .bool RK) rfl (by kernel_rfl) (by kernel_rfl) (by kernel_rfl) (fun _ _ _ h => h) (Or.inl ⟨by rfl, fun w' _ => ?_⟩) hHeld ?_
            · go_simp
            go_simp
            have hlast : WAc.heap.size ≤ WAc.heap.size := Nat.le_refl _
            obtain ⟨WF, hWF, hwF, hsF, HTF, _, bF⟩ := page_out' ⟨RO.1, aw⟩ (page_len' hva.out HLEN.out) bA
            have hltA := bA.lt
            have zD := D0abzc.size
            have zp2 := D0.size
            have zp3 := D0a.size
            have zp4 := D0ab.size
            have zp5 := D0abz.size
            have oF : OwnS WF w19.heap.size WF.heap.size aw := (hoaN.within hwF (by omega)).widen (by omega) (by omega) (Nat.le_refl _)
            have DF : Below w19.heap.size w19 WF := D0abzc.trans (hwF.below (by omega) (by omega))
            refine wpAnyH_ready (rs := [9]) (by kernel_rfl) (by simp) ?_
            refine AllReadyH.cons rfl (fun K hK => ?_) AllReadyH.nil
            rw [if_pos (by rfl)]
            refine wp_store_mid 52 (.tmp 15) (.tmp 100) rfl d0ab.heap.size 0 (PageA.cells ⟨RO.1, aw⟩).toArray rfl rfl HTF.out (by rw [List.size_toArray]; exact page_info _ (page_len' hva.out HLEN.out)) (all_oneCell_toArray (oneP _)) ?_
            have HW : Hid ((WAc).setCells d0ab.heap.size 0 (PageA.cells ⟨RO.1, aw⟩).toArray.toList = WF) := hWF.out
            rw [HW.out]
            refine hK.out _ _ (HRG.out _ DF) (fun hHeld => ?_)
            clear hK K HW hWF HTF hwF
            simp only [Act.put, List.getElem_toArray, List.getElem_cons_zero, List.getElem_cons_succ]
            refine wpAnyH_take (i := 10) (v := .bool RK) rfl (by kernel_rfl) (by kernel_rfl) (by kernel_rfl) (fun _ _ _ h => h) (Or.inl ⟨by rfl, fun w' _ => ?_⟩) hHeld ?_
            · go_simp
            go_simp
            refine wpAnyH_done (by kernel_rfl) ?_ _
            clear hHeld
            go_wp2_with fail
            go_meet
            case rel => exact ⟨d0ab.heap.size, aw, rfl, rfl, hva, bF, oF, DF⟩
        focus
          go_simp
          obtain ⟨WA, hWA, bA0, hbA, _⟩ := boxes1 d0a [.int .i64 0, .bool false, .int .i64 0, .slice none 0 0, .slice none 0 0, .bool false, .int .i64 0, .slice none 0 0, .slice none 0 0, .bool false, .int .i64 0, .slice none 0 0, .slice none 0 0, .bool false, .int .i64 0, .slice none 0 0, .slice none 0 0] 52
          rw [hWA.out]
          have bA : Box WA d0a.heap.size zero17 52 := bA0
          have zA := hbA.size
          have hltA0 := bA.lt
          have D0az : Below w19.heap.size w19 WA := D0a.trans (hbA.mono D0a.size)
          replace hot := hot.below hbA
          refine hK.out _ _ (HRG.out _ D0az) (fun hHeld => ?_)
          clear hK K hWA bA0
          refine wpAnyH_ready (rs := [3]) (by kernel_rfl) (by simp) ?_
          refine AllReadyH.cons rfl (fun K hK => ?_) AllReadyH.nil
          go_simp
          refine (toRec_law r _ (hRd _ (BW.trans (D0az.mono BW.size))) hlr).mono ?_
          rintro e WAb ⟨uu, rfl, hvu, hou, hbb⟩
          have D0azb : Below w19.heap.size w19 WAb := D0az.trans (hbb.mono D0az.size)
          replace hot := hot.below hbb
          replace bA := bA.below hbb bA.lt
          have z1 := hbb.size
          refine hK.out _ _ (HRG.out _ D0azb) (fun hHeld => ?_)
          clear hK K
          refine wpAnyH_ready (rs := [4]) (by kernel_rfl) (by simp) ?_
          refine AllReadyH.cons rfl (fun K hK => ?_) AllReadyH.nil
          go_simp
          refine (HIM.out ts uu _ (hgB _ (BW.trans (D0azb.mono BW.size))) hvt.out hvu.out hot.reads (wide_of (small_of hvt.out hl)) hou.reads (short_wide (short_of hvu.out hlr))).mono ?_
          rintro e WAbc ⟨aw, rfl, hva, hoa, hbc⟩
          have hoaN := hoa
          have D0azbc : Below w19.heap.size w19 WAbc := D0azb.trans (hbc.mono D0azb.size)
          replace hoa : OwnS WAbc w19.heap.size WAbc.heap.size aw := hoa.widen D0azb.size (Nat.le_refl _) (Nat.le_refl _)
          replace bA := bA.below hbc bA.lt
          have z2 := hbc.size
          refine hK.out _ _ (HRG.out _ D0azbc) (fun hHeld => ?_)
          clear hK K
          refine wpAnyH_take (i := 5) (v := .tuple #[.agg (PageA.cells ⟨RO.1, aw⟩).toArray, .bool RK]) rfl (by kernel_rfl) (by kernel_rfl) (by kernel_rfl) (fun _ _ _ h => h) (Or.inl ⟨by rfl, fun w' _ => ?_⟩) hHeld ?_
          · go_simp
          go_simp
          refine wpAnyH_take (i := 6) (v := .agg (PageA.cells ⟨RO.1, aw⟩).toArray) rfl (by kernel_rfl) (by kernel_rfl) (by kernel_rfl) (fun _ _ _ h => h) (Or.inl ⟨by rfl, fun w' _ => ?_⟩) hHeld ?_
          · go_simp
          go_simp
          refine wpAnyH_take (i := 7) (v := .bool RK) rfl (by kernel_rfl) (by kernel_rfl) (by kernel_rfl) (fun _ _ _ h => h) (Or.inl ⟨by rfl, fun w' _ => ?_⟩) hHeld ?_
          · go_simp
          go_simp
          have hlast : WAbc.heap.size ≤ WAbc.heap.size := Nat.le_refl _
          obtain ⟨WF, hWF, hwF, hsF, HTF, _, bF⟩ := page_out' ⟨RO.1, aw⟩ (page_len' hva.out HLEN.out) bA
          have hltA := bA.lt
          have zD := D0azbc.size
          have zp2 := D0.size
          have zp3 := D0a.size
          have zp4 := D0az.size
          have zp5 := D0azb.size
          have oF : OwnS WF w19.heap.size WF.heap.size aw := (hoaN.within hwF (by omega)).widen (by omega) (by omega) (Nat.le_refl _)
          have DF : Below w19.heap.size w19 WF := D0azbc.trans (hwF.below (by omega) (by omega))
          refine wpAnyH_ready (rs := [9]) (by kernel_rfl) (by simp) ?_
          refine AllReadyH.cons rfl (fun K hK => ?_) AllReadyH.nil
          rw [if_pos (by rfl)]
          refine wp_store_mid 52 (.tmp 15) (.tmp 100) rfl d0a.heap.size 0 (PageA.cells ⟨RO.1, aw⟩).toArray rfl rfl HTF.out (by rw [List.size_toArray]; exact page_info _ (page_len' hva.out HLEN.out)) (all_oneCell_toArray (oneP _)) ?_
          have HW : Hid ((WAbc).setCells d0a.heap.size 0 (PageA.cells ⟨RO.1, aw⟩).toArray.toList = WF) := hWF.out
          rw [HW.out]
          refine hK.out _ _ (HRG.out _ DF) (fun hHeld => ?_)
          clear hK K HW hWF HTF hwF
          simp only [Act.put, List.getElem_toArray, List.getElem_cons_zero, List.getElem_cons_succ]
          refine wpAnyH_take (i := 10) (v := .bool RK) rfl (by kernel_rfl) (by kernel_rfl) (by kernel_rfl) (fun _ _ _ h => h) (Or.inl ⟨by rfl, fun w' _ => ?_⟩) hHeld ?_
          · go_simp
          go_simp
          refine wpAnyH_done (by kernel_rfl) ?_ _
          clear hHeld
          go_wp2_with fail
          go_meet
          case rel => exact ⟨d0a.heap.size, aw, rfl, rfl, hva, bF, oF, DF⟩
      focus
        go_simp
        obtain ⟨WA, hWA, bA0, hbA, _⟩ := boxes1 d0 [.int .i64 0, .bool false, .int .i64 0, .slice none 0 0, .slice none 0 0, .bool false, .int .i64 0, .slice none 0 0, .slice none 0 0, .bool false, .int .i64 0, .slice none 0 0, .slice none 0 0, .bool false, .int .i64 0, .slice none 0 0, .slice none 0 0] 52
        rw [hWA.out]
        have bA : Box WA d0.heap.size zero17 52 := bA0
        have zA := hbA.size
        have hltA0 := bA.lt
        have D0z : Below w19.heap.size w19 WA := D0.trans (hbA.mono D0.size)
        refine hK.out _ _ (HRG.out _ D0z) (fun hHeld => ?_)
        clear hK K hWA bA0
        refine wpAnyH_ready (rs := [1]) (by kernel_rfl) (by simp) ?_
        refine AllReadyH.cons rfl (fun K hK => ?_) AllReadyH.nil
        go_simp
        refine (toPage_own p h4 _ (hRp _ (BW.trans (D0z.mono BW.size))) (wide_of hl)).mono ?_
        rintro e WAa ⟨ts, rfl, hvt, hot, hba⟩
        have D0za : Below w19.heap.size w19 WAa := D0z.trans (hba.mono D0z.size)
        replace bA := bA.below hba bA.lt
        have z0 := hba.size
        refine hK.out _ _ (HRG.out _ D0za) (fun hHeld => ?_)
        clear hK K
        refine wpAnyH_ready (rs := [3]) (by kernel_rfl) (by simp) ?_
        refine AllReadyH.cons rfl (fun K hK => ?_) AllReadyH.nil
        go_simp
        refine (toRec_law r _ (hRd _ (BW.trans (D0za.mono BW.size))) hlr).mono ?_
        rintro e WAab ⟨uu, rfl, hvu, hou, hbb⟩
        have D0zab : Below w19.heap.size w19 WAab := D0za.trans (hbb.mono D0za.size)
        replace hot := hot.below hbb
        replace bA := bA.below hbb bA.lt
        have z1 := hbb.size
        refine hK.out _ _ (HRG.out _ D0zab) (fun hHeld => ?_)
        clear hK K
        refine wpAnyH_ready (rs := [4]) (by kernel_rfl) (by simp) ?_
        refine AllReadyH.cons rfl (fun K hK => ?_) AllReadyH.nil
        go_simp
        refine (HIM.out ts uu _ (hgB _ (BW.trans (D0zab.mono BW.size))) hvt.out hvu.out hot.reads (wide_of (small_of hvt.out hl)) hou.reads (short_wide (short_of hvu.out hlr))).mono ?_
        rintro e WAabc ⟨aw, rfl, hva, hoa, hbc⟩
        have hoaN := hoa
        have D0zabc : Below w19.heap.size w19 WAabc := D0zab.trans (hbc.mono D0zab.size)
        replace hoa : OwnS WAabc w19.heap.size WAabc.heap.size aw := hoa.widen D0zab.size (Nat.le_refl _) (Nat.le_refl _)
        replace bA := bA.below hbc bA.lt
        have z2 := hbc.size
        refine hK.out _ _ (HRG.out _ D0zabc) (fun hHeld => ?_)
        clear hK K
        refine wpAnyH_take (i := 5) (v := .tuple #[.agg (PageA.cells ⟨RO.1, aw⟩).toArray, .bool RK]) rfl (by kernel_rfl) (by kernel_rfl) (by kernel_rfl) (fun _ _ _ h => h) (Or.inl ⟨by rfl, fun w' _ => ?_⟩) hHeld ?_
        · go_simp
        go_simp
        refine wpAnyH_take (i := 6) (v := .agg (PageA.cells ⟨RO.1, aw⟩).toArray) rfl (by kernel_rfl) (by kernel_rfl) (by kernel_rfl) (fun _ _ _ h => h) (Or.inl ⟨by rfl, fun w' _ => ?_⟩) hHeld ?_
        · go_simp
        go_simp
        refine wpAnyH_take (i := 7) (v := .bool RK) rfl (by kernel_rfl) (by kernel_rfl) (by kernel_rfl) (fun _ _ _ h => h) (Or.inl ⟨by rfl, fun w' _ => ?_⟩) hHeld ?_
        · go_simp
        go_simp
        have hlast : WAabc.heap.size ≤ WAabc.heap.size := Nat.le_refl _
        obtain ⟨WF, hWF, hwF, hsF, HTF, _, bF⟩ := page_out' ⟨RO.1, aw⟩ (page_len' hva.out HLEN.out) bA
        have hltA := bA.lt
        have zD := D0zabc.size
        have zp2 := D0.size
        have zp3 := D0z.size
        have zp4 := D0za.size
        have zp5 := D0zab.size
        have oF : OwnS WF w19.heap.size WF.heap.size aw := (hoaN.within hwF (by omega)).widen (by omega) (by omega) (Nat.le_refl _)
        have DF : Below w19.heap.size w19 WF := D0zabc.trans (hwF.below (by omega) (by omega))
        refine wpAnyH_ready (rs := [9]) (by kernel_rfl) (by simp) ?_
        refine AllReadyH.cons rfl (fun K hK => ?_) AllReadyH.nil
        rw [if_pos (by rfl)]
        refine wp_store_mid 52 (.tmp 15) (.tmp 100) rfl d0.heap.size 0 (PageA.cells ⟨RO.1, aw⟩).toArray rfl rfl HTF.out (by rw [List.size_toArray]; exact page_info _ (page_len' hva.out HLEN.out)) (all_oneCell_toArray (oneP _)) ?_
        have HW : Hid ((WAabc).setCells d0.heap.size 0 (PageA.cells ⟨RO.1, aw⟩).toArray.toList = WF) := hWF.out
        rw [HW.out]
        refine hK.out _ _ (HRG.out _ DF) (fun hHeld => ?_)
        clear hK K HW hWF HTF hwF
        simp only [Act.put, List.getElem_toArray, List.getElem_cons_zero, List.getElem_cons_succ]
        refine wpAnyH_take (i := 10) (v := .bool RK) rfl (by kernel_rfl) (by kernel_rfl) (by kernel_rfl) (fun _ _ _ h => h) (Or.inl ⟨by rfl, fun w' _ => ?_⟩) hHeld ?_
        · go_simp
        go_simp
        refine wpAnyH_done (by kernel_rfl) ?_ _
        clear hHeld
        go_wp2_with fail
        go_meet
        case rel => exact ⟨d0.heap.size, aw, rfl, rfl, hva, bF, oF, DF⟩
    case rest =>
      obtain ⟨B15, th, rfl, rfl, HVH, bx15, oh, hb20⟩ := hcut
      generalize wc = w20 at *
      have th4 := page_len' HVH.out HLEN.out
      have hhS := HSM.out hlr hl th HVH.out
      have HHW : Hid (tw.map (·.v) = th.map (·.v)) := HVW.out.trans HVH.out.symm
      replace bx2 := bx2.below hb20 bx2.lt
      replace bx3 := bx3.below hb20 bx3.lt
      replace bx6 := bx6.below hb20 bx6.lt
      replace bx8 := bx8.below hb20 bx8.lt
      replace bx9 := bx9.below hb20 bx9.lt
      replace bx10 := bx10.below hb20 bx10.lt
      replace ow := ow.below hb20
      replace og18 := og18.below hb20
      replace BW := BW.trans (hb20.mono BW.size)
      have s20 := hb20.size
      clear HRG
      go_wp2_with (first | (guard_target = wpList _ _ _ (Oper.mk (some 102) _ _ _ _ _ :: _) _ _; refine wpList_load_mid rfl 52 (.tmp 15) rfl B15 0 rfl (PageA.cells ⟨RO.1, th⟩) _ (page_rng _ bx15) Tryz.underlying52 rfl (page_info _ th4) ?_) | (guard_target = wpList _ _ _ (Oper.mk (some 103) _ _ _ _ _ :: _) _ _; refine wpList_load_mid rfl 52 (.tmp 6) rfl B6 0 rfl (PageA.cells ⟨RO.1, tw⟩) _ (page_rng _ bx6) Tryz.underlying52 rfl (page_info _ tw4) ?_) | fail)
      refine (eqPage_same RO.1 th tw th4 HHW.out w20 oh.reads ow.reads (wide_of hhS)).mono ?_
      rintro e w21 ⟨rfl, hb21⟩
      replace bx2 := bx2.below hb21 bx2.lt
      replace bx3 := bx3.below hb21 bx3.lt
      replace bx6 := bx6.below hb21 bx6.lt
      replace bx8 := bx8.below hb21 bx8.lt
      replace bx9 := bx9.below hb21 bx9.lt
      replace bx10 := bx10.below hb21 bx10.lt
      replace ow := ow.below hb21
      replace og18 := og18.below hb21
      replace BW := BW.trans (hb21.mono BW.size)
      have s21 := hb21.size
      go_wp2_with (first | (guard_target = wpList _ _ _ (Oper.mk (some 111) _ _ _ _ _ :: _) _ _; refine wpList_load_mid rfl 52 (.tmp 10) rfl w8.heap.size 0 rfl (PageA.cells ⟨RO.1, tg⟩) _ (page_rng _ bx10) Tryz.underlying52 rfl (page_info _ tg4) ?_) | fail)
      refine (heldPage_any ⟨RO.1, tg⟩ tg4 w7.heap.size w8.heap.size 1 w21 og18 (wide_of hgS) (by omega) (by omega)).mono ?_
      rintro e w22 ⟨rfl, hb22⟩
      replace BW := BW.trans (hb22.mono BW.size)
      simp only
      go_wp2
      go_ret
      exact ⟨rfl, hbW.trans (BW.mono hbW.size)⟩
end Go.Proofs.YtjaojcgfgkppgaaGreatDoor

/- What the row's condition on errors.errorType gives a walk; a world that meets it. -/
namespace Go.Proofs.YtjaojcgfgkppgaaGreatDoor
open Go.ChangeShapes Go.WideShapes Go.RowKit

theorem Tryz.et : Tryz.prog.globalNamed "errors.errorType" = some 0 := by kernel_rfl
theorem Tryz.rt : (Tryz.prog.cutTypes.find? (·.1 == "internal/reflectlite.rtype")).map (·.2) = some 185 := by kernel_rfl
theorem Tryz.oneRow : ((List.range 227).filter fun t => Tryz.prog.rowNamed t [101, 114, 114, 111, 114]) = [155] := by kernel_rfl
theorem Tryz.typesSize : Tryz.prog.types.size = 227 := by kernel_rfl

theorem errT_of_handles {W : World} {laid : List (String × DataW Unit)} (hm : ("errors.errorType", Rows.laid_errors_errorType) ∈ laid) (h : handlesMet Tryz.prog laid W) : ErrT W := by
  obtain ⟨name, u, ty, e1, e2, e3, e4, e5⟩ := h _ hm
  have en : name = [101, 114, 114, 111, 114] := (Option.some.inj e1).symm
  subst en
  obtain rfl := Option.some.inj (Tryz.rt.symm.trans e2)
  have hm : ty ∈ (List.range 227).filter fun t => Tryz.prog.rowNamed t [101, 114, 114, 111, 114] := List.mem_filter.2 ⟨List.mem_range.2 (by rw [← Tryz.typesSize]; exact e3), e4⟩
  rw [Tryz.oneRow] at hm
  obtain rfl := List.mem_singleton.1 hm
  have hh : typeHandle Tryz.prog 155 = .pointer (some ⟨1, 155, none⟩) := by kernel_rfl
  rw [hh] at e5
  unfold ErrT
  simpa using World.var?_cell Tryz.et e5 0

/-- The one listed variable. -/
def laid1 : List (String × DataW Unit) := [("errors.errorType", Rows.laid_errors_errorType)]
theorem errT_of_laid1 {W : World} (h : laidMetH Tryz.prog laid1 W) : ErrT W := by
  have h' : laidMet Tryz.prog [] W ∧ handlesMet Tryz.prog laid1 W := h
  exact errT_of_handles (List.mem_singleton.2 rfl) h'.2
end Go.Proofs.YtjaojcgfgkppgaaGreatDoor
