/- Several texts in one, in their order. -/
import Derived.Test.YtoboickdkednkaaDoorPFnChangedx15
import Derived.Test.YtoboickdkednkaaDoorPFnChangedx12
import Derived.Test.YtoboickdkednkaaDoorPFnChangedx6
import Derived.Test.YtoboickdkednkaaDoorPFnChangedx10
import Derived.Deep.RegionLaw
import Derived.Deep.DrawnRows
import Derived.Test.YtoboickdkednkaaDoorPFnChangedx11
import Derived.Deep.MidRow
import Derived.Deep.RegionHeld3
/- The walks of spec.DrawChange and spec.DrawBring. -/
namespace Go.Proofs.YtoboickdkednkaaDoor
open Go.RowKit
attribute [local go_sem ↓] Go.wp_at_zero Go.wp_at_succ

/-- What a draw of a pool, a number and a page answers. -/
def PoolPageDrawn (w : World) (e : Ending) (w' : World) : Prop := ∃ (p : PoolA) (no : Int) (r : PageA), e = .returned (.tuple #[.agg p.cells.toArray, .int .i64 no, .agg r.cells.toArray]) ∧ p.seats.length ≤ 4 ∧ p.short 7 ∧ r.ss.length = 4 ∧ (∀ s ∈ r.ss, s.v.o.ints.length ≤ 7 ∧ s.v.o.refs.length ≤ 7) ∧ p.reads w' ∧ ReadsS w' r.ss ∧ Below w.heap.size w w'
theorem results_ctc {P : Program} {fn : Func} {s t u : Nat} {ty tz : TypeId} {tmps : Array Value} {w : World} {v x y : Value} {ad ae : Addr} (hf : fn.results = #[.cell s ty, .tmp t, .cell u tz]) (ht : tmps[s]?.getD undef = .pointer (some ad)) (hx : tmps[t]?.getD undef = x) (hu : tmps[u]?.getD undef = .pointer (some ae)) (hl : (loadVar ty ad).run P w = .ok v w) (hm : (loadVar tz ae).run P w = .ok y w) : (results fn tmps).run P w = .ok (.tuple #[v, x, y]) w := by
  unfold results
  rw [hf]
  simp [ht, hx, hu, asAddr, hl, hm]

set_option maxHeartbeats 4000000 in
set_option maxRecDepth 100000 in
theorem drawChange_any (a : Option Addr) (c : Nat) (zs : List Int) (w : World) (hr : Reads w a zs) (hl : zs.length ≤ 70368744177664) :
    Calls Tryd.prog 14 #[.slice a zs.length c] w fun r w' => PoolPageDrawn w r w' := by
  obtain ⟨W, hW, bR, bG, hbW, hsW⟩ := boxes2 w [.slice none 0 0, .int .i64 0] [.int .i64 0, .bool false, .int .i64 0, .slice none 0 0, .slice none 0 0, .bool false, .int .i64 0, .slice none 0 0, .slice none 0 0, .bool false, .int .i64 0, .slice none 0 0, .slice none 0 0, .bool false, .int .i64 0, .slice none 0 0, .slice none 0 0] 26 34
  have hws : w.heap.size + 1 < W.heap.size := bG.lt
  have C1 := l1New_any a c zs W (hr.below hbW) hl
  clear hsW
  go_enter Tryd.func14, Tryd.ntmps14
  go_wp2_with fail
  rw [hW.out]
  refine C1.mono ?_
  clear C1 hW
  rintro r w1 ⟨rfl, hc, hb1⟩
  have s1 := hb1.size
  have lc := hc.lt
  replace bR := bR.below hb1 bR.lt
  replace bG := bG.below hb1 bG.lt
  have N : Below w.heap.size w w1 := hbW.trans (hb1.mono hbW.size)
  clear hb1 hbW
  go_wp2_with fail
  refine (l6DrawAny_any W.heap.size zs w1 hc hl).mono ?_
  clear hc
  rintro e w2 ⟨p, rfl, ⟨hp4, hps⟩, op, hc, hw2⟩
  have s2 := hw2.size
  replace bR := bR.within hw2 (by omega)
  replace bG := bG.within hw2 (by omega)
  replace N := N.trans (hw2.below (by omega) (by omega))
  clear hw2
  obtain ⟨Zw3, hZw3, bz, hbz, hsz⟩ := boxes1 w2 [.slice none 0 0, .int .i64 0] 26
  obtain ⟨w3, hSw3, hw, hz, HTw3, _, bp⟩ := pool_out p _ rfl bz
  have hbw3 : Below w2.heap.size w2 w3 := hbz.trans (hw.below (Nat.le_refl _) (by omega))
  clear bz hbz hw hz hsz
  replace bR := bR.below hbw3 bR.lt
  replace bG := bG.below hbw3 bG.lt
  replace op := op.below hbw3
  replace hc := hc.below hbw3
  replace N := N.trans (hbw3.mono N.size)
  have s3 := bp.lt
  go_wp2_with (first | (guard_target = wpList _ _ _ (Oper.mk none (Op.store _ (Operand.tmp 6) _) _ _ _ _ :: _) _ _; refine wpList_store_mid rfl 26 (.tmp 6) (.tmp 11) rfl w2.heap.size 0 p.cells.toArray rfl rfl (by rw [hZw3.out]; exact HTw3.out) (by rw [List.size_toArray]; exact pool_info _) (pool_one _) ?_) | fail)
  rw [hZw3.out, hSw3.out]
  clear hZw3 hSw3 HTw3 hbw3
  refine (l3PageAny_any W.heap.size zs w3 hc hl).mono ?_
  clear hc
  rintro e w4 ⟨n, ts, rfl, ht4, hts, og, hc, hw4⟩
  have s4 := hw4.size
  replace bR := bR.within hw4 (by omega)
  replace bG := bG.within hw4 (by omega)
  replace bp := bp.within hw4 (by omega)
  replace op := op.within hw4 (.inr (by omega))
  replace N := N.trans (hw4.below (by omega) (by omega))
  clear hw4
  obtain ⟨Zw5, hZw5, bz, hbz, hsz⟩ := boxes1 w4 [.int .i64 0, .bool false, .int .i64 0, .slice none 0 0, .slice none 0 0, .bool false, .int .i64 0, .slice none 0 0, .slice none 0 0, .bool false, .int .i64 0, .slice none 0 0, .slice none 0 0, .bool false, .int .i64 0, .slice none 0 0, .slice none 0 0] 34
  obtain ⟨w5, hSw5, hw, hz, HTw5, _, bg⟩ := page_out (C := w4.heap.size) (T := 34) ⟨n, ts⟩ ht4 _ rfl bz Tryd.underlying34 rfl (by kernel_rfl)
  have hbw5 : Below w4.heap.size w4 w5 := hbz.trans (hw.below (Nat.le_refl _) (by omega))
  clear bz hbz hw hz hsz
  replace bR := bR.below hbw5 bR.lt
  replace bG := bG.below hbw5 bG.lt
  replace bp := bp.below hbw5 bp.lt
  replace op := op.below hbw5
  replace og := og.below hbw5
  replace hc := hc.below hbw5
  replace N := N.trans (hbw5.mono N.size)
  have s5 := bg.lt
  have HI : Hid (∀ x us, us.length = 4 → (Tryd.prog.info? 34).map (·.size) = some (PageA.cells ⟨x, us⟩).length) := fun x us hu => by rw [page_len _ hu]; kernel_rfl
  go_wp2_with (first | (guard_target = wpList _ _ _ (Oper.mk none (Op.store _ (Operand.tmp 7) _) _ _ _ _ :: _) _ _; refine wpList_store_mid rfl 34 (.tmp 7) (.tmp 13) rfl w4.heap.size 0 (PageA.cells ⟨n, ts⟩).toArray rfl rfl (by rw [hZw5.out]; exact HTw5.out) (by rw [List.size_toArray]; exact HI.out _ _ ht4) (all_oneCell_toArray (oneP ⟨n, ts⟩)) ?_) | fail)
  rw [hZw5.out, hSw5.out]
  clear hZw5 hSw5 HTw5 hbw5
  refine (l1Once_any W.heap.size zs 2 w5 hc hl (by omega)).mono ?_
  clear hc
  rintro e w6 ⟨bb, rfl, hc, hg6⟩
  have hw6 := within_cur hg6
  have s6 := hw6.size
  replace bR := bR.within hw6 (by omega)
  replace bG := bG.within hw6 (by omega)
  replace bp := bp.within hw6 (by omega)
  replace bg := bg.within hw6 (by omega)
  replace op := op.within hw6 (.inr (by omega))
  replace og := og.within hw6 (.inr (by omega))
  replace N := N.trans (hw6.below (by omega) (by omega))
  clear hw6 hg6
  cases bb with
  | false =>
    go_upto_region 6 with fail
    obtain ⟨P, hP⟩ : ∃ P : PageA, Hid ((⟨n, ts⟩ : PageA) = P) := ⟨_, rfl⟩
    have hP4 : P.ss.length = 4 := by rw [← hP.out]; exact ht4
    have hPs : Hid (∀ s ∈ P.ss, s.v.o.ints.length ≤ 7 ∧ s.v.o.refs.length ≤ 7) := by rw [Hid, ← hP.out]; exact hts
    have bP : Box w6 w4.heap.size P.cells 34 := by rw [← hP.out]; exact bg
    have oP : OwnS w6 w3.heap.size w4.heap.size P.ss := by rw [← hP.out]; exact og
    have HIP : Hid ((Tryd.prog.info? 34).map (·.size) = some P.cells.length) := by rw [Hid, page_len P hP4]; kernel_rfl
    have HOP : Hid (_) := all_oneCell_toArray (oneP P)
    clear hP bg og HI ht4 hts
    have hD : Below w6.heap.size w6 w6.drew := (Below.refl _ _).drew
    replace bR := bR.below hD bR.lt
    replace bG := bG.below hD bG.lt
    replace bp := bp.below hD bp.lt
    replace bP := bP.below hD bP.lt
    replace op := op.below hD
    replace oP := oP.below hD
    replace hc := hc.below hD
    replace N := N.trans (hD.mono N.size)
    have sD : w6.heap.size ≤ w6.drew.heap.size := hD.size
    clear hD
    have HSS : Hid (∀ u, Box u w2.heap.size p.cells 26 → Box u w4.heap.size P.cells 34 → u.rangeAt w2.heap.size 0 p.cells ∧ u.rangeAt w4.heap.size 0 P.cells) := fun u h1 h2 => ⟨Box.range [] p.cells [] (by simpa using h1), Box.range [] P.cells [] (by simpa using h2)⟩
    refine wp_region_held_drew (S := fun u => u.rangeAt w2.heap.size 0 p.cells ∧ u.rangeAt w4.heap.size 0 P.cells) (by kernel_rfl) (HSS.out _ bp bP) (fun hHeld => ?_)
    generalize w6.drew = d1 at *
    refine wpAnyH_take (i := 0) rfl (by kernel_rfl) (by kernel_rfl) (by kernel_rfl) (fun _ _ _ h => h) (yieldsIf_load_mid (by rfl) _ _ rfl _ _ rfl p.cells _ (fun _ h => h.1) Tryd.underlying26 rfl (pool_info _)) hHeld ?_
    try simp only [Act.put, List.getElem_toArray, List.getElem_cons_zero, List.setIfInBounds_toArray, List.set_cons_zero, List.set_cons_succ]
    refine wpAnyH_take (i := 1) (v := .pointer (some ⟨W.heap.size, 0, none⟩)) rfl (by kernel_rfl) (by kernel_rfl) (by kernel_rfl) (fun _ _ _ h => h) (Or.inl ⟨by rfl, ?_⟩) hHeld ?_
    · intro w' hSw
      go_simp <;> rfl
    try simp only [Act.put, List.getElem_toArray, List.getElem_cons_zero, List.getElem_cons_succ, List.setIfInBounds_toArray, List.set_cons_zero, List.set_cons_succ]
    refine wpAnyH_take (i := 3) rfl (by kernel_rfl) (by kernel_rfl) (by kernel_rfl) (fun _ _ _ h => h) (yieldsIf_load_mid (by rfl) _ _ rfl _ _ rfl P.cells _ (fun _ h => h.2) Tryd.underlying34 rfl HIP.out) hHeld ?_
    try simp only [Act.put, List.getElem_toArray, List.getElem_cons_zero, List.getElem_cons_succ, List.setIfInBounds_toArray, List.set_cons_zero, List.set_cons_succ]
    refine wpAnyH_ready (rs := [2]) (by kernel_rfl) (by simp) ?_
    refine AllReadyH.cons rfl (fun K hK => ?_) AllReadyH.nil
    go_simp
    refine (l1Below_any W.heap.size zs 5 d1 hc hl (by omega)).mono ?_
    clear hc
    rintro e d2 ⟨no, rfl, _, hc, hg⟩
    have hw := within_cur hg
    have z2 := hw.size
    replace bR := bR.within hw (by omega)
    replace bG := bG.within hw (by omega)
    replace bp := bp.within hw (by omega)
    replace bP := bP.within hw (by omega)
    replace op := op.within hw (.inr (by omega))
    replace oP := oP.within hw (.inr (by omega))
    replace N := N.trans (hw.below (by omega) (by omega))
    refine hK.out _ _ (HSS.out _ bp bP) (fun hHeld => ?_)
    clear hK K hw hg hc
    try simp only [Act.put, List.getElem_toArray, List.getElem_cons_zero, List.getElem_cons_succ, List.setIfInBounds_toArray, List.set_cons_zero, List.set_cons_succ]
    obtain ⟨d3, hd3, hw3, hs3, HT3, _, bR3⟩ := pool_out p _ rfl bR
    obtain ⟨d4, hd4, hw4, hs4, HT4, HL4, bG4⟩ := page_out (C := w.heap.size + 1) (T := 34) P hP4 _ rfl (bG.within hw3 (by omega)) Tryd.underlying34 rfl (by kernel_rfl)
    have bR4 := bR3.within hw4 (by omega)
    have HLR := pool_load p bR4
    have HFF : Hid (p.reads d4 ∧ ReadsS d4 P.ss ∧ Below w.heap.size w d4) := ⟨((op.within hw3 (.inr (by omega))).within hw4 (.inr (by omega))).reads, ((oP.within hw3 (.inr (by omega))).within hw4 (.inr (by omega))).reads, (N.trans (hw3.below (by omega) (by omega))).trans (hw4.below (by omega) (by omega))⟩
    have E3 : Hid (d2.setCells w.heap.size 0 p.cells.toArray.toList = d3) := hd3.out
    have E4 : Hid (d3.setCells (w.heap.size + 1) 0 P.cells.toArray.toList = d4) := hd4.out
    have T3 : d2.there w.heap.size 0 p.cells.toArray.size := HT3.out
    have T4 : d3.there (w.heap.size + 1) 0 P.cells.toArray.size := HT4.out
    have K3 := HSS.out d3 (bp.within hw3 (by omega)) (bP.within hw3 (by omega))
    have K4 := HSS.out d4 ((bp.within hw3 (by omega)).within hw4 (by omega)) ((bP.within hw3 (by omega)).within hw4 (by omega))
    clear bR bG bp bP op oP N hw3 hs3 hw4 hs4 bR3 bG4 bR4 hd3 hd4 HT3 HT4 hHeld HSS
    refine wpAnyH_ready (rs := [4]) (by kernel_rfl) (by simp) ?_
    refine AllReadyH.cons rfl (fun K hK => ?_) AllReadyH.nil
    rw [if_pos (by rfl)]
    refine wp_store_mid 26 (.tmp 2) (.tmp 17) rfl w.heap.size 0 p.cells.toArray rfl rfl T3 (pool_info _) (pool_one _) ?_
    rw [E3.out]
    refine hK.out _ _ K3 (fun hHeld => ?_)
    clear hK K
    try simp only [Act.put, List.getElem_toArray, List.getElem_cons_zero, List.getElem_cons_succ]
    refine wpAnyH_ready (rs := [5]) (by kernel_rfl) (by simp) ?_
    refine AllReadyH.cons rfl (fun K hK => ?_) AllReadyH.nil
    go_simp
    refine hK.out _ _ K3 (fun hHeld => ?_)
    clear hK K
    try simp only [Act.put, List.getElem_toArray, List.getElem_cons_zero, List.getElem_cons_succ]
    refine wpAnyH_ready (rs := [6]) (by kernel_rfl) (by simp) ?_
    refine AllReadyH.cons rfl (fun K hK => ?_) AllReadyH.nil
    rw [if_pos (by rfl)]
    refine wp_store_mid 34 (.tmp 4) (.tmp 20) rfl (w.heap.size + 1) 0 P.cells.toArray rfl rfl T4 HIP.out HOP.out ?_
    rw [E4.out]
    refine hK.out _ _ K4 (fun hHeld => ?_)
    clear hK K
    try simp only [Act.put, List.getElem_toArray, List.getElem_cons_zero, List.getElem_cons_succ]
    refine wpAnyH_done (by kernel_rfl) ?_ _
    clear hHeld K3 K4
    go_wp2_with fail
    exact bodyPost_ret (v := .tuple #[.agg p.cells.toArray, .int .i64 (no : Int), .agg P.cells.toArray]) (results_ctc Tryd.results14 rfl rfl rfl HLR HL4.out) rfl ⟨p, no, P, rfl, hp4, hps, hP4, hPs.out, HFF.out.1, HFF.out.2.1, HFF.out.2.2⟩
  | true =>
    simp only [PageA.cells] at bg
    have x0 := bg.cell 0 _ rfl
    have f0 := bg.frozen 0
    obtain ⟨w7, hw7, b7, hv7, hs7⟩ := box_set bg 0 (.int .i64 40)
    simp only [List.set_cons_zero] at b7
    have s7 := hv7.size
    replace bR := bR.within hv7 (by omega)
    replace bG := bG.within hv7 (by omega)
    replace bp := bp.within hv7 (by omega)
    replace op := op.within hv7 (.inl (by omega))
    replace og := og.within hv7 (.inl (by omega))
    replace hc := hc.within hv7 (by omega)
    replace N := N.trans (hv7.below (by omega) (by omega))
    clear bg hs7 hv7
    have bg := b7
    clear b7
    go_upto_region 6 with fail
    rw [hw7.out]
    clear hw7 x0 f0
    obtain ⟨P, hP⟩ : ∃ P : PageA, Hid ((⟨40, ts⟩ : PageA) = P) := ⟨_, rfl⟩
    have hP4 : P.ss.length = 4 := by rw [← hP.out]; exact ht4
    have hPs : Hid (∀ s ∈ P.ss, s.v.o.ints.length ≤ 7 ∧ s.v.o.refs.length ≤ 7) := by rw [Hid, ← hP.out]; exact hts
    have bP : Box w7 w4.heap.size P.cells 34 := by rw [← hP.out]; exact bg
    have oP : OwnS w7 w3.heap.size w4.heap.size P.ss := by rw [← hP.out]; exact og
    have HIP : Hid ((Tryd.prog.info? 34).map (·.size) = some P.cells.length) := by rw [Hid, page_len P hP4]; kernel_rfl
    have HOP : Hid (_) := all_oneCell_toArray (oneP P)
    clear hP bg og HI ht4 hts
    have hD : Below w7.heap.size w7 w7.drew := (Below.refl _ _).drew
    replace bR := bR.below hD bR.lt
    replace bG := bG.below hD bG.lt
    replace bp := bp.below hD bp.lt
    replace bP := bP.below hD bP.lt
    replace op := op.below hD
    replace oP := oP.below hD
    replace hc := hc.below hD
    replace N := N.trans (hD.mono N.size)
    have sD : w7.heap.size ≤ w7.drew.heap.size := hD.size
    clear hD
    have HSS : Hid (∀ u, Box u w2.heap.size p.cells 26 → Box u w4.heap.size P.cells 34 → u.rangeAt w2.heap.size 0 p.cells ∧ u.rangeAt w4.heap.size 0 P.cells) := fun u h1 h2 => ⟨Box.range [] p.cells [] (by simpa using h1), Box.range [] P.cells [] (by simpa using h2)⟩
    refine wp_region_held_drew (S := fun u => u.rangeAt w2.heap.size 0 p.cells ∧ u.rangeAt w4.heap.size 0 P.cells) (by kernel_rfl) (HSS.out _ bp bP) (fun hHeld => ?_)
    generalize w7.drew = d1 at *
    refine wpAnyH_take (i := 0) rfl (by kernel_rfl) (by kernel_rfl) (by kernel_rfl) (fun _ _ _ h => h) (yieldsIf_load_mid (by rfl) _ _ rfl _ _ rfl p.cells _ (fun _ h => h.1) Tryd.underlying26 rfl (pool_info _)) hHeld ?_
    try simp only [Act.put, List.getElem_toArray, List.getElem_cons_zero, List.setIfInBounds_toArray, List.set_cons_zero, List.set_cons_succ]
    refine wpAnyH_take (i := 1) (v := .pointer (some ⟨W.heap.size, 0, none⟩)) rfl (by kernel_rfl) (by kernel_rfl) (by kernel_rfl) (fun _ _ _ h => h) (Or.inl ⟨by rfl, ?_⟩) hHeld ?_
    · intro w' hSw
      go_simp <;> rfl
    try simp only [Act.put, List.getElem_toArray, List.getElem_cons_zero, List.getElem_cons_succ, List.setIfInBounds_toArray, List.set_cons_zero, List.set_cons_succ]
    refine wpAnyH_take (i := 3) rfl (by kernel_rfl) (by kernel_rfl) (by kernel_rfl) (fun _ _ _ h => h) (yieldsIf_load_mid (by rfl) _ _ rfl _ _ rfl P.cells _ (fun _ h => h.2) Tryd.underlying34 rfl HIP.out) hHeld ?_
    try simp only [Act.put, List.getElem_toArray, List.getElem_cons_zero, List.getElem_cons_succ, List.setIfInBounds_toArray, List.set_cons_zero, List.set_cons_succ]
    refine wpAnyH_ready (rs := [2]) (by kernel_rfl) (by simp) ?_
    refine AllReadyH.cons rfl (fun K hK => ?_) AllReadyH.nil
    go_simp
    refine (l1Below_any W.heap.size zs 5 d1 hc hl (by omega)).mono ?_
    clear hc
    rintro e d2 ⟨no, rfl, _, hc, hg⟩
    have hw := within_cur hg
    have z2 := hw.size
    replace bR := bR.within hw (by omega)
    replace bG := bG.within hw (by omega)
    replace bp := bp.within hw (by omega)
    replace bP := bP.within hw (by omega)
    replace op := op.within hw (.inr (by omega))
    replace oP := oP.within hw (.inr (by omega))
    replace N := N.trans (hw.below (by omega) (by omega))
    refine hK.out _ _ (HSS.out _ bp bP) (fun hHeld => ?_)
    clear hK K hw hg hc
    try simp only [Act.put, List.getElem_toArray, List.getElem_cons_zero, List.getElem_cons_succ, List.setIfInBounds_toArray, List.set_cons_zero, List.set_cons_succ]
    obtain ⟨d3, hd3, hw3, hs3, HT3, _, bR3⟩ := pool_out p _ rfl bR
    obtain ⟨d4, hd4, hw4, hs4, HT4, HL4, bG4⟩ := page_out (C := w.heap.size + 1) (T := 34) P hP4 _ rfl (bG.within hw3 (by omega)) Tryd.underlying34 rfl (by kernel_rfl)
    have bR4 := bR3.within hw4 (by omega)
    have HLR := pool_load p bR4
    have HFF : Hid (p.reads d4 ∧ ReadsS d4 P.ss ∧ Below w.heap.size w d4) := ⟨((op.within hw3 (.inr (by omega))).within hw4 (.inr (by omega))).reads, ((oP.within hw3 (.inr (by omega))).within hw4 (.inr (by omega))).reads, (N.trans (hw3.below (by omega) (by omega))).trans (hw4.below (by omega) (by omega))⟩
    have E3 : Hid (d2.setCells w.heap.size 0 p.cells.toArray.toList = d3) := hd3.out
    have E4 : Hid (d3.setCells (w.heap.size + 1) 0 P.cells.toArray.toList = d4) := hd4.out
    have T3 : d2.there w.heap.size 0 p.cells.toArray.size := HT3.out
    have T4 : d3.there (w.heap.size + 1) 0 P.cells.toArray.size := HT4.out
    have K3 := HSS.out d3 (bp.within hw3 (by omega)) (bP.within hw3 (by omega))
    have K4 := HSS.out d4 ((bp.within hw3 (by omega)).within hw4 (by omega)) ((bP.within hw3 (by omega)).within hw4 (by omega))
    clear bR bG bp bP op oP N hw3 hs3 hw4 hs4 bR3 bG4 bR4 hd3 hd4 HT3 HT4 hHeld HSS
    refine wpAnyH_ready (rs := [4]) (by kernel_rfl) (by simp) ?_
    refine AllReadyH.cons rfl (fun K hK => ?_) AllReadyH.nil
    rw [if_pos (by rfl)]
    refine wp_store_mid 26 (.tmp 2) (.tmp 17) rfl w.heap.size 0 p.cells.toArray rfl rfl T3 (pool_info _) (pool_one _) ?_
    rw [E3.out]
    refine hK.out _ _ K3 (fun hHeld => ?_)
    clear hK K
    try simp only [Act.put, List.getElem_toArray, List.getElem_cons_zero, List.getElem_cons_succ]
    refine wpAnyH_ready (rs := [5]) (by kernel_rfl) (by simp) ?_
    refine AllReadyH.cons rfl (fun K hK => ?_) AllReadyH.nil
    go_simp
    refine hK.out _ _ K3 (fun hHeld => ?_)
    clear hK K
    try simp only [Act.put, List.getElem_toArray, List.getElem_cons_zero, List.getElem_cons_succ]
    refine wpAnyH_ready (rs := [6]) (by kernel_rfl) (by simp) ?_
    refine AllReadyH.cons rfl (fun K hK => ?_) AllReadyH.nil
    rw [if_pos (by rfl)]
    refine wp_store_mid 34 (.tmp 4) (.tmp 20) rfl (w.heap.size + 1) 0 P.cells.toArray rfl rfl T4 HIP.out HOP.out ?_
    rw [E4.out]
    refine hK.out _ _ K4 (fun hHeld => ?_)
    clear hK K
    try simp only [Act.put, List.getElem_toArray, List.getElem_cons_zero, List.getElem_cons_succ]
    refine wpAnyH_done (by kernel_rfl) ?_ _
    clear hHeld K3 K4
    go_wp2_with fail
    exact bodyPost_ret (v := .tuple #[.agg p.cells.toArray, .int .i64 (no : Int), .agg P.cells.toArray]) (results_ctc Tryd.results14 rfl rfl rfl HLR HL4.out) rfl ⟨p, no, P, rfl, hp4, hps, hP4, hPs.out, HFF.out.1, HFF.out.2.1, HFF.out.2.2⟩
end Go.Proofs.YtoboickdkednkaaDoor

/- A page brought into a pool: the walk of spec.l6Bring. -/
namespace Go.Proofs.YtoboickdkednkaaDoor
open Go.RowKit
attribute [local go_sem ↓] Go.wp_at_zero Go.wp_at_succ

theorem PoolAt.below {w w' : World} {lo hi B o : Nat} {vs : List Value} {t : TypeId} {a : Option Addr} {c : Nat} {ss : List SeatA} {hand : Int} (h : PoolAt w lo hi B o vs t a c ss hand) (hb : Below w.heap.size w w') : PoolAt w' lo hi B o vs t a c ss hand :=
  ⟨h.box.below hb h.box.lt, h.c0, h.c1, h.own.below hb, h.off⟩
end Go.Proofs.YtoboickdkednkaaDoor

/- What a pool must be, and what its functions make of it. -/
namespace Go.Proofs.YtoboickdkednkaaDoor
open Go.RowKit

theorem seatFrom_at (ss : List SeatV) : ∀ (no : Int) (b k : Nat), k < ss.length → (ss.getD k zeroStV).no = no → (∀ j, j < k → (ss.getD j zeroStV).no ≠ no) → seatFrom no ss b = ((b + k : Nat) : Int) := by
  induction ss with
  | nil => intro no b k h; simp at h
  | cons s r ih =>
    intro no b k hk he hn
    rw [seatFrom]
    cases k with
    | zero => simp only [List.getD_cons_zero] at he; rw [if_pos he]; simp
    | succ k =>
      have h0 := hn 0 (by omega)
      simp only [List.getD_cons_zero] at h0
      simp only [List.getD_cons_succ] at he
      rw [if_neg h0, ih no (b + 1) k (by simpa using hk) he (fun j hj => by have := hn (j + 1) (by omega); simpa using this)]
      omega
theorem seatFrom_none (ss : List SeatV) : ∀ (no : Int) (b : Nat), (∀ j, j < ss.length → (ss.getD j zeroStV).no ≠ no) → seatFrom no ss b = -1 := by
  induction ss with
  | nil => intro no b _; rfl
  | cons s r ih =>
    intro no b hn
    have h0 := hn 0 (by simp)
    simp only [List.getD_cons_zero] at h0
    rw [seatFrom, if_neg h0, ih no (b + 1) (fun j hj => by have := hn (j + 1) (by simpa using hj); simpa using this)]
theorem seated_at {ss : List SeatV} {no : Int} {k : Nat} (hk : k < ss.length) (he : (ss.getD k zeroStV).no = no) (hn : ∀ j, j < k → (ss.getD j zeroStV).no ≠ no) : seatedOf ss no = k := by
  have := seatFrom_at ss no 0 k hk he hn
  simpa [seatedOf] using this
theorem seated_none {ss : List SeatV} {no : Int} (hn : ∀ j, j < ss.length → (ss.getD j zeroStV).no ≠ no) : seatedOf ss no = -1 := seatFrom_none ss no 0 hn
/-- Where the first of this No is, or that there is none. -/
theorem seated_cases (ss : List SeatV) (no : Int) : (∃ k : Nat, k < ss.length ∧ (ss.getD k zeroStV).no = no ∧ (∀ j, j < k → (ss.getD j zeroStV).no ≠ no) ∧ seatedOf ss no = k) ∨ ((∀ j, j < ss.length → (ss.getD j zeroStV).no ≠ no) ∧ seatedOf ss no = -1) := by
  by_cases h : ∃ k, k < ss.length ∧ (ss.getD k zeroStV).no = no
  · have hm : ∃ k, (k < ss.length ∧ (ss.getD k zeroStV).no = no) ∧ ∀ j, j < k → ¬ (j < ss.length ∧ (ss.getD j zeroStV).no = no) := by
      obtain ⟨k, hk⟩ := h
      induction k using Nat.strongRecOn with
      | _ k ih =>
        by_cases h2 : ∃ j, j < k ∧ (j < ss.length ∧ (ss.getD j zeroStV).no = no)
        · obtain ⟨j, hj, hp⟩ := h2
          exact ih j hj hp
        · exact ⟨k, hk, fun j hj hp => h2 ⟨j, hj, hp⟩⟩
    obtain ⟨k, ⟨h1, h2⟩, h3⟩ := hm
    have h4 : ∀ j, j < k → (ss.getD j zeroStV).no ≠ no := fun j hj e => h3 j hj ⟨by omega, e⟩
    exact .inl ⟨k, h1, h2, h4, seated_at h1 h2 h4⟩
  · have h2 : ∀ j, j < ss.length → (ss.getD j zeroStV).no ≠ no := fun j hj e => h ⟨j, hj, e⟩
    exact .inr ⟨h2, seated_none h2⟩

def seatB (s : SeatV) : Bool := inB s.no 0 7 && okP s.lsn s.ss
/-- One seat is right, and no other of its No stands ahead of it. -/
def freshAt (ss : List SeatV) (i : Nat) : Bool := seatB (ss.getD i zeroStV) && decide (seatedOf ss (ss.getD i zeroStV).no = i)
def okPool (p : PoolV) : Bool := decide (p.seats.length ≤ 3) && (inB p.hand 0 2 && (List.range p.seats.length).all (freshAt p.seats))
theorem okPool_long {p : PoolV} (h : ¬ p.seats.length ≤ 3) : okPool p = false := by simp [okPool, h]
theorem okPool_hand {p : PoolV} (h : inB p.hand 0 2 = false) : okPool p = false := by simp [okPool, h]
theorem okPool_no {p : PoolV} (k : Nat) (hk : k < p.seats.length) (h : freshAt p.seats k = false) : okPool p = false := by
  have : (List.range p.seats.length).all (freshAt p.seats) = false := by
    rw [List.all_eq_false]
    exact ⟨k, List.mem_range.2 hk, by simp [h]⟩
  simp [okPool, this]
theorem okPool_yes {p : PoolV} (h1 : p.seats.length ≤ 3) (h2 : inB p.hand 0 2 = true) (h : ∀ k, k < p.seats.length → freshAt p.seats k = true) : okPool p = true := by
  have : (List.range p.seats.length).all (freshAt p.seats) = true := by
    rw [List.all_eq_true]
    exact fun k hk => h k (List.mem_range.1 hk)
  simp [okPool, this, h1, h2]
theorem okPool_iff {p : PoolV} (h : okPool p = true) : p.seats.length ≤ 3 ∧ inB p.hand 0 2 = true ∧ ∀ k, k < p.seats.length → freshAt p.seats k = true := by
  simp only [okPool, Bool.and_eq_true, decide_eq_true_eq, List.all_eq_true] at h
  exact ⟨h.1, h.2.1, fun k hk => h.2.2 k (List.mem_range.2 hk)⟩
theorem fresh_bad {ss : List SeatV} {i : Nat} (h : seatB (ss.getD i zeroStV) = false) : freshAt ss i = false := by simp only [freshAt, h, Bool.false_and]
theorem fresh_dup {ss : List SeatV} {i k : Nat} (hk : k < i) (hi : i < ss.length) (he : (ss.getD k zeroStV).no = (ss.getD i zeroStV).no) : freshAt ss i = false := by
  have : seatedOf ss (ss.getD i zeroStV).no ≠ (i : Int) := by
    rcases seated_cases ss (ss.getD i zeroStV).no with ⟨j, h1, h2, h3, h4⟩ | ⟨h1, _⟩
    · rw [h4]
      intro e
      have : j = i := by omega
      subst this
      exact h3 k hk he
    · exact absurd rfl (h1 i hi)
  rw [freshAt, decide_eq_false this, Bool.and_false]
theorem fresh_yes {ss : List SeatV} {i : Nat} (hi : i < ss.length) (hb : seatB (ss.getD i zeroStV) = true) (h : ∀ k, k < i → (ss.getD k zeroStV).no ≠ (ss.getD i zeroStV).no) : freshAt ss i = true := by
  have := seated_at hi rfl h
  rw [freshAt, hb, decide_eq_true this]
  rfl

/-- The k-th seat becomes another. -/
def setSeatV (p : PoolV) (k : Nat) (f : SeatV → SeatV) : PoolV := ⟨p.seats.set k (f (p.seats.getD k zeroStV)), p.hand⟩
def usedV (s : SeatV) : SeatV := { s with hot := true }
def cleanV (s : SeatV) : SeatV := { s with dirty := false }
def usedOf (p : PoolV) (no : Int) : PoolV := if 0 ≤ seatedOf p.seats no then setSeatV p (seatedOf p.seats no).toNat usedV else p
def cleanOf (p : PoolV) (no : Int) : PoolV := if 0 ≤ seatedOf p.seats no then setSeatV p (seatedOf p.seats no).toNat cleanV else p
def mayChange (p : PoolV) (no lsn : Int) (ss : List SlotV) : Bool := okPool p && (decide (0 ≤ seatedOf p.seats no) && (okP lsn ss && decide ((p.seats.getD (seatedOf p.seats no).toNat zeroStV).lsn ≤ lsn)))
def changeOf6 (p : PoolV) (no lsn : Int) (ss : List SlotV) : PoolV × Bool :=
  if mayChange p no lsn ss = true then (setSeatV p (seatedOf p.seats no).toNat (fun _ => ⟨no, lsn, ss, true, true⟩), true) else (p, false)
end Go.Proofs.YtoboickdkednkaaDoor

/- What a pool is behind a change. -/
namespace Go.Proofs.YtoboickdkednkaaDoor
open Go.RowKit

theorem seatFrom_congr (ss : List SeatV) : ∀ (ts : List SeatV) (no : Int) (b : Nat), ss.map (·.no) = ts.map (·.no) → seatFrom no ss b = seatFrom no ts b := by
  induction ss with
  | nil => intro ts no b h; cases ts with
    | nil => rfl
    | cons t r => simp at h
  | cons s r ih =>
    intro ts no b h
    cases ts with
    | nil => simp at h
    | cons t q =>
      simp only [List.map_cons, List.cons.injEq] at h
      rw [seatFrom, seatFrom, h.1, ih q no (b + 1) h.2]
theorem seated_congr {ss ts : List SeatV} (no : Int) (h : ss.map (·.no) = ts.map (·.no)) : seatedOf ss no = seatedOf ts no := seatFrom_congr ss ts no 0 h
theorem map_no_set (ss : List SeatV) (k : Nat) (x : SeatV) (h : x.no = (ss.getD k zeroStV).no) : (ss.set k x).map (·.no) = ss.map (·.no) := by
  induction ss generalizing k with
  | nil => rfl
  | cons s r ih =>
    cases k with
    | zero => simp only [List.set_cons_zero, List.map_cons, List.getD_cons_zero] at h ⊢; rw [h]
    | succ k => simp only [List.set_cons_succ, List.map_cons, List.getD_cons_succ] at h ⊢; rw [ih k h]
theorem getD_setV (ss : List SeatV) (k j : Nat) (x : SeatV) (hk : k < ss.length) : (ss.set k x).getD j zeroStV = if j = k then x else ss.getD j zeroStV := by
  by_cases h : j = k
  · subst h; simp [List.getD, List.getElem?_set_self hk]
  · rw [if_neg h]; simp [List.getD, List.getElem?_set_ne (Ne.symm h)]
/-- A seat that is another, of the same No and right: the pool stays right. -/
theorem okPool_set {p : PoolV} {k : Nat} {f : SeatV → SeatV} (hp : okPool p = true) (hk : k < p.seats.length) (hn : (f (p.seats.getD k zeroStV)).no = (p.seats.getD k zeroStV).no) (hb : seatB (f (p.seats.getD k zeroStV)) = true) : okPool (setSeatV p k f) = true := by
  obtain ⟨h1, h2, h3⟩ := okPool_iff hp
  refine okPool_yes (by simpa [setSeatV] using h1) h2 (fun j hj => ?_)
  have hj' : j < p.seats.length := by simpa [setSeatV] using hj
  have h4 := h3 j hj'
  simp only [freshAt, Bool.and_eq_true, decide_eq_true_eq] at h4 ⊢
  have e : ((setSeatV p k f).seats.getD j zeroStV).no = (p.seats.getD j zeroStV).no := by
    rw [setSeatV]
    simp only
    rw [getD_setV _ _ _ _ hk]
    split
    · rename_i h; rw [hn, h]
    · rfl
  rw [e, show seatedOf (setSeatV p k f).seats (p.seats.getD j zeroStV).no = seatedOf p.seats (p.seats.getD j zeroStV).no from seated_congr _ (map_no_set p.seats k _ hn)]
  refine ⟨?_, h4.2⟩
  rw [setSeatV]
  simp only
  rw [getD_setV _ _ _ _ hk]
  split
  · exact hb
  · exact h4.1
theorem may_parts {p : PoolV} {no lsn : Int} {ss : List SlotV} (h : mayChange p no lsn ss = true) : okPool p = true ∧ (∃ k : Nat, k < p.seats.length ∧ seatedOf p.seats no = k ∧ (p.seats.getD k zeroStV).no = no) ∧ okP lsn ss = true := by
  simp only [mayChange, Bool.and_eq_true, decide_eq_true_eq] at h
  refine ⟨h.1, ?_, h.2.2.1⟩
  rcases seated_cases p.seats no with ⟨k, h1, h2, _, h4⟩ | ⟨_, h4⟩
  · exact ⟨k, h1, h4, h2⟩
  · rw [h4] at h; omega
/-- What the law of a change asks, of a pool that was changed. -/
theorem changed_parts {p : PoolV} {no lsn : Int} {ss : List SlotV} {n : PoolV} (h : changeOf6 p no lsn ss = (n, true)) :
    ∃ k : Nat, k < p.seats.length ∧ seatedOf p.seats no = k ∧ n.seats.length = p.seats.length ∧ n.seats.getD k zeroStV = ⟨no, lsn, ss, true, true⟩ ∧ (cleanOf n no).seats.length = p.seats.length ∧ (cleanOf n no).seats.getD k zeroStV = ⟨no, lsn, ss, false, true⟩ ∧ (usedOf p no).seats.length = p.seats.length ∧ ((usedOf p no).seats.getD k zeroStV).hot = true ∧ okPool n = true := by
  have hm : mayChange p no lsn ss = true := by
    cases hm : mayChange p no lsn ss with
    | true => rfl
    | false => rw [changeOf6, if_neg (by rw [hm]; decide)] at h; cases h
  obtain ⟨hp, ⟨k, hk, hs, hno⟩, hok⟩ := may_parts hm
  rw [changeOf6, if_pos hm, hs] at h
  have hn : n = setSeatV p k (fun _ => ⟨no, lsn, ss, true, true⟩) := (Prod.mk.inj h).1.symm
  have hse : seatedOf n.seats no = k := by
    rw [hn, ← hs]
    exact seated_congr _ (map_no_set p.seats k _ hno.symm)
  have hnl : n.seats.length = p.seats.length := by rw [hn]; simp [setSeatV]
  have hnk : n.seats.getD k zeroStV = ⟨no, lsn, ss, true, true⟩ := by
    rw [hn, setSeatV]
    simp only
    rw [getD_setV _ _ _ _ hk, if_pos rfl]
  have hb : inB no 0 7 = true := by
    obtain ⟨_, _, h3⟩ := okPool_iff hp
    have := h3 k hk
    simp only [freshAt, seatB, Bool.and_eq_true] at this
    rw [← hno]; exact this.1.1
  have hc : cleanOf n no = setSeatV n k cleanV := by rw [cleanOf, if_pos (by rw [hse]; omega), hse]; rfl
  have hu : usedOf p no = setSeatV p k usedV := by rw [usedOf, if_pos (by rw [hs]; omega), hs]; rfl
  refine ⟨k, hk, hs, hnl, hnk, by rw [hc]; simp [setSeatV, hnl], ?_, by rw [hu]; simp [setSeatV], ?_, ?_⟩
  · rw [hc, setSeatV]
    simp only
    rw [getD_setV _ _ _ _ (by rw [hnl]; exact hk), if_pos rfl, hnk]
    rfl
  · rw [hu, setSeatV]
    simp only
    rw [getD_setV _ _ _ _ hk, if_pos rfl]
    rfl
  · rw [hn]
    exact okPool_set hp hk hno.symm (by simp [seatB, hb, hok])
/-- And of one that was not. -/
theorem unchanged_parts {p : PoolV} {no lsn : Int} {ss : List SlotV} {n : PoolV} (h : changeOf6 p no lsn ss = (n, false)) :
    n.seats.length = p.seats.length ∧ (usedOf p no).seats.length = p.seats.length ∧ (seatedOf p.seats no < 0 ∨ ∃ k : Nat, k < p.seats.length ∧ seatedOf p.seats no = k ∧ ((usedOf p no).seats.getD k zeroStV).hot = true) := by
  have hn : n = p := by
    rw [changeOf6] at h
    split at h
    · cases h
    · exact (Prod.mk.inj h).1.symm
  refine ⟨by rw [hn], ?_, ?_⟩
  · rw [usedOf]; split <;> simp [setSeatV]
  · rcases seated_cases p.seats no with ⟨k, h1, h2, _, h4⟩ | ⟨_, h4⟩
    · refine .inr ⟨k, h1, h4, ?_⟩
      rw [usedOf, if_pos (by rw [h4]; omega), h4, setSeatV]
      simp only [Int.toNat_natCast]
      rw [getD_setV _ _ _ _ h1, if_pos rfl]
      rfl
    · exact .inl (by rw [h4]; omega)
end Go.Proofs.YtoboickdkednkaaDoor

/- The walk of impl.Seated. -/
namespace Go.Proofs.YtoboickdkednkaaDoor
open Go.RowKit

theorem specSeatedP_any (p : PoolA) (no : Int) (w : World) (hr : p.reads w) (hl : p.short 1099511627776) :
    Calls Tryd.prog 30 #[.agg p.cells.toArray, .int .i64 no] w fun r w' => r = .returned (.int .i64 (seatedOf p.v.seats no)) ∧ Below w.heap.size w w' :=
  specSeated_any p.a p.c p.seats p.hand no w hr hl.len

set_option maxHeartbeats 1000000 in
set_option maxRecDepth 100000 in
theorem implSeated_any (p : PoolA) (no : Int) (w : World) (hr : p.reads w) (hl : p.short 1099511627776) :
    Calls Tryd.prog 12 #[.agg p.cells.toArray, .int .i64 no] w fun r w' => r = .returned (.int .i64 (seatedOf p.v.seats no)) ∧ Below w.heap.size w w' := by
  obtain ⟨ls, hand, a, c⟩ := p
  have hlen := hl.len
  simp only [PoolA.cells, PoolA.reads, PoolA.v] at *
  obtain ⟨W, hW, b0, hbW, hsW⟩ := boxes1 w [.slice a ls.length c, .int .i64 hand] 26
  have HR : Hid (∀ u, Below W.heap.size W u → ReadsSts u a ls) := fun u hu => hr.below (hbW.trans (hu.mono hbW.size))
  have HF : Hid (seatFrom no ((ls.map SeatA.v).drop 0) 0 = seatedOf (ls.map SeatA.v) no) := rfl
  have HJ : Hid ((Tryd.prog.info? 38).map (·.size) = some 20) := by rw [Hid]; kernel_rfl
  generalize seatedOf (ls.map SeatA.v) no = R at *
  clear hsW hr hl
  have x0 := b0.cell 0 _ rfl
  go_enter Tryd.func12, Tryd.ntmps12
  go_upto_region 1 with fail
  rw [hW.out]
  clear hW
  go_wp2_with fail
  clear x0 b0
  go_loopw [10] (fun i wr => ∃ (k : Nat), i = .int .i64 k ∧ k ≤ ls.length ∧ Hid (seatFrom no ((ls.map SeatA.v).drop k) k = R) ∧ Below W.heap.size W wr)
    (fun i _ => ls.length - (intOf i).toNat)
  case atStart => exact ⟨0, rfl, by omega, HF, Below.refl _ _⟩
  case round =>
    obtain ⟨k, rfl, hk, hR, hbl⟩ := hrel
    have hrr := HR.out wr hbl
    have hbT : Below w.heap.size w wr := hbW.trans (hbl.mono hbW.size)
    by_cases hlt : k < ls.length
    · obtain ⟨b, off, rfl, hcell⟩ := hrr (by rintro rfl; simp at hlt)
      have HRG : Hid (wr.rangeAt b (off + k * 20) (ls.getD k zeroSt).cells) := (hcell k hlt).1
      clear hcell
      have hkk : (k : Int) < (ls.length : Int) := by omega
      have hi0 : (0 : Int) ≤ (k : Int) := by omega
      have HR2 : Hid ((if (ls.getD k zeroSt).no = no then (k : Int) else seatFrom no ((ls.map SeatA.v).drop (k + 1)) (k + 1)) = R) := by
        have h := hR.out
        rw [dropSt_at ls k hlt, seatFrom] at h
        exact h
      generalize ls.getD k zeroSt = z at *
      obtain ⟨W1, hW1, b1, hb1, hs1⟩ := boxes1 wr [.int .i64 0, .int .i64 0, .bool false, .int .i64 0, .slice none 0 0, .slice none 0 0, .bool false, .int .i64 0, .slice none 0 0, .slice none 0 0, .bool false, .int .i64 0, .slice none 0 0, .slice none 0 0, .bool false, .int .i64 0, .slice none 0 0, .slice none 0 0, .bool false, .bool false] 38
      obtain ⟨W2, hW2, hw2, hs2, HT2, _, b2⟩ := seat_out z _ rfl b1
      have hB2 : Below W.heap.size W W2 := (hbl.trans (hb1.mono hbl.size)).trans (hw2.below hbl.size (by have := hbl.size; omega))
      have hbT2 : Below w.heap.size w W2 := hbW.trans (hB2.mono hbW.size)
      have x0 : W2.cell? ⟨wr.heap.size, 0, none⟩ = some (.int .i64 z.no) := b2.cell 0 _ rfl
      have HW2 : Hid (W1.setCells wr.heap.size 0 z.cells.toArray.toList = W2) := hW2.out
      have hOz := seat_one z
      clear hs1 hs2 b1 b2 hb1 hw2 hW2 hR hbl hbT
      by_cases hq : z.no = no
      · have HR3 : Hid ((k : Int) = R) := by have h := HR2.out; rw [if_pos hq] at h; exact h
        have hqb : (z.no == no) = true := by simpa using hq
        clear hq HR2
        go_wp2_with (first | (guard_target = wpList _ _ _ (Oper.mk (some 14) _ _ _ _ _ :: _) _ _; refine wpList_load_mid rfl 38 (.tmp 13) rfl b (off + k * 20) rfl z.cells _ HRG.out Tryd.underlying38 rfl HJ.out ?_) | (guard_target = wpList _ _ _ (Oper.mk none (Op.store _ (Operand.tmp 6) _) _ _ _ _ :: _) _ _; refine wpList_store_mid rfl 38 (.tmp 6) (.tmp 14) rfl wr.heap.size 0 z.cells.toArray rfl rfl (by rw [hW1.out]; exact HT2.out) HJ.out hOz ?_; rw [hW1.out, HW2.out]) | fail)
        go_ret
        exact ⟨ret_int HR3.out, hbT2⟩
      · have HR3 : Hid (seatFrom no ((ls.map SeatA.v).drop (k + 1)) (k + 1) = R) := by have h := HR2.out; rw [if_neg hq] at h; exact h
        have hqb : (z.no == no) = false := by simpa using hq
        clear hq HR2
        go_wp2_with (first | (guard_target = wpList _ _ _ (Oper.mk (some 14) _ _ _ _ _ :: _) _ _; refine wpList_load_mid rfl 38 (.tmp 13) rfl b (off + k * 20) rfl z.cells _ HRG.out Tryd.underlying38 rfl HJ.out ?_) | (guard_target = wpList _ _ _ (Oper.mk none (Op.store _ (Operand.tmp 6) _) _ _ _ _ :: _) _ _; refine wpList_store_mid rfl 38 (.tmp 6) (.tmp 14) rfl wr.heap.size 0 z.cells.toArray rfl rfl (by rw [hW1.out]; exact HT2.out) HJ.out hOz ?_; rw [hW1.out, HW2.out]) | fail)
        go_roundw
        case rel => exact ⟨k + 1, by go_num, by omega, HR3, hB2⟩
        case measure => simp [intOf]; omega
    · have hkk : ¬ (k : Int) < (ls.length : Int) := by omega
      have HR' : Hid (-1 = R) := by
        have h := hR.out
        rw [List.drop_eq_nil_of_le (by rw [List.length_map]; omega), seatFrom] at h
        exact h
      clear hR
      go_wp2
      go_ret
      exact ⟨ret_int HR'.out, hbT⟩
end Go.Proofs.YtoboickdkednkaaDoor

/- The walks of impl.markSlots over impl.slotHas and over impl.slotOk. -/
namespace Go.Proofs.YtoboickdkednkaaDoor
open Go.RowKit

/-- A row of four marks of which the first ones are laid. -/
def mkB (bs : List Bool) : List Value := bs.map Value.bool ++ List.replicate (4 - bs.length) (.bool false)
theorem mkB_set (bs : List Bool) (b : Bool) (h : bs.length < 4) : (mkB bs).set bs.length (.bool b) = mkB (bs ++ [b]) := by
  unfold mkB
  rw [List.set_append_right _ _ (by simp)]
  have e : 4 - bs.length = (4 - (bs ++ [b]).length) + 1 := by simp; omega
  rw [e, List.replicate_succ]
  simp
theorem mkB_len (bs : List Bool) (h : bs.length ≤ 4) : (mkB bs).length = 4 := by simp [mkB]; omega
theorem mkB_some (bs : List Bool) (h : bs.length ≤ 4) (k : Nat) (hk : k < 4) : ∃ v, (mkB bs)[k]? = some v := ⟨_, List.getElem?_eq_getElem (by rw [mkB_len bs h]; exact hk)⟩
/-- The answer is a row of these four marks. -/
def FourAns (bs : List Bool) (e : Ending) : Prop := ∃ c0 c1 c2 c3 : Bool, e = .returned (.agg #[.bool c0, .bool c1, .bool c2, .bool c3]) ∧ bs = [c0, c1, c2, c3]
theorem take_snoc (ss : List SlotA) (q : SlotV → Bool) (k : Nat) (h : k < ss.length) : (ss.take (k + 1)).map (fun s => q s.v) = (ss.take k).map (fun s => q s.v) ++ [q (ss.getD k zeroS).v] := by
  rw [List.take_add_one, List.map_append]
  simp [List.getD, h]

set_option maxHeartbeats 1000000 in
set_option maxRecDepth 100000 in
theorem markSlots_ok (p : PageA) (h4 : p.ss.length = 4) (w : World) (hg : ErrT w) (hr : ReadsS w p.ss) (hl : Fit p.ss) :
    Calls Tryd.prog 40 #[.agg p.cells.toArray, .func (.func 41) #[] #[]] w fun e w' => FourAns (p.ss.map (fun s => slotB s.v)) e ∧ Below w.heap.size w w' := by
  obtain ⟨n, ss⟩ := p
  simp only [PageA.cells] at *
  obtain ⟨W, hW, b0, b1, b2, hbW, hsW⟩ := boxes3 w (.int .i64 n :: cellsS ss) [.bool false, .bool false, .bool false, .bool false] [.bool false, .bool false, .bool false, .bool false] 34 70 70
  have b2' : Box W (w.heap.size + 1 + 1) (mkB []) 70 := b2
  have hsW' : w.heap.size + 1 + 1 < W.heap.size := by omega
  have hrg0 : W.rangeAt w.heap.size 1 (cellsS ss) := Box.range [.int .i64 n] (cellsS ss) [] (by simpa using b0)
  have hi0 : (Tryd.prog.info? 32).map (·.size) = some (cellsS ss).length := by rw [cellsS_len, h4]; kernel_rfl
  have HX := run_index_slot ss h4
  have H4 : Hid (ss.length = 4) := h4
  clear b2 hsW h4
  go_enter Tryd.func40, Tryd.ntmps40
  go_wp2_with (first | (guard_target = wpList _ _ _ (Oper.mk (some 9) _ _ _ _ _ :: _) _ _; refine wpList_load_mid rfl 32 (.tmp 8) rfl w.heap.size 1 rfl (cellsS ss) _ (by rw [hW.out]; exact hrg0) Tryd.underlying32 rfl hi0 ?_) | fail)
  rw [hW.out]
  clear hW hrg0 hi0
  go_loopw [10] (fun i wr => ∃ (k : Nat) (bs : List Bool), i = .int .i64 k ∧ k ≤ 4 ∧ Hid (bs.length = k ∧ bs = (ss.take k).map (fun s => slotB s.v)) ∧ Box wr (w.heap.size + 1 + 1) (mkB bs) 70 ∧ Below (w.heap.size + 1 + 1) W wr)
    (fun i _ => 4 - (intOf i).toNat)
  case atStart => exact ⟨0, [], rfl, by omega, ⟨rfl, rfl⟩, b2', Below.refl _ _⟩
  case round =>
    obtain ⟨k, bs, rfl, hk, hbs, hbox, hbl⟩ := hrel
    clear b2'
    have b1r := b1.below hbl (by omega)
    have hsr := hbl.size
    by_cases hlt : k < 4
    · have hkl : k < ss.length := by rw [H4.out]; exact hlt
      have hx := HX k hlt
      clear HX
      have hbs4 : bs.length ≤ 4 := by have := hbs.out.1; omega
      have HV : Hid (_ = _) := take_snoc ss (fun s => slotB s) k hkl
      have hgr := hg.keep (hbW.trans (hbl.mono (by omega)))
      have hrk := (hr _ (getD_mem hkl)).below (hbW.trans (hbl.mono (by omega)))
      have hlk : Fit [ss.getD k zeroS] := fun s hs => by obtain rfl := List.mem_singleton.1 hs; exact hl _ (getD_mem hkl)
      generalize ss.getD k zeroS = s at *
      simp only [SlotA.cells] at hx
      obtain ⟨W1, hW1, bx, hbx1, hsx1⟩ := boxes1 wr [.bool s.v.has, .int .i64 s.v.o.kind, .slice s.aI s.v.o.ints.length s.cI, .slice s.aR s.v.o.refs.length s.cR] 31
      have hsz := hbox.lt
      have B1 : Below (w.heap.size + 1 + 1) W W1 := hbl.trans (hbx1.mono (by omega))
      go_wp2_with fail
      rw [hW1.out]
      clear hx
      refine (slotOk_any s W1 (hgr.keep hbx1) (hrk.below hbx1) hlk).mono ?_
      rintro e w2 ⟨rfl, hb2⟩
      have hs2 := hb2.size
      have bm2 := (hbox.below hbx1 hsz).below hb2 (by omega)
      obtain ⟨u, hu⟩ := mkB_some bs hbs4 k hlt
      have hc := bm2.cell k u hu
      have hf := bm2.frozen k
      obtain ⟨W3, hW3, b3, hw3, hs3⟩ := box_set bm2 k (.bool (slotB s.v))
      have b3' : Box W3 (w.heap.size + 1 + 1) (mkB (bs ++ [slotB s.v])) 70 := by
        have e := mkB_set bs (slotB s.v) (by have := hbs.out.1; omega)
        rw [hbs.out.1] at e
        rw [← e]; exact b3
      have HB : Hid ((bs ++ [slotB s.v]).length = k + 1 ∧ bs ++ [slotB s.v] = (ss.take (k + 1)).map (fun s => slotB s.v)) := ⟨by have := hbs.out.1; simp; omega, by rw [HV.out, ← hbs.out.2]⟩
      have B3 : Below (w.heap.size + 1 + 1) W W3 := (B1.trans (hb2.mono (by omega))).trans (hw3.below (Nat.le_refl _) (by omega))
      clear b3 bm2 hu HV
      go_wp2_with fail
      rw [hW3.out]
      go_roundw
      case rel => exact ⟨k + 1, bs ++ [slotB s.v], by go_num, by omega, HB, b3', B3⟩
      case measure => simp [intOf]; omega
    · obtain rfl : k = 4 := by omega
      have hkk : ¬ ((4 : Nat) : Int) < 4 := by omega
      have HQ : Hid (bs = ss.map (fun s => slotB s.v)) := by rw [Hid, hbs.out.2, List.take_of_length_le (by rw [H4.out]; omega)]
      obtain ⟨c0, c1, c2, c3, rfl⟩ : ∃ c0 c1 c2 c3, bs = [c0, c1, c2, c3] := by
        match bs, hbs.out.1 with
        | [c0, c1, c2, c3], _ => exact ⟨c0, c1, c2, c3, rfl⟩
      have hbx : Box wr (w.heap.size + 1 + 1) [.bool c0, .bool c1, .bool c2, .bool c3] 70 := hbox
      obtain ⟨x0, x1, x2, x3, _⟩ := hbx.four
      obtain ⟨y0, y1, y2, y3, f0, f1, f2, f3⟩ := b1r.four
      obtain ⟨WF, hWF, bF, hwF, hsF⟩ := box4_fill b1r (.bool c0) (.bool c1) (.bool c2) (.bool c3)
      have hbF : Below w.heap.size w WF := (hbW.trans (hbl.mono (by omega))).trans (hwF.below (by omega) (by omega))
      clear hbox hbs
      go_wp2
      rw [hWF.out]
      obtain ⟨q0, q1, q2, q3, _⟩ := bF.four
      exact bodyPost_ret (v := .agg #[.bool c0, .bool c1, .bool c2, .bool c3]) (by simp [results, Tryd.results40, go_sem, q0, q1, q2, q3]) rfl ⟨⟨c0, c1, c2, c3, rfl, HQ.out.symm⟩, hbF⟩
end Go.Proofs.YtoboickdkednkaaDoor

/- The walk of impl.PageOk. -/
namespace Go.Proofs.YtoboickdkednkaaDoor
open Go.RowKit

theorem okP_out {n : Int} {vs : List SlotV} (h : inB n 0 1000000 = false) : okP n vs = false := by simp [okP, h]
theorem okP_four {n : Int} {ss : List SlotA} {c0 c1 c2 c3 : Bool} (h : inB n 0 1000000 = true) (hb : ss.map (fun s => slotB s.v) = [c0, c1, c2, c3]) : okP n (ss.map (·.v)) = (c0 && (c1 && (c2 && c3))) := by
  have e : (ss.map (·.v)).map slotB = [c0, c1, c2, c3] := by rw [List.map_map]; exact hb
  have e2 : ∀ vs : List SlotV, vs.all slotB = (vs.map slotB).all id := fun vs => by induction vs with
    | nil => rfl
    | cons v r ih => rw [List.all_cons, List.map_cons, List.all_cons, ← ih]; rfl
  rw [okP, h, Bool.and_true, e2, e]
  simp

theorem run_eq4 (c0 c1 c2 c3 : Bool) (w : World) : (Op.equalIn 10000 70 (.agg #[.bool c0, .bool c1, .bool c2, .bool c3]) (.agg #[.bool true, .bool true, .bool true, .bool true])).run Tryd.prog w = .ok (c0 && (c1 && (c2 && c3))) w := by
  cases c0 <;> cases c1 <;> cases c2 <;> cases c3 <;> kernel_rfl

set_option maxHeartbeats 1000000 in
set_option maxRecDepth 100000 in
theorem implPageOk_any (p : PageA) (h4 : p.ss.length = 4) (w : World) (hg : ErrT w) (hr : ReadsS w p.ss) (hl : Fit p.ss) :
    Calls Tryd.prog 24 #[.agg p.cells.toArray] w fun e w' => e = .returned (.bool (okP p.lsn (p.ss.map (·.v)))) ∧ Below w.heap.size w w' := by
  obtain ⟨W, hW, b0, b1, hbW, hsW⟩ := boxes2 w p.cells [.bool true, .bool true, .bool true, .bool true] 34 70
  have hc0 : ∀ w', Below W.heap.size W w' → w'.cell? ⟨w.heap.size, 0, none⟩ = some (.int .i64 p.lsn) := fun w' hh => (b0.below hh b0.lt).cell 0 _ rfl
  have hw0 := hc0 W (Below.refl _ _)
  cases hin : inB p.lsn 0 1000000 with
  | false =>
    have HF : Hid (okP p.lsn (p.ss.map (·.v)) = false) := okP_out hin
    have hz := inB_false hin
    clear hin hc0
    generalize okP p.lsn (p.ss.map (·.v)) = R at *
    generalize p.lsn = n at *
    rcases hz with h1 | ⟨h1, h2⟩
    · have h1' : decide ((0 : Int) ≤ n) = false := decide_eq_false (by omega)
      clear h1
      go_enter Tryd.func24, Tryd.ntmps24
      go_wp2_with fail
      rw [hW.out]
      go_quiet (fail)
      go_wp2
      go_ret
      exact ⟨ret_bool HF.out.symm, below_drewN hbW _⟩
    · have h1' : decide ((0 : Int) ≤ n) = true := decide_eq_true (by omega)
      have h2' : decide (n ≤ 1000000) = false := decide_eq_false (by omega)
      clear h1 h2
      go_enter Tryd.func24, Tryd.ntmps24
      go_wp2_with fail
      rw [hW.out]
      go_quiet (fail)
      go_wp2
      go_ret
      exact ⟨ret_bool HF.out.symm, below_drewN hbW _⟩
  | true =>
    obtain ⟨h1, h2⟩ := inB_true hin
    have h1' : (0 : Int) ≤ p.lsn := by omega
    have h2' : p.lsn ≤ 1000000 := by omega
    have HIN : Hid (_ = _) := hin
    have HRG : Hid (∀ w', Below W.heap.size W w' → w'.rangeAt w.heap.size 0 p.cells) := fun w' hh => Box.range [] p.cells [] (by simpa using b0.below hh b0.lt)
    have HRA : Hid (∀ w', Below W.heap.size W w' → w'.rangeAt (w.heap.size + 1) 0 [.bool true, .bool true, .bool true, .bool true]) := fun w' hh => Box.range [] [.bool true, .bool true, .bool true, .bool true] [] (by simpa using b1.below hh b1.lt)
    have HI : Hid ((Tryd.prog.info? 34).map (·.size) = some p.cells.length) := by rw [Hid, page_len p h4]; kernel_rfl
    clear hin h1 h2
    go_enter Tryd.func24, Tryd.ntmps24
    go_wp2_with fail
    rw [hW.out]
    refine wp_region_held_drew (S := fun w' => w'.cell? ⟨w.heap.size, 0, none⟩ = some (.int .i64 p.lsn) ∧ w'.rangeAt w.heap.size 0 p.cells ∧ w'.rangeAt (w.heap.size + 1) 0 [.bool true, .bool true, .bool true, .bool true]) (by kernel_rfl) ?_ (fun hHeld => ?_)
    · exact ⟨hc0 _ (Below.refl _ _).drew, HRG.out _ (Below.refl _ _).drew, HRA.out _ (Below.refl _ _).drew⟩
    have hd1 : decide ((0 : Int) ≤ p.lsn) = true := decide_eq_true h1'
    have hd2 : decide (p.lsn ≤ 1000000) = true := decide_eq_true h2'
    refine wpAnyH_take (i := 0) (v := .pointer (some ⟨w.heap.size, 0, none⟩)) rfl (by kernel_rfl) (by kernel_rfl) (by kernel_rfl) (fun _ _ _ h => h) (Or.inl ⟨by rfl, fun w' hw' => ?_⟩) hHeld ?_
    · go_simp
    go_simp
    refine wpAnyH_take (i := 1) (v := .int .i64 p.lsn) rfl (by kernel_rfl) (by kernel_rfl) (by kernel_rfl) (fun _ _ _ h => h) (Or.inl ⟨by rfl, fun w' hw' => ?_⟩) hHeld ?_
    · have q := hw'.1; go_simp
    go_simp
    refine wpAnyH_take (i := 2) (v := .bool true) rfl (by kernel_rfl) (by kernel_rfl) (by kernel_rfl) (fun _ _ _ h => h) (Or.inl ⟨by rfl, fun w' hw' => ?_⟩) hHeld ?_
    · go_simp
    go_simp
    refine wpAnyH_take (i := 3) (v := .bool true) rfl (by kernel_rfl) (by kernel_rfl) (by kernel_rfl) (fun _ _ _ h => h) (Or.inl ⟨by rfl, fun w' hw' => ?_⟩) hHeld ?_
    · go_simp
    go_simp
    refine wpAnyH_take (i := 4) (v := .pointer (some ⟨w.heap.size, 0, none⟩)) rfl (by kernel_rfl) (by kernel_rfl) (by kernel_rfl) (fun _ _ _ h => h) (Or.inl ⟨by rfl, fun w' hw' => ?_⟩) hHeld ?_
    · go_simp
    go_simp
    refine wpAnyH_take (i := 5) (v := .int .i64 p.lsn) rfl (by kernel_rfl) (by kernel_rfl) (by kernel_rfl) (fun _ _ _ h => h) (Or.inl ⟨by rfl, fun w' hw' => ?_⟩) hHeld ?_
    · have q := hw'.1; go_simp
    go_simp
    refine wpAnyH_take (i := 6) (v := .bool true) rfl (by kernel_rfl) (by kernel_rfl) (by kernel_rfl) (fun _ _ _ h => h) (Or.inl ⟨by rfl, fun w' hw' => ?_⟩) hHeld ?_
    · go_simp
    go_simp
    refine wpAnyH_take (i := 7) (v := .bool true) rfl (by kernel_rfl) (by kernel_rfl) (by kernel_rfl) (fun _ _ _ h => h) (Or.inl ⟨by rfl, fun w' hw' => ?_⟩) hHeld ?_
    · go_simp
    go_simp
    refine wpAnyH_take (i := 8) (v := .bool true) rfl (by kernel_rfl) (by kernel_rfl) (by kernel_rfl) (fun _ _ _ h => h) (Or.inl ⟨by rfl, fun w' hw' => ?_⟩) hHeld ?_
    · go_simp
    go_simp
    refine wpAnyH_take (i := 9) rfl (by kernel_rfl) (by kernel_rfl) (by kernel_rfl) (fun _ _ _ h => h) (yieldsIf_load_mid (by rfl) _ _ rfl _ _ rfl p.cells _ (fun _ h => h.2.1) Tryd.underlying34 rfl HI.out) hHeld ?_
    go_simp
    refine wpAnyH_take (i := 11) rfl (by kernel_rfl) (by kernel_rfl) (by kernel_rfl) (fun _ _ _ h => h) (yieldsIf_load_mid (by rfl) _ _ rfl _ _ rfl [.bool true, .bool true, .bool true, .bool true] _ (fun _ h => h.2.2) Tryd.underlying70 rfl (by kernel_rfl)) hHeld ?_
    go_simp
    refine wpAnyH_ready (rs := [10]) (by kernel_rfl) (by simp) ?_
    refine AllReadyH.cons rfl (fun K hK => ?_) AllReadyH.nil
    go_simp
    refine (markSlots_ok p h4 _ (hg.keep hbW.drew) (hr.below hbW.drew) hl).mono ?_
    rintro e w2 ⟨⟨c0, c1, c2, c3, rfl, hcs⟩, hb2⟩
    have B2 : Below W.heap.size W w2 := ((Below.refl _ _).drew).trans hb2
    have HR : Hid (_ = _) := okP_four HIN.out hcs
    clear hcs
    refine hK.out _ _ ⟨hc0 _ B2, HRG.out _ B2, HRA.out _ B2⟩ (fun hHeld => ?_)
    clear hK K
    refine wpAnyH_take (i := 12) (v := .bool (c0 && (c1 && (c2 && c3)))) rfl (by kernel_rfl) (by kernel_rfl) (by kernel_rfl) (fun _ _ _ h => h) (Or.inl ⟨by rfl, fun w' hw' => ?_⟩) hHeld ?_
    · have q := run_eq4 c0 c1 c2 c3 w'; go_simp
    go_simp
    generalize (c0 && (c1 && (c2 && c3))) = D at *
    refine wpAnyH_take (i := 13) (v := .bool D) rfl (by kernel_rfl) (by kernel_rfl) (by kernel_rfl) (fun _ _ _ h => h) (Or.inl ⟨by rfl, fun w' hw' => ?_⟩) hHeld ?_
    · go_simp
    go_simp
    refine wpAnyH_take (i := 14) (v := .bool D) rfl (by kernel_rfl) (by kernel_rfl) (by kernel_rfl) (fun _ _ _ h => h) (Or.inl ⟨by rfl, fun w' hw' => ?_⟩) hHeld ?_
    · go_simp
    go_simp
    refine wpAnyH_done (by kernel_rfl) ?_ _
    go_wp2
    go_ret
    exact ⟨ret_bool HR.out.symm, hbW.trans (B2.mono hbW.size)⟩
end Go.Proofs.YtoboickdkednkaaDoor

/- The walks of impl.pageNoOk and impl.PoolOk. -/
namespace Go.Proofs.YtoboickdkednkaaDoor
open Go.RowKit

theorem pageNoOk_any (no : Int) (w : World) : Calls Tryd.prog 23 #[.int .i64 no] w fun e w' => e = .returned (.bool (inB no 0 7)) ∧ w' = w := by
  by_cases h1 : 0 ≤ no
  · by_cases h2 : no < 8
    · have HB : Hid (inB no 0 7 = true) := by simp [Hid, inB]; omega
      go_enter Tryd.func23, Tryd.ntmps23
      go_wp2
      go_ret
      exact ⟨ret_bool HB.out.symm, rfl⟩
    · have HB : Hid (inB no 0 7 = false) := by simp [Hid, inB]; omega
      go_enter Tryd.func23, Tryd.ntmps23
      go_wp2
      go_ret
      exact ⟨ret_bool HB.out.symm, rfl⟩
  · have HB : Hid (inB no 0 7 = false) := by simp [Hid, inB]; omega
    go_enter Tryd.func23, Tryd.ntmps23
    go_wp2
    go_ret
    exact ⟨ret_bool HB.out.symm, rfl⟩
theorem fresh_v (p : PoolA) (k : Nat) : freshAt p.v.seats k = (inB (p.seats.getD k zeroSt).no 0 7 && okP (p.seats.getD k zeroSt).lsn ((p.seats.getD k zeroSt).ss.map (·.v)) && decide (seatedOf p.v.seats (p.seats.getD k zeroSt).no = k)) := by
  rw [freshAt, PoolA.v, seatV_at]
  rfl

set_option maxHeartbeats 4000000 in
set_option maxRecDepth 100000 in
theorem implPoolOk_any (p : PoolA) (w : World) (hg : ErrT w) (hr : p.reads w) (hl : p.short 1099511627776) :
    Calls Tryd.prog 11 #[.agg p.cells.toArray] w fun e w' => e = .returned (.bool (okPool p.v)) ∧ Below w.heap.size w w' := by
  have HLEN : Hid (¬ p.seats.length ≤ 3 → okPool p.v = false) := fun h => okPool_long (by simpa [PoolA.v] using h)
  have HHAND : Hid (inB p.hand 0 2 = false → okPool p.v = false) := fun h => okPool_hand h
  have HNO : Hid (∀ k, k < p.seats.length → (inB (p.seats.getD k zeroSt).no 0 7 && okP (p.seats.getD k zeroSt).lsn ((p.seats.getD k zeroSt).ss.map (·.v)) && decide (seatedOf p.v.seats (p.seats.getD k zeroSt).no = k)) = false → okPool p.v = false) := fun k hk h => okPool_no k (by simpa [PoolA.v] using hk) (by rw [fresh_v]; exact h)
  have HALL : Hid (p.seats.length ≤ 3 → inB p.hand 0 2 = true → (∀ k, k < p.seats.length → (inB (p.seats.getD k zeroSt).no 0 7 && okP (p.seats.getD k zeroSt).lsn ((p.seats.getD k zeroSt).ss.map (·.v)) && decide (seatedOf p.v.seats (p.seats.getD k zeroSt).no = k)) = true) → okPool p.v = true) := fun h0 h1 h => okPool_yes (by simpa [PoolA.v] using h0) h1 (fun k hk => by rw [fresh_v]; exact h k (by simpa [PoolA.v] using hk))
  have HST : Hid (∀ no u, Below w.heap.size w u → Calls Tryd.prog 12 #[.agg p.cells.toArray, .int .i64 no] u fun r w' => r = .returned (.int .i64 (seatedOf p.v.seats no)) ∧ Below u.heap.size u w') := fun no u hu => implSeated_any p no u (hr.below hu) hl
  generalize okPool p.v = R at *
  generalize seatedOf p.v.seats = SD at *
  have HS : Hid (∀ k, k < p.seats.length → (p.seats.getD k zeroSt).short 1099511627776) := fun k hk => hl.at k hk
  have hlen := hl.len
  obtain ⟨rs, s, a, c⟩ := p
  simp only [PoolA.reads, PoolA.cells] at *
  obtain ⟨W, hW, b0, hbW, hsW⟩ := boxes1 w [.slice a rs.length c, .int .i64 s] 26
  have c0 := b0.cell 0 _ rfl
  have c1 := b0.cell 1 _ rfl
  have HJ : Hid ((Tryd.prog.info? 38).map (·.size) = some 20) := by rw [Hid]; kernel_rfl
  clear hl hsW
  have HC : Hid (∀ k, k < rs.length → ∃ b off, a = some ⟨b, off, none⟩ ∧ W.rangeAt b (off + k * 20) (rs.getD k zeroSt).cells ∧ (rs.getD k zeroSt).reads W) := fun k hk => by
    obtain ⟨b, off, ha, hc⟩ := (ReadsSts.below hr hbW) (by intro e; rw [e] at hk; simp at hk)
    exact ⟨b, off, ha, (hc k hk).1, (hc k hk).2⟩
  clear hr
  by_cases h4 : rs.length ≤ 3
  case neg =>
    have HR : Hid (R = false) := HLEN.out h4
    clear HLEN HHAND HNO HALL
    go_enter Tryd.func11, Tryd.ntmps11
    go_wp2_with fail
    rw [hW.out]
    go_ret
    exact ⟨ret_bool HR.out.symm, hbW⟩
  case pos =>
    by_cases h5 : s < 0
    · have HR : Hid (R = false) := HHAND.out (by simp [inB]; omega)
      clear HLEN HHAND HNO HALL
      go_enter Tryd.func11, Tryd.ntmps11
      go_upto_region 1 with fail
      rw [hW.out]
      go_wp2_with fail
      go_ret
      exact ⟨ret_bool HR.out.symm, hbW⟩
    by_cases h6 : s < 3
    case neg =>
      have HR : Hid (R = false) := HHAND.out (by simp [inB]; omega)
      clear HLEN HHAND HNO HALL
      have h6b : 3 ≤ s := by omega
      go_enter Tryd.func11, Tryd.ntmps11
      go_upto_region 1 with fail
      rw [hW.out]
      go_wp2_with fail
      go_ret
      exact ⟨ret_bool HR.out.symm, hbW⟩
    case pos =>
      have HALL2 := HALL.out h4 (by simp [inB]; omega)
      have HALL3 : Hid _ := HALL2
      clear HALL2 HALL HLEN HHAND
      go_enter Tryd.func11, Tryd.ntmps11
      go_upto_region 1 with fail
      rw [hW.out]
      clear hW
      go_wp2_with fail
      go_loopw [22] (fun i wr => ∃ k : Nat, k ≤ rs.length ∧ i = .int .i64 k ∧ Hid (∀ m, m < k → (inB (rs.getD m zeroSt).no 0 7 && okP (rs.getD m zeroSt).lsn ((rs.getD m zeroSt).ss.map (·.v)) && decide (SD (rs.getD m zeroSt).no = m)) = true) ∧ Below W.heap.size W wr) (fun i _ => rs.length - (intOf i).toNat)
      case atStart => exact ⟨0, Nat.zero_le _, rfl, fun j hj => by omega, Below.refl _ _⟩
      case round =>
        obtain ⟨k, hk, rfl, hall, hbl⟩ := hrel
        have hbm : Below w.heap.size w wr := hbW.trans (hbl.mono hbW.size)
        have HP : Hid (∀ u, Below W.heap.size W u → u.cell? ⟨w.heap.size, 0, none⟩ = some (.slice a rs.length c) ∧ u.cell? ⟨w.heap.size, 1, none⟩ = some (.int .i64 s)) := fun u hu => ⟨(hu.cell (block_lt c0)).trans c0, (hu.cell (block_lt c1)).trans c1⟩
        clear c0 c1
        by_cases hlt : k < rs.length
        · obtain ⟨b, off, rfl, hcell, hrd⟩ := HC.out k hlt
          have HRG : Hid (wr.rangeAt b (off + k * 20) (rs.getD k zeroSt).cells) := rangeSt_below hcell hbl
          have hrdw := hrd.below hbl
          have hsh := HS.out k hlt
          have HN : Hid ((inB (rs.getD k zeroSt).no 0 7 && okP (rs.getD k zeroSt).lsn ((rs.getD k zeroSt).ss.map (·.v)) && decide (SD (rs.getD k zeroSt).no = k)) = false → R = false) := HNO.out k hlt
          have HY : Hid ((inB (rs.getD k zeroSt).no 0 7 && okP (rs.getD k zeroSt).lsn ((rs.getD k zeroSt).ss.map (·.v)) && decide (SD (rs.getD k zeroSt).no = k)) = true → ∀ m, m < k + 1 → (inB (rs.getD m zeroSt).no 0 7 && okP (rs.getD m zeroSt).lsn ((rs.getD m zeroSt).ss.map (·.v)) && decide (SD (rs.getD m zeroSt).no = m)) = true) := fun h m hm => by
            by_cases e : m = k
            · rw [e]; exact h
            · exact hall.out m (by omega)
          have hkk : (k : Int) < (rs.length : Int) := by omega
          have hk0 : (0 : Int) ≤ (k : Int) := by omega
          clear hcell HC HNO hall HS hrd
          generalize rs.getD k zeroSt = y at *
          obtain ⟨W1, hW1, b1, hb1, hs1⟩ := boxes1 wr [.int .i64 0, .int .i64 0, .bool false, .int .i64 0, .slice none 0 0, .slice none 0 0, .bool false, .int .i64 0, .slice none 0 0, .slice none 0 0, .bool false, .int .i64 0, .slice none 0 0, .slice none 0 0, .bool false, .int .i64 0, .slice none 0 0, .slice none 0 0, .bool false, .bool false] 38
          obtain ⟨W2, hW2, hw2, hs2, HT2, _, b2⟩ := seat_out y _ rfl b1
          have hB2' : Below wr.heap.size wr W2 := hb1.trans (hw2.below (Nat.le_refl _) (by omega))
          have hB2 : Below W.heap.size W W2 := hbl.trans (hB2'.mono hbl.size)
          have hbT2 : Below w.heap.size w W2 := hbW.trans (hB2.mono hbW.size)
          have HX : Hid (∀ u, Below W2.heap.size W2 u → u.cell? ⟨wr.heap.size, 0, none⟩ = some (.int .i64 y.no) ∧ u.rangeAt wr.heap.size 1 y.page.cells) := fun u hu => ⟨(b2.below hu b2.lt).cell 0 _ rfl, seat_page y (b2.below hu b2.lt)⟩
          have x0 := (HX.out W2 (Below.refl _ _)).1
          have xp := (HX.out W2 (Below.refl _ _)).2
          have HIP := Tryd.infoPg y.page rfl
          have C := implPageOk_any y.page rfl W2 (hg.keep hbT2) (hrdw.below hB2') hsh
          have e2 : y.page.lsn = y.lsn := rfl
          have e3 : y.page.ss = y.ss := rfl
          rw [e2, e3] at C
          have CN := pageNoOk_any y.no W2
          have HW2 : Hid (W1.setCells wr.heap.size 0 y.cells.toArray.toList = W2) := hW2.out
          have hOz := seat_one y
          clear hs1 hs2 b1 b2 hb1 hw2 hW2 hbl hbm e2 e3 hrdw hsh hB2'
          cases h6 : inB y.no 0 7 with
          | false =>
            have HR2 : Hid (R = false) := HN.out (by rw [h6]; rfl)
            rw [h6] at CN
            clear HN HY C h6 xp
            go_wp2_with (first | (guard_target = wpList _ _ _ (Oper.mk (some 26) _ _ _ _ _ :: _) _ _; refine wpList_load_mid rfl 38 (.tmp 25) rfl b (off + k * 20) rfl y.cells _ HRG.out Tryd.underlying38 rfl HJ.out ?_) | (guard_target = wpList _ _ _ (Oper.mk none (Op.store _ (Operand.tmp 4) _) _ _ _ _ :: _) _ _; refine wpList_store_mid rfl 38 (.tmp 4) (.tmp 26) rfl wr.heap.size 0 y.cells.toArray rfl rfl (by rw [hW1.out]; exact HT2.out) HJ.out hOz ?_; rw [hW1.out, HW2.out]) | fail)
            refine CN.mono ?_
            rintro e u ⟨rfl, hu⟩
            rw [hu]
            clear hu u CN
            go_wp2_with fail
            go_ret
            exact ⟨ret_bool HR2.out.symm, hbT2⟩
          | true =>
            rw [h6, Bool.true_and] at HN HY
            rw [h6] at CN
            clear h6
            cases h7 : okP y.lsn (y.ss.map (·.v)) with
            | false =>
              have HR2 : Hid (R = false) := HN.out (by rw [h7]; rfl)
              rw [h7] at C
              clear HN HY h7
              generalize y.page.cells = pc at *
              go_wp2_with (first | (guard_target = wpList _ _ _ (Oper.mk (some 26) _ _ _ _ _ :: _) _ _; refine wpList_load_mid rfl 38 (.tmp 25) rfl b (off + k * 20) rfl y.cells _ HRG.out Tryd.underlying38 rfl HJ.out ?_) | (guard_target = wpList _ _ _ (Oper.mk none (Op.store _ (Operand.tmp 4) _) _ _ _ _ :: _) _ _; refine wpList_store_mid rfl 38 (.tmp 4) (.tmp 26) rfl wr.heap.size 0 y.cells.toArray rfl rfl (by rw [hW1.out]; exact HT2.out) HJ.out hOz ?_; rw [hW1.out, HW2.out]) | fail)
              refine CN.mono ?_
              rintro e u ⟨rfl, hu⟩
              rw [hu]
              clear hu u CN
              go_wp2_with (first | (guard_target = wpList _ _ _ (Oper.mk (some 33) _ _ _ _ _ :: _) _ _; refine wpList_load_mid_if (by rfl) 34 (.tmp 32) rfl wr.heap.size 1 rfl pc _ xp Tryd.underlying34 rfl HIP ?_) | fail)
              refine C.mono ?_
              rintro e w1 ⟨rfl, hb1⟩
              go_wp2_with fail
              go_ret
              exact ⟨ret_bool HR2.out.symm, hbT2.trans (hb1.mono hbT2.size)⟩
            | true =>
              rw [h7, Bool.true_and] at HN HY
              rw [h7] at C
              clear h7
              generalize y.page.cells = pc at *
              go_wp2_with (first | (guard_target = wpList _ _ _ (Oper.mk (some 26) _ _ _ _ _ :: _) _ _; refine wpList_load_mid rfl 38 (.tmp 25) rfl b (off + k * 20) rfl y.cells _ HRG.out Tryd.underlying38 rfl HJ.out ?_) | (guard_target = wpList _ _ _ (Oper.mk none (Op.store _ (Operand.tmp 4) _) _ _ _ _ :: _) _ _; refine wpList_store_mid rfl 38 (.tmp 4) (.tmp 26) rfl wr.heap.size 0 y.cells.toArray rfl rfl (by rw [hW1.out]; exact HT2.out) HJ.out hOz ?_; rw [hW1.out, HW2.out]) | fail)
              refine CN.mono ?_
              rintro e u ⟨rfl, hu⟩
              rw [hu]
              clear hu u CN
              go_wp2_with (first | (guard_target = wpList _ _ _ (Oper.mk (some 33) _ _ _ _ _ :: _) _ _; refine wpList_load_mid_if (by rfl) 34 (.tmp 32) rfl wr.heap.size 1 rfl pc _ xp Tryd.underlying34 rfl HIP ?_) | fail)
              refine C.mono ?_
              rintro e w1 ⟨rfl, hb1⟩
              have B1 : Below W.heap.size W w1 := hB2.trans (hb1.mono hB2.size)
              have B1' : Below w.heap.size w w1 := hbW.trans (B1.mono hbW.size)
              have CS := HST.out y.no w1 B1'
              have p0 := (HP.out w1 B1).1
              have p1 := (HP.out w1 B1).2
              clear x0 xp C
              have x0 := (HX.out w1 hb1).1
              clear HX HP HST hB2 hbT2 hb1
              by_cases h8 : SD y.no = (k : Int)
              · have HR2 := HY.out (by simpa using h8)
                have HR3 : Hid _ := HR2
                rw [h8] at CS
                have hne : ((k : Int) != (k : Int)) = false := by simp
                clear HN HY HR2 h8
                go_wp2_with fail
                refine CS.mono ?_
                rintro e w2 ⟨rfl, hb2⟩
                have B2 : Below W.heap.size W w2 := B1.trans (hb2.mono B1.size)
                go_wp2_with fail
                go_roundw
                case rel => exact ⟨k + 1, by omega, by go_num, HR3, B2⟩
                case measure => simp [intOf]; omega
              · have HR2 : Hid (R = false) := HN.out (by simpa using h8)
                have hne : (SD y.no != (k : Int)) = true := by simpa using h8
                clear HN HY h8
                generalize SD y.no = sd at *
                go_wp2_with fail
                refine CS.mono ?_
                rintro e w2 ⟨rfl, hb2⟩
                go_wp2_with fail
                go_ret
                exact ⟨ret_bool HR2.out.symm, B1'.trans (hb2.mono B1'.size)⟩
        · have HE : Hid (true = R) := (HALL3.out (fun m hm => hall.out m (by omega))).symm
          clear hall HALL3
          go_wp2
          go_ret
          exact ⟨ret_bool HE.out, hbm⟩
end Go.Proofs.YtoboickdkednkaaDoor
