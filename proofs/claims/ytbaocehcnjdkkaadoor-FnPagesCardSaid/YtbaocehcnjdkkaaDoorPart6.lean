/- Several texts in one, in their order. -/
import Derived.Test.YtbaocehcnjdkkaaDoorPart5
import Derived.Deep.RegionHeld3
import Derived.Deep.CutRange
import Derived.Test.YtbaocehcnjdkkaaDoorPart1
import Derived.Deep.QuietTactic
import Derived.BigQuiet
import Derived.Test.YtbaocehcnjdkkaaDoorProg
import Derived.Test.YtbaocehcnjdkkaaDoorPart3
import Derived.WalkKit
/- The walk of spec.DrawSetSlot. -/
namespace Go.Proofs.YtbaocehcnjdkkaaDoor
open Go.RowKit

theorem boxes1_drewD (w : World) (v0 : List Value) (t0 : TypeId) : ∃ W, Hid ((w.alloc (.cells v0.toArray t0)).drew = W) ∧ Box W w.heap.size v0 t0 ∧ Below w.drew.heap.size w.drew W ∧ W.heap.size = w.heap.size + 1 :=
  ⟨_, rfl, box_new w _ _, (show Below w.drew.heap.size w.drew (w.drew.alloc _) from (Below.refl _ _).alloc (Nat.le_refl _) _), by simp [World.drew]⟩
/-- A page and a slot in two cells, a number beside each. -/
theorem results_four {P : Program} {fn : Func} {s1 t1 s2 t2 : Nat} {ty1 ty2 : TypeId} {tmps : Array Value} {w : World} {v1 b1 v2 b2 : Value} {ad1 ad2 : Addr} (hf : fn.results = #[.cell s1 ty1, .tmp t1, .cell s2 ty2, .tmp t2]) (h1 : tmps[s1]?.getD undef = .pointer (some ad1)) (hl1 : (loadVar ty1 ad1).run P w = .ok v1 w) (hb1 : tmps[t1]?.getD undef = b1) (h2 : tmps[s2]?.getD undef = .pointer (some ad2)) (hl2 : (loadVar ty2 ad2).run P w = .ok v2 w) (hb2 : tmps[t2]?.getD undef = b2) : (results fn tmps).run P w = .ok (.tuple #[v1, b1, v2, b2]) w := by
  unfold results
  rw [hf]
  simp [h1, asAddr, hl1, hb1, h2, hl2, hb2]
theorem readsI_cells {w : World} {g : Nat} {t : TypeId} (ns : List Int) (b : Box w g (ns.map (Value.int .i64)) t) : ReadsI w (some ⟨g, 0, none⟩) ns := fun _ => ⟨g, 0, rfl, fun i hi => by
  rw [Nat.zero_add]
  refine b.cell i _ ?_
  rw [List.getElem?_map, List.getElem?_eq_getElem hi]
  simp [List.getD, hi]⟩
theorem oneSl4 (s : SlotA) : ∀ v ∈ s.cells, v.oneCell' = true := by
  intro v hv
  simp only [SlotA.cells, List.mem_cons, List.not_mem_nil, or_false] at hv
  rcases hv with rfl | rfl | rfl | rfl <;> rfl

set_option maxHeartbeats 4000000 in
set_option maxRecDepth 100000 in
theorem drawSetSlot_any (a : Option Addr) (c : Nat) (zs : List Int) (w : World) (hr : Reads w a zs) (hl : zs.length ≤ 70368744177664) :
    Calls Tryd.prog 9 #[.slice a zs.length c] w fun e w' => ∃ (p : PageA) (slot : Int) (s : SlotA) (lsn : Int), e = .returned (.tuple #[.agg p.cells.toArray, .int .i64 slot, .agg s.cells.toArray, .int .i64 lsn]) ∧ p.ss.length = 4 ∧ (∀ s ∈ p.ss, s.v.o.ints.length ≤ 7 ∧ s.v.o.refs.length ≤ 7) ∧ (s.v.o.ints.length ≤ 7 ∧ s.v.o.refs.length ≤ 7) ∧ ReadsS w' p.ss ∧ s.reads w' ∧ Below w.heap.size w w' := by
  obtain ⟨W, hW, b0, b1, hbW, hsW⟩ := boxes2 w [.int .i64 0, .bool false, .int .i64 0, .slice none 0 0, .slice none 0 0, .bool false, .int .i64 0, .slice none 0 0, .slice none 0 0, .bool false, .int .i64 0, .slice none 0 0, .slice none 0 0, .bool false, .int .i64 0, .slice none 0 0, .slice none 0 0] [.bool false, .int .i64 0, .slice none 0 0, .slice none 0 0] 31 28
  have hrW := hr.below hbW
  have hsW' : w.heap.size + 1 < W.heap.size := by omega
  clear hsW hr
  go_enter Tryd.func9, Tryd.ntmps9
  go_wp2_with fail
  rw [hW.out]
  clear hW
  refine (l1New_any a c zs W hrW hl).mono ?_
  rintro e w1 ⟨rfl, hc1, hb1⟩
  have hs1 := hb1.size
  have b01 := b0.below hb1 b0.lt
  have b11 := b1.below hb1 b1.lt
  have B1 : Below w.heap.size w w1 := hbW.trans (hb1.mono (by omega))
  clear b0 b1 hb1 hbW hrW
  go_wp2_with fail
  refine (l3PageAny_any W.heap.size zs w1 hc1 hl).mono ?_
  rintro e w2 ⟨n, ts, rfl, hts4, hsm, ho2, hc2, hw2⟩
  have hs2 := hw2.size
  have hlt1 := hc1.lt
  have b02 := b01.within hw2 (by omega)
  have b12 := b11.within hw2 (by omega)
  have B2 : Below w.heap.size w w2 := B1.trans (hw2.below (by omega) (by omega))
  generalize hq : (⟨n, ts⟩ : PageA) = P at *
  have hP4 : P.ss.length = 4 := by rw [← hq]; exact hts4
  have hPs : ∀ s ∈ P.ss, s.v.o.ints.length ≤ 7 ∧ s.v.o.refs.length ≤ 7 := by rw [← hq]; exact hsm
  have oP2 : OwnS w2 w1.heap.size w2.heap.size P.ss := by rw [← hq]; exact ho2
  clear hq ho2 hsm hts4
  have HI : Hid ((Tryd.prog.info? 31).map (·.size) = some P.cells.length) := by rw [Hid, page_len _ hP4]; kernel_rfl
  have HO : Hid (_) := all_oneCell_toArray (oneP P)
  obtain ⟨V3, hV3, bz3, hbz3, hsz3⟩ := boxes1 w2 [.int .i64 0, .bool false, .int .i64 0, .slice none 0 0, .slice none 0 0, .bool false, .int .i64 0, .slice none 0 0, .slice none 0 0, .bool false, .int .i64 0, .slice none 0 0, .slice none 0 0, .bool false, .int .i64 0, .slice none 0 0, .slice none 0 0] 31
  obtain ⟨W3, hW3, hw3, hs3, HT3, _, bP3⟩ := page_out (C := w2.heap.size) (T := 31) P hP4 _ rfl bz3 Tryd.underlying31 rfl (by kernel_rfl)
  have M3 : Below w2.heap.size w2 W3 := hbz3.trans (hw3.below (Nat.le_refl _) (by omega))
  have b03 := b02.below M3 b02.lt
  have b13 := b12.below M3 b12.lt
  have hc3 : CurAt W3 W.heap.size zs := hc2.below M3
  have oP3 := oP2.below M3
  have B3 : Below w.heap.size w W3 := B2.trans (M3.mono B2.size)
  have hlt3 := bP3.lt
  clear b01 b11 hc1 B1 hw2 b02 b12 hc2 oP2 B2 bz3 hbz3 hsz3 hw3 hs3 M3
  go_wp2_with (first | (guard_target = wpList _ _ _ (Oper.mk none (Op.store _ (Operand.tmp 7) _) _ _ _ _ :: _) _ _; refine wpList_store_mid rfl 31 (.tmp 7) (.tmp 12) rfl w2.heap.size 0 P.cells.toArray rfl rfl (by rw [hV3.out]; exact HT3.out) (by rw [List.size_toArray]; exact HI.out) HO.out ?_) | fail)
  rw [hV3.out, hW3.out]
  clear hV3 hW3 HT3
  refine (l3DrawSlot_any W.heap.size zs W3 hc3 hl).mono ?_
  rintro e w4 ⟨s, rfl, hss, hos, hc4, hw4⟩
  have hs4 := hw4.size
  have b04 := b03.within hw4 (by omega)
  have b14 := b13.within hw4 (by omega)
  have bP4 := bP3.within hw4 (by omega)
  have oP4 := oP3.within hw4 (.inr (by omega))
  have B4 : Below w.heap.size w w4 := B3.trans (hw4.below (by omega) (by omega))
  obtain ⟨W5, hW5, bS5, hb5, hs5⟩ := boxes1 w4 s.cells 28
  have b05 := b04.below hb5 b04.lt
  have b15 := b14.below hb5 b14.lt
  have bP5 := bP4.below hb5 bP4.lt
  have oP5 := oP4.below hb5
  have hos5 : s.own W5 W3.heap.size w4.heap.size := OwnO.below hos hb5
  have hc5 : CurAt W5 W.heap.size zs := hc4.below hb5
  have B5 : Below w.heap.size w W5 := B4.trans (hb5.mono B4.size)
  have hlt5 := bS5.lt
  clear b03 b13 bP3 hc3 oP3 B3 hw4 b04 b14 bP4 oP4 B4 hb5 hos hc4 hs5
  simp only [SlotA.cells] at hW5
  simp only [SlotA.cells]
  go_wp2_with fail
  rw [hW5.out]
  clear hW5
  refine (l1Once_any W.heap.size zs 10 W5 hc5 hl (by omega)).mono ?_
  rintro e w6 ⟨bb, rfl, hc6, hg6⟩
  have hw6 := within_cur hg6
  have hs6 := hw6.size
  have b06 := b05.within hw6 (by omega)
  have b16 := b15.within hw6 (by omega)
  have bP6 := bP5.within hw6 (by omega)
  have bS6 := bS5.within hw6 (by omega)
  have oP6 := oP5.within hw6 (.inr (by omega))
  have os6 : s.own w6 W3.heap.size w4.heap.size := OwnO.within hos5 hw6 (.inr (by omega))
  have B6 : Below w.heap.size w w6 := B5.trans (hw6.below (by omega) (by omega))
  clear b05 b15 bP5 bS5 oP5 hos5 hc5 B5 hg6 hw6
  go_upto_if 16 with fail
  go_cut [6] from 9 (fun x wx => x = .pointer (some ⟨W.heap.size, 0, none⟩) ∧ ∃ u : SlotA, (u.v.o.ints.length ≤ 3 ∧ u.v.o.refs.length ≤ 3) ∧ Box wx w4.heap.size u.cells 28 ∧ u.own wx W3.heap.size w4.heap.size ∧ Box wx w.heap.size zero17 31 ∧ Box wx (w.heap.size + 1) [.bool false, .int .i64 0, .slice none 0 0, .slice none 0 0] 28 ∧ Box wx w2.heap.size P.cells 31 ∧ OwnS wx w1.heap.size w2.heap.size P.ss ∧ CurAt wx W.heap.size zs ∧ W5.heap.size ≤ wx.heap.size ∧ Below w.heap.size w wx)
  case first =>
    cases bb with
    | false =>
      go_wp2_with fail
      go_meet
      case rel => exact ⟨rfl, s, hss, bS6, os6, b06, b16, bP6, oP6, hc6, hs6, B6⟩
    | true =>
      obtain ⟨x0, x1, x2, x3, f0, f1, f2, f3⟩ := Box.four (show Box w6 w4.heap.size [.bool s.v.has, .int .i64 s.v.o.kind, .slice s.aI s.v.o.ints.length s.cI, .slice s.aR s.v.o.refs.length s.cR] 28 from bS6)
      obtain ⟨W7, hW7, b7, hw7, hs7⟩ := box_set bS6 0 (.bool (!s.v.has))
      have b7' : Box W7 w4.heap.size (flipS s).cells 28 := b7
      have R1 := b06.within hw7 (by omega)
      have R2 := b16.within hw7 (by omega)
      have R3 := bP6.within hw7 (by omega)
      have R4 := oP6.within hw7 (.inl (by omega))
      have R5 : CurAt W7 W.heap.size zs := hc6.within hw7 (by omega)
      have R6 : (flipS s).own W7 W3.heap.size w4.heap.size := flip_own (OwnO.within os6 hw7 (.inl (Nat.le_refl _)))
      have R7 : Below w.heap.size w W7 := B6.trans (hw7.below (by omega) (by omega))
      have R8 : W5.heap.size ≤ W7.heap.size := by omega
      clear hw7 hs7 b7 bS6 os6 b06 b16 bP6 oP6 hc6 B6
      go_wp2_with fail
      rw [hW7.out]
      go_meet
      case rel => exact ⟨rfl, flipS s, hss, b7', R6, R1, R2, R3, R4, R5, R8, R7⟩
  case rest =>
    obtain ⟨rfl, u, hus, bU, oU, bR0, bR1, bP, oP, hcu, hsx, BX⟩ := hcut
    clear bS6 os6 b06 b16 bP6 oP6 hc6 B6
    have HIu : Hid ((Tryd.prog.info? 28).map (·.size) = some u.cells.length) := by rw [Hid]; kernel_rfl
    have hB : W.heap.size < wc.heap.size := hcu.lt
    have HRG : Hid (∀ w', Within W.heap.size (W.heap.size + 1) wc w' → (w'.rangeAt w2.heap.size 0 P.cells ∧ w'.rangeAt w4.heap.size 0 u.cells)) := fun w' hh => ⟨Box.range [] P.cells [] (by simpa using bP.within hh (by omega)), Box.range [] u.cells [] (by simpa using bU.within hh (by omega))⟩
    have hu1 := Tryd.underlying31
    have hu2 := Tryd.underlying28
    have D0 : Within W.heap.size (W.heap.size + 1) wc wc.drew := Within.of_below (Below.refl _ _).drew
    have c0 : CurAt wc.drew W.heap.size zs := hcu
    go_upto_region 6 with fail
    refine wp_region_held_drew (S := fun w' => w'.rangeAt w2.heap.size 0 P.cells ∧ w'.rangeAt w4.heap.size 0 u.cells) (by kernel_rfl) ?_ (fun hHeld => ?_)
    · exact HRG.out _ D0
    refine wpAnyH_take (i := 0) rfl (by kernel_rfl) (by kernel_rfl) (by kernel_rfl) (fun _ _ _ h => h) (yieldsIf_load_mid (by rfl) _ _ rfl _ _ rfl P.cells _ (fun _ h => h.1) hu1 rfl HI.out) hHeld ?_
    go_simp
    refine wpAnyH_take (i := 4) rfl (by kernel_rfl) (by kernel_rfl) (by kernel_rfl) (fun _ _ _ h => h) (yieldsIf_load_mid (by rfl) _ _ rfl _ _ rfl u.cells _ (fun _ h => h.2) hu2 rfl HIu.out) hHeld ?_
    go_simp
    refine wpAnyH_take (i := 1) (v := .pointer (some ⟨W.heap.size, 0, none⟩)) rfl (by kernel_rfl) (by kernel_rfl) (by kernel_rfl) (fun _ _ _ h => h) (Or.inl ⟨by rfl, fun w' _ => ?_⟩) hHeld ?_
    · go_simp
    go_simp
    refine wpAnyH_take (i := 5) (v := .pointer (some ⟨W.heap.size, 0, none⟩)) rfl (by kernel_rfl) (by kernel_rfl) (by kernel_rfl) (fun _ _ _ h => h) (Or.inl ⟨by rfl, fun w' _ => ?_⟩) hHeld ?_
    · go_simp
    go_simp
    refine wpAnyH_ready (rs := [2, 6]) (by kernel_rfl) (by simp) ?_
    refine AllReadyH.cons rfl (fun K hK => ?_) (AllReadyH.cons rfl (fun K hK => ?_) AllReadyH.nil)
    · go_simp
      obtain ⟨VA, hVA, blA, hbA, hsA⟩ := boxes1_drewD wc [.int .i64 0, .int .i64 1, .int .i64 2, .int .i64 3, .int .i64 3, .int .i64 (-1), .int .i64 4] 3
      rw [hVA.out]
      have PA : wc.heap.size < VA.heap.size := by omega
      clear hsA
      have DA : Within W.heap.size (W.heap.size + 1) wc VA := D0.trans (Within.of_below hbA)
      have CA : CurAt VA W.heap.size zs := c0.below hbA
      have ZA := D0.size
      refine hK.out _ _ (HRG.out _ DA) (fun hHeld => ?_)
      clear hK K hVA
      refine wpAnyH_ready (rs := [3, 6]) (by kernel_rfl) (by simp) ?_
      refine AllReadyH.cons rfl (fun K hK => ?_) (AllReadyH.cons rfl (fun K hK => ?_) AllReadyH.nil)
      · go_simp
        refine (l1Int_any W.heap.size zs (some ⟨wc.heap.size, 0, none⟩) 7 [0, 1, 2, 3, 3, -1, 4] _ CA hl (readsI_cells [0, 1, 2, 3, 3, -1, 4] blA) (fun b off e => by cases e; omega) (by simp) (by simp)).mono ?_
        rintro e ua ⟨jA, _, rfl, ccA, hgA⟩
        generalize ([0, 1, 2, 3, 3, -1, 4] : List Int).getD jA 0 = za at *
        have hwA := within_cur hgA
        have EA : Within W.heap.size (W.heap.size + 1) wc ua := DA.trans hwA
        have YA := hwA.size
        refine hK.out _ _ (HRG.out _ EA) (fun hHeld => ?_)
        clear hK K
        refine wpAnyH_ready (rs := [6]) (by kernel_rfl) (by simp) ?_
        refine AllReadyH.cons rfl (fun K hK => ?_) AllReadyH.nil
        go_simp
        obtain ⟨VB, hVB, blB, hbB, hsB⟩ := boxes1 ua [.int .i64 30, .int .i64 31, .int .i64 0, .int .i64 1000000, .int .i64 1000001, .int .i64 40] 3
        rw [hVB.out]
        have PB : ua.heap.size < VB.heap.size := by omega
        clear hsB
        have DB : Within W.heap.size (W.heap.size + 1) wc VB := EA.trans (Within.of_below hbB)
        have CB : CurAt VB W.heap.size zs := ccA.below hbB
        have ZB := EA.size
        refine hK.out _ _ (HRG.out _ DB) (fun hHeld => ?_)
        clear hK K hVB
        refine wpAnyH_ready (rs := [7]) (by kernel_rfl) (by simp) ?_
        refine AllReadyH.cons rfl (fun K hK => ?_) AllReadyH.nil
        go_simp
        refine (l1Int_any W.heap.size zs (some ⟨ua.heap.size, 0, none⟩) 6 [30, 31, 0, 1000000, 1000001, 40] _ CB hl (readsI_cells [30, 31, 0, 1000000, 1000001, 40] blB) (fun b off e => by cases e; omega) (by simp) (by simp)).mono ?_
        rintro e ub ⟨jB, _, rfl, ccB, hgB⟩
        generalize ([30, 31, 0, 1000000, 1000001, 40] : List Int).getD jB 0 = zb at *
        have hwB := within_cur hgB
        have EB : Within W.heap.size (W.heap.size + 1) wc ub := DB.trans hwB
        have YB := hwB.size
        refine hK.out _ _ (HRG.out _ EB) (fun hHeld => ?_)
        clear hK K
        obtain ⟨WF, hWF, hwF, hsF, HTF, HLF, bF⟩ := page_out (C := w.heap.size) (T := 31) P hP4 zero17 rfl (bR0.within EB (by omega)) Tryd.underlying31 rfl (by kernel_rfl)
        have DF : Within W.heap.size (W.heap.size + 1) ub WF ∨ True := .inr trivial
        have bR1F := (bR1.within EB (by omega)).within hwF (by omega)
        have bPF := (bP.within EB (by omega)).within hwF (by omega)
        have bUF := (bU.within EB (by omega)).within hwF (by omega)
        obtain ⟨x0, x1, x2, x3, f0, f1, f2, f3⟩ := bR1F.four
        obtain ⟨WG, hWG, bG, hwG, hsG⟩ := box4_fill bR1F (.bool u.v.has) (.int .i64 u.v.o.kind) (.slice u.aI u.v.o.ints.length u.cI) (.slice u.aR u.v.o.refs.length u.cR)
        have bFG := bF.within hwG (by omega)
        have HS1 : Hid (WF.rangeAt w2.heap.size 0 P.cells ∧ WF.rangeAt w4.heap.size 0 u.cells) := ⟨Box.range [] P.cells [] (by simpa using bPF), Box.range [] u.cells [] (by simpa using bUF)⟩
        have HS2 : Hid (WG.rangeAt w2.heap.size 0 P.cells ∧ WG.rangeAt w4.heap.size 0 u.cells) := ⟨Box.range [] P.cells [] (by simpa using bPF.within hwG (by omega)), Box.range [] u.cells [] (by simpa using bUF.within hwG (by omega))⟩
        have HL1 : Hid ((loadVar 31 ⟨w.heap.size, 0, none⟩).run Tryd.prog WG = .ok (.agg P.cells.toArray) WG) := run_loadVar_mid (P := Tryd.prog) WG w.heap.size 0 31 P.cells _ (Box.range [] P.cells [] (by simpa using bFG)) hu1 rfl HI.out
        have HL2 : Hid ((loadVar 28 ⟨w.heap.size + 1, 0, none⟩).run Tryd.prog WG = .ok (.agg u.cells.toArray) WG) := run_loadVar_mid (P := Tryd.prog) WG (w.heap.size + 1) 0 28 u.cells _ (Box.range [] u.cells [] (by simpa [SlotA.cells] using bG)) hu2 rfl HIu.out
        have RP : ReadsS WG P.ss := (((oP.within EB (.inr (by omega))).within hwF (.inr (by omega))).within hwG (.inr (by omega))).reads
        have RU : u.reads WG := OwnO.reads (OwnO.within (OwnO.within (OwnO.within oU EB (.inr (by omega))) hwF (.inr (by omega))) hwG (.inr (by omega)))
        have BG : Below w.heap.size w WG := ((BX.trans (EB.below (by omega) (by have := BX.size; omega))).trans (hwF.below (Nat.le_refl _) (by have := EB.size; have := BX.size; omega))).trans (hwG.below (by omega) (by have := EB.size; have := BX.size; omega))
        refine wpAnyH_ready (rs := [8]) (by kernel_rfl) (by simp) ?_
        refine AllReadyH.cons rfl (fun K hK => ?_) AllReadyH.nil
        rw [if_pos (by rfl)]
        refine wp_store_mid 31 (.tmp 2) (.tmp 21) rfl w.heap.size 0 P.cells.toArray rfl rfl HTF.out (by rw [List.size_toArray]; exact HI.out) HO.out ?_
        go_simp
        rw [hWF.out]
        refine hK.out _ _ HS1.out (fun hHeld => ?_)
        clear hK K
        refine wpAnyH_take (i := 9) (v := .int .i64 za) rfl (by kernel_rfl) (by kernel_rfl) (by kernel_rfl) (fun _ _ _ h => h) (Or.inl ⟨by rfl, fun w' _ => ?_⟩) hHeld ?_
        · go_simp
        go_simp
        refine wpAnyH_ready (rs := [10]) (by kernel_rfl) (by simp) ?_
        refine AllReadyH.cons rfl (fun K hK => ?_) AllReadyH.nil
        simp only [SlotA.cells]
        go_simp
        rw [hWG.out]
        simp only [SlotA.cells] at HS2
        refine hK.out _ _ HS2.out (fun hHeld => ?_)
        clear hK K
        refine wpAnyH_take (i := 11) (v := .int .i64 zb) rfl (by kernel_rfl) (by kernel_rfl) (by kernel_rfl) (fun _ _ _ h => h) (Or.inl ⟨by rfl, fun w' _ => ?_⟩) hHeld ?_
        · go_simp
        go_simp
        refine wpAnyH_done (by kernel_rfl) ?_ _
        clear hwF hwG
        go_wp2
        exact bodyPost_ret (v := .tuple #[.agg P.cells.toArray, .int .i64 za, .agg u.cells.toArray, .int .i64 zb]) (results_four Tryd.results9 rfl HL1.out rfl rfl HL2.out rfl) rfl ⟨P, za, u, zb, rfl, hP4, hPs, by omega, RP, RU, BG⟩
      · go_simp
        obtain ⟨VB, hVB, blB, hbB, hsB⟩ := boxes1 VA [.int .i64 30, .int .i64 31, .int .i64 0, .int .i64 1000000, .int .i64 1000001, .int .i64 40] 3
        rw [hVB.out]
        have PB : VA.heap.size < VB.heap.size := by omega
        clear hsB
        have DB : Within W.heap.size (W.heap.size + 1) wc VB := DA.trans (Within.of_below hbB)
        have CB : CurAt VB W.heap.size zs := CA.below hbB
        have ZB := DA.size
        refine hK.out _ _ (HRG.out _ DB) (fun hHeld => ?_)
        clear hK K hVB
        have blA := blA.below hbB blA.lt
        refine wpAnyH_ready (rs := [3]) (by kernel_rfl) (by simp) ?_
        refine AllReadyH.cons rfl (fun K hK => ?_) AllReadyH.nil
        go_simp
        refine (l1Int_any W.heap.size zs (some ⟨wc.heap.size, 0, none⟩) 7 [0, 1, 2, 3, 3, -1, 4] _ CB hl (readsI_cells [0, 1, 2, 3, 3, -1, 4] blA) (fun b off e => by cases e; omega) (by simp) (by simp)).mono ?_
        rintro e ua ⟨jA, _, rfl, ccA, hgA⟩
        generalize ([0, 1, 2, 3, 3, -1, 4] : List Int).getD jA 0 = za at *
        have hwA := within_cur hgA
        have EA : Within W.heap.size (W.heap.size + 1) wc ua := DB.trans hwA
        have YA := hwA.size
        have blB := blB.within hwA (by omega)
        refine hK.out _ _ (HRG.out _ EA) (fun hHeld => ?_)
        clear hK K
        refine wpAnyH_ready (rs := [7]) (by kernel_rfl) (by simp) ?_
        refine AllReadyH.cons rfl (fun K hK => ?_) AllReadyH.nil
        go_simp
        refine (l1Int_any W.heap.size zs (some ⟨VA.heap.size, 0, none⟩) 6 [30, 31, 0, 1000000, 1000001, 40] _ ccA hl (readsI_cells [30, 31, 0, 1000000, 1000001, 40] blB) (fun b off e => by cases e; omega) (by simp) (by simp)).mono ?_
        rintro e ub ⟨jB, _, rfl, ccB, hgB⟩
        generalize ([30, 31, 0, 1000000, 1000001, 40] : List Int).getD jB 0 = zb at *
        have hwB := within_cur hgB
        have EB : Within W.heap.size (W.heap.size + 1) wc ub := EA.trans hwB
        have YB := hwB.size
        refine hK.out _ _ (HRG.out _ EB) (fun hHeld => ?_)
        clear hK K
        obtain ⟨WF, hWF, hwF, hsF, HTF, HLF, bF⟩ := page_out (C := w.heap.size) (T := 31) P hP4 zero17 rfl (bR0.within EB (by omega)) Tryd.underlying31 rfl (by kernel_rfl)
        have DF : Within W.heap.size (W.heap.size + 1) ub WF ∨ True := .inr trivial
        have bR1F := (bR1.within EB (by omega)).within hwF (by omega)
        have bPF := (bP.within EB (by omega)).within hwF (by omega)
        have bUF := (bU.within EB (by omega)).within hwF (by omega)
        obtain ⟨x0, x1, x2, x3, f0, f1, f2, f3⟩ := bR1F.four
        obtain ⟨WG, hWG, bG, hwG, hsG⟩ := box4_fill bR1F (.bool u.v.has) (.int .i64 u.v.o.kind) (.slice u.aI u.v.o.ints.length u.cI) (.slice u.aR u.v.o.refs.length u.cR)
        have bFG := bF.within hwG (by omega)
        have HS1 : Hid (WF.rangeAt w2.heap.size 0 P.cells ∧ WF.rangeAt w4.heap.size 0 u.cells) := ⟨Box.range [] P.cells [] (by simpa using bPF), Box.range [] u.cells [] (by simpa using bUF)⟩
        have HS2 : Hid (WG.rangeAt w2.heap.size 0 P.cells ∧ WG.rangeAt w4.heap.size 0 u.cells) := ⟨Box.range [] P.cells [] (by simpa using bPF.within hwG (by omega)), Box.range [] u.cells [] (by simpa using bUF.within hwG (by omega))⟩
        have HL1 : Hid ((loadVar 31 ⟨w.heap.size, 0, none⟩).run Tryd.prog WG = .ok (.agg P.cells.toArray) WG) := run_loadVar_mid (P := Tryd.prog) WG w.heap.size 0 31 P.cells _ (Box.range [] P.cells [] (by simpa using bFG)) hu1 rfl HI.out
        have HL2 : Hid ((loadVar 28 ⟨w.heap.size + 1, 0, none⟩).run Tryd.prog WG = .ok (.agg u.cells.toArray) WG) := run_loadVar_mid (P := Tryd.prog) WG (w.heap.size + 1) 0 28 u.cells _ (Box.range [] u.cells [] (by simpa [SlotA.cells] using bG)) hu2 rfl HIu.out
        have RP : ReadsS WG P.ss := (((oP.within EB (.inr (by omega))).within hwF (.inr (by omega))).within hwG (.inr (by omega))).reads
        have RU : u.reads WG := OwnO.reads (OwnO.within (OwnO.within (OwnO.within oU EB (.inr (by omega))) hwF (.inr (by omega))) hwG (.inr (by omega)))
        have BG : Below w.heap.size w WG := ((BX.trans (EB.below (by omega) (by have := BX.size; omega))).trans (hwF.below (Nat.le_refl _) (by have := EB.size; have := BX.size; omega))).trans (hwG.below (by omega) (by have := EB.size; have := BX.size; omega))
        refine wpAnyH_ready (rs := [8]) (by kernel_rfl) (by simp) ?_
        refine AllReadyH.cons rfl (fun K hK => ?_) AllReadyH.nil
        rw [if_pos (by rfl)]
        refine wp_store_mid 31 (.tmp 2) (.tmp 21) rfl w.heap.size 0 P.cells.toArray rfl rfl HTF.out (by rw [List.size_toArray]; exact HI.out) HO.out ?_
        go_simp
        rw [hWF.out]
        refine hK.out _ _ HS1.out (fun hHeld => ?_)
        clear hK K
        refine wpAnyH_take (i := 9) (v := .int .i64 za) rfl (by kernel_rfl) (by kernel_rfl) (by kernel_rfl) (fun _ _ _ h => h) (Or.inl ⟨by rfl, fun w' _ => ?_⟩) hHeld ?_
        · go_simp
        go_simp
        refine wpAnyH_ready (rs := [10]) (by kernel_rfl) (by simp) ?_
        refine AllReadyH.cons rfl (fun K hK => ?_) AllReadyH.nil
        simp only [SlotA.cells]
        go_simp
        rw [hWG.out]
        simp only [SlotA.cells] at HS2
        refine hK.out _ _ HS2.out (fun hHeld => ?_)
        clear hK K
        refine wpAnyH_take (i := 11) (v := .int .i64 zb) rfl (by kernel_rfl) (by kernel_rfl) (by kernel_rfl) (fun _ _ _ h => h) (Or.inl ⟨by rfl, fun w' _ => ?_⟩) hHeld ?_
        · go_simp
        go_simp
        refine wpAnyH_done (by kernel_rfl) ?_ _
        clear hwF hwG
        go_wp2
        exact bodyPost_ret (v := .tuple #[.agg P.cells.toArray, .int .i64 za, .agg u.cells.toArray, .int .i64 zb]) (results_four Tryd.results9 rfl HL1.out rfl rfl HL2.out rfl) rfl ⟨P, za, u, zb, rfl, hP4, hPs, by omega, RP, RU, BG⟩
    · go_simp
      obtain ⟨VB, hVB, blB, hbB, hsB⟩ := boxes1_drewD wc [.int .i64 30, .int .i64 31, .int .i64 0, .int .i64 1000000, .int .i64 1000001, .int .i64 40] 3
      rw [hVB.out]
      have PB : wc.heap.size < VB.heap.size := by omega
      clear hsB
      have DB : Within W.heap.size (W.heap.size + 1) wc VB := D0.trans (Within.of_below hbB)
      have CB : CurAt VB W.heap.size zs := c0.below hbB
      have ZB := D0.size
      refine hK.out _ _ (HRG.out _ DB) (fun hHeld => ?_)
      clear hK K hVB
      refine wpAnyH_ready (rs := [2]) (by kernel_rfl) (by simp) ?_
      refine AllReadyH.cons rfl (fun K hK => ?_) AllReadyH.nil
      go_simp
      obtain ⟨VA, hVA, blA, hbA, hsA⟩ := boxes1 VB [.int .i64 0, .int .i64 1, .int .i64 2, .int .i64 3, .int .i64 3, .int .i64 (-1), .int .i64 4] 3
      rw [hVA.out]
      have PA : VB.heap.size < VA.heap.size := by omega
      clear hsA
      have DA : Within W.heap.size (W.heap.size + 1) wc VA := DB.trans (Within.of_below hbA)
      have CA : CurAt VA W.heap.size zs := CB.below hbA
      have ZA := DB.size
      refine hK.out _ _ (HRG.out _ DA) (fun hHeld => ?_)
      clear hK K hVA
      have blB := blB.below hbA blB.lt
      refine wpAnyH_ready (rs := [3]) (by kernel_rfl) (by simp) ?_
      refine AllReadyH.cons rfl (fun K hK => ?_) AllReadyH.nil
      go_simp
      refine (l1Int_any W.heap.size zs (some ⟨VB.heap.size, 0, none⟩) 7 [0, 1, 2, 3, 3, -1, 4] _ CA hl (readsI_cells [0, 1, 2, 3, 3, -1, 4] blA) (fun b off e => by cases e; omega) (by simp) (by simp)).mono ?_
      rintro e ua ⟨jA, _, rfl, ccA, hgA⟩
      generalize ([0, 1, 2, 3, 3, -1, 4] : List Int).getD jA 0 = za at *
      have hwA := within_cur hgA
      have EA : Within W.heap.size (W.heap.size + 1) wc ua := DA.trans hwA
      have YA := hwA.size
      have blB := blB.within hwA (by omega)
      refine hK.out _ _ (HRG.out _ EA) (fun hHeld => ?_)
      clear hK K
      refine wpAnyH_ready (rs := [7]) (by kernel_rfl) (by simp) ?_
      refine AllReadyH.cons rfl (fun K hK => ?_) AllReadyH.nil
      go_simp
      refine (l1Int_any W.heap.size zs (some ⟨wc.heap.size, 0, none⟩) 6 [30, 31, 0, 1000000, 1000001, 40] _ ccA hl (readsI_cells [30, 31, 0, 1000000, 1000001, 40] blB) (fun b off e => by cases e; omega) (by simp) (by simp)).mono ?_
      rintro e ub ⟨jB, _, rfl, ccB, hgB⟩
      generalize ([30, 31, 0, 1000000, 1000001, 40] : List Int).getD jB 0 = zb at *
      have hwB := within_cur hgB
      have EB : Within W.heap.size (W.heap.size + 1) wc ub := EA.trans hwB
      have YB := hwB.size
      refine hK.out _ _ (HRG.out _ EB) (fun hHeld => ?_)
      clear hK K
      obtain ⟨WF, hWF, hwF, hsF, HTF, HLF, bF⟩ := page_out (C := w.heap.size) (T := 31) P hP4 zero17 rfl (bR0.within EB (by omega)) Tryd.underlying31 rfl (by kernel_rfl)
      have DF : Within W.heap.size (W.heap.size + 1) ub WF ∨ True := .inr trivial
      have bR1F := (bR1.within EB (by omega)).within hwF (by omega)
      have bPF := (bP.within EB (by omega)).within hwF (by omega)
      have bUF := (bU.within EB (by omega)).within hwF (by omega)
      obtain ⟨x0, x1, x2, x3, f0, f1, f2, f3⟩ := bR1F.four
      obtain ⟨WG, hWG, bG, hwG, hsG⟩ := box4_fill bR1F (.bool u.v.has) (.int .i64 u.v.o.kind) (.slice u.aI u.v.o.ints.length u.cI) (.slice u.aR u.v.o.refs.length u.cR)
      have bFG := bF.within hwG (by omega)
      have HS1 : Hid (WF.rangeAt w2.heap.size 0 P.cells ∧ WF.rangeAt w4.heap.size 0 u.cells) := ⟨Box.range [] P.cells [] (by simpa using bPF), Box.range [] u.cells [] (by simpa using bUF)⟩
      have HS2 : Hid (WG.rangeAt w2.heap.size 0 P.cells ∧ WG.rangeAt w4.heap.size 0 u.cells) := ⟨Box.range [] P.cells [] (by simpa using bPF.within hwG (by omega)), Box.range [] u.cells [] (by simpa using bUF.within hwG (by omega))⟩
      have HL1 : Hid ((loadVar 31 ⟨w.heap.size, 0, none⟩).run Tryd.prog WG = .ok (.agg P.cells.toArray) WG) := run_loadVar_mid (P := Tryd.prog) WG w.heap.size 0 31 P.cells _ (Box.range [] P.cells [] (by simpa using bFG)) hu1 rfl HI.out
      have HL2 : Hid ((loadVar 28 ⟨w.heap.size + 1, 0, none⟩).run Tryd.prog WG = .ok (.agg u.cells.toArray) WG) := run_loadVar_mid (P := Tryd.prog) WG (w.heap.size + 1) 0 28 u.cells _ (Box.range [] u.cells [] (by simpa [SlotA.cells] using bG)) hu2 rfl HIu.out
      have RP : ReadsS WG P.ss := (((oP.within EB (.inr (by omega))).within hwF (.inr (by omega))).within hwG (.inr (by omega))).reads
      have RU : u.reads WG := OwnO.reads (OwnO.within (OwnO.within (OwnO.within oU EB (.inr (by omega))) hwF (.inr (by omega))) hwG (.inr (by omega)))
      have BG : Below w.heap.size w WG := ((BX.trans (EB.below (by omega) (by have := BX.size; omega))).trans (hwF.below (Nat.le_refl _) (by have := EB.size; have := BX.size; omega))).trans (hwG.below (by omega) (by have := EB.size; have := BX.size; omega))
      refine wpAnyH_ready (rs := [8]) (by kernel_rfl) (by simp) ?_
      refine AllReadyH.cons rfl (fun K hK => ?_) AllReadyH.nil
      rw [if_pos (by rfl)]
      refine wp_store_mid 31 (.tmp 2) (.tmp 21) rfl w.heap.size 0 P.cells.toArray rfl rfl HTF.out (by rw [List.size_toArray]; exact HI.out) HO.out ?_
      go_simp
      rw [hWF.out]
      refine hK.out _ _ HS1.out (fun hHeld => ?_)
      clear hK K
      refine wpAnyH_take (i := 9) (v := .int .i64 za) rfl (by kernel_rfl) (by kernel_rfl) (by kernel_rfl) (fun _ _ _ h => h) (Or.inl ⟨by rfl, fun w' _ => ?_⟩) hHeld ?_
      · go_simp
      go_simp
      refine wpAnyH_ready (rs := [10]) (by kernel_rfl) (by simp) ?_
      refine AllReadyH.cons rfl (fun K hK => ?_) AllReadyH.nil
      simp only [SlotA.cells]
      go_simp
      rw [hWG.out]
      simp only [SlotA.cells] at HS2
      refine hK.out _ _ HS2.out (fun hHeld => ?_)
      clear hK K
      refine wpAnyH_take (i := 11) (v := .int .i64 zb) rfl (by kernel_rfl) (by kernel_rfl) (by kernel_rfl) (fun _ _ _ h => h) (Or.inl ⟨by rfl, fun w' _ => ?_⟩) hHeld ?_
      · go_simp
      go_simp
      refine wpAnyH_done (by kernel_rfl) ?_ _
      clear hwF hwG
      go_wp2
      exact bodyPost_ret (v := .tuple #[.agg P.cells.toArray, .int .i64 za, .agg u.cells.toArray, .int .i64 zb]) (results_four Tryd.results9 rfl HL1.out rfl rfl HL2.out rfl) rfl ⟨P, za, u, zb, rfl, hP4, hPs, by omega, RP, RU, BG⟩
end Go.Proofs.YtbaocehcnjdkkaaDoor

/- The walks of spec.l2SameInts, spec.l2Same and spec.SameObj. -/
namespace Go.Proofs.YtbaocehcnjdkkaaDoor
open Go.RowKit

theorem ne_at {xs ys : List Int} (j : Nat) (h : xs.getD j 0 ≠ ys.getD j 0) : decide (xs = ys) = false := by
  rw [decide_eq_false_iff_not]
  intro e
  exact h (by rw [e])
theorem ne_len {xs ys : List Int} (h : xs.length ≠ ys.length) : decide (xs = ys) = false := by
  rw [decide_eq_false_iff_not]
  intro e
  exact h (by rw [e])
theorem eq_all {xs ys : List Int} (hl : xs.length = ys.length) (h : ∀ t, t < xs.length → xs.getD t 0 = ys.getD t 0) : decide (xs = ys) = true := by
  rw [decide_eq_true_eq]
  apply List.ext_getElem hl
  intro i h1 h2
  have := h i h1
  simpa [List.getD, h1, h2] using this

set_option maxHeartbeats 400000 in
theorem l2SameInts_any (a b : Option Addr) (ca cb : Nat) (xs ys : List Int) (w : World) (ha : ReadsI w a xs) (hb : ReadsI w b ys) (hl : xs.length ≤ 1099511627776) (hl2 : ys.length ≤ 1099511627776) :
    Calls Tryd.prog 90 #[.slice a xs.length ca, .slice b ys.length cb] w fun e w' => e = .returned (.bool (decide (xs = ys))) ∧ ∃ n, w' = w.drewN n := by
  by_cases hle : xs.length = ys.length
  case neg =>
    have HE : Hid (_ = _) := ne_len hle
    have hle' : ((xs.length : Int) == (ys.length : Int)) = false := by simp; omega
    go_enter Tryd.func90, Tryd.ntmps90
    go_wp2
    go_ret
    exact ⟨ret_bool HE.out.symm, 0, rfl⟩
  case pos =>
  have HL : Hid (xs.length = ys.length) := hle
  have hle' : ((xs.length : Int) == (ys.length : Int)) = true := by simp; omega
  rcases ha.cases with rfl | ⟨b1, o1, rfl, hpos, hc1⟩
  · obtain rfl : ys = [] := List.length_eq_zero_iff.1 (by simpa using hle.symm)
    have HE : Hid (decide (([] : List Int) = []) = true) := by simp [Hid]
    clear hle hle' HL
    go_enter Tryd.func90, Tryd.ntmps90
    go_wp2
    refine wp_loop_rounds 1 ?_
    rw [rounds_succ]
    go_wp2
    go_ret
    exact ⟨ret_bool HE.out.symm, 0, rfl⟩
  · rcases hb.cases with rfl | ⟨b2, o2, rfl, _, hc2⟩
    · simp at hle; simp [hle] at hpos
    · clear hle
      go_enter Tryd.func90, Tryd.ntmps90
      go_wp2
      go_loopw [5] (fun i wr => ∃ k : Nat, k ≤ xs.length ∧ i = .int .i64 k ∧ Hid (∀ t, t < k → xs.getD t 0 = ys.getD t 0) ∧ ∃ n, wr = w.drewN n) (fun i _ => xs.length - (intOf i).toNat)
      case atStart => exact ⟨0, Nat.zero_le _, rfl, fun t ht => by omega, 0, rfl⟩
      case round =>
        obtain ⟨k, hk, rfl, hall, n, rfl⟩ := hrel
        by_cases hlt : k < xs.length
        · have h1 := hc1 k hlt
          have h2 := hc2 k (by have := HL.out; omega)
          have hlt2 : (k : Int) < (ys.length : Int) := by have := HL.out; omega
          clear hc1 hc2
          by_cases hz : xs.getD k 0 = ys.getD k 0
          · have HN : Hid (∀ t, t < k + 1 → xs.getD t 0 = ys.getD t 0) := by
              intro t ht
              by_cases e : t = k
              · rw [e]; exact hz
              · exact hall.out t (by omega)
            rw [← hz] at h2
            clear hz
            generalize xs.getD k 0 = z at *
            go_wp2
            go_quiet (fail)
            go_wp2
            go_roundw
            case rel => exact ⟨k + 1, by omega, by go_num, HN, _, rfl⟩
            case measure => simp [intOf]; omega
          · have HE : Hid (_ = _) := ne_at k hz
            have hzb : (xs.getD k 0 == ys.getD k 0) = false := by simpa using hz
            clear hz
            generalize xs.getD k 0 = z at *
            generalize ys.getD k 0 = y at *
            go_wp2
            go_quiet (fail)
            go_wp2
            go_ret
            exact ⟨ret_bool HE.out.symm, n + nq, by first | rfl | simp⟩
        · have HE : Hid (_ = _) := eq_all HL.out (fun t ht => hall.out t (by omega))
          go_wp2
          go_ret
          exact ⟨ret_bool HE.out.symm, n, rfl⟩

def sameO (a b : ObjV) : Bool := decide (a.kind = b.kind) && (decide (a.ints = b.ints) && decide (a.refs = b.refs))

set_option maxHeartbeats 1000000 in
set_option maxRecDepth 100000 in
theorem specSameObj_any (o p : ObjV) (aI : Option Addr) (cI : Nat) (aR : Option Addr) (cR : Nat) (bI : Option Addr) (dI : Nat) (bR : Option Addr) (dR : Nat) (w : World) (ha : ReadsO w aI cI aR cR o) (hb : ReadsO w bI dI bR dR p) (h1 : o.ints.length ≤ 1099511627776) (h2 : o.refs.length ≤ 1099511627776) (h3 : p.ints.length ≤ 1099511627776) (h4 : p.refs.length ≤ 1099511627776) :
    Calls Tryd.prog 52 #[.agg #[.int .i64 o.kind, .slice aI o.ints.length cI, .slice aR o.refs.length cR], .agg #[.int .i64 p.kind, .slice bI p.ints.length dI, .slice bR p.refs.length dR]] w fun e w' => e = .returned (.bool (sameO o p)) ∧ Below w.heap.size w w' := by
  obtain ⟨k, ints, refs⟩ := o
  obtain ⟨k', ints', refs'⟩ := p
  obtain ⟨haI, haR, _, _⟩ := ha
  obtain ⟨hbI, hbR, _, _⟩ := hb
  simp only at *
  obtain ⟨W, hW, b0, b1, hbW, hsW⟩ := boxes2 w [.int .i64 k, .slice aI ints.length cI, .slice aR refs.length cR] [.int .i64 k', .slice bI ints'.length dI, .slice bR refs'.length dR] 26 26
  by_cases hk : k = k'
  case neg =>
    have HE : Hid (sameO ⟨k, ints, refs⟩ ⟨k', ints', refs'⟩ = false) := by simp [Hid, sameO, hk]
    have hkb : (k == k') = false := by simpa using hk
    clear hk
    go_enter Tryd.func52, Tryd.ntmps52
    go_wp2
    go_ret
    exact ⟨ret_bool HE.out.symm, by rw [hW.out]; exact hbW⟩
  case pos =>
  subst hk
  have HE : Hid (sameO ⟨k, ints, refs⟩ ⟨k, ints', refs'⟩ = (decide (ints = ints') && decide (refs = refs'))) := by simp [Hid, sameO]
  go_enter Tryd.func52, Tryd.ntmps52
  go_wp2_with fail
  rw [hW.out]
  refine (l2SameInts_any aI bI cI dI ints ints' W (haI.below hbW) (hbI.below hbW) h1 h3).mono ?_
  rintro e w1 ⟨rfl, n1, rfl⟩
  have c0 := (b0.drewN n1).cell 2 _ rfl
  have c1 := (b1.drewN n1).cell 2 _ rfl
  have hb1 : Below w.heap.size w (W.drewN n1) := below_drewN hbW n1
  cases hd : decide (ints = ints') with
  | false =>
    rw [hd] at HE
    clear hd
    go_wp2
    go_ret
    exact ⟨ret_bool (by rw [HE.out]; rfl), hb1⟩
  | true =>
    rw [hd] at HE
    clear hd
    go_wp2_with fail
    refine (l2SameInts_any aR bR cR dR refs refs' (W.drewN n1) (haR.below hb1) (hbR.below hb1) h2 h4).mono ?_
    rintro e w2 ⟨rfl, n2, rfl⟩
    generalize decide (refs = refs') = D at *
    go_wp2
    go_ret
    exact ⟨ret_bool (by rw [HE.out]; rfl), below_drewN hbW (n1 + n2)⟩
end Go.Proofs.YtbaocehcnjdkkaaDoor

/- The walk of laws.eqIntS. -/
namespace Go.Proofs.YtbaocehcnjdkkaaDoor
open Go.RowKit

set_option maxHeartbeats 400000 in
/-- Two slices that read alike are alike. -/
theorem eqIntS_same (a b : Option Addr) (ca cb : Nat) (zs : List Int) (w : World) (ha : ReadsI w a zs) (hb : ReadsI w b zs) (hl : zs.length ≤ 1099511627776) :
    Calls Tryd.prog 100 #[.slice a zs.length ca, .slice b zs.length cb] w fun e w' => e = .returned (.bool true) ∧ ∃ n, w' = w.drewN n := by
  rcases ha.cases with rfl | ⟨b1, o1, rfl, hpos, hc1⟩
  · go_enter Tryd.func100, Tryd.ntmps100
    go_wp2
    refine wp_loop_rounds 1 ?_
    rw [rounds_succ]
    go_wp2
    go_ret
    exact ⟨rfl, 0, rfl⟩
  · rcases hb.cases with rfl | ⟨b2, o2, rfl, _, hc2⟩
    · simp at hpos
    · go_enter Tryd.func100, Tryd.ntmps100
      go_wp2
      go_loopw [5] (fun i wr => ∃ k : Nat, k ≤ zs.length ∧ i = .int .i64 k ∧ ∃ n, wr = w.drewN n) (fun i _ => zs.length - (intOf i).toNat)
      case atStart => exact ⟨0, Nat.zero_le _, rfl, 0, rfl⟩
      case round =>
        obtain ⟨k, hk, rfl, n, rfl⟩ := hrel
        by_cases hlt : k < zs.length
        · have h1 := hc1 k hlt
          have h2 := hc2 k hlt
          clear hc1 hc2
          generalize zs.getD k 0 = z at *
          go_wp2
          go_quiet (fail)
          go_wp2
          go_roundw
          case rel => exact ⟨k + 1, by omega, by go_num, _, rfl⟩
          case measure => simp [intOf]; omega
        · go_wp2
          go_ret
          exact ⟨rfl, n, rfl⟩
end Go.Proofs.YtbaocehcnjdkkaaDoor

/- The walks of laws.markIntS and laws.heldIntS. -/
namespace Go.Proofs.YtbaocehcnjdkkaaDoor
open Go.RowKit

def marksI (k0 : Int) (n : Nat) : List Int := (List.range n).map fun i : Nat => k0 + i

theorem marksI_len (k0 : Int) (n : Nat) : (marksI k0 n).length = n := by simp [marksI]
theorem marksI_at (k0 : Int) (n i : Nat) (h : i < n) : (marksI k0 n).getD i 0 = k0 + i := by
  simp [marksI, List.getD, h]
theorem marksI_succ (k0 : Int) (n : Nat) : marksI k0 (n + 1) = marksI k0 n ++ [k0 + n] := by
  simp [marksI, List.range_succ]

def markedI (k0 : Int) (xs : List Int) (k : Nat) : List Int := marksI k0 k ++ xs.drop k
theorem markedI_set (k0 : Int) (xs : List Int) (k : Nat) (h : k < xs.length) : (markedI k0 xs k).set k (k0 + k) = markedI k0 xs (k + 1) := by
  unfold markedI
  rw [List.set_append, if_neg (by rw [marksI_len]; omega), marksI_len, Nat.sub_self, marksI_succ, List.drop_eq_getElem_cons h, List.set_cons_zero]
  simp
theorem markedI_set_map (k0 : Int) (xs : List Int) (k : Nat) (h : k < xs.length) : ((markedI k0 xs k).map (Value.int .i64)).set k (.int .i64 (k0 + k)) = (markedI k0 xs (k + 1)).map (Value.int .i64) := by
  rw [← markedI_set k0 xs k h, List.map_set]
theorem markedI_all (k0 : Int) (xs : List Int) : markedI k0 xs xs.length = marksI k0 xs.length := by simp [markedI]

set_option maxHeartbeats 400000 in
theorem markIntS_any (base : Nat) (a : Option Addr) (cap : Nat) (k0 : Int) (xs : List Int) (w : World)
    (hown : w.ownsRow base 3 1 (.slice a xs.length cap) xs.length (xs.map (Value.int .i64))) (h0 : 0 ≤ k0) (hl : k0 + xs.length ≤ 4611686018427387904) :
    Calls Tryd.prog 101 #[.slice a xs.length cap, .int .i64 k0] w fun e w' => e = .returned (.int .i64 (k0 + xs.length)) ∧
      w'.ownsRow base 3 1 (.slice a xs.length cap) xs.length ((marksI k0 xs.length).map (Value.int .i64)) ∧ w.grownBy w' (Value.slice a xs.length cap).ownBlock := by
  have hlen := hown.1
  rcases hown.2 with ⟨hv, h00⟩ | ⟨g, cap', cur, hv, hg, hgg, hr⟩
  · simp only [Value.slice.injEq] at hv
    obtain ⟨rfl, h00', rfl⟩ := hv
    obtain rfl := List.length_eq_zero_iff.1 h00
    go_enter Tryd.func101, Tryd.ntmps101
    go_wp2
    refine wp_loop_rounds 1 ?_
    rw [rounds_succ]
    go_wp2
    go_ret
    exact ⟨by simp, World.ownsRow_nil _ _ _ _, World.grownBy.refl _ _⟩
  · simp only [Value.slice.injEq] at hv
    obtain ⟨rfl, _, rfl⟩ := hv
    clear hgg hr hlen
    have hM : w.ownsRow base 3 1 (.slice (some ⟨g, 0, none⟩) xs.length cap) xs.length ((markedI k0 xs 0).map (Value.int .i64)) := by simpa [markedI, marksI] using hown
    clear hown
    go_enter Tryd.func101, Tryd.ntmps101
    go_wp2
    go_loopw [1, 5] (fun kk i wr => ∃ k : Nat, k ≤ xs.length ∧ i = .int .i64 k ∧ kk = .int .i64 (k0 + k) ∧ wr.ownsRow base 3 1 (.slice (some ⟨g, 0, none⟩) xs.length cap) xs.length ((markedI k0 xs k).map (Value.int .i64)) ∧ w.grownBy wr (some g))
      (fun _ i _ => xs.length - (intOf i).toNat)
    case atStart => exact ⟨0, Nat.zero_le _, rfl, by simp, hM, World.grownBy.refl _ _⟩
    case round =>
      obtain ⟨k, hk, rfl, rfl, hown, hgr⟩ := hrel
      clear hM
      by_cases hlt : k < xs.length
      · have hfz := hown.frozenAt k
        obtain ⟨u, hct⟩ := own_cell hown k hlt
        have HS := hown.stored k (.int .i64 (k0 + k))
        rw [markedI_set_map k0 xs k hlt] at HS
        have HSS : Hid (_ ∧ _) := HS
        clear HS hown
        go_wp2
        go_roundw
        case rel => exact ⟨k + 1, by omega, by go_num, by go_num, HSS.out.1, grownBy_trans hgr HSS.out.2⟩
        case measure => simp [intOf]; omega
      · have HE : Hid (wr.ownsRow base 3 1 (.slice (some ⟨g, 0, none⟩) xs.length cap) xs.length ((marksI k0 xs.length).map (Value.int .i64)) ∧ k = xs.length) := by
          have e : k = xs.length := by omega
          rw [e, markedI_all] at hown
          exact ⟨hown, e⟩
        go_wp2
        go_ret
        exact ⟨ret_int (by have := HE.out.2; omega), HE.out.1, hgr⟩

set_option maxHeartbeats 400000 in
theorem heldIntS_any (a : Option Addr) (cap : Nat) (k0 : Int) (n : Nat) (w : World) (hr : ReadsI w a (marksI k0 n)) (h0 : 0 ≤ k0) (hl : k0 + n ≤ 4611686018427387904) :
    Calls Tryd.prog 121 #[.slice a n cap, .int .i64 k0] w fun e w' => e = .returned (.int .i64 (k0 + n)) ∧ w' = w := by
  rcases hr.cases with h | ⟨b, off, rfl, hpos, hcell⟩
  · have h' := congrArg List.length h
    rw [marksI_len] at h'
    simp at h'
    subst h'
    go_enter Tryd.func121, Tryd.ntmps121
    go_wp2
    refine wp_loop_rounds 1 ?_
    rw [rounds_succ]
    go_wp2
    go_ret
    exact ⟨by simp, rfl⟩
  · rw [marksI_len] at hpos hcell
    go_enter Tryd.func121, Tryd.ntmps121
    go_wp2
    go_loop [1, 5] (fun kk i => ∃ k : Nat, k ≤ n ∧ i = .int .i64 k ∧ kk = .int .i64 (k0 + k)) (fun _ i => n - (intOf i).toNat)
    case atStart => exact ⟨0, Nat.zero_le _, rfl, by simp⟩
    case round =>
      obtain ⟨k, hk, rfl, rfl⟩ := hrel
      by_cases hlt : k < n
      · have hc := hcell k hlt
        rw [marksI_at k0 n k hlt] at hc
        clear hcell
        go_wp2
        go_round
        case rel => exact ⟨k + 1, by omega, by go_num, by go_num⟩
        case measure => simp [intOf]; omega
      · have HE : Hid (k = n) := by show k = n; omega
        go_wp2
        go_ret
        exact ⟨ret_int (by have := HE.out; omega), rfl⟩

theorem markIntS_own (lo hi : Nat) (a : Option Addr) (cap : Nat) (k0 : Int) (xs : List Int) (w : World) (ho : OwnI w lo hi a cap xs) (h0 : 0 ≤ k0) (hl : k0 + xs.length ≤ 4611686018427387904) :
    Calls Tryd.prog 101 #[.slice a xs.length cap, .int .i64 k0] w fun e w' => e = .returned (.int .i64 (k0 + xs.length)) ∧ OwnI w' lo hi a cap (marksI k0 xs.length) ∧ Within lo hi w w' := by
  refine (markIntS_any lo a cap k0 xs w ho.1 h0 hl).mono ?_
  rintro e w' ⟨rfl, h1, h2⟩
  refine ⟨rfl, ⟨?_, Nat.le_trans ho.2.1 h2.size, ?_⟩, Within.of_grown h2 (fun k hk => ho.lt k hk)⟩
  · rw [marksI_len]; exact h1
  · rw [marksI_len]; exact ho.2.2

theorem heldIntS_own (lo hi : Nat) (a : Option Addr) (cap : Nat) (k0 : Int) (n : Nat) (w : World) (ho : OwnI w lo hi a cap (marksI k0 n)) (h0 : 0 ≤ k0) (hl : k0 + n ≤ 4611686018427387904) :
    Calls Tryd.prog 121 #[.slice a n cap, .int .i64 k0] w fun e w' => e = .returned (.int .i64 (k0 + n)) ∧ w' = w :=
  heldIntS_any a cap k0 n w ho.reads h0 hl
end Go.Proofs.YtbaocehcnjdkkaaDoor

/- The walks of laws.eqObj, markObj, heldObj. -/
namespace Go.Proofs.YtbaocehcnjdkkaaDoor
open Go.RowKit

set_option maxHeartbeats 400000 in
set_option maxRecDepth 100000 in
theorem eqObj_same (o : ObjV) (aI : Option Addr) (cI : Nat) (aR : Option Addr) (cR : Nat) (bI : Option Addr) (dI : Nat) (bR : Option Addr) (dR : Nat) (w : World) (ha : ReadsO w aI cI aR cR o) (hb : ReadsO w bI dI bR dR o) (hlI : o.ints.length ≤ 1099511627776) (hlR : o.refs.length ≤ 1099511627776) :
    Calls Tryd.prog 69 #[.agg #[.int .i64 o.kind, .slice aI o.ints.length cI, .slice aR o.refs.length cR], .agg #[.int .i64 o.kind, .slice bI o.ints.length dI, .slice bR o.refs.length dR]] w fun e w' => e = .returned (.bool true) ∧ Below w.heap.size w w' := by
  obtain ⟨k, ints, refs⟩ := o
  obtain ⟨haI, haR, _, _⟩ := ha
  obtain ⟨hbI, hbR, _, _⟩ := hb
  simp only at *
  obtain ⟨W, hW, b0, b1, hbW, hsW⟩ := boxes2 w [.int .i64 k, .slice aI ints.length cI, .slice aR refs.length cR] [.int .i64 k, .slice bI ints.length dI, .slice bR refs.length dR] 26 26
  go_enter Tryd.func69, Tryd.ntmps69
  go_wp2_with fail
  rw [hW.out]
  refine (eqIntS_same aI bI cI dI ints W (haI.below hbW) (hbI.below hbW) hlI).mono ?_
  rintro e w1 ⟨rfl, n1, rfl⟩
  have c0 := (b0.drewN n1).cell 2 _ rfl
  have c1 := (b1.drewN n1).cell 2 _ rfl
  have hb1 : Below w.heap.size w (W.drewN n1) := below_drewN hbW n1
  go_wp2_with fail
  refine (eqIntS_same aR bR cR dR refs (W.drewN n1) (haR.below hb1) (hbR.below hb1) hlR).mono ?_
  rintro e w2 ⟨rfl, n2, rfl⟩
  go_wp2
  go_ret
  exact ⟨rfl, below_drewN hbW (n1 + n2)⟩

def markO (o : ObjV) (k0 : Int) : ObjV := ⟨o.kind, marksI k0 o.ints.length, marksI (k0 + o.ints.length) o.refs.length⟩

set_option maxHeartbeats 400000 in
set_option maxRecDepth 100000 in
theorem markObj_own (o : ObjV) (lo hi : Nat) (aI : Option Addr) (cI : Nat) (aR : Option Addr) (cR : Nat) (k0 : Int) (w : World) (ho : OwnO w lo hi aI cI aR cR o) (h0 : 0 ≤ k0) (hlI : o.ints.length ≤ 1099511627776) (hlR : o.refs.length ≤ 1099511627776) (hk : k0 ≤ 1099511627776) :
    Calls Tryd.prog 70 #[.agg #[.int .i64 o.kind, .slice aI o.ints.length cI, .slice aR o.refs.length cR], .int .i64 k0] w fun e w' => e = .returned (.int .i64 (k0 + o.ints.length + o.refs.length)) ∧ OwnO w' lo hi aI cI aR cR (markO o k0) ∧ Within lo hi w w' := by
  obtain ⟨k, ints, refs⟩ := o
  obtain ⟨hI, hR, hap⟩ := ho
  simp only at *
  obtain ⟨W, hW, b0, hbW, hsW⟩ := boxes1 w [.int .i64 k, .slice aI ints.length cI, .slice aR refs.length cR] 26
  have hI' := hI.below hbW
  have hR' := hR.below hbW
  go_enter Tryd.func70, Tryd.ntmps70
  go_wp2_with fail
  rw [hW.out]
  refine (markIntS_any lo aI cI k0 ints W hI'.1 h0 (by omega)).mono ?_
  rintro e w1 ⟨rfl, h1, h2⟩
  have hR1 := hR'.kept h2 (fun k hk e => hap k e hk)
  have b1 := b0.block (h2.block _ (by omega) (fun e => by have h3 := (hI.lt _ e.symm).2; have := hI.2.1; omega))
  have c2 := b1.cell 2 _ rfl
  have hI1 : OwnI w1 lo hi aI cI (marksI k0 ints.length) := ⟨by rw [marksI_len]; exact h1, Nat.le_trans hI'.2.1 h2.size, by rw [marksI_len]; exact hI.2.2⟩
  go_wp2_with fail
  refine (markIntS_any lo aR cR (k0 + ints.length) refs w1 hR1.1 (by omega) (by omega)).mono ?_
  rintro e w2 ⟨rfl, h3, h4⟩
  have hI2 := hI1.kept h4 (fun k hk e => by rw [marksI_len] at hk; exact hap k hk e)
  have hR2 : OwnI w2 lo hi aR cR (marksI (k0 + ints.length) refs.length) := ⟨by rw [marksI_len]; exact h3, Nat.le_trans hR1.2.1 h4.size, by rw [marksI_len]; exact hR.2.2⟩
  go_wp2
  go_ret
  refine ⟨rfl, ⟨hI2, hR2, ?_⟩, ((Within.of_below hbW).trans (Within.of_grown h2 (fun j hj => hI.lt j hj))).trans (Within.of_grown h4 (fun j hj => hR.lt j hj))⟩
  simp only [markO, marksI_len]
  exact hap

set_option maxHeartbeats 400000 in
set_option maxRecDepth 100000 in
theorem heldObj_own (o : ObjV) (lo hi : Nat) (aI : Option Addr) (cI : Nat) (aR : Option Addr) (cR : Nat) (k0 : Int) (w : World) (ho : OwnO w lo hi aI cI aR cR (markO o k0)) (h0 : 0 ≤ k0) (hlI : o.ints.length ≤ 1099511627776) (hlR : o.refs.length ≤ 1099511627776) (hk : k0 ≤ 1099511627776) :
    Calls Tryd.prog 116 #[.agg #[.int .i64 o.kind, .slice aI o.ints.length cI, .slice aR o.refs.length cR], .int .i64 k0] w fun e w' => e = .returned (.int .i64 (k0 + o.ints.length + o.refs.length)) ∧ Below w.heap.size w w' := by
  obtain ⟨k, ints, refs⟩ := o
  obtain ⟨hI, hR, hap⟩ := ho
  simp only [markO] at *
  obtain ⟨W, hW, b0, hbW, hsW⟩ := boxes1 w [.int .i64 k, .slice aI ints.length cI, .slice aR refs.length cR] 26
  have hI' := hI.below hbW
  have hR' := hR.below hbW
  have c2 := b0.cell 2 _ rfl
  go_enter Tryd.func116, Tryd.ntmps116
  go_wp2_with fail
  rw [hW.out]
  refine (heldIntS_own lo hi aI cI k0 ints.length W hI' h0 (by omega)).mono ?_
  rintro e w1 ⟨rfl, rfl⟩
  go_wp2_with fail
  refine (heldIntS_own lo hi aR cR (k0 + ints.length) refs.length w1 hR' (by omega) (by omega)).mono ?_
  rintro e w2 ⟨rfl, rfl⟩
  go_wp2
  go_ret
  exact ⟨rfl, hbW⟩
end Go.Proofs.YtbaocehcnjdkkaaDoor

/- The walks of laws.eqSlot, eqSlotA4, eqPage, where both say the same. -/
namespace Go.Proofs.YtbaocehcnjdkkaaDoor
open Go.RowKit

set_option maxHeartbeats 400000 in
set_option maxRecDepth 100000 in
theorem eqSlot_same (s t : SlotA) (he : t.v = s.v) (w : World) (hs : s.reads w) (ht : t.reads w) (hlI : s.v.o.ints.length ≤ 1099511627776) (hlR : s.v.o.refs.length ≤ 1099511627776) :
    Calls Tryd.prog 32 #[.agg s.cells.toArray, .agg t.cells.toArray] w fun e w' => e = .returned (.bool true) ∧ Below w.heap.size w w' := by
  obtain ⟨v, aI, cI, aR, cR⟩ := s
  obtain ⟨v', bI, dI, bR, dR⟩ := t
  simp only at he
  subst he
  obtain ⟨h, ⟨k, ints, refs⟩⟩ := v'
  simp only [SlotA.cells, SlotA.reads] at *
  obtain ⟨W, hW, b0, b1, hbW, hsW⟩ := boxes2 w [.bool h, .int .i64 k, .slice aI ints.length cI, .slice aR refs.length cR] [.bool h, .int .i64 k, .slice bI ints.length dI, .slice bR refs.length dR] 28 28
  go_enter Tryd.func32, Tryd.ntmps32
  go_wp2_with fail
  rw [hW.out]
  clear hW
  refine (eqObj_same ⟨k, ints, refs⟩ aI cI aR cR bI dI bR dR W (hs.below hbW) (ht.below hbW) hlI hlR).mono ?_
  rintro e w1 ⟨rfl, hb1⟩
  go_wp2
  go_ret
  exact ⟨rfl, hbW.trans (hb1.mono hbW.size)⟩

theorem same_at {ss ts : List SlotA} (h : ts.map (·.v) = ss.map (·.v)) (k : Nat) : (ts.getD k zeroS).v = (ss.getD k zeroS).v := by
  have := congrArg (fun l => l[k]?) h
  simp only [List.getElem?_map] at this
  simp only [List.getD]
  cases h1 : ts[k]? <;> cases h2 : ss[k]? <;> simp_all

set_option maxHeartbeats 1000000 in
set_option maxRecDepth 100000 in
theorem eqSlotA4_same (ss ts : List SlotA) (h4 : ss.length = 4) (he : ts.map (·.v) = ss.map (·.v)) (w : World) (hs : ReadsS w ss) (ht : ReadsS w ts) (hl : ∀ s ∈ ss, s.v.o.ints.length ≤ 1099511627776 ∧ s.v.o.refs.length ≤ 1099511627776) :
    Calls Tryd.prog 57 #[.agg (cellsS ss).toArray, .agg (cellsS ts).toArray] w fun e w' => e = .returned (.bool true) ∧ Below w.heap.size w w' := by
  have htl : ts.length = 4 := by have := congrArg List.length he; simp only [List.length_map] at this; omega
  obtain ⟨W, hW, b0, b1, hbW, hsW⟩ := boxes2 w (cellsS ss) (cellsS ts) 29 29
  have H4 : Hid (ss.length = 4 ∧ ts.length = 4) := ⟨h4, htl⟩
  have HE : Hid _ := he
  clear hsW h4 htl he
  go_enter Tryd.func57, Tryd.ntmps57
  go_wp2_with fail
  rw [hW.out]
  clear hW
  go_loopw [5] (fun i wr => ∃ (k : Nat), i = .int .i64 k ∧ k ≤ 4 ∧ Below W.heap.size W wr)
    (fun i _ => 4 - (intOf i).toNat)
  case atStart => exact ⟨0, rfl, by omega, Below.refl _ _⟩
  case round =>
    obtain ⟨k, rfl, hk, hbl⟩ := hrel
    by_cases hlt : k < 4
    · have hkl : k < ss.length := by rw [H4.out.1]; exact hlt
      have hkt : k < ts.length := by rw [H4.out.2]; exact hlt
      have hi0 : (0 : Int) ≤ (k : Int) := by omega
      have hi4 : (k : Int) < 4 := by omega
      have HC : Hid (∀ w'', Below W.heap.size W w'' → _ ∧ _) := fun w'' hh => ⟨(b0.below hh b0.lt).slot k hkl, (b1.below hh b1.lt).slot k hkt⟩
      have hsk := fun w'' (hh : Below W.heap.size W w'') => (hs _ (getD_mem hkl)).below (hbW.trans (hh.mono hbW.size))
      have htk := fun w'' (hh : Below W.heap.size W w'') => (ht _ (getD_mem hkt)).below (hbW.trans (hh.mono hbW.size))
      have hlk := hl _ (getD_mem hkl)
      have hv := same_at HE.out k
      generalize ss.getD k zeroS = s at *
      generalize ts.getD k zeroS = t at *
      have HS : Hid (∀ w1, Below W.heap.size W w1 → (w1.cell? ⟨w.heap.size, k * 4, none⟩ = some (.bool s.v.has) ∧ w1.cell? ⟨w.heap.size, k * 4 + 1, none⟩ = some (.int .i64 s.v.o.kind) ∧ w1.cell? ⟨w.heap.size, k * 4 + 2, none⟩ = some (.slice s.aI s.v.o.ints.length s.cI) ∧ w1.cell? ⟨w.heap.size, k * 4 + 3, none⟩ = some (.slice s.aR s.v.o.refs.length s.cR)) ∧ (w1.cell? ⟨(w.heap.size + 1), k * 4, none⟩ = some (.bool t.v.has) ∧ w1.cell? ⟨(w.heap.size + 1), k * 4 + 1, none⟩ = some (.int .i64 t.v.o.kind) ∧ w1.cell? ⟨(w.heap.size + 1), k * 4 + 2, none⟩ = some (.slice t.aI t.v.o.ints.length t.cI) ∧ w1.cell? ⟨(w.heap.size + 1), k * 4 + 3, none⟩ = some (.slice t.aR t.v.o.refs.length t.cR))) := fun w1 hh => by
        obtain ⟨⟨c0, c1, c2, c3, _⟩, ⟨d0, d1, d2, d3, _⟩⟩ := HC.out w1 hh
        exact ⟨⟨c0, c1, c2, c3⟩, d0, d1, d2, d3⟩
      have HR : Hid (_ ∧ _ ∧ _) := ⟨hsk, htk, hlk⟩
      have hh := HS.out wr hbl
      have HV : Hid (t.v = s.v) := hv
      clear HC hsk htk hlk hv
      go_wp2_with fail
      go_region_held3 (fun w1 => (w1.cell? ⟨w.heap.size, k * 4, none⟩ = some (.bool s.v.has) ∧ w1.cell? ⟨w.heap.size, k * 4 + 1, none⟩ = some (.int .i64 s.v.o.kind) ∧ w1.cell? ⟨w.heap.size, k * 4 + 2, none⟩ = some (.slice s.aI s.v.o.ints.length s.cI) ∧ w1.cell? ⟨w.heap.size, k * 4 + 3, none⟩ = some (.slice s.aR s.v.o.refs.length s.cR)) ∧ (w1.cell? ⟨(w.heap.size + 1), k * 4, none⟩ = some (.bool t.v.has) ∧ w1.cell? ⟨(w.heap.size + 1), k * 4 + 1, none⟩ = some (.int .i64 t.v.o.kind) ∧ w1.cell? ⟨(w.heap.size + 1), k * 4 + 2, none⟩ = some (.slice t.aI t.v.o.ints.length t.cI) ∧ w1.cell? ⟨(w.heap.size + 1), k * 4 + 3, none⟩ = some (.slice t.aR t.v.o.refs.length t.cR)))
        (first | exact HS.out _ hw2 | go_keep | fail)
        ((first | (go_at_call 32; refine (eqSlot_same s t HV.out _ (HR.out.1 _ hbl.drew) (HR.out.2.1 _ hbl.drew) HR.out.2.2.1 HR.out.2.2.2).mono ?_; rintro e w2 ⟨rfl, hb2⟩; have hw2 : Below W.heap.size W w2 := (hbl.drew).trans (hb2.mono hbl.size)) | fail))
      all_goals
        go_wp2_with fail
        go_roundw
        case rel => exact ⟨k + 1, by go_num, by omega, hw2⟩
        case measure => simp [intOf]; omega
    · have hkk : ¬ (k : Int) < 4 := by omega
      go_wp2
      go_ret
      exact ⟨rfl, hbW.trans (hbl.mono hbW.size)⟩

set_option maxHeartbeats 1000000 in
set_option maxRecDepth 100000 in
theorem eqPage_same (n : Int) (ss ts : List SlotA) (h4 : ss.length = 4) (he : ts.map (·.v) = ss.map (·.v)) (w : World) (hs : ReadsS w ss) (ht : ReadsS w ts) (hl : ∀ s ∈ ss, s.v.o.ints.length ≤ 1099511627776 ∧ s.v.o.refs.length ≤ 1099511627776) :
    Calls Tryd.prog 21 #[.agg (PageA.cells ⟨n, ss⟩).toArray, .agg (PageA.cells ⟨n, ts⟩).toArray] w fun e w' => e = .returned (.bool true) ∧ Below w.heap.size w w' := by
  have htl : ts.length = 4 := by have := congrArg List.length he; simp only [List.length_map] at this; omega
  simp only [PageA.cells]
  obtain ⟨W, hW, b0, b1, hbW, hsW⟩ := boxes2 w (.int .i64 n :: cellsS ss) (.int .i64 n :: cellsS ts) 31 31
  have hrg0 : W.rangeAt w.heap.size 1 (cellsS ss) := Box.range [.int .i64 n] (cellsS ss) [] (by simpa using b0)
  have hrg1 : W.rangeAt (w.heap.size + 1) 1 (cellsS ts) := Box.range [.int .i64 n] (cellsS ts) [] (by simpa using b1)
  have hi0 : (Tryd.prog.info? 29).map (·.size) = some (cellsS ss).length := by rw [cellsS_len, h4]; kernel_rfl
  have hi1 : (Tryd.prog.info? 29).map (·.size) = some (cellsS ts).length := by rw [cellsS_len, htl]; kernel_rfl
  have HI : Hid (_ ∧ _) := ⟨hi0, hi1⟩
  have HR : Hid (_ ∧ _) := ⟨hrg0, hrg1⟩
  clear hi0 hi1 hrg0 hrg1 hsW htl
  go_enter Tryd.func21, Tryd.ntmps21
  go_wp2_with (first | (guard_target = wpList _ _ _ (Oper.mk (some 11) _ _ _ _ _ :: _) _ _; refine wpList_load_mid rfl 29 (.tmp 10) rfl w.heap.size 1 rfl (cellsS ss) _ (by rw [hW.out]; exact HR.out.1) Tryd.underlying29 rfl HI.out.1 ?_) | (guard_target = wpList _ _ _ (Oper.mk (some 13) _ _ _ _ _ :: _) _ _; refine wpList_load_mid rfl 29 (.tmp 12) rfl (w.heap.size + 1) 1 rfl (cellsS ts) _ (by rw [hW.out]; exact HR.out.2) Tryd.underlying29 rfl HI.out.2 ?_) | fail)
  rw [hW.out]
  clear hW
  refine (eqSlotA4_same ss ts h4 he W (hs.below hbW) (ht.below hbW) hl).mono ?_
  rintro e w1 ⟨rfl, hb1⟩
  go_wp2
  go_ret
  exact ⟨rfl, hbW.trans (hb1.mono hbW.size)⟩
end Go.Proofs.YtbaocehcnjdkkaaDoor

/- The walks of laws.sameSlot and laws.samePage, where both say the same. -/
namespace Go.Proofs.YtbaocehcnjdkkaaDoor
open Go.RowKit

theorem sameO_self (o : ObjV) : sameO o o = true := by simp [sameO]

set_option maxHeartbeats 400000 in
set_option maxRecDepth 100000 in
theorem sameSlot_same (s t : SlotA) (he : t.v = s.v) (w : World) (hs : s.reads w) (ht : t.reads w) (hlI : s.v.o.ints.length ≤ 1099511627776) (hlR : s.v.o.refs.length ≤ 1099511627776) :
    Calls Tryd.prog 17 #[.agg s.cells.toArray, .agg t.cells.toArray] w fun e w' => e = .returned (.bool true) ∧ Below w.heap.size w w' := by
  obtain ⟨v, aI, cI, aR, cR⟩ := s
  obtain ⟨v', bI, dI, bR, dR⟩ := t
  simp only at he
  subst he
  obtain ⟨h, o⟩ := v'
  simp only [SlotA.cells, SlotA.reads] at *
  obtain ⟨W, hW, b0, b1, hbW, hsW⟩ := boxes2 w [.bool h, .int .i64 o.kind, .slice aI o.ints.length cI, .slice aR o.refs.length cR] [.bool h, .int .i64 o.kind, .slice bI o.ints.length dI, .slice bR o.refs.length dR] 28 28
  have C := specSameObj_any o o aI cI aR cR bI dI bR dR W (hs.below hbW) (ht.below hbW) (by omega) (by omega) (by omega) (by omega)
  rw [sameO_self] at C
  obtain ⟨k, ints, refs⟩ := o
  simp only at *
  go_enter Tryd.func17, Tryd.ntmps17
  go_wp2_with fail
  rw [hW.out]
  clear hW
  refine C.mono ?_
  rintro e w1 ⟨rfl, hb1⟩
  go_wp2
  go_ret
  exact ⟨rfl, hbW.trans (hb1.mono hbW.size)⟩

set_option maxHeartbeats 2000000 in
set_option maxRecDepth 100000 in
theorem samePage_same (n : Int) (ss ts : List SlotA) (h4 : ss.length = 4) (he : ts.map (·.v) = ss.map (·.v)) (w : World) (hs : ReadsS w ss) (ht : ReadsS w ts) (hl : ∀ s ∈ ss, s.v.o.ints.length ≤ 1099511627776 ∧ s.v.o.refs.length ≤ 1099511627776) :
    Calls Tryd.prog 15 #[.agg (PageA.cells ⟨n, ss⟩).toArray, .agg (PageA.cells ⟨n, ts⟩).toArray] w fun e w' => e = .returned (.bool true) ∧ Below w.heap.size w w' := by
  have htl : ts.length = 4 := by have := congrArg List.length he; simp only [List.length_map] at this; omega
  simp only [PageA.cells]
  obtain ⟨W, hW, b0, b1, hbW, hsW⟩ := boxes2 w (.int .i64 n :: cellsS ss) (.int .i64 n :: cellsS ts) 31 31
  have H4 : Hid (ss.length = 4 ∧ ts.length = 4) := ⟨h4, htl⟩
  have HE : Hid _ := he
  clear hsW h4 htl he
  go_enter Tryd.func15, Tryd.ntmps15
  go_wp2_with fail
  rw [hW.out]
  clear hW
  go_loopw [5] (fun i wr => ∃ (k : Nat), i = .int .i64 k ∧ k ≤ 4 ∧ Below W.heap.size W wr)
    (fun i _ => 4 - (intOf i).toNat)
  case atStart => exact ⟨0, rfl, by omega, Below.refl _ _⟩
  case round =>
    obtain ⟨k, rfl, hk, hbl⟩ := hrel
    by_cases hlt : k < 4
    · have hkl : k < ss.length := by rw [H4.out.1]; exact hlt
      have hkt : k < ts.length := by rw [H4.out.2]; exact hlt
      have hi0 : (0 : Int) ≤ (k : Int) := by omega
      have hi4 : (k : Int) < 4 := by omega
      have HC : Hid (∀ w'', Below W.heap.size W w'' → _ ∧ _) := fun w'' hh => ⟨(b0.below hh b0.lt).pslot k hkl, (b1.below hh b1.lt).pslot k hkt⟩
      have hsk := fun w'' (hh : Below W.heap.size W w'') => (hs _ (getD_mem hkl)).below (hbW.trans (hh.mono hbW.size))
      have htk := fun w'' (hh : Below W.heap.size W w'') => (ht _ (getD_mem hkt)).below (hbW.trans (hh.mono hbW.size))
      have hlk := hl _ (getD_mem hkl)
      have hv := same_at HE.out k
      generalize ss.getD k zeroS = s at *
      generalize ts.getD k zeroS = t at *
      have HS : Hid (∀ w1, Below W.heap.size W w1 → (w1.cell? ⟨w.heap.size, 1 + k * 4, none⟩ = some (.bool s.v.has) ∧ w1.cell? ⟨w.heap.size, 1 + k * 4 + 1, none⟩ = some (.int .i64 s.v.o.kind) ∧ w1.cell? ⟨w.heap.size, 1 + k * 4 + 2, none⟩ = some (.slice s.aI s.v.o.ints.length s.cI) ∧ w1.cell? ⟨w.heap.size, 1 + k * 4 + 3, none⟩ = some (.slice s.aR s.v.o.refs.length s.cR)) ∧ (w1.cell? ⟨(w.heap.size + 1), 1 + k * 4, none⟩ = some (.bool t.v.has) ∧ w1.cell? ⟨(w.heap.size + 1), 1 + k * 4 + 1, none⟩ = some (.int .i64 t.v.o.kind) ∧ w1.cell? ⟨(w.heap.size + 1), 1 + k * 4 + 2, none⟩ = some (.slice t.aI t.v.o.ints.length t.cI) ∧ w1.cell? ⟨(w.heap.size + 1), 1 + k * 4 + 3, none⟩ = some (.slice t.aR t.v.o.refs.length t.cR))) := fun w1 hh => by
        obtain ⟨⟨c0, c1, c2, c3, _⟩, ⟨d0, d1, d2, d3, _⟩⟩ := HC.out w1 hh
        exact ⟨⟨c0, c1, c2, c3⟩, d0, d1, d2, d3⟩
      have HR : Hid (_ ∧ _ ∧ _) := ⟨hsk, htk, hlk⟩
      have hh := HS.out wr hbl
      have HV : Hid (t.v = s.v) := hv
      clear HC hsk htk hlk hv
      go_wp2_with fail
      go_region_held3 (fun w1 => (w1.cell? ⟨w.heap.size, 1 + k * 4, none⟩ = some (.bool s.v.has) ∧ w1.cell? ⟨w.heap.size, 1 + k * 4 + 1, none⟩ = some (.int .i64 s.v.o.kind) ∧ w1.cell? ⟨w.heap.size, 1 + k * 4 + 2, none⟩ = some (.slice s.aI s.v.o.ints.length s.cI) ∧ w1.cell? ⟨w.heap.size, 1 + k * 4 + 3, none⟩ = some (.slice s.aR s.v.o.refs.length s.cR)) ∧ (w1.cell? ⟨(w.heap.size + 1), 1 + k * 4, none⟩ = some (.bool t.v.has) ∧ w1.cell? ⟨(w.heap.size + 1), 1 + k * 4 + 1, none⟩ = some (.int .i64 t.v.o.kind) ∧ w1.cell? ⟨(w.heap.size + 1), 1 + k * 4 + 2, none⟩ = some (.slice t.aI t.v.o.ints.length t.cI) ∧ w1.cell? ⟨(w.heap.size + 1), 1 + k * 4 + 3, none⟩ = some (.slice t.aR t.v.o.refs.length t.cR)))
        (first | exact HS.out _ hw2 | go_keep | fail)
        ((first | (go_at_call 17; refine (sameSlot_same s t HV.out _ (HR.out.1 _ hbl.drew) (HR.out.2.1 _ hbl.drew) HR.out.2.2.1 HR.out.2.2.2).mono ?_; rintro e w2 ⟨rfl, hb2⟩; have hw2 : Below W.heap.size W w2 := (hbl.drew).trans (hb2.mono hbl.size)) | fail))
      all_goals
        go_wp2_with fail
        go_roundw
        case rel => exact ⟨k + 1, by go_num, by omega, hw2⟩
        case measure => simp [intOf]; omega
    · have hkk : ¬ (k : Int) < 4 := by omega
      have x0 := (b0.below hbl b0.lt).cell 0 _ rfl
      have x1 := (b1.below hbl b1.lt).cell 0 _ rfl
      go_wp2
      go_ret
      exact ⟨rfl, hbW.trans (hbl.mono hbW.size)⟩
end Go.Proofs.YtbaocehcnjdkkaaDoor

/- The walk of impl.SameObj. -/
namespace Go.Proofs.YtbaocehcnjdkkaaDoor
open Go.RowKit

set_option maxHeartbeats 400000 in
theorem equalInts_any (a b : Option Addr) (ca cb : Nat) (xs ys : List Int) (w : World) (ha : ReadsI w a xs) (hb : ReadsI w b ys) (hl : xs.length ≤ 1099511627776) (hl2 : ys.length ≤ 1099511627776) :
    Calls Tryd.prog 108 #[.slice a xs.length ca, .slice b ys.length cb] w fun e w' => e = .returned (.bool (decide (xs = ys))) ∧ ∃ n, w' = w.drewN n := by
  by_cases hle : xs.length = ys.length
  case neg =>
    have HE : Hid (_ = _) := ne_len hle
    have hle' : ((xs.length : Int) == (ys.length : Int)) = false := by simp; omega
    go_enter Tryd.func108, Tryd.ntmps108
    go_wp2
    go_ret
    exact ⟨ret_bool HE.out.symm, 0, rfl⟩
  case pos =>
  have HL : Hid (xs.length = ys.length) := hle
  have hle' : ((xs.length : Int) == (ys.length : Int)) = true := by simp; omega
  rcases ha.cases with rfl | ⟨b1, o1, rfl, hpos, hc1⟩
  · obtain rfl : ys = [] := List.length_eq_zero_iff.1 (by simpa using hle.symm)
    have HE : Hid (decide (([] : List Int) = []) = true) := by simp [Hid]
    clear hle hle' HL
    go_enter Tryd.func108, Tryd.ntmps108
    go_wp2
    refine wp_loop_rounds 1 ?_
    rw [rounds_succ]
    go_wp2
    go_ret
    exact ⟨ret_bool HE.out.symm, 0, rfl⟩
  · rcases hb.cases with rfl | ⟨b2, o2, rfl, _, hc2⟩
    · simp at hle; simp [hle] at hpos
    · clear hle
      go_enter Tryd.func108, Tryd.ntmps108
      go_wp2
      go_loopw [13] (fun i wr => ∃ k : Nat, k ≤ xs.length ∧ i = .int .i64 k ∧ Hid (∀ t, t < k → xs.getD t 0 = ys.getD t 0) ∧ ∃ n, wr = w.drewN n) (fun i _ => xs.length - (intOf i).toNat)
      case atStart => exact ⟨0, Nat.zero_le _, rfl, fun t ht => by omega, 0, rfl⟩
      case round =>
        obtain ⟨k, hk, rfl, hall, n, rfl⟩ := hrel
        by_cases hlt : k < xs.length
        · have h1 := hc1 k hlt
          have h2 := hc2 k (by have := HL.out; omega)
          have hlt2 : (k : Int) < (ys.length : Int) := by have := HL.out; omega
          clear hc1 hc2
          by_cases hz : xs.getD k 0 = ys.getD k 0
          · have HN : Hid (∀ t, t < k + 1 → xs.getD t 0 = ys.getD t 0) := by
              intro t ht
              by_cases e : t = k
              · rw [e]; exact hz
              · exact hall.out t (by omega)
            rw [← hz] at h2
            clear hz
            generalize xs.getD k 0 = z at *
            go_wp2
            go_quiet (fail)
            go_wp2
            go_roundw
            case rel => exact ⟨k + 1, by omega, by go_num, HN, _, rfl⟩
            case measure => simp [intOf]; omega
          · have HE : Hid (_ = _) := ne_at k hz
            have hzb : (xs.getD k 0 == ys.getD k 0) = false := by simpa using hz
            clear hz
            generalize xs.getD k 0 = z at *
            generalize ys.getD k 0 = y at *
            go_wp2
            go_quiet (fail)
            go_wp2
            go_ret
            exact ⟨ret_bool HE.out.symm, n + nq, by first | rfl | simp⟩
        · have HE : Hid (_ = _) := eq_all HL.out (fun t ht => hall.out t (by omega))
          go_wp2
          go_ret
          exact ⟨ret_bool HE.out.symm, n, rfl⟩

set_option maxHeartbeats 1000000 in
set_option maxRecDepth 100000 in
theorem implSameObj_any (o p : ObjV) (aI : Option Addr) (cI : Nat) (aR : Option Addr) (cR : Nat) (bI : Option Addr) (dI : Nat) (bR : Option Addr) (dR : Nat) (w : World) (ha : ReadsO w aI cI aR cR o) (hb : ReadsO w bI dI bR dR p) (h1 : o.ints.length ≤ 1099511627776) (h2 : o.refs.length ≤ 1099511627776) (h3 : p.ints.length ≤ 1099511627776) (h4 : p.refs.length ≤ 1099511627776) :
    Calls Tryd.prog 83 #[.agg #[.int .i64 o.kind, .slice aI o.ints.length cI, .slice aR o.refs.length cR], .agg #[.int .i64 p.kind, .slice bI p.ints.length dI, .slice bR p.refs.length dR]] w fun e w' => e = .returned (.bool (sameO o p)) ∧ Below w.heap.size w w' := by
  obtain ⟨k, ints, refs⟩ := o
  obtain ⟨k', ints', refs'⟩ := p
  obtain ⟨haI, haR, _, _⟩ := ha
  obtain ⟨hbI, hbR, _, _⟩ := hb
  simp only at *
  obtain ⟨W, hW, b0, b1, hbW, hsW⟩ := boxes2 w [.int .i64 k, .slice aI ints.length cI, .slice aR refs.length cR] [.int .i64 k', .slice bI ints'.length dI, .slice bR refs'.length dR] 26 26
  by_cases hk : k = k'
  case neg =>
    have HE : Hid (sameO ⟨k, ints, refs⟩ ⟨k', ints', refs'⟩ = false) := by simp [Hid, sameO, hk]
    have hkb : (k == k') = false := by simpa using hk
    clear hk
    go_enter Tryd.func83, Tryd.ntmps83
    go_wp2
    go_ret
    exact ⟨ret_bool HE.out.symm, by rw [hW.out]; exact hbW⟩
  case pos =>
  subst hk
  have HE : Hid (sameO ⟨k, ints, refs⟩ ⟨k, ints', refs'⟩ = (decide (ints = ints') && decide (refs = refs'))) := by simp [Hid, sameO]
  go_enter Tryd.func83, Tryd.ntmps83
  go_wp2_with fail
  rw [hW.out]
  refine (equalInts_any aI bI cI dI ints ints' W (haI.below hbW) (hbI.below hbW) h1 h3).mono ?_
  rintro e w1 ⟨rfl, n1, rfl⟩
  have c0 := (b0.drewN n1).cell 2 _ rfl
  have c1 := (b1.drewN n1).cell 2 _ rfl
  have hb1 : Below w.heap.size w (W.drewN n1) := below_drewN hbW n1
  cases hd : decide (ints = ints') with
  | false =>
    rw [hd] at HE
    clear hd
    go_wp2
    go_ret
    exact ⟨ret_bool (by rw [HE.out]; rfl), hb1⟩
  | true =>
    rw [hd] at HE
    clear hd
    go_wp2_with fail
    refine (equalInts_any aR bR cR dR refs refs' (W.drewN n1) (haR.below hb1) (hbR.below hb1) h2 h4).mono ?_
    rintro e w2 ⟨rfl, n2, rfl⟩
    generalize decide (refs = refs') = D at *
    go_wp2
    go_ret
    exact ⟨ret_bool (by rw [HE.out]; rfl), below_drewN hbW (n1 + n2)⟩
end Go.Proofs.YtbaocehcnjdkkaaDoor

/- The bytes of a text. -/
namespace Go.Proofs.YtbaocehcnjdkkaaDoor

def sBytes (s : ByteArray) : List Int := s.data.toList.map fun b => (b.toNat : Int)

theorem sBytes_len (s : ByteArray) : (sBytes s).length = s.size := by
  rw [sBytes, List.length_map, Array.length_toList]; rfl
theorem sBytes_byte (s : ByteArray) : ∀ z ∈ sBytes s, 0 ≤ z ∧ z < 256 := by
  intro z hz
  simp only [sBytes, List.mem_map] at hz
  obtain ⟨b, _, rfl⟩ := hz
  have := b.toNat_lt
  omega

theorem sBytes_extract (s : ByteArray) (a b : Nat) : sBytes (s.extract a b) = ((sBytes s).drop a).take (b - a) := by
  unfold sBytes
  rw [ByteArray.data_extract, Array.toList_extract, List.map_take, List.map_drop]

theorem sBytes_step (s : ByteArray) (f p : Nat) (h : f ≤ p) : (sBytes s).take f ++ sBytes (s.extract f p) = (sBytes s).take p := by
  rw [sBytes_extract, ← List.take_add, Nat.add_sub_cancel' h]

theorem sBytes_rest (s : ByteArray) (f : Nat) (h : f ≤ s.size) : (sBytes s).take f ++ sBytes (s.extract f s.size) = sBytes s := by
  rw [sBytes_step s f s.size h, List.take_of_length_le (by rw [sBytes_len]; exact Nat.le_refl _)]

end Go.Proofs.YtbaocehcnjdkkaaDoor

/- The walk of impl.GetInt, and of the exact law of GetInt. -/
namespace Go.Proofs.YtbaocehcnjdkkaaDoor
open Go.RowKit

set_option maxHeartbeats 400000 in
theorem implGetInt_any (a : Option Addr) (c : Nat) (zs : List Int) (p : Int) (w : World) (hr : Reads w a zs) (hl : zs.length ≤ 70368744177664) (hcap : zs.length ≤ c) :
    Calls Tryd.prog 87 #[.slice a zs.length c, .int .i64 p] w fun e w' => e = .returned (triple (getAt zs p)) ∧ w' = w := by
  cases hg : getAt zs p with
  | some r =>
    obtain ⟨n, k⟩ := r
    have HS : Hid (scanOf zs p = _) := (show scanOf zs p = scanOk (n, k) from by unfold scanOf; rw [hg])
    clear hg
    go_enter Tryd.func87, Tryd.ntmps87
    go_wp2_with fail
    refine (scanInt_any a c zs p w hr hl hcap).mono ?_
    rintro e w' ⟨rfl, rfl⟩
    rw [HS.out]
    simp only [scanOk]
    go_wp2
    go_ret3
    exact ⟨rfl, rfl⟩
  | none =>
    have HS : Hid (scanOf zs p = _) := scan_none zs p hg _ rfl
    have hw : (scanWhy zs p == 0) = false := by unfold scanWhy; split <;> rfl
    clear hg
    generalize scanWhy zs p = y at *
    go_enter Tryd.func87, Tryd.ntmps87
    go_wp2_with fail
    refine (scanInt_any a c zs p w hr hl hcap).mono ?_
    rintro e w' ⟨rfl, rfl⟩
    rw [HS.out]
    go_wp2
    go_ret3
    exact ⟨rfl, rfl⟩
end Go.Proofs.YtbaocehcnjdkkaaDoor
